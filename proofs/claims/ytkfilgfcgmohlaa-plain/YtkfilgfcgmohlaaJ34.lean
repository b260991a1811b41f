import Derived.Test.YtkfilgfcgmohlaaJ31
import Derived.Test.YtkfilgfcgmohlaaJ33
import Derived.WalkKit
import Derived.WalkSpells
import Derived.WalkLawsBesides
namespace Go.Proofs.Ytkfilgfcgmohlaa
open Go.RowKit
/-- the reference's world between blocks and between frames -/
structure FSt (w : World) (b : Nat) (Y : Nat → Prop) (s : ByteArray) (limit : Int) (p : Nat) (out : List Nat) (e : Int) (fr : Nat) (C : Nat → Value) : Prop where
  wc : Wc w b C
  c0 : C 0 = .string s
  c1 : C 1 = .int .i64 (p : Int)
  c2 : C 2 = .int .i64 limit
  oa : OutAt w (C 3) out
  c5 : C 5 = .int .i64 (fr : Int)
  fl : fr ≤ out.length
  c6 : ∃ a : Int, C 6 = .int .i64 a
  ob : ∀ j, (C 3).ownBlock = some j → j ≠ b ∧ ¬ Y j
  nb : ¬ Y b
  yb : ∀ j, Y j → j < w.heap.size
  tabs : ∀ t, t < 3 → TabOk w C (Xs b (C 3) Y) t
  tree : TreeOk w C (Xs b (C 3) Y)
  reps : ∃ R0 R1 R2 : Int, C 10 = .int .i64 R0 ∧ C 11 = .int .i64 R1 ∧ C 12 = .int .i64 R2 ∧ (0 ≤ R0 ∧ R0 ≤ 1099511627776) ∧ (0 ≤ R1 ∧ R1 ≤ 1099511627776) ∧ (0 ≤ R2 ∧ R2 ≤ 1099511627776)
  c15 : C 15 = .int .i64 e
  rok : RepOk C
theorem outAt_len {w : World} {v : Value} {o o' : List Nat} (h : OutAt w v o) (h' : OutAt w v o') : o.length = o'.length := by
  obtain ⟨pa, c, e⟩ := h.shape
  obtain ⟨pa', c', e'⟩ := h'.shape
  rw [e] at e'
  injection e'
/-- out of the state within a block -/
theorem CSt.toF {w : World} {b : Nat} {Y : Nat → Prop} {s : ByteArray} {limit : Int} {a : Nat} {C : Nat → Value} {p : Nat} {out : List Nat} {e : Int} {fr : Nat} (h : CSt w b Y s limit a C) (hR : RepOk C) (h1 : C 1 = .int .i64 (p : Int)) (hO : OutAt w (C 3) out) (h5 : C 5 = .int .i64 (fr : Int)) (h15 : C 15 = .int .i64 e) : FSt w b Y s limit p out e fr C ∧ out.length ≤ a + 131072 := by
  obtain ⟨out', o1, o2, o3⟩ := h.out
  have hl := outAt_len hO o1
  obtain ⟨fr', f1, f2⟩ := h.fr
  have : fr = fr' := by rw [h5] at f1; injection f1 with _ f1; omega
  exact ⟨⟨h.wc, h.c0, h1, h.c2, hO, h5, by omega, ⟨_, h.c6⟩, h.ob, h.nb, h.yb, h.tabs, h.tree, h.reps, h15, hR⟩, by omega⟩
/-- the world's own cells turn -/
theorem FSt.cell {w w' : World} {b : Nat} {Y : Nat → Prop} {s : ByteArray} {limit : Int} {p p' : Nat} {out : List Nat} {e e' : Int} {fr fr' : Nat} {C C' : Nat → Value} (h : FSt w b Y s limit p out e fr C) (hW : Wc w' b C') (hU : Upd b w w') (c0 : C' 0 = C 0) (c1 : C' 1 = .int .i64 (p' : Int)) (c2 : C' 2 = C 2) (c3 : C' 3 = C 3) (c5 : C' 5 = .int .i64 (fr' : Int)) (fl : fr' ≤ out.length) (c6 : ∃ a : Int, C' 6 = .int .i64 a)
    (ct : ∀ t, t < 3 → C' (7 + t) = C (7 + t) ∨ C' (7 + t) = .pointer none) (c13 : C' 13 = C 13) (c14 : C' 14 = C 14 ∨ C' 14 = .bool false) (cr : ∃ R0 R1 R2 : Int, C' 10 = .int .i64 R0 ∧ C' 11 = .int .i64 R1 ∧ C' 12 = .int .i64 R2 ∧ (0 ≤ R0 ∧ R0 ≤ 1099511627776) ∧ (0 ≤ R1 ∧ R1 ≤ 1099511627776) ∧ (0 ≤ R2 ∧ R2 ≤ 1099511627776)) (c15 : C' 15 = .int .i64 e') (rok : RepOk C') : FSt w' b Y s limit p' out e' fr' C' := by
  have hX : UpdS (Xs b (C 3) Y) w w' := hU.updS (.inl rfl)
  refine ⟨hW, c0.trans h.c0, c1, c2.trans h.c2, ?_, c5, fl, c6, by rw [c3]; exact h.ob, h.nb, fun j hj => Nat.lt_of_lt_of_le (h.yb j hj) hU.size, fun t ht => ?_, ?_, cr, c15, rok⟩
  · rw [c3]; exact ⟨row_same h.oa.row (fun g hg => hU.block g (row_lt h.oa.row g hg).2 (h.ob g hg).1)⟩
  · rcases ct t ht with e | e
    · rw [c3]; exact (h.tabs t ht).upd hX e (fun _ _ e => e)
    · exact .inl e
  · rcases c14 with e | e
    · rw [c3]; exact h.tree.upd hX c13 e (fun _ _ e => e)
    · exact .inl e
/-- the error and the place turn -/
theorem FSt.take {w w' : World} {b : Nat} {Y : Nat → Prop} {s : ByteArray} {limit : Int} {p p' : Nat} {out : List Nat} {e e' : Int} {fr : Nat} {C C' : Nat → Value} (h : FSt w b Y s limit p out e fr C) (hW : Wc w' b C') (hU : Upd b w w') (hC : ∀ i, i ≠ 1 → i ≠ 15 → C' i = C i) (h1 : C' 1 = .int .i64 (p' : Int)) (h15 : C' 15 = .int .i64 e') (he : e' = 0 → e = 0) : FSt w' b Y s limit p' out e' fr C' := by
  refine h.cell hW hU (hC 0 (by omega) (by omega)) h1 (hC 2 (by omega) (by omega)) (hC 3 (by omega) (by omega)) ((hC 5 (by omega) (by omega)).trans h.c5) h.fl (by rw [hC 6 (by omega) (by omega)]; exact h.c6) (fun t _ => .inl (hC _ (by omega) (by omega))) (hC 13 (by omega) (by omega)) (.inl (hC 14 (by omega) (by omega))) (by rw [hC 10 (by omega) (by omega), hC 11 (by omega) (by omega), hC 12 (by omega) (by omega)]; exact h.reps) h15 (fun h0 => ?_)
  rw [h15] at h0
  injection h0 with _ h0
  obtain ⟨R0, R1, R2, r⟩ := h.rok (by rw [h.c15, he h0])
  exact ⟨R0, R1, R2, by rw [hC 10 (by omega) (by omega)]; exact r.1, by rw [hC 11 (by omega) (by omega)]; exact r.2.1, by rw [hC 12 (by omega) (by omega)]; exact r.2.2.1, r.2.2.2⟩
/-- a block begins -/
theorem FSt.toC {w : World} {b : Nat} {Y : Nat → Prop} {s : ByteArray} {limit : Int} {p : Nat} {out : List Nat} {e : Int} {fr : Nat} {C : Nat → Value} (h : FSt w b Y s limit p out e fr C) : CSt (w.setCell ⟨b, 6, none⟩ (.int .i64 (out.length : Int))) b Y s limit out.length (upV C 6 (.int .i64 (out.length : Int))) ∧ RepOk (upV C 6 (.int .i64 (out.length : Int))) := by
  have hU : Upd b w (w.setCell ⟨b, 6, none⟩ (.int .i64 (out.length : Int))) := (Upd.refl b w).setCell 6 _
  have hC : ∀ i, i ≠ 6 → upV C 6 (.int .i64 (out.length : Int)) i = C i := fun i hi => upV_other _ _ _ _ hi
  have hRok : RepOk (upV C 6 (.int .i64 (out.length : Int))) := h.rok.same (.inl (hC 15 (by omega))) (hC 10 (by omega)) (hC 11 (by omega)) (hC 12 (by omega))
  have hF : FSt (w.setCell ⟨b, 6, none⟩ (.int .i64 (out.length : Int))) b Y s limit p out e fr (upV C 6 (.int .i64 (out.length : Int))) :=
    h.cell (h.wc.set 6 (by omega) _) hU (hC 0 (by omega)) ((hC 1 (by omega)).trans h.c1) (hC 2 (by omega)) (hC 3 (by omega)) ((hC 5 (by omega)).trans h.c5) h.fl ⟨_, upV_same _ _ _⟩ (fun t _ => .inl (hC _ (by omega))) (hC 13 (by omega)) (.inl (hC 14 (by omega))) (by rw [hC 10 (by omega), hC 11 (by omega), hC 12 (by omega)]; exact h.reps) ((hC 15 (by omega)).trans h.c15) hRok
  exact ⟨⟨hF.wc, hF.c0, hF.c2, upV_same _ _ _, ⟨out, hF.oa, Nat.le_refl _, by omega⟩, ⟨fr, hF.c5, h.fl⟩, hF.ob, hF.nb, hF.yb, hF.tabs, hF.tree, hF.reps, ⟨e, hF.c15⟩⟩, hRok⟩
/-- other blocks are to be spared -/
theorem FSt.re {w w' : World} {b : Nat} {Y Y2 : Nat → Prop} {s : ByteArray} {limit : Int} {p : Nat} {out : List Nat} {e : Int} {fr : Nat} {C : Nat → Value} (h : FSt w b Y s limit p out e fr C) (hu : UpdS Y w w') (hY : ∀ j, Y2 j → Y j ∨ w.heap.size ≤ j) (hb : ∀ j, Y2 j → j < w'.heap.size) : FSt w' b Y2 s limit p out e fr C := by
  have hX : UpdS (Xs b (C 3) Y) w w' := hu.sub (fun i _ hi => .inr (.inr hi))
  have hx : ∀ k, k < w.heap.size → Xs b (C 3) Y2 k → Xs b (C 3) Y k := by
    intro k hk hx
    rcases hx with e | e | e
    · exact .inl e
    · exact .inr (.inl e)
    · rcases hY k e with e | e
      · exact .inr (.inr e)
      · omega
  have hbl := h.wc.lt
  refine ⟨h.wc.keep (hu.block b hbl h.nb), h.c0, h.c1, h.c2, ⟨row_same h.oa.row (fun g hg => hu.block g (row_lt h.oa.row g hg).2 (h.ob g hg).2)⟩, h.c5, h.fl, h.c6, fun j hj => ⟨(h.ob j hj).1, fun e => ?_⟩, fun e => ?_, hb, fun t ht => (h.tabs t ht).upd hX rfl hx, h.tree.upd hX rfl rfl hx, h.reps, h.c15, h.rok⟩
  · have := (row_lt h.oa.row j hj).2
    rcases hY j e with e | e
    · exact (h.ob j hj).2 e
    · omega
  · rcases hY b e with e | e
    · exact h.nb e
    · omega
/-- a row of blocks, by their kinds -/
structure BlkRow (w : World) (v : Value) (ks : List Int) : Prop where
  row : ∃ xs, w.ownsRow 0 48 12 v ks.length xs ∧ ∀ i, i < ks.length → xs[i * 12]? = some (.int .i64 (ks.getD i 0))
theorem BlkRow.keep {w w' : World} {v : Value} {ks : List Int} (h : BlkRow w v ks) (hk : ∀ g, v.ownBlock = some g → w'.heap[g]? = w.heap[g]?) : BlkRow w' v ks := by
  obtain ⟨xs, h1, h2⟩ := h.row
  exact ⟨xs, row_same h1 (fun g hg => hk g hg), h2⟩
theorem BlkRow.lt {w : World} {v : Value} {ks : List Int} (h : BlkRow w v ks) (j : Nat) (hj : v.ownBlock = some j) : j < w.heap.size := by
  obtain ⟨xs, h1, _⟩ := h.row
  exact (row_lt h1 j hj).2
/-- a frame that is done: its block, its row of blocks, their kinds; outside of X -/
structure FrOk (w : World) (X : Nat → Prop) (x : Nat × Value × List Int) : Prop where
  c5 : w.cell? ⟨x.1, 5, none⟩ = some x.2.1
  row : BlkRow w x.2.1 x.2.2
  nf : ¬ X x.1
  nr : ∀ j, x.2.1.ownBlock = some j → ¬ X j
theorem FrOk.upd {w w' : World} {X X' : Nat → Prop} {x : Nat × Value × List Int} (h : FrOk w X x) (hu : UpdS X w w') (hx : ∀ k, k < w.heap.size → X' k → X k) : FrOk w' X' x := by
  have hl : x.1 < w.heap.size := block_lt_of_cell h.c5
  exact ⟨(World.cell?_of_block (w := w) (a := ⟨x.1, 5, none⟩) (hu.block x.1 hl h.nf)).trans h.c5, h.row.keep (fun g hg => hu.block g (h.row.lt g hg) (h.nr g hg)), fun e => h.nf (hx _ hl e), fun j hj e => h.nr j hj (hx j (h.row.lt j hj) e)⟩
/-- blocks that a frame at hand may turn: the row of frames, itself, its row of blocks -/
def Y0 (v4 : Value) (f : Nat) (v5 : Value) : Nat → Prop := fun j => v4.ownBlock = some j ∨ j = f ∨ v5.ownBlock = some j
def ptrs (fs : List (Nat × Value × List Int)) : List Value := fs.map (fun x => .pointer (some ⟨x.1, 0, none⟩))
/-- the reference's world within a frame, between its blocks -/
structure BSt (N0 : Nat) (w : World) (b f : Nat) (s : ByteArray) (limit : Int) (p : Nat) (out : List Nat) (e : Int) (fr : Nat) (C D : Nat → Value) (fs : List (Nat × Value × List Int)) (ks : List Int) : Prop where
  st : FSt w b (Y0 (C 4) f (D 5)) s limit p out e fr C
  fc : Fc w f D
  blks : BlkRow w (D 5) ks
  rf : (D 5).ownBlock ≠ some f
  fs4 : w.ownsRow 0 42 1 (C 4) (fs.length + 1) (ptrs fs ++ [.pointer (some ⟨f, 0, none⟩)])
  f4 : (C 4).ownBlock ≠ some f
  r4 : ∀ j, (C 4).ownBlock = some j → (D 5).ownBlock ≠ some j
  fin : ∀ x ∈ fs, FrOk w (Xs b (C 3) (Y0 (C 4) f (D 5))) x
  pl : p ≤ s.size
  ol : 3 * out.length ≤ 131072 * p
  kl : ks.length ≤ p
  low : ∀ j, Xs b (C 3) (Y0 (C 4) f (D 5)) j → N0 ≤ j
theorem BSt.nf {N0 : Nat} {w : World} {b f : Nat} {s : ByteArray} {limit : Int} {p : Nat} {out : List Nat} {e : Int} {fr : Nat} {C D : Nat → Value} {fs : List (Nat × Value × List Int)} {ks : List Int} (h : BSt N0 w b f s limit p out e fr C D fs ks) : f ≠ b := fun e => h.st.nb (e ▸ .inr (.inl rfl))
theorem BSt.n0 {N0 : Nat} {w : World} {b f : Nat} {s : ByteArray} {limit : Int} {p : Nat} {out : List Nat} {e : Int} {fr : Nat} {C D : Nat → Value} {fs : List (Nat × Value × List Int)} {ks : List Int} (h : BSt N0 w b f s limit p out e fr C D fs ks) : N0 ≤ w.heap.size := Nat.le_of_lt (Nat.lt_of_le_of_lt (h.low b (.inl rfl)) h.st.wc.lt)
/-- the world and what came out turn -/
theorem BSt.turn {N0 : Nat} {w w' : World} {b f : Nat} {s : ByteArray} {limit : Int} {p p' : Nat} {out out' : List Nat} {e e' : Int} {fr fr' : Nat} {C C' D : Nat → Value} {fs : List (Nat × Value × List Int)} {ks : List Int} (h : BSt N0 w b f s limit p out e fr C D fs ks) (F : FSt w' b (Y0 (C 4) f (D 5)) s limit p' out' e' fr' C') (hU : UpdS (Xs b (C 3) Z0) w w') (hM : Moved w (C 3) (C' 3)) (c4 : C' 4 = C 4) (pl : p' ≤ s.size) (ol : 3 * out'.length ≤ 131072 * p') (kl : ks.length ≤ p') : BSt N0 w' b f s limit p' out' e' fr' C' D fs ks := by
  have key : ∀ j, Y0 (C 4) f (D 5) j → w'.heap[j]? = w.heap[j]? := fun j hj => hU.block j (h.st.yb j hj) (fun e => by
    rcases e with e | e | e
    · exact h.st.nb (e ▸ hj)
    · exact (h.st.ob j e).2 hj
    · exact e)
  have hx : ∀ k, k < w.heap.size → Xs b (C' 3) (Y0 (C 4) f (D 5)) k → Xs b (C 3) (Y0 (C 4) f (D 5)) k := Xs_moved hM
  refine ⟨by rw [c4]; exact F, h.fc.keep (key f (.inr (.inl rfl))), h.blks.keep (fun g hg => key g (.inr (.inr hg))), h.rf, by rw [c4]; exact row_same h.fs4 (fun g hg => key g (.inl hg)), by rw [c4]; exact h.f4, by rw [c4]; exact h.r4, fun x hx' => ?_, pl, ol, kl, fun j hj => ?_⟩
  · rw [c4]
    exact (h.fin x hx').upd (hU.sub (fun i _ hi => by
      rcases hi with e | e | e
      · exact .inl e
      · exact .inr (.inl e)
      · exact e.elim)) hx
  · rw [c4] at hj
    by_cases hl : j < w.heap.size
    · exact h.low j (hx j hl hj)
    · have := h.n0; omega
/-- what may turn lies high -/
theorem BSt.high {N0 : Nat} {w w' : World} {b f : Nat} {s : ByteArray} {limit : Int} {p : Nat} {out : List Nat} {e : Int} {fr : Nat} {C D : Nat → Value} {fs : List (Nat × Value × List Int)} {ks : List Int} {X : Nat → Prop} (h : BSt N0 w b f s limit p out e fr C D fs ks) (hU : UpdS X w w') (hX : ∀ j, j < w.heap.size → X j → Xs b (C 3) (Y0 (C 4) f (D 5)) j) : UpdS (fun j => N0 ≤ j) w w' := hU.sub (fun i hi e => h.low i (hX i hi e))
/-- one block more -/
theorem BSt.add {N0 : Nat} {w w2 : World} {b f : Nat} {s : ByteArray} {limit : Int} {p : Nat} {out : List Nat} {e : Int} {fr : Nat} {C D : Nat → Value} {fs : List (Nat × Value × List Int)} {ks : List Int} {xs news : List Value} {v' : Value} {kd : Int} (h : BSt N0 w b f s limit p out e fr C D fs ks) (hx : w.ownsRow 0 48 12 (D 5) ks.length xs) (hk : ∀ i, i < ks.length → xs[i * 12]? = some (.int .i64 (ks.getD i 0)))
    (hu : UpdS (fun q => (D 5).ownBlock = some q) w w2) (hM : Moved w (D 5) v') (hrow : w2.ownsRow 0 48 12 v' (ks.length + 1) (xs ++ news)) (h0 : news[0]? = some (.int .i64 kd)) (kl : ks.length + 1 ≤ p) : BSt N0 (w2.setCell ⟨f, 5, none⟩ v') b f s limit p out e fr C (upV D 5 v') fs (ks ++ [kd]) ∧ UpdS (Y0 (C 4) f (D 5)) w (w2.setCell ⟨f, 5, none⟩ v') := by
  have hf5 : v'.ownBlock ≠ some f := by
    rcases hM with e | ⟨q, e, hq⟩
    · rw [e]; exact h.rf
    · rw [e]; intro e; injection e with e; have := h.fc.lt; omega
  have hv' : ∀ j, v'.ownBlock = some j → (D 5).ownBlock = some j ∨ w.heap.size ≤ j := by
    intro j hj
    rcases hM with e | ⟨q, e, hq⟩
    · exact .inl (by rw [← e]; exact hj)
    · rw [e] at hj; injection hj with hj; exact .inr (by omega)
  have hU : UpdS (Y0 (C 4) f (D 5)) w (w2.setCell ⟨f, 5, none⟩ v') := (hu.sub (fun i _ e => .inr (.inr e))).setCell _ _ (fun _ => .inr (.inl rfl))
  have hY : ∀ j, Y0 (C 4) f (upV D 5 v' 5) j → Y0 (C 4) f (D 5) j ∨ w.heap.size ≤ j := by
    intro j hj
    rw [upV_same] at hj
    rcases hj with e | e | e
    · exact .inl (.inl e)
    · exact .inl (.inr (.inl e))
    · rcases hv' j e with e | e
      · exact .inl (.inr (.inr e))
      · exact .inr e
  have hxs : xs.length = ks.length * 12 := hx.1
  have key : ∀ j, j < w.heap.size → j ≠ f → (D 5).ownBlock ≠ some j → (w2.setCell ⟨f, 5, none⟩ v').heap[j]? = w.heap[j]? := fun j h1 h2 h3 => (Below.heap_setCell _ _ _ _ h2).trans (hu.block j h1 h3)
  have h4 : ∀ j, (C 4).ownBlock = some j → j < w.heap.size := fun j hj => (row_lt h.fs4 j hj).2
  refine ⟨⟨h.st.re hU hY (fun j hj => ?_), (h.fc.keep (hu.block f h.fc.lt (fun e => h.rf e))).set 5 (by omega) v', ⟨xs ++ news, ?_, fun i hi => ?_⟩, by rw [upV_same]; exact hf5, row_same h.fs4 (fun g hg => key g (h4 g hg) (fun e => h.f4 (e ▸ hg)) (h.r4 g hg)), h.f4, fun j hj => ?_, fun x hx' => ?_, h.pl, h.ol, ?_, fun j hj => ?_⟩, hU⟩
  · rw [World.size_setCell]
    rcases hY j hj with e | _
    · exact Nat.lt_of_lt_of_le (h.st.yb j e) hu.size
    · rw [upV_same] at hj
      rcases hj with e | e | e
      · exact Nat.lt_of_lt_of_le (h4 j e) hu.size
      · have := h.fc.lt; have := hu.size; omega
      · exact (row_lt hrow j e).2
  · rw [upV_same, List.length_append, List.length_singleton]
    exact row_same hrow (fun g hg => Below.heap_setCell _ _ _ _ (fun e => hf5 (by rw [hg]; exact congrArg some e)))
  · rw [List.length_append, List.length_singleton] at hi
    by_cases hl : i < ks.length
    · rw [List.getElem?_append_left (by omega), hk i hl]
      simp [List.getD, List.getElem?_append_left hl]
    · obtain rfl : i = ks.length := by omega
      rw [List.getElem?_append_right (by omega), hxs, Nat.sub_self, h0]
      simp [List.getD]
  · rw [upV_same]
    intro e
    rcases hv' j e with e | e
    · exact h.r4 j hj e
    · have := h4 j hj; omega
  · refine (h.fin x hx').upd (hU.sub (fun i _ e => .inr (.inr e))) (fun k hk hx => ?_)
    rcases hx with e | e | e
    · exact .inl e
    · exact .inr (.inl e)
    · rcases hY k e with e | e
      · exact .inr (.inr e)
      · omega
  · rw [List.length_append, List.length_singleton]; exact kl
  · by_cases hl : j < w.heap.size
    · refine h.low j ?_
      rcases hj with e | e | e
      · exact .inl e
      · exact .inr (.inl e)
      · rcases hY j e with e | e
        · exact .inr (.inr e)
        · omega
    · have := h.n0; omega
/-- a new block is not to be turned but by its own -/
theorem FSt.alloc {w : World} {b : Nat} {Y : Nat → Prop} {s : ByteArray} {limit : Int} {p : Nat} {out : List Nat} {e : Int} {fr : Nat} {C : Nat → Value} (h : FSt w b Y s limit p out e fr C) (o : Obj) : FSt (w.alloc o) b (fun j => Y j ∨ j = w.heap.size) s limit p out e fr C :=
  h.re ((UpdS.refl _ _).alloc o) (fun j hj => by
    rcases hj with e | e
    · exact .inl e
    · exact .inr (by omega)) (fun j hj => by
    rw [World.size_alloc]
    rcases hj with e | e
    · have := h.yb j e; omega
    · omega)
theorem FSt.less {w : World} {b : Nat} {Y Y2 : Nat → Prop} {s : ByteArray} {limit : Int} {p : Nat} {out : List Nat} {e : Int} {fr : Nat} {C : Nat → Value} (h : FSt w b Y s limit p out e fr C) (hY : ∀ j, Y2 j → Y j) : FSt w b Y2 s limit p out e fr C := h.re (UpdS.refl _ _) (fun j e => .inl (hY j e)) (fun j e => h.yb j (hY j e))
theorem blkH_lt (s : ByteArray) (p : Nat) : blkH s p < 16777216 := by
  unfold blkH
  exact numN_lt (gOf s) (gOf_lt s) 3 p
theorem fBlock : (Try.prog.info? 48).map (fun i => (i.zero, i.size, i.bytes)) = some (some (.agg #[.int .i64 0, .int .i64 0, .int .i64 0, .int .i64 0, .int .i64 0, .slice none 0 0, .int .i64 0, .int .i64 0, .int .i64 0, .int .i64 0, .int .i64 0, .slice none 0 0]), 12, 128) := by kernel_rfl
end Go.Proofs.Ytkfilgfcgmohlaa
