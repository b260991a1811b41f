import Derived.Test.YtkfilgfcgmohlaaJ15
import Derived.Test.YtkfilgfcgmohlaaJ19
import Derived.Test.YtkfilgfcgmohlaaJ35
import Derived.WalkKit
import Derived.WalkSpells
import Derived.WalkLawsBesides
import Derived.Deep.CutRange
import Derived.Deep.AppendLies
import Derived.Laws.OwnMore
namespace Go.Proofs.Ytkfilgfcgmohlaa
open Go.RowKit
/-- the frames' row alone -/
def Z4 (v : Value) : Nat → Prop := fun j => v.ownBlock = some j
/-- a compressed block was met -/
def MetF (fs : List (Nat × Value × List Int)) : Prop := ∃ x ∈ fs, (2 : Int) ∈ x.2.2
/-- the reference's world, whatever the last three distances -/
structure FSt0 (w : World) (b : Nat) (Y : Nat → Prop) (s : ByteArray) (limit : Int) (p : Nat) (out : List Nat) (e : Int) (fr : Nat) (C : Nat → Value) : Prop where
  wc : Wc w b C
  c0 : C 0 = .string s
  c1 : C 1 = .int .i64 (p : Int)
  c2 : C 2 = .int .i64 limit
  oa : OutAt w (C 3) out
  c5 : C 5 = .int .i64 (fr : Int)
  fl : fr ≤ out.length
  c6 : ∃ a : Int, C 6 = .int .i64 a
  ob : ∀ j, (C 3).ownBlock = some j → j ≠ b ∧ ¬ Y j
  nb : ¬ Y b
  yb : ∀ j, Y j → j < w.heap.size
  tabs : ∀ t, t < 3 → TabOk w C (Xs b (C 3) Y) t
  tree : TreeOk w C (Xs b (C 3) Y)
  reps : ∃ R0 R1 R2 : Int, C 10 = .int .i64 R0 ∧ C 11 = .int .i64 R1 ∧ C 12 = .int .i64 R2 ∧ (0 ≤ R0 ∧ R0 ≤ 1099511627776) ∧ (0 ≤ R1 ∧ R1 ≤ 1099511627776) ∧ (0 ≤ R2 ∧ R2 ≤ 1099511627776)
  c15 : C 15 = .int .i64 e
theorem FSt.to0 {w : World} {b : Nat} {Y : Nat → Prop} {s : ByteArray} {limit : Int} {p : Nat} {out : List Nat} {e : Int} {fr : Nat} {C : Nat → Value} (h : FSt w b Y s limit p out e fr C) : FSt0 w b Y s limit p out e fr C := ⟨h.wc, h.c0, h.c1, h.c2, h.oa, h.c5, h.fl, h.c6, h.ob, h.nb, h.yb, h.tabs, h.tree, h.reps, h.c15⟩
theorem FSt0.full {w : World} {b : Nat} {Y : Nat → Prop} {s : ByteArray} {limit : Int} {p : Nat} {out : List Nat} {e : Int} {fr : Nat} {C : Nat → Value} (h : FSt0 w b Y s limit p out e fr C) (r : RepOk C) : FSt w b Y s limit p out e fr C := ⟨h.wc, h.c0, h.c1, h.c2, h.oa, h.c5, h.fl, h.c6, h.ob, h.nb, h.yb, h.tabs, h.tree, h.reps, h.c15, r⟩
/-- the reference's world between frames -/
structure RSt (N0 : Nat) (w : World) (b : Nat) (s : ByteArray) (limit : Int) (p : Nat) (out : List Nat) (e : Int) (C : Nat → Value) (fs : List (Nat × Value × List Int)) : Prop where
  st : ∃ fr, FSt0 w b (Z4 (C 4)) s limit p out e fr C
  fs4 : w.ownsRow 0 42 1 (C 4) fs.length (ptrs fs)
  fin : ∀ x ∈ fs, FrOk w (Xs b (C 3) (Z4 (C 4))) x
  pl : e = 0 → p ≤ s.size ∧ 3 * out.length ≤ 131072 * p ∧ fs.length ≤ p
  low : ∀ j, Xs b (C 3) (Z4 (C 4)) j → N0 ≤ j
/-- what a frame leaves -/
def FrmQ (N0 b : Nat) (s : ByteArray) (limit : Int) (p : Nat) (fs : List (Nat × Value × List Int)) (r : Res) (w : World) (x : Ending) (w' : World) : Prop :=
  ∃ (p' : Nat) (out' : List Nat) (e' : Int) (C' : Nat → Value) (fs' : List (Nat × Value × List Int)), x = .returned (.tuple #[]) ∧ RSt N0 w' b s limit p' out' e' C' fs' ∧ (e' = 0 → p < p') ∧ UpdS (fun j => N0 ≤ j) w w' ∧ (MetF fs → MetF fs') ∧
    ((MetF fs' ∧ r = .met) ∨ match r with | none => False | some (.inl e) => e' = e | some (.inr (p2, o2, _)) => e' = 0 ∧ p' = p2 ∧ out' = o2)
/-- the world's cells and blocks of Y turn; other blocks are to be spared -/
theorem FSt0.gen {w w' : World} {b : Nat} {Y Y2 : Nat → Prop} {s : ByteArray} {limit : Int} {p p' : Nat} {out : List Nat} {e e' : Int} {fr fr' : Nat} {C C' : Nat → Value} (h : FSt0 w b Y s limit p out e fr C) (hW : Wc w' b C') (hU : UpdS (fun j => j = b ∨ Y j) w w') (c0 : C' 0 = C 0) (c1 : C' 1 = .int .i64 (p' : Int)) (c2 : C' 2 = C 2) (c3 : C' 3 = C 3) (c5 : C' 5 = .int .i64 (fr' : Int)) (fl : fr' ≤ out.length) (c6 : ∃ a : Int, C' 6 = .int .i64 a)
    (ct : ∀ t, t < 3 → C' (7 + t) = C (7 + t) ∨ C' (7 + t) = .pointer none) (c13 : C' 13 = C 13) (c14 : C' 14 = C 14 ∨ C' 14 = .bool false) (cr : ∃ R0 R1 R2 : Int, C' 10 = .int .i64 R0 ∧ C' 11 = .int .i64 R1 ∧ C' 12 = .int .i64 R2 ∧ (0 ≤ R0 ∧ R0 ≤ 1099511627776) ∧ (0 ≤ R1 ∧ R1 ≤ 1099511627776) ∧ (0 ≤ R2 ∧ R2 ≤ 1099511627776)) (c15 : C' 15 = .int .i64 e') (hY : ∀ j, Y2 j → Y j ∨ w.heap.size ≤ j) (hb : ∀ j, Y2 j → j < w'.heap.size) : FSt0 w' b Y2 s limit p' out e' fr' C' := by
  have hX : UpdS (Xs b (C 3) Y) w w' := hU.sub (fun i _ hi => by
    rcases hi with e | e
    · exact .inl e
    · exact .inr (.inr e))
  have hx : ∀ k, k < w.heap.size → Xs b (C' 3) Y2 k → Xs b (C 3) Y k := by
    intro k hk hx
    rw [c3] at hx
    rcases hx with e | e | e
    · exact .inl e
    · exact .inr (.inl e)
    · rcases hY k e with e | e
      · exact .inr (.inr e)
      · omega
  have hbl := h.wc.lt
  refine ⟨hW, c0.trans h.c0, c1, c2.trans h.c2, ?_, c5, fl, c6, fun j hj => ?_, fun e => ?_, hb, fun t ht => ?_, ?_, cr, c15⟩
  · rw [c3]
    exact ⟨row_same h.oa.row (fun g hg => hU.block g (row_lt h.oa.row g hg).2 (fun e => by
      rcases e with e | e
      · exact (h.ob g hg).1 e
      · exact (h.ob g hg).2 e))⟩
  · rw [c3] at hj
    refine ⟨(h.ob j hj).1, fun e => ?_⟩
    have := (row_lt h.oa.row j hj).2
    rcases hY j e with e | e
    · exact (h.ob j hj).2 e
    · omega
  · rcases hY b e with e | e
    · exact h.nb e
    · omega
  · rcases ct t ht with e | e
    · exact (h.tabs t ht).upd hX e hx
    · exact .inl e
  · rcases c14 with e | e
    · exact h.tree.upd hX c13 e hx
    · exact .inl e
/-- the error and the place turn -/
theorem FSt0.take {w w' : World} {b : Nat} {Y : Nat → Prop} {s : ByteArray} {limit : Int} {p p' : Nat} {out : List Nat} {e e' : Int} {fr : Nat} {C C' : Nat → Value} (h : FSt0 w b Y s limit p out e fr C) (hW : Wc w' b C') (hU : Upd b w w') (hC : ∀ i, i ≠ 1 → i ≠ 15 → C' i = C i) (h1 : C' 1 = .int .i64 (p' : Int)) (h15 : C' 15 = .int .i64 e') : FSt0 w' b Y s limit p' out e' fr C' :=
  h.gen hW (hU.updS (.inl rfl)) (hC 0 (by omega) (by omega)) h1 (hC 2 (by omega) (by omega)) (hC 3 (by omega) (by omega)) ((hC 5 (by omega) (by omega)).trans h.c5) h.fl (by rw [hC 6 (by omega) (by omega)]; exact h.c6) (fun t _ => .inl (hC _ (by omega) (by omega))) (hC 13 (by omega) (by omega)) (.inl (hC 14 (by omega) (by omega))) (by rw [hC 10 (by omega) (by omega), hC 11 (by omega) (by omega), hC 12 (by omega) (by omega)]; exact h.reps) h15 (fun _ e => .inl e) (fun j hj => Nat.lt_of_lt_of_le (h.yb j hj) hU.size)
/-- 'append(l, x)' of a row of one's own, at a plain region's list -/
theorem apg_list {wr W : World} {T E size bytes : Nat} {z v : Value} {m : Nat} {xs : List Value} {ops : Array Oper} {rest : List Oper} {o : Oper} {a : Act} {Q : Exit → Act → World → Prop} (ht : Try.prog.underlying T = some (.slice E)) (hi : (Try.prog.info? E).map (fun i => (i.zero, i.size, i.bytes)) = some (some z, size, bytes)) (hz : z.cells.size = size) (h0 : 0 < size) (hgd : o.guard = none) (s x : Operand)
    (ho : o.op = .call { callee := .builtin .append, args := #[s, x], argTypes := #[T, T] }) (hs : a.eval s = v) {gb : Nat} (hx : a.eval x = .slice (some ⟨gb, 0, none⟩) 1 1)
    (h : wr.ownsRow 0 E size v m xs) (hm : (m + 1) * bytes ≤ 140737488355328) (hm2 : m ≤ 17179869184) (hb : Below wr.heap.size wr W) (news : List Value) (hl : news.length = 1 * size) (hn : ∀ j u, news[j]? = some u → W.cell? ((⟨gb, 0, none⟩ : Addr).add j) = some u) (h1 : ∀ u ∈ news, u.oneCell' = true)
    (hK : ∀ g1 cap1 w2, Hid (w2.ownsRow 0 E size (.slice (some ⟨g1, 0, none⟩) (m + 1) cap1) (m + 1) (xs ++ news) ∧ UpdS (fun q => v.ownBlock = some q) wr w2 ∧ Moved wr v (.slice (some ⟨g1, 0, none⟩) (m + 1) cap1)) → wpList Try.prog ops Q rest (a.put o.dst (.slice (some ⟨g1, 0, none⟩) (m + 1) cap1)) w2) :
    wpList Try.prog ops Q (o :: rest) a W := by
  refine wpList_plain hgd fun _ hKK => ?_
  obtain ⟨g1, cap1, w2, hr, h2, h3, h4⟩ := apg_run ht hi hz h0 (row_below h hb) hm hm2 news hl hn h1 o.type
  unfold Oper.wp execOp
  simp only [ho, resolve, invoke, builtin, Sem.run_bind, Sem.run_pure, Result.andThen_ok, List.map_toArray, List.map_cons, List.map_nil, hs, hx, hr]
  refine hKK _ _ (hK g1 cap1 w2 ⟨h2, (below_updS hb _).same (grown_updS h3 (fun k e => e)), ?_⟩)
  rcases h4 with e | ⟨k, e, hk⟩
  · exact .inl e
  · exact .inr ⟨k, e, Nat.le_trans hb.size hk⟩
theorem fPtr : (Try.prog.info? 42).map (fun i => (i.zero, i.size, i.bytes)) = some (some (.pointer none), 1, 8) := by kernel_rfl
theorem most_is (n : Nat) : mostN (n : Int) = ((mostP n : Nat) : Int) := by
  unfold mostN mostP
  split <;> split <;> omega
end Go.Proofs.Ytkfilgfcgmohlaa
namespace Go.Proofs.Ytkfilgfcgmohlaa
open Go.RowKit
/-- a frame's blocks begin -/
theorem BSt.begin {N0 : Nat} {w w1 w2 W4 : World} {b : Nat} {s : ByteArray} {limit : Int} {p P : Nat} {out : List Nat} {C CS : Nat → Value} {fs : List (Nat × Value × List Int)} {win size : Int} {sg td ck : Bool} {v4 : Value} (h : RSt N0 w b s limit p out 0 C fs) (hst : HSt w w1 b w.heap.size C P 0 win size sg td ck) (hO : w2.ownsRow 0 42 1 v4 (fs.length + 1) (ptrs fs ++ [.pointer (some ⟨w.heap.size, 0, none⟩)])) (hU2 : UpdS (fun q => (C 4).ownBlock = some q) w1 w2) (hM : Moved w1 (C 4) v4) (hU4 : Upd b w2 W4) (hW4 : Wc W4 b CS)
    (c0 : CS 0 = C 0) (c1 : CS 1 = .int .i64 (P : Int)) (c2 : CS 2 = C 2) (c3 : CS 3 = C 3) (c4 : CS 4 = v4) (c5 : CS 5 = .int .i64 (out.length : Int)) (c6 : CS 6 = C 6) (ct : ∀ t, t < 3 → CS (7 + t) = .pointer none) (c10 : CS 10 = .int .i64 1) (c11 : CS 11 = .int .i64 4) (c12 : CS 12 = .int .i64 8) (c13 : CS 13 = C 13) (c14 : CS 14 = .bool false) (c15 : CS 15 = .int .i64 0) (hpP : p < P) (hPs : P ≤ s.size) :
    BSt N0 W4 b w.heap.size s limit P out 0 out.length CS (DD win size sg td ck) fs [] ∧ UpdS (fun j => N0 ≤ j) w W4 := by
  obtain ⟨fr0, F0⟩ := h.st
  obtain ⟨hpl, hol, hfl⟩ := h.pl rfl
  have hbl := F0.wc.lt
  have hN0 : N0 ≤ b := h.low b (.inl rfl)
  have h4l : ∀ j, (C 4).ownBlock = some j → j < w.heap.size := fun j hj => (row_lt h.fs4 j hj).2
  have h4b : ∀ j, (C 4).ownBlock = some j → j ≠ b := fun j hj e => F0.nb (e ▸ hj)
  have hs1 := hst.upd.size
  have hf1 := hst.fc.lt
  have hv4 : ∀ j, v4.ownBlock = some j → (C 4).ownBlock = some j ∨ w1.heap.size ≤ j := by
    intro j hj
    rcases hM with e | ⟨q, e, hq⟩
    · exact .inl (by rw [← e]; exact hj)
    · rw [e] at hj; injection hj with hj; exact .inr (by omega)
  have hU : UpdS (fun j => j = b ∨ Z4 (C 4) j) w W4 := ((hst.upd.updS (X := fun j => j = b ∨ Z4 (C 4) j) (.inl rfl)).same (hU2.sub (fun _ _ e => .inr e))).same (hU4.updS (.inl rfl))
  have hX : UpdS (Xs b (C 3) (Z4 (C 4))) w W4 := hU.sub (fun _ _ e => by
    rcases e with e | e
    · exact .inl e
    · exact .inr (.inr e))
  have hY : ∀ j, Y0 (CS 4) w.heap.size (.slice none 0 0) j → Z4 (C 4) j ∨ w.heap.size ≤ j := by
    intro j hj
    rw [c4] at hj
    rcases hj with e | e | e
    · rcases hv4 j e with e | e
      · exact .inl e
      · exact .inr (by omega)
    · exact .inr (by omega)
    · simp [Value.ownBlock] at e
  have hx : ∀ k, k < w.heap.size → Xs b (CS 3) (Y0 (CS 4) w.heap.size (.slice none 0 0)) k → Xs b (C 3) (Z4 (C 4)) k := by
    intro k hk hx
    rw [c3] at hx
    rcases hx with e | e | e
    · exact .inl e
    · exact .inr (.inl e)
    · rcases hY k e with e | e
      · exact .inr (.inr e)
      · omega
  have hf2 : w2.heap[w.heap.size]? = w1.heap[w.heap.size]? := hU2.block _ hf1 (fun e => by have := h4l _ e; omega)
  have hf2l : w.heap.size < w2.heap.size := Nat.lt_of_lt_of_le hf1 hU2.size
  refine ⟨⟨(F0.gen hW4 hU c0 c1 c2 c3 c5 (Nat.le_refl _) (by rw [c6]; exact F0.c6) (fun t ht => .inr (ct t ht)) c13 (.inr c14) ⟨1, 4, 8, c10, c11, c12, by omega, by omega, by omega⟩ c15 hY (fun j hj => ?_)).full (fun _ => ⟨1, 4, 8, c10, c11, c12, by omega, by omega, by omega⟩), (hst.fc.keep hf2).keep (hU4.block _ hf2l (by omega)), ⟨[], World.ownsRow_nil _ _ _ _, fun i hi => by simp at hi⟩, by simp [DD, Value.ownBlock], ?_, ?_, fun j _ => by simp [DD, Value.ownBlock], fun x hx' => (h.fin x hx').upd hX hx, hPs, by omega, by simp, fun j hj => ?_⟩, hX.sub (fun j _ e => h.low j e)⟩
  · rw [c4] at hj
    rcases hj with e | e | e
    · exact Nat.lt_of_lt_of_le (row_lt hO j e).2 hU4.size
    · rw [e]; exact Nat.lt_of_lt_of_le hf2l hU4.size
    · cases e
  · rw [c4]
    exact row_same hO (fun g hg => hU4.block g (row_lt hO g hg).2 (fun e => by
      rcases hv4 g hg with e' | e'
      · exact h4b g e' e
      · omega))
  · rw [c4]
    intro e
    rcases hv4 _ e with e' | e'
    · have := h4l _ e'; omega
    · omega
  · by_cases hl : j < w.heap.size
    · exact h.low j (hx j hl hj)
    · omega
/-- a frame is done -/
theorem BSt.close {N0 : Nat} {w : World} {b f : Nat} {s : ByteArray} {limit : Int} {p : Nat} {out : List Nat} {e : Int} {fr : Nat} {C D : Nat → Value} {fs : List (Nat × Value × List Int)} {ks : List Int} (h : BSt N0 w b f s limit p out e fr C D fs ks) (hfl : e = 0 → fs.length + 1 ≤ p) : RSt N0 w b s limit p out e C (fs ++ [(f, D 5, ks)]) := by
  have hYf : Y0 (C 4) f (D 5) f := .inr (.inl rfl)
  have hle : ∀ j, Xs b (C 3) (Z4 (C 4)) j → Xs b (C 3) (Y0 (C 4) f (D 5)) j := fun j e => by
    rcases e with e | e | e
    · exact .inl e
    · exact .inr (.inl e)
    · exact .inr (.inr (.inl e))
  refine ⟨⟨fr, (h.st.less (fun _ e => .inl e)).to0⟩, ?_, fun x hx => ?_, fun h0 => ⟨h.pl, h.ol, by rw [List.length_append, List.length_singleton]; exact hfl h0⟩, fun j e => h.low j (hle j e)⟩
  · rw [List.length_append, List.length_singleton]
    have : ptrs (fs ++ [(f, D 5, ks)]) = ptrs fs ++ [.pointer (some ⟨f, 0, none⟩)] := by unfold ptrs; rw [List.map_append]; rfl
    rw [this]
    exact h.fs4
  · rcases List.mem_append.1 hx with hx | hx
    · exact (h.fin x hx).upd (UpdS.refl _ _) (fun k _ e => hle k e)
    · rw [List.mem_singleton.1 hx]
      refine ⟨h.fc.c 5 (by omega), h.blks, fun e => ?_, fun j hj e => ?_⟩
      · rcases e with e | e | e
        · exact h.nf e
        · exact (h.st.ob f e).2 hYf
        · exact h.f4 e
      · have hYj : Y0 (C 4) f (D 5) j := .inr (.inr hj)
        rcases e with e | e | e
        · exact h.st.nb (e ▸ hYj)
        · exact (h.st.ob j e).2 hYj
        · exact h.r4 j e hj
/-- new blocks alone -/
theorem BSt.below {N0 : Nat} {w w' : World} {b f : Nat} {s : ByteArray} {limit : Int} {p : Nat} {out : List Nat} {e : Int} {fr : Nat} {C D : Nat → Value} {fs : List (Nat × Value × List Int)} {ks : List Int} (h : BSt N0 w b f s limit p out e fr C D fs ks) (hb : Below w.heap.size w w') : BSt N0 w' b f s limit p out e fr C D fs ks ∧ UpdS (fun j => N0 ≤ j) w w' :=
  ⟨h.turn (h.st.re (below_updS hb _) (fun _ e => .inl e) (fun j e => Nat.lt_of_lt_of_le (h.st.yb j e) hb.size)) (below_updS hb _) (.inl rfl) rfl h.pl h.ol h.kl, below_updS hb _⟩
/-- the place and the error turn -/
theorem BSt.own {N0 : Nat} {w w' : World} {b f : Nat} {s : ByteArray} {limit : Int} {p p' : Nat} {out : List Nat} {e e' : Int} {fr : Nat} {C C' D : Nat → Value} {fs : List (Nat × Value × List Int)} {ks : List Int} (h : BSt N0 w b f s limit p out e fr C D fs ks) (hW : Wc w' b C') (hU : Upd b w w') (hC : ∀ i, i ≠ 1 → i ≠ 15 → C' i = C i) (h1 : C' 1 = .int .i64 (p' : Int)) (h15 : C' 15 = .int .i64 e') (he : e' = 0 → e = 0) (hp : p ≤ p') (hps : p' ≤ s.size) : BSt N0 w' b f s limit p' out e' fr C' D fs ks ∧ UpdS (fun j => N0 ≤ j) w w' := by
  have := h.ol
  have := h.kl
  exact ⟨h.turn (h.st.take hW hU hC h1 h15 he) (hU.updS (.inl rfl)) (.inl (by rw [hC 3 (by omega) (by omega)])) (hC 4 (by omega) (by omega)) hps (by omega) (by omega), h.high (hU.updS (X := fun j => j = b) rfl) (fun _ _ e => .inl e)⟩
/-- another cell of the frame turns -/
theorem BSt.setF {N0 : Nat} {w : World} {b f : Nat} {s : ByteArray} {limit : Int} {p : Nat} {out : List Nat} {e : Int} {fr : Nat} {C D : Nat → Value} {fs : List (Nat × Value × List Int)} {ks : List Int} (h : BSt N0 w b f s limit p out e fr C D fs ks) (i : Nat) (hi : i < 7) (h5 : i ≠ 5) (v : Value) : BSt N0 (w.setCell ⟨f, i, none⟩ v) b f s limit p out e fr C (upV D i v) fs ks ∧ UpdS (fun j => N0 ≤ j) w (w.setCell ⟨f, i, none⟩ v) := by
  have hU : UpdS (Y0 (C 4) f (D 5)) w (w.setCell ⟨f, i, none⟩ v) := (UpdS.refl _ _).setCell _ _ (fun _ => .inr (.inl rfl))
  have e5 : upV D i v 5 = D 5 := upV_other _ _ _ _ (Ne.symm h5)
  have key : ∀ j, j ≠ f → (w.setCell ⟨f, i, none⟩ v).heap[j]? = w.heap[j]? := fun j hj => Below.heap_setCell _ _ _ _ hj
  have hX : UpdS (Xs b (C 3) (Y0 (C 4) f (D 5))) w (w.setCell ⟨f, i, none⟩ v) := hU.sub (fun _ _ e => .inr (.inr e))
  refine ⟨⟨by rw [e5]; exact h.st.re hU (fun _ e => .inl e) (fun j e => by rw [World.size_setCell]; exact h.st.yb j e), h.fc.set i hi v, by rw [e5]; exact h.blks.keep (fun g hg => key g (fun e => h.rf (e ▸ hg))), by rw [e5]; exact h.rf, row_same h.fs4 (fun g hg => key g (fun e => h.f4 (e ▸ hg))), h.f4, by rw [e5]; exact h.r4, by rw [e5]; exact fun x hx => (h.fin x hx).upd hX (fun _ _ e => e), h.pl, h.ol, h.kl, by rw [e5]; exact h.low⟩, hX.sub (fun j _ e => h.low j e)⟩
end Go.Proofs.Ytkfilgfcgmohlaa
