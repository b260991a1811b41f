import Derived.Test.YtkfilgfcgmohlaaJ33
import Derived.Test.YtkfilgfcgmohlaaJ34
import Derived.WalkKit
import Derived.WalkSpells
import Derived.WalkLawsBesides
import Derived.Deep.CutRange
import Derived.Deep.CutBlock
import Derived.Deep.AppendLies
import Derived.Laws.OwnMore
import Derived.Deep.RegionLaw
import Derived.Deep.QuietTactic
import Derived.BigQuiet
namespace Go.Proofs.Ytkfilgfcgmohlaa
open Go.RowKit
/-- what a block leaves -/
def BlkQ (N0 b f : Nat) (s : ByteArray) (limit : Int) (p : Nat) (out : List Nat) (fr : Nat) (D : Nat → Value) (fs : List (Nat × Value × List Int)) (ks : List Int) (M : Int) (w : World) (x : Ending) (w' : World) : Prop :=
  ∃ (last : Bool) (p' : Nat) (out' : List Nat) (e' : Int) (C' D' : Nat → Value) (ks' : List Int), x = .returned (.bool last) ∧ BSt N0 w' b f s limit p' out' e' fr C' D' fs ks' ∧ (∀ i, i ≠ 5 → D' i = D i) ∧ (e' = 0 → p + 3 ≤ p') ∧ UpdS (fun j => N0 ≤ j) w w' ∧ ((2 : Int) ∈ ks → (2 : Int) ∈ ks') ∧
    (((2 : Int) ∈ ks' ∧ blkS s limit M p out = .met) ∨ match blkS s limit M p out with | none => False | some (.inl e) => e' = e | some (.inr (p2, o2, l)) => e' = 0 ∧ p' = p2 ∧ out' = o2 ∧ last = l)
/-- behind a block's bytes: w: at first; w': now; k: the new block -/
structure TSt (N0 : Nat) (w w' : World) (b f k : Nat) (s : ByteArray) (limit : Int) (p' : Nat) (out' : List Nat) (e' : Int) (fr : Nat) (C C' D Dk : Nat → Value) (a : Nat) : Prop where
  st : FSt w' b (fun j => Y0 (C 4) f (D 5) j ∨ j = k) s limit p' out' e' fr C'
  bc : Bc w' k Dk
  upd : UpdS (Xs b (C 3) Z0) w w'
  moved : Moved w (C 3) (C' 3)
  c4 : C' 4 = C 4
  c6 : C' 6 = .int .i64 (a : Int)
  nk : w.heap.size ≤ k
/-- a new block's cells -/
def Bk0 (kd n : Int) : Nat → Value
  | 0 => .int .i64 kd
  | 2 => .int .i64 n
  | 5 => .slice none 0 0
  | 11 => .slice none 0 0
  | _ => .int .i64 0
theorem Bc.start (w : World) (kd n : Int) (t : TypeId) : Bc (w.alloc (Obj.cells #[.int .i64 kd, .int .i64 0, .int .i64 n, .int .i64 0, .int .i64 0, .slice none 0 0, .int .i64 0, .int .i64 0, .int .i64 0, .int .i64 0, .int .i64 0, .slice none 0 0] t)) w.heap.size (Bk0 kd n) := by
  refine ⟨fun i hi => ?_, fun i => by simp, fun i hi => ?_⟩
  · rw [World.cell?_alloc_new]
    match i, hi with | 0, _ => rfl | 1, _ => rfl | 2, _ => rfl | 3, _ => rfl | 4, _ => rfl | 5, _ => rfl | 6, _ => rfl | 7, _ => rfl | 8, _ => rfl | 9, _ => rfl | 10, _ => rfl | 11, _ => rfl
  · match i, hi with | 0, _ => rfl | 1, _ => rfl | 2, _ => rfl | 3, _ => rfl | 4, _ => rfl | 5, _ => rfl | 6, _ => rfl | 7, _ => rfl | 8, _ => rfl | 9, _ => rfl | 10, _ => rfl | 11, _ => rfl
/-- a block begins: its own cells lie in a new block -/
theorem BSt.open {N0 : Nat} {w : World} {b f : Nat} {s : ByteArray} {limit : Int} {p : Nat} {out : List Nat} {e : Int} {fr : Nat} {C D : Nat → Value} {fs : List (Nat × Value × List Int)} {ks : List Int} (h : BSt N0 w b f s limit p out e fr C D fs ks) (kd n : Int) (t : TypeId) (w2 : World) (hw2 : w2 = w.alloc (Obj.cells #[.int .i64 kd, .int .i64 0, .int .i64 n, .int .i64 0, .int .i64 0, .slice none 0 0, .int .i64 0, .int .i64 0, .int .i64 0, .int .i64 0, .int .i64 0, .slice none 0 0] t)) :
    TSt N0 w (w2.setCell ⟨b, 6, none⟩ (.int .i64 (out.length : Int))) b f w.heap.size s limit p out e fr C (upV C 6 (.int .i64 (out.length : Int))) D (Bk0 kd n) out.length := by
  have F2 := h.st.alloc (Obj.cells #[.int .i64 kd, .int .i64 0, .int .i64 n, .int .i64 0, .int .i64 0, .slice none 0 0, .int .i64 0, .int .i64 0, .int .i64 0, .int .i64 0, .int .i64 0, .slice none 0 0] t)
  rw [← hw2] at F2
  obtain ⟨C3, R3⟩ := F2.toC
  have hk : ∀ i, i ≠ 6 → upV C 6 (.int .i64 (out.length : Int)) i = C i := fun i hi => upV_other _ _ _ _ hi
  have hbk : w.heap.size ≠ b := by have := h.st.wc.lt; omega
  have hU2 : Upd b w2 (w2.setCell ⟨b, 6, none⟩ (.int .i64 (out.length : Int))) := (Upd.refl b w2).setCell 6 _
  refine ⟨(C3.toF R3 ((hk 1 (by omega)).trans h.st.c1) ?_ ((hk 5 (by omega)).trans h.st.c5) ((hk 15 (by omega)).trans h.st.c15)).1, ?_, ?_, .inl (by rw [hk 3 (by omega)]), hk 4 (by omega), upV_same _ _ _, Nat.le_refl _⟩
  · rw [hk 3 (by omega)]
    exact ⟨row_same F2.oa.row (fun g hg => hU2.block g (row_lt F2.oa.row g hg).2 (h.st.ob g hg).1)⟩
  · have hb := Bc.start w kd n t
    rw [← hw2] at hb
    exact hb.keep (Below.heap_setCell _ _ _ _ hbk)
  · rw [hw2]
    exact ((UpdS.refl _ _).alloc _).setCell _ _ (fun _ => .inl rfl)
/-- the world within a block, as compressed blocks want it -/
theorem TSt.toC {N0 : Nat} {w w' : World} {b f k : Nat} {s : ByteArray} {limit : Int} {p' : Nat} {out' : List Nat} {e' : Int} {fr : Nat} {C C' D Dk : Nat → Value} {a : Nat} (h : TSt N0 w w' b f k s limit p' out' e' fr C C' D Dk a) (ha : a = out'.length) : CSt w' b (fun j => Y0 (C 4) f (D 5) j ∨ j = k) s limit a C' := by
  subst ha
  exact ⟨h.st.wc, h.st.c0, h.st.c2, h.c6, ⟨out', h.st.oa, Nat.le_refl _, by omega⟩, ⟨fr, h.st.c5, h.st.fl⟩, h.st.ob, h.st.nb, h.st.yb, h.st.tabs, h.st.tree, h.st.reps, ⟨e', h.st.c15⟩⟩
/-- the place or the error turns -/
theorem TSt.own {N0 : Nat} {w w1 w' : World} {b f k : Nat} {s : ByteArray} {limit : Int} {p1 p' : Nat} {out' : List Nat} {e1 e' : Int} {fr : Nat} {C C1 C' D Dk : Nat → Value} {a : Nat} (h : TSt N0 w w1 b f k s limit p1 out' e1 fr C C1 D Dk a) (hW : Wc w' b C') (hU : Upd b w1 w') (hC : ∀ i, i ≠ 1 → i ≠ 15 → C' i = C1 i) (h1 : C' 1 = .int .i64 (p' : Int)) (h15 : C' 15 = .int .i64 e') (he : e' = 0 → e1 = 0) : TSt N0 w w' b f k s limit p' out' e' fr C C' D Dk a := by
  have hkb : k ≠ b := fun e => h.st.nb (e ▸ .inr rfl)
  refine ⟨h.st.take hW hU hC h1 h15 he, h.bc.keep (hU.block k h.bc.lt hkb), h.upd.trans (hU.updS (X := Xs b (C1 3) Z0) (.inl rfl)) (fun i hi hx => Xs_moved h.moved i hi hx), ?_, (hC 4 (by omega) (by omega)).trans h.c4, (hC 6 (by omega) (by omega)).trans h.c6, h.nk⟩
  rw [hC 3 (by omega) (by omega)]; exact h.moved
/-- out of a block, nothing more of it -/
theorem TSt.leave {N0 : Nat} {w w' : World} {b f k : Nat} {s : ByteArray} {limit : Int} {p p' : Nat} {out out' : List Nat} {e e' : Int} {fr : Nat} {C C' D Dk : Nat → Value} {a : Nat} {fs : List (Nat × Value × List Int)} {ks : List Int} (h : TSt N0 w w' b f k s limit p' out' e' fr C C' D Dk a) (hB : BSt N0 w b f s limit p out e fr C D fs ks) (pl : p' ≤ s.size) (ol : 3 * out'.length ≤ 131072 * p') (kl : ks.length ≤ p') : BSt N0 w' b f s limit p' out' e' fr C' D fs ks ∧ UpdS (fun j => N0 ≤ j) w w' :=
  ⟨hB.turn (h.st.less (fun _ e => .inl e)) h.upd h.moved h.c4 pl ol kl, hB.high h.upd (fun _ _ e => by
    rcases e with e | e | e
    · exact .inl e
    · exact .inr (.inl e)
    · exact e.elim)⟩
/-- new blocks alone -/
theorem TSt.below {N0 : Nat} {w w1 w' : World} {b f k : Nat} {s : ByteArray} {limit : Int} {p' : Nat} {out' : List Nat} {e' : Int} {fr : Nat} {C C' D Dk : Nat → Value} {a : Nat} (h : TSt N0 w w1 b f k s limit p' out' e' fr C C' D Dk a) (hb : Below w1.heap.size w1 w') : TSt N0 w w' b f k s limit p' out' e' fr C C' D Dk a :=
  ⟨h.st.re (below_updS hb _) (fun _ e => .inl e) (fun j e => Nat.lt_of_lt_of_le (h.st.yb j e) hb.size), h.bc.keep (hb.block k h.bc.lt), h.upd.same (below_updS hb _), h.moved, h.c4, h.c6, h.nk⟩
theorem roomE_at (L n : Nat) (W limit : Int) (hn : (n : Int) ≤ mostN W) : roomE L L n W limit 0 = if limit < (L : Int) + (n : Int) then 14 else 0 := by
  unfold roomE roomE1
  rw [if_neg (show ¬ mostN W < (L : Int) - (L : Int) + (n : Int) by omega)]
  split
  · rfl
  · rfl
/-- bytes come out -/
theorem TSt.give {N0 : Nat} {w w1 w' : World} {b f k : Nat} {s : ByteArray} {limit : Int} {p' : Nat} {out l : List Nat} {fr : Nat} {C C' D Dk : Nat → Value} {Wn : Int} {x : Ending} (h : TSt N0 w w1 b f k s limit p' out 0 fr C C' D Dk out.length) (hq : GiveQ b C' (C' 3) out l out.length Wn limit 0 w1 x w') (hn : (l.length : Int) ≤ mostN Wn) :
    x = .returned (.tuple #[]) ∧ ∃ C2 e2, TSt N0 w w' b f k s limit p' (giveO e2 out l) e2 fr C C2 D Dk out.length ∧ e2 = (if limit < (out.length : Int) + (l.length : Int) then 14 else 0) := by
  obtain ⟨hx, C2, g1, g2, g3, g4, g5, g6⟩ := (h.toC rfl).give h.st.rok h.st.c15 (by omega) (Nat.le_refl _) hq
  rw [roomE_at _ _ _ _ hn] at g5 g6
  have hk : Y0 (C 4) f (D 5) k ∨ k = k := .inr rfl
  refine ⟨hx, C2, _, ⟨(g1.toF g2 ((g4 1 (by omega) (by omega)).trans h.st.c1) g6 ((g4 5 (by omega) (by omega)).trans h.st.c5) g5).1, h.bc.keep (g3.upd.block k h.bc.lt (fun e => ?_)), h.upd.trans g3.upd (fun i hi hx => Xs_moved h.moved i hi hx), h.moved.trans g3.moved h.upd.size, (g4 4 (by omega) (by omega)).trans h.c4, (g4 6 (by omega) (by omega)).trans h.c6, h.nk⟩, rfl⟩
  rcases e with e | e | e
  · exact h.st.nb (e ▸ hk)
  · exact (h.st.ob k e).2 hk
  · exact e
theorem bytesL_cut (s : ByteArray) (p n : Nat) (h : p + n ≤ s.size) : bytesL (s.extract p (p + n)) = cutL s p n := by
  have hz : (s.extract p (p + n)).size = n := by rw [ByteArray.size_extract]; omega
  unfold bytesL cutL
  rw [hz]
  refine List.map_congr_left (fun i hi => ?_)
  exact gOf_extract s p (p + n) i (by have := List.mem_range.1 hi; omega) h
/-- a compressed block was read -/
theorem TSt.comp {N0 : Nat} {w w1 w' : World} {b f k : Nat} {s : ByteArray} {limit : Int} {p' : Nat} {out : List Nat} {e1 : Int} {fr : Nat} {C C' D Dk : Nat → Value} {x : Ending} (h : TSt N0 w w1 b f k s limit p' out e1 fr C C' D Dk out.length) (hq : CompQ b k (fun j => Y0 (C 4) f (D 5) j ∨ j = k) s limit out.length C' Dk w1 x w') :
    x = .returned (.tuple #[]) ∧ ∃ out5 e5 C5 Dk5, TSt N0 w w' b f k s limit p' out5 e5 fr C C5 D Dk5 out.length ∧ Dk5 0 = Dk 0 ∧ out.length ≤ out5.length ∧ out5.length ≤ out.length + 131072 := by
  obtain ⟨C5, D5, hx, g1, g2, g3, g4, g5⟩ := hq
  obtain ⟨out5, o1, o2, o3⟩ := g1.out
  obtain ⟨e5, he5⟩ := g1.err
  refine ⟨hx, out5, e5, C5, D5, ⟨(g1.toF g2 (g3.c1.trans h.st.c1) o1 (g3.c5.trans h.st.c5) he5).1, g4, h.upd.trans g3.upd (fun i hi hx => ?_), h.moved.trans g3.moved h.upd.size, g3.c4.trans h.c4, g1.c6, h.nk⟩, g5, o2, o3⟩
  rcases hx with e | e | e
  · exact .inl e
  · exact Xs_moved h.moved i hi (.inr (.inl e))
  · have := h.nk; have e' : i = k := e; omega
theorem Bc.ones {w : World} {k : Nat} {E : Nat → Value} (h : Bc w k E) : ∀ u ∈ [E 0, E 1, E 2, E 3, E 4, E 5, E 6, E 7, E 8, E 9, E 10, E 11], u.oneCell' = true := by
  intro u hu
  simp at hu
  rcases hu with rfl | rfl | rfl | rfl | rfl | rfl | rfl | rfl | rfl | rfl | rfl | rfl <;> exact h.one _ (by omega)
theorem alloc_news (W : World) (vs : List Value) (t : TypeId) (j : Nat) : (W.alloc (Obj.cells vs.toArray t)).cell? ⟨W.heap.size, j, none⟩ = vs[j]? := by
  rw [World.cell?_alloc_new]; simp
/-- its own cells turn -/
theorem TSt.cell {N0 : Nat} {w w1 w' : World} {b f k : Nat} {s : ByteArray} {limit : Int} {p' : Nat} {out' : List Nat} {e' : Int} {fr : Nat} {C C' D Dk Dk' : Nat → Value} {a : Nat} (h : TSt N0 w w1 b f k s limit p' out' e' fr C C' D Dk a) (hU : UpdS (fun q => q = k) w1 w') (hB : Bc w' k Dk') : TSt N0 w w' b f k s limit p' out' e' fr C C' D Dk' a :=
  ⟨h.st.re (hU.sub (fun i _ e => .inr e)) (fun _ e => .inl e) (fun j e => Nat.lt_of_lt_of_le (h.st.yb j e) hU.size), hB, h.upd.trans hU (fun i hi e => by have := h.nk; have e' : i = k := e; omega), h.moved, h.c4, h.c6, h.nk⟩
/-- behind the bytes of a block -/
def MidB (N0 : Nat) (w wx : World) (b f k : Nat) (s : ByteArray) (limit : Int) (p : Nat) (out : List Nat) (fr : Nat) (C D : Nat → Value) (M : Int) (kd P5 : Nat) : Prop :=
  ∃ out5 e5 C5 Dk5, TSt N0 w wx b f k s limit P5 out5 e5 fr C C5 D Dk5 out.length ∧ Dk5 0 = .int .i64 (kd : Int) ∧ out.length ≤ out5.length ∧ out5.length ≤ out.length + 131072 ∧ (kd = 2 ∨ match blkS s limit M p out with | none => False | some (.inl e) => e5 = e | some (.inr (p2, o2, _)) => e5 = 0 ∧ P5 = p2 ∧ out5 = o2)
set_option maxRecDepth 100000 in
set_option maxHeartbeats 8000000 in
theorem block_w (N0 b f : Nat) (s : ByteArray) (limit : Int) (p : Nat) (out : List Nat) (fr : Nat) (C D : Nat → Value) (fs : List (Nat × Value × List Int)) (ks : List Int) (Wn : Int) (w : World) (h : BSt N0 w b f s limit p out 0 fr C D fs ks) (hD : D 0 = .int .i64 Wn) (hW0 : 0 ≤ Wn) (hs : s.size ≤ 16384) :
    Calls Try.prog 29 #[.pointer (some ⟨b, 0, none⟩), .pointer (some ⟨f, 0, none⟩)] w fun x w' => BlkQ N0 b f s limit p out fr D fs ks (mostN Wn) w x w' := by
  have HB : Hid (BSt N0 w b f s limit p out 0 fr C D fs ks) := h
  have HT : Hid (Calls Try.prog 21 #[.pointer (some ⟨b, 0, none⟩), .int .i64 ((3 : Nat) : Int)] w fun x w' => x = .returned (.int .i64 (takeV s p 0 3)) ∧ Wc w' b (upV (upV C 15 (.int .i64 (takeE s p 0 3))) 1 (.int .i64 (takeP s p 0 3 : Int))) ∧ Upd b w w') :=
    take_any b C s p 0 3 w h.st.wc h.st.c0 h.st.c1 h.st.c15 (by omega) (by have := h.pl; omega) (by omega)
  have HDW : Hid (D 0 = .int .i64 Wn) := hD
  have hpl := h.pl
  have hol := h.ol
  have hkl := h.kl
  clear h hD
  go_enter Try.func29, Try.ntmps29
  go_wp2_with fail
  refine HT.out.mono ?_
  rintro x w1 ⟨rfl, hW1, hU1⟩
  clear HT
  by_cases hc : s.size < p + 3
  · obtain ⟨t1, t2, t3⟩ := take_no hc
    rw [t1, t3] at hW1
    rw [t2]
    have c15 := hW1.c 15 (by omega)
    rw [upV_other _ _ _ _ (by omega), upV_same] at c15
    have HQ : Hid (BlkQ N0 b f s limit p out fr D fs ks (mostN Wn) w (.returned (.bool true)) w1) := by
      have hC : ∀ i, i ≠ 1 → i ≠ 15 → upV (upV C 15 (.int .i64 2)) 1 (.int .i64 (p : Int)) i = C i := fun i h1 h2 => by rw [upV_other _ _ _ _ h1, upV_other _ _ _ _ h2]
      have F := HB.out.st.take hW1 hU1 hC (upV_same _ _ _) (by rw [upV_other _ _ _ _ (by omega), upV_same]) (e' := 2) (by omega)
      refine ⟨true, p, out, 2, _, D, ks, rfl, HB.out.turn F (hU1.updS (.inl rfl)) (.inl (by rw [hC 3 (by omega) (by omega)])) (hC 4 (by omega) (by omega)) hpl hol hkl, fun _ _ => rfl, by omega, HB.out.high (hU1.updS (X := fun j => j = b) rfl) (fun j _ e => .inl e), fun h => h, .inr ?_⟩
      have : blkS s limit (mostN Wn) p out = .bad 2 := by unfold blkS; rw [if_pos hc]
      rw [this]
    clear hW1 hU1 t1 t2 t3
    go_wp2_with fail
    go_ret
    exact HQ.out
  · obtain ⟨t1, t2, t3⟩ := take_yes (s := s) (p := p) (n := 3) (by omega)
    have hHl := blkH_lt s p
    rw [show numN (gOf s) p 3 = blkH s p from rfl, wrap_small _ (by omega)] at t2
    rw [t1, t3] at hW1
    rw [t2]
    obtain ⟨C1, hC1⟩ : ∃ C1, C1 = upV (upV C 15 (.int .i64 0)) 1 (.int .i64 ((p + 3 : Nat) : Int)) := ⟨_, rfl⟩
    rw [← hC1] at hW1
    have hC : ∀ i, i ≠ 1 → i ≠ 15 → C1 i = C i := fun i h1 h2 => by rw [hC1, upV_other _ _ _ _ h1, upV_other _ _ _ _ h2]
    have h11 : C1 1 = .int .i64 ((p + 3 : Nat) : Int) := by rw [hC1, upV_same]
    have h115 : C1 15 = .int .i64 0 := by rw [hC1, upV_other _ _ _ _ (by omega), upV_same]
    have F1 := HB.out.st.take hW1 hU1 hC h11 h115 (fun _ => rfl)
    have hB1 := HB.out.turn F1 (hU1.updS (.inl rfl)) (.inl (by rw [hC 3 (by omega) (by omega)])) (hC 4 (by omega) (by omega)) (by omega) (by omega) (by omega)
    have hc4 := hC 4 (by omega) (by omega)
    have HB1 : Hid (BSt N0 w1 b f s limit (p + 3) out 0 fr C1 D fs ks) := hB1
    have HU1 : Hid (UpdS (fun j => N0 ≤ j) w w1) := HB.out.high (hU1.updS (X := fun j => j = b) rfl) (fun j _ e => .inl e)
    have c15 := hW1.c 15 (by omega)
    rw [h115] at c15
    obtain ⟨po, co, hvo⟩ := hB1.st.oa.shape
    have c3 := hB1.st.wc.c 3 (by omega)
    rw [hvo] at c3
    have f6 := hB1.st.wc.fz 6
    obtain ⟨a6, c6'⟩ := hB1.st.c6
    have c6 := hB1.st.wc.c 6 (by omega)
    rw [c6'] at c6
    have hbl : b < w1.heap.size := hB1.st.wc.lt
    have hfl : f < w1.heap.size := hB1.fc.lt
    have hfb : f ≠ b := hB1.nf
    have hf0 := hB1.fc.c 0 (by omega)
    rw [HDW.out] at hf0
    clear hW1 hU1 t1 t2 t3 hC1 hC F1 hB1 c6' hc4
    obtain ⟨H, hH⟩ : ∃ H, H = blkH s p := ⟨_, rfl⟩
    rw [← hH] at hHl ⊢
    obtain ⟨kd, hkd⟩ : ∃ kd, kd = H / 2 % 4 := ⟨_, rfl⟩
    obtain ⟨n, hn⟩ : ∃ n, n = H / 8 := ⟨_, rfl⟩
    obtain ⟨wd, hwd⟩ : ∃ wd, wd = blkW (blkH s p) := ⟨_, rfl⟩
    have HBk : Hid (blkS s limit (mostN Wn) p out = if kd = 3 ∨ mostN Wn < (n : Nat) then .bad 7 else if s.size < p + 3 + wd then .bad 2 else if kd = 2 then .met else if limit < (out.length : Int) + (n : Nat) then .bad 14 else .go (p + 3 + wd) (out ++ blkL s p (blkH s p)) (decide (H % 2 = 1))) := by
      show _ = _
      unfold blkS
      rw [if_neg hc, hkd, hn, hwd, hH]
    have HWd : Hid (wd = if kd = 1 then 1 else n) := by show _ = _; rw [hwd, hkd, hn, hH]; rfl
    have HL : Hid (blkL s p (blkH s p) = if kd = 0 then cutL s (p + 3) n else List.replicate n (gOf s (p + 3))) := by
      show _ = _
      unfold blkL
      rw [hkd, hn, hH]
    have e2 : (H : Int) / 2 % 4 = (kd : Int) := by rw [hkd]; omega
    have e8 : (H : Int) / 8 = (n : Int) := by rw [hn]; omega
    have e1 : (H : Int) % 2 = ((H % 2 : Nat) : Int) := by omega
    have hkd4 : kd < 4 := by omega
    have hnb : n ≤ 2097151 := by omega
    have HP3 : Hid (p + 3 ≤ s.size) := by show _ ≤ _; omega
    have HHH : Hid (H = blkH s p) := hH
    have hwdb : wd ≤ 2097151 := by rw [HWd.out]; split <;> omega
    clear hkd hn hwd hH
    obtain ⟨P, hP⟩ : ∃ P, P = p + 3 := ⟨_, rfl⟩
    rw [← hP] at HB1 HBk HP3 h11
    have HPp : Hid (P = p + 3) := hP
    have hPs : P ≤ s.size := HP3.out
    obtain ⟨k, hk⟩ : ∃ k, k = w1.heap.size := ⟨_, rfl⟩
    obtain ⟨w2, hw2⟩ : ∃ w2, w2 = w1.alloc (Obj.cells #[.int .i64 (kd : Int), .int .i64 0, .int .i64 (n : Int), .int .i64 0, .int .i64 0, .slice none 0 0, .int .i64 0, .int .i64 0, .int .i64 0, .int .i64 0, .int .i64 0, .slice none 0 0] 48) := ⟨_, rfl⟩
    obtain ⟨w3, hw3⟩ : ∃ w3, w3 = w2.setCell ⟨b, 6, none⟩ (.int .i64 (out.length : Int)) := ⟨_, rfl⟩
    obtain ⟨C3, hC3⟩ : ∃ C3, C3 = upV C1 6 (.int .i64 (out.length : Int)) := ⟨_, rfl⟩
    have hT3 := HB1.out.open (kd : Int) (n : Int) 48 w2 hw2
    rw [← hw3, ← hk, ← hC3] at hT3
    have HT3 : Hid (TSt N0 w1 w3 b f k s limit P out 0 fr C1 C3 D (Bk0 kd n) out.length) := hT3
    have hb2 : w2.heap[b]? = w1.heap[b]? := by rw [hw2]; exact Below.heap_alloc _ _ _ hbl
    have g3 := (World.cell?_of_block (w := w1) (a := ⟨b, 3, none⟩) hb2).trans c3
    have g6 := (World.cell?_of_block (w := w1) (a := ⟨b, 6, none⟩) hb2).trans c6
    have gf := (World.frozen?_of_block (w := w1) (a := ⟨b, 6, none⟩) hb2).trans f6
    clear hP hT3 hb2
    go_upto_region 5 with fail
    rw [← hw2, ← hk]
    clear hw2 c15 c3 f6 c6 hk hf0
    go_upto_region 6 with fail
    rw [← hw3]
    clear hw3 g3 g6 gf
    have c0 := HT3.out.st.wc.c 0 (by omega)
    rw [HT3.out.st.c0] at c0
    have c1 := HT3.out.st.wc.c 1 (by omega)
    rw [HT3.out.st.c1] at c1
    have f1 := HT3.out.st.wc.fz 1
    have hk0 := HT3.out.bc.c 0 (by omega)
    have hk2 := HT3.out.bc.c 2 (by omega)
    rw [show Bk0 (kd : Int) (n : Int) 0 = .int .i64 (kd : Int) from rfl] at hk0
    rw [show Bk0 (kd : Int) (n : Int) 2 = .int .i64 (n : Int) from rfl] at hk2
    have HF3 : Hid (∀ wx : World, (∀ j, Y0 (C1 4) f (D 5) j → wx.heap[j]? = w1.heap[j]?) → wx.cell? ⟨f, 0, none⟩ = some (.int .i64 Wn)) := fun wx hx => by
      have := (World.cell?_of_block (w := w1) (a := ⟨f, 0, none⟩) (hx f (.inr (.inl rfl)))).trans (HB1.out.fc.c 0 (by omega))
      rw [HDW.out] at this; exact this
    have HKY : Hid (∀ (wx : World) (C' : Nat → Value), UpdS (Xs b (C1 3) Z0) w1 wx → Moved w1 (C1 3) (C' 3) → ∀ j, Y0 (C1 4) f (D 5) j → wx.heap[j]? = w1.heap[j]?) := fun wx C' hu _ j hj => hu.block j (HB1.out.st.yb j hj) (fun e => by
      rcases e with e | e | e
      · exact HB1.out.st.nb (e ▸ hj)
      · exact (HB1.out.st.ob j e).2 hj
      · exact e)
    have hf3 : w3.cell? ⟨f, 0, none⟩ = some (.int .i64 Wn) := HF3.out w3 (HKY.out w3 C3 HT3.out.upd HT3.out.moved)
    go_wp2_with fail
    refine (most_any f Wn _ hf3).mono ?_
    rintro x w4 ⟨rfl, hw4⟩
    rw [hw4]
    clear hw4 w4
    have hM1 : mostN Wn ≤ 131072 := by unfold mostN; split <;> omega
    have hM0 : 0 ≤ mostN Wn := by unfold mostN; split <;> omega
    obtain ⟨M, hM⟩ : ∃ M, M = mostN Wn := ⟨_, rfl⟩
    have HMM : Hid (M = mostN Wn) := hM
    rw [← hM] at hM1 hM0 HBk ⊢
    clear hM hf3
    have HBAD : Hid (∀ (e : Int) w5 (wx : World) (Cx : Nat → Value) (P' : Nat), TSt N0 w1 wx b f k s limit P' out 0 fr C1 Cx D (Bk0 kd n) out.length → Wc w5 b (upV Cx 15 (.int .i64 (errN 0 e))) → Upd b wx w5 → e ≠ 0 → P' ≤ s.size → P ≤ P' → blkS s limit M p out = .bad e → BlkQ N0 b f s limit p out fr D fs ks M w (.returned (.bool true)) w5) := by
      intro e w5 wx Cx P' hT hW hU he hP1 hP2 hbk
      have hee : errN 0 e = e := by unfold errN; rw [if_pos rfl]
      rw [hee] at hW
      have hT5 := hT.own hW hU (fun i h1 h2 => upV_other _ _ _ _ h2) ((upV_other _ _ _ _ (by omega)).trans hT.st.c1) (upV_same _ _ _) (fun h => absurd h he)
      have hPp := HPp.out
      obtain ⟨g1, g2⟩ := hT5.leave HB1.out hP1 (by omega) (by omega)
      exact ⟨true, P', out, e, _, D, ks, rfl, g1, fun _ _ => rfl, fun h => absurd h he, HU1.out.same g2, fun h => h, .inr (by rw [hbk])⟩
    by_cases h3 : kd = 3 ∨ M < (n : Int)
    · rw [if_pos h3] at HBk
      go_upto_region 7 with fail
      go_cut [44] from 36 to 44 (fun v wx => v = .bool true ∧ wx = w3)
      case first =>
        by_cases hk3 : kd = 3
        · have hb3 : ((kd : Int) == 3) = true := by rw [beq_iff_eq]; omega
          go_wp2_with fail
          go_meet
          exact ⟨rfl, rfl⟩
        · have hb3 : ((kd : Int) == 3) = false := by rw [beq_eq_false_iff_ne]; omega
          have hbb : decide (M < (n : Int)) = true := decide_eq_true (by omega)
          go_wp2_with fail
          go_meet
          exact ⟨rfl, rfl⟩
      case rest =>
        obtain ⟨rfl, rfl⟩ := hcut
        go_wp2_with fail
        refine (bad_any b C3 0 7 _ HT3.out.st.wc HT3.out.st.c15).mono ?_
        rintro x w5 ⟨rfl, hW5, hU5⟩
        have HQ : Hid (BlkQ N0 b f s limit p out fr D fs ks M w (.returned (.bool true)) w5) := HBAD.out 7 w5 wc C3 P HT3.out hW5 hU5 (by decide) HP3.out (Nat.le_refl _) HBk.out
        clear hW5 hU5
        go_wp2_with fail
        go_ret
        rw [← HMM.out]
        exact HQ.out
    · rw [if_neg h3] at HBk
      have hb3 : ((kd : Int) == 3) = false := by rw [beq_eq_false_iff_ne]; omega
      have hbb : decide (M < (n : Int)) = false := decide_eq_false (by omega)
      have HN3 : Hid (kd ≠ 3 ∧ (n : Int) ≤ M) := ⟨fun e => h3 (.inl e), by omega⟩
      clear h3
      go_upto_if 51 with fail
      go_cut [8] from 49 to 51 (fun v wx => v = .int .i64 (wd : Int) ∧ wx = w3)
      case first =>
        by_cases h1 : kd = 1
        · have hb1 : ((kd : Int) == 1) = true := by rw [beq_iff_eq]; omega
          rw [if_pos h1] at HWd
          go_wp2_with fail
          go_meet
          exact ⟨by rw [HWd.out]; rfl, rfl⟩
        · have hb1 : ((kd : Int) == 1) = false := by rw [beq_eq_false_iff_ne]; omega
          rw [if_neg h1] at HWd
          go_wp2_with fail
          go_meet
          exact ⟨by rw [HWd.out], rfl⟩
      case rest =>
        obtain ⟨rfl, hwc⟩ := hcut
        rw [hwc]
        clear hwc wc
        by_cases h4 : s.size < P + wd
        · rw [if_pos h4] at HBk
          have hbc : decide ((s.size : Int) - (P : Int) < (wd : Int)) = true := decide_eq_true (by omega)
          go_wp2_with fail
          go_region
          go_wp2_with fail
          refine (bad_any b C3 0 2 _ (HT3.out.st.wc.sm ((Sm.refl w3).drew)) HT3.out.st.c15).mono ?_
          rintro x w5 ⟨rfl, hW5, hU5⟩
          have HQ : Hid (BlkQ N0 b f s limit p out fr D fs ks M w (.returned (.bool true)) w5) := HBAD.out 2 w5 w3 C3 P HT3.out hW5 (((Upd.refl b w3).drew).trans hU5) (by decide) HP3.out (Nat.le_refl _) HBk.out
          clear hW5 hU5
          go_wp2_with fail
          go_ret
          rw [← HMM.out]
          exact HQ.out
        · rw [if_neg h4] at HBk
          have hbc : decide ((s.size : Int) - (P : Int) < (wd : Int)) = false := decide_eq_false (by omega)
          have HP4 : Hid (P + wd ≤ s.size) := by show _ ≤ _; omega
          have hp1 : (P : Int) ≤ (P : Int) + (wd : Int) := by omega
          have hp2 : (P : Int) + (wd : Int) ≤ (s.size : Int) := by omega
          go_wp2_with fail
          go_region
          go_upto_region 16 with fail
          go_region
          go_upto_region 18 with fail
          obtain ⟨W5, hW5⟩ : ∃ W5, W5 = (w3.setCell ⟨b, 1, none⟩ (.int .i64 ((P : Int) + (wd : Int)))).drew.drew := ⟨_, rfl⟩
          rw [← hW5]
          obtain ⟨C5, hC5⟩ : ∃ C5, C5 = upV C3 1 (.int .i64 ((P : Int) + (wd : Int))) := ⟨_, rfl⟩
          have HT5 : Hid (TSt N0 w1 W5 b f k s limit (P + wd) out 0 fr C1 C5 D (Bk0 kd n) out.length) := by
            have hU : Upd b w3 W5 := by rw [hW5]; exact (((Upd.refl b w3).setCell 1 _).drew).drew
            refine HT3.out.own (by rw [hW5, hC5]; exact (HT3.out.st.wc.set 1 (by omega) _).sm ((Sm.refl _).drew.drew)) hU (fun i h1 _ => by rw [hC5, upV_other _ _ _ _ h1]) (by rw [hC5, upV_same]; rfl) (by rw [hC5, upV_other _ _ _ _ (by omega)]; exact HT3.out.st.c15) (fun _ => rfl)
          have hk0' := HT5.out.bc.c 0 (by omega)
          rw [show Bk0 (kd : Int) (n : Int) 0 = .int .i64 (kd : Int) from rfl] at hk0'
          have hk2' := HT5.out.bc.c 2 (by omega)
          rw [show Bk0 (kd : Int) (n : Int) 2 = .int .i64 (n : Int) from rfl] at hk2'
          clear hW5 c0 c1 f1 hk0 hk2 hC5 hbc hp1 hp2
          have HF5 : Hid (∀ wx Cx p' o e Dk, TSt N0 w1 wx b f k s limit p' o e fr C1 Cx D Dk out.length → wx.cell? ⟨f, 0, none⟩ = some (.int .i64 Wn)) := fun wx Cx p' o e Dk h => HF3.out wx (HKY.out wx Cx h.upd h.moved)
          obtain ⟨t, ht⟩ : ∃ t, t = s.extract P (P + wd) := ⟨_, rfl⟩
          rw [← ht]
          have hts : t.size = wd := by rw [ht, ByteArray.size_extract]; have := HP4.out; omega
          have HTX : Hid (t = s.extract P (P + wd)) := ht
          have HTS : Hid (t.size = wd) := hts
          have hg0 : 0 < wd → gOf t 0 = gOf s P := fun h => by rw [ht, gOf_extract s P (P + wd) 0 (by omega) HP4.out]; rfl
          have HG0 : Hid (0 < wd → gOf t 0 = gOf s P) := hg0
          clear ht hg0
          go_upto_block 0 with fail
          go_cut [] from 92 to 121 (fun wx => MidB N0 w1 wx b f k s limit p out fr C1 D M kd (P + wd))
          case first =>
            have hob : out.length ≤ 715827882 := by omega
            rcases (show kd = 0 ∨ kd = 1 ∨ kd = 2 by have := HN3.out.1; omega) with h0 | h0 | h0
            · have hb0 : ((kd : Int) == 0) = true := by rw [beq_iff_eq]; omega
              rw [if_neg (show ¬ kd = 1 by omega)] at HWd
              rw [if_pos h0] at HL
              rw [if_neg (show ¬ kd = 2 by omega)] at HBk
              have kc := fun (w : World) (s : ByteArray) => Lib.run_convert_string_bytes (P := Try.prog) w 9 33 5 s Try.underlying9 Try.underlying33 Try.underlying5
              have HTb : Hid (TSt N0 w1 (Lib.bytesWorld W5 5 t) b f k s limit (P + wd) out 0 fr C1 C5 D (Bk0 kd n) out.length) := HT5.out.below (bytes_below W5 5 t)
              have HBy : Hid (ByA (Lib.bytesWorld W5 5 t) (.slice (some ⟨W5.heap.size, 0, none⟩) t.size (grownCap W5 t.size 0 5)) W5.heap.size (bytesL t)) := bytes_bya W5 t (grownCap W5 t.size 0 5) (grownCap_ge _ _ _ _)
              have HGV : Hid (Calls Try.prog 38 #[.pointer (some ⟨b, 0, none⟩), .slice (some ⟨W5.heap.size, 0, none⟩) t.size (grownCap W5 t.size 0 5), .pointer (some ⟨f, 0, none⟩)] (Lib.bytesWorld W5 5 t) fun x w' => GiveQ b C5 (C5 3) out (bytesL t) out.length Wn limit 0 (Lib.bytesWorld W5 5 t) x w') :=
                give_any b f W5.heap.size C5 (C5 3) _ out (bytesL t) out.length Wn limit 0 _ HTb.out.st.wc rfl HTb.out.c6 HTb.out.st.c2 HTb.out.st.c15 (HF5.out _ _ _ _ _ _ HTb.out) HTb.out.st.oa HBy.out (fun e => (HTb.out.st.ob b e).1 rfl) (by have := HT5.out.st.wc.lt; omega) (by omega) (Nat.le_refl _) (by rw [bytesL_len, hts]; omega)
              clear h0 hts
              go_wp2_with fail
              refine HGV.out.mono ?_
              intro x w6 hq
              obtain ⟨rfl, C6, e6, hT6, he6⟩ := HTb.out.give hq (by rw [bytesL_len, HTS.out, ← HMM.out, HWd.out]; exact HN3.out.2)
              have HM6 : Hid (MidB N0 w1 w6 b f k s limit p out fr C1 D M kd (P + wd)) := by
                have hwn := HWd.out
                rw [bytesL_len, HTS.out] at he6
                refine ⟨_, e6, C6, _, hT6, rfl, ?_, ?_, .inr ?_⟩
                · unfold giveO; split
                  · rw [List.length_append]; omega
                  · exact Nat.le_refl _
                · unfold giveO; split
                  · have := HN3.out.2; rw [List.length_append, bytesL_len, HTS.out]; omega
                  · omega
                · rw [HBk.out]
                  by_cases hl : limit < (out.length : Int) + (n : Int)
                  · rw [if_pos hl]
                    show e6 = 14
                    rw [he6, hwn, if_pos hl]
                  · rw [if_neg hl]
                    have he0 : e6 = 0 := by rw [he6, hwn, if_neg hl]
                    refine ⟨he0, rfl, ?_⟩
                    unfold giveO
                    rw [if_pos he0, HL.out, HTX.out, bytesL_cut s P wd HP4.out, HPp.out, hwn]
              clear hq hT6 he6
              go_wp2_with fail
              go_meet
              exact HM6.out
            · have hb0 : ((kd : Int) == 0) = false := by rw [beq_eq_false_iff_ne]; omega
              have hb1 : ((kd : Int) == 1) = true := by rw [beq_iff_eq]; omega
              rw [if_pos h0] at HWd
              rw [if_neg (show ¬ kd = 0 by omega)] at HL
              rw [if_neg (show ¬ kd = 2 by omega)] at HBk
              have hix : ∀ wz, (Instr.index 9 (.string t) (.int .i64 0)).run Try.prog wz = .ok (.int .u8 ((gOf t 0 : Nat) : Int)) wz := run_at t _ 0 rfl (by have := HWd.out; omega)
              obtain ⟨y, hy⟩ : ∃ y, y = gOf t 0 := ⟨_, rfl⟩
              rw [← hy] at hix
              have HY : Hid (y = gOf s P) := by show _ = _; rw [hy, HG0.out (by have := HWd.out; omega)]
              have hkl5 : k < W5.heap.size := HT5.out.bc.lt
              clear hy hk0' h0
              go_wp2_with fail
              go_loopw [10, 11] (fun av iv wr => ∃ i : Nat, i ≤ n ∧ iv = .int .i64 (i : Int) ∧ wr.ownsRow W5.heap.size 5 1 av i (bvs (List.replicate i y)) ∧ Below W5.heap.size W5 wr) (fun _ iv _ => (n - intOf iv).toNat)
              case atStart => exact ⟨0, by omega, rfl, World.ownsRow_nil _ _ _ _, Below.refl _ _⟩
              case round =>
                obtain ⟨i, hi, rfl, hrow, hbel⟩ := hrel
                have HR : Hid (wr.ownsRow W5.heap.size 5 1 u10 i (bvs (List.replicate i y)) ∧ Below W5.heap.size W5 wr) := ⟨hrow, hbel⟩
                have kk2 := (World.cell?_of_block (w := W5) (a := ⟨k, 2, none⟩) (hbel.block k hkl5)).trans hk2'
                have hsz : W5.heap.size ≤ wr.heap.size := hbel.size
                obtain ⟨pv, gv, cv, hv, _⟩ := row_open hrow
                subst hv
                clear hbel
                by_cases hlt : i < n
                · have hd : decide ((i : Int) < (n : Int)) = true := decide_eq_true (by omega)
                  go_wp2_with (at_builtin; refine ba_list (by rfl) (.tmp 107) (.tmp 110) (by rfl) (by first | rfl | simp) (gb := wr.heap.size) (y := (y : Int)) (by simp [Act.eval]) (by omega) hrow hsz (by repeat (first | exact Below.refl _ _ | refine Below.drew ?_ | refine Below.alloc ?_ (by simp <;> omega) _)) (by simp) ?_; intro g1 cap1 w4 hfin)
                  refine ⟨⟨i + 1, by omega, by go_num, ?_, HR.out.2.trans hfin.out.2⟩, by simp [intOf]; omega⟩
                  rw [List.replicate_succ', bvs_append]
                  exact hfin.out.1
                · have hd : decide ((i : Int) < (n : Int)) = false := decide_eq_false (by omega)
                  obtain rfl : i = n := by omega
                  have HTb : Hid (TSt N0 w1 wr b f k s limit (P + wd) out 0 fr C1 C5 D (Bk0 kd i) out.length) := HT5.out.below HR.out.2
                  have hll : (List.replicate i y).length = i := List.length_replicate
                  have hrow' := HR.out.1
                  obtain ⟨gx, hbx, hgx⟩ := row_bya (l := List.replicate i y) (by rw [hll]; exact hrow')
                  obtain ⟨g', hB', hg'⟩ : ∃ g', ByA wr (.slice pv i cv) g' (List.replicate i y) ∧ g' ≠ b := by
                    by_cases hz : 0 < (List.replicate i y).length
                    · exact ⟨gx, hbx, by have := (row_lt hrow' gx (hgx hz)).1; have := HT5.out.st.wc.lt; omega⟩
                    · exact ⟨b + 1, hbx.any (by omega), by omega⟩
                  have HGV : Hid (Calls Try.prog 38 #[.pointer (some ⟨b, 0, none⟩), .slice pv i cv, .pointer (some ⟨f, 0, none⟩)] wr fun x w' => GiveQ b C5 (C5 3) out (List.replicate i y) out.length Wn limit 0 wr x w') :=
                    give_any b f g' C5 (C5 3) _ out (List.replicate i y) out.length Wn limit 0 _ HTb.out.st.wc rfl HTb.out.c6 HTb.out.st.c2 HTb.out.st.c15 (HF5.out _ _ _ _ _ _ HTb.out) HTb.out.st.oa hB' (fun e => (HTb.out.st.ob b e).1 rfl) hg' (by omega) (Nat.le_refl _) (by rw [hll]; omega)
                  clear hrow hrow' hbx hgx hB' hg'
                  go_wp2_with fail
                  refine HGV.out.mono ?_
                  intro x w6 hq
                  obtain ⟨rfl, C6, e6, hT6, he6⟩ := HTb.out.give hq (by rw [hll, ← HMM.out]; exact HN3.out.2)
                  have HM6 : Hid (MidB N0 w1 w6 b f k s limit p out fr C1 D M kd (P + wd)) := by
                    rw [hll] at he6
                    refine ⟨_, e6, C6, _, hT6, rfl, ?_, ?_, .inr ?_⟩
                    · unfold giveO; split
                      · rw [List.length_append]; omega
                      · exact Nat.le_refl _
                    · unfold giveO; split
                      · have := HN3.out.2; rw [List.length_append, hll]; omega
                      · omega
                    · rw [HBk.out]
                      by_cases hl : limit < (out.length : Int) + (i : Int)
                      · rw [if_pos hl]
                        show e6 = 14
                        rw [he6, if_pos hl]
                      · rw [if_neg hl]
                        have he0 : e6 = 0 := by rw [he6, if_neg hl]
                        refine ⟨he0, rfl, ?_⟩
                        unfold giveO
                        rw [if_pos he0, HL.out, HY.out, HPp.out]
                  clear hq hT6 he6
                  go_wp2_with fail
                  go_meet
                  exact HM6.out
            · have hb0 : ((kd : Int) == 0) = false := by rw [beq_eq_false_iff_ne]; omega
              have hb1 : ((kd : Int) == 1) = false := by rw [beq_eq_false_iff_ne]; omega
              have hb2 : ((kd : Int) == 2) = true := by rw [beq_iff_eq]; omega
              have HK2 : Hid (kd = 2) := h0
              have HCM : Hid (Calls Try.prog 39 #[.pointer (some ⟨b, 0, none⟩), .string t, .pointer (some ⟨f, 0, none⟩), .pointer (some ⟨k, 0, none⟩)] W5 fun x w' => CompQ b k (fun j => Y0 (C1 4) f (D 5) j ∨ j = k) s limit out.length C5 (Bk0 kd n) W5 x w') :=
                compressed_w b k f (fun j => Y0 (C1 4) f (D 5) j ∨ j = k) s limit out.length C5 (Bk0 kd n) t Wn W5 (HT5.out.toC rfl) HT5.out.st.rok HT5.out.bc (.inr rfl) (.inl (.inr (.inl rfl))) (by have := HT5.out.nk; omega) (HF5.out _ _ _ _ _ _ HT5.out) (by omega) HT5.out.st.c15 rfl rfl (by omega)
              clear h0
              go_wp2_with fail
              refine HCM.out.mono ?_
              intro x w6 hq
              obtain ⟨rfl, out5, e5, C6, Dk6, hT6, hd0, ho1, ho2⟩ := HT5.out.comp hq
              have HM6 : Hid (MidB N0 w1 w6 b f k s limit p out fr C1 D M kd (P + wd)) := ⟨out5, e5, C6, Dk6, hT6, hd0.trans rfl, ho1, ho2, .inl HK2.out⟩
              clear hq hT6 hd0 ho1 ho2
              go_wp2_with fail
              go_meet
              exact HM6.out
          case rest =>
            obtain ⟨out5, e5, C6, Dk5, hT6, hd0, ho1, ho2, hfin⟩ := hcut
            have hPp := HPp.out
            obtain ⟨hB6, hU6⟩ := hT6.leave HB1.out HP4.out (by omega) (by omega)
            have HB6 : Hid (BSt N0 wc b f s limit (P + wd) out5 e5 fr C6 D fs ks ∧ UpdS (fun j => N0 ≤ j) w wc) := ⟨hB6, HU1.out.same hU6⟩
            have HFN : Hid (kd = 2 ∨ match blkS s limit M p out with | none => False | some (.inl e) => e5 = e | some (.inr (p2, o2, _)) => e5 = 0 ∧ P + wd = p2 ∧ out5 = o2) := hfin
            obtain ⟨po5, co5, hvo5⟩ := hB6.st.oa.shape
            have c3 := hB6.st.wc.c 3 (by omega)
            rw [hvo5] at c3
            have c6 := hB6.st.wc.c 6 (by omega)
            rw [hT6.c6] at c6
            obtain ⟨xs, hrow, hks⟩ := hB6.blks.row
            obtain ⟨pf, gf, cf, hvf, _⟩ := row_open hrow
            have c5 := hB6.fc.c 5 (by omega)
            rw [hvf] at c5
            have f5 := hB6.fc.fz 5
            have k1 := hT6.bc.c 1 (by omega)
            have kf1 := hT6.bc.fz 1
            have hkl6 : k < wc.heap.size := hT6.bc.lt
            have hfk : f ≠ k := by have := hT6.nk; omega
            have hbk : b ≠ k := by have := hT6.nk; omega
            obtain ⟨E, hE⟩ : ∃ E, E = upV Dk5 1 (.int .i64 ((out5.length : Int) - (out.length : Int))) := ⟨_, rfl⟩
            obtain ⟨W7, hW7⟩ : ∃ W7, W7 = (wc.setCell ⟨k, 1, none⟩ (.int .i64 ((out5.length : Int) - (out.length : Int)))).drew := ⟨_, rfl⟩
            have HB7 : Hid (Bc W7 k E) := by
              rw [hW7, hE]
              exact (hT6.bc.set 1 (by omega) _).keep rfl
            have HXS : Hid (wc.ownsRow 0 48 12 (D 5) ks.length xs ∧ ∀ i, i < ks.length → xs[i * 12]? = some (.int .i64 (ks.getD i 0))) := ⟨hrow, hks⟩
            have HU7 : Hid (UpdS (fun q => q = k) wc W7) := by rw [hW7]; exact ⟨rfl, rfl, rfl, by simp [World.setCell], fun i _ h => Below.heap_setCell _ _ _ _ h⟩
            have d5 : W7.cell? ⟨f, 5, none⟩ = some (.slice pf ks.length cf) := (World.cell?_of_block (w := wc) (a := ⟨f, 5, none⟩) (HU7.out.block f hB6.fc.lt hfk)).trans c5
            have g5 : W7.frozen? ⟨f, 5, none⟩ = false := (World.frozen?_of_block (w := wc) (a := ⟨f, 5, none⟩) (HU7.out.block f hB6.fc.lt hfk)).trans f5
            have HE0 : Hid (E 0 = .int .i64 (kd : Int)) := by show _ = _; rw [hE, upV_other _ _ _ _ (by omega)]; exact hd0
            have HT6 : Hid (TSt N0 w1 wc b f k s limit (P + wd) out5 e5 fr C1 C6 D Dk5 out.length) := hT6
            have hksl : ks.length ≤ 16384 := by omega
            have ho1I : (out.length : Int) ≤ (out5.length : Int) := by omega
            have ho5I : (out5.length : Int) ≤ 800000000 := by omega
            clear hB6 hU6 hT6 hfin hrow hks hd0 hE hvo5 hPp
            go_wp2_with fail
            go_region
            go_upto_region 31 with fail
            rw [← hW7]
            clear hW7 k1 kf1 c3 c6 c5 f5
            have b0 := HB7.out.c 0 (by omega)
            have b1 := HB7.out.c 1 (by omega)
            have b2 := HB7.out.c 2 (by omega)
            have b3 := HB7.out.c 3 (by omega)
            have b4 := HB7.out.c 4 (by omega)
            have b5 := HB7.out.c 5 (by omega)
            have b6 := HB7.out.c 6 (by omega)
            have b7 := HB7.out.c 7 (by omega)
            have b8 := HB7.out.c 8 (by omega)
            have b9 := HB7.out.c 9 (by omega)
            have b10 := HB7.out.c 10 (by omega)
            have b11 := HB7.out.c 11 (by omega)
            have hfl7 : f < W7.heap.size := block_lt_of_cell d5
            have hkl7 : k < W7.heap.size := HB7.out.lt
            have hgk : ∀ j, (Value.slice pf ks.length cf).ownBlock = some j → j ≠ k := fun j hj e => by
              have h1 := HB1.out.st.yb j (.inr (.inr (by rw [hvf]; exact hj)))
              have h2 := HT6.out.nk
              omega
            have HRW : Hid (W7.ownsRow 0 48 12 (.slice pf ks.length cf) ks.length xs) := by
              have := HXS.out.1
              rw [hvf] at this
              exact row_same this (fun g hg => HU7.out.block g (row_lt this g hg).2 (hgk g hg))
            have HVF : Hid (D 5 = .slice pf ks.length cf) := hvf
            have HGK : Hid (∀ j, (Value.slice pf ks.length cf).ownBlock = some j → j ≠ k) := hgk
            clear hvf hgk
            go_cut [12] from 133 to 139 (fun v wx => ∃ g1 cap1, v = .slice (some ⟨g1, 0, none⟩) (ks.length + 1) cap1 ∧ wx.ownsRow 0 48 12 (.slice (some ⟨g1, 0, none⟩) (ks.length + 1) cap1) (ks.length + 1) (xs ++ [E 0, E 1, E 2, E 3, E 4, E 5, E 6, E 7, E 8, E 9, E 10, E 11]) ∧ UpdS (fun q => (Value.slice pf ks.length cf).ownBlock = some q) W7 wx ∧ Moved W7 (.slice pf ks.length cf) (.slice (some ⟨g1, 0, none⟩) (ks.length + 1) cap1))
            case first =>
              have HON : Hid (∀ u ∈ [E 0, E 1, E 2, E 3, E 4, E 5, E 6, E 7, E 8, E 9, E 10, E 11], u.oneCell' = true) := HB7.out.ones
              clear HB HB1 HBk HBAD HT3 HT5 HB6 HT6 HFN HXS HU7 HF3 HF5 HKY HWd HL HTX HTS HG0 HB7
              go_region_law ((refine apg_step Try.underlying43 fBlock rfl (by decide) (by rfl) (.tmp 136) (.tmp 138) (by rfl) (by first | rfl | simp) (gb := W7.heap.size) (by simp [Act.eval]) HRW.out (by omega) (by omega) (by repeat (first | exact Below.refl _ _ | refine Below.drew ?_ | refine Below.alloc ?_ (by simp <;> omega) _)) [E 0, E 1, E 2, E 3, E 4, E 5, E 6, E 7, E 8, E 9, E 10, E 11] (by rfl) (news_at (fun j _ => by exact alloc_news W7 [E 0, E 1, E 2, E 3, E 4, E 5, E 6, E 7, E 8, E 9, E 10, E 11] _ j)) HON.out ?_; intro g1 cap1 w5 hfin))
              all_goals
                go_wp2_with fail
                go_simp
                go_meet
                exact ⟨g1, cap1, rfl, hfin.out.1, hfin.out.2.1, hfin.out.2.2⟩
            case rest =>
              obtain ⟨g1, cap1, rfl, hO8, hU8, hM8⟩ := hcut
              rename World => w8
              have hT7 := HT6.out.cell HU7.out HB7.out
              obtain ⟨hB7, hU7⟩ := hT7.leave HB1.out HP4.out (by have := HB6.out.1.ol; exact this) (by have := HB6.out.1.kl; exact this)
              have hnf : (Value.slice pf ks.length cf).ownBlock ≠ some f := by rw [← HVF.out]; exact hB7.rf
              have x5 := (World.cell?_of_block (w := W7) (a := ⟨f, 5, none⟩) (hU8.block f hfl7 hnf)).trans d5
              have z5 := (World.frozen?_of_block (w := W7) (a := ⟨f, 5, none⟩) (hU8.block f hfl7 hnf)).trans g5
              have hkl0 := hkl
              have hPp := HPp.out
              have hadd := hB7.add (xs := xs) (news := [E 0, E 1, E 2, E 3, E 4, E 5, E 6, E 7, E 8, E 9, E 10, E 11]) (v' := .slice (some ⟨g1, 0, none⟩) (ks.length + 1) cap1) (kd := (kd : Int)) (by rw [HVF.out]; exact HRW.out) HXS.out.2 (by rw [HVF.out]; exact hU8) (by rw [HVF.out]; exact hM8) hO8 (by rw [← HE0.out]; rfl) (by omega)
              obtain ⟨lst, hlst⟩ : ∃ lst : Bool, lst = decide (H % 2 = 1) := ⟨_, rfl⟩
              have hl1 : ((H : Int) % 2 == 1) = lst := by
                rw [hlst]
                by_cases h : H % 2 = 1
                · rw [decide_eq_true h, beq_iff_eq]; omega
                · rw [decide_eq_false h, beq_eq_false_iff_ne]; omega
              have HQ : Hid (BlkQ N0 b f s limit p out fr D fs ks M w (.returned (.bool lst)) (w8.setCell ⟨f, 5, none⟩ (.slice (some ⟨g1, 0, none⟩) (ks.length + 1) cap1))) := by
                refine ⟨lst, P + wd, out5, e5, C6, _, ks ++ [(kd : Int)], rfl, hadd.1, fun i hi => upV_other _ _ _ _ hi, fun _ => by omega, ?_, fun h => List.mem_append_left _ h, ?_⟩
                · exact (HU1.out.same hU7).same (hB7.high hadd.2 (fun j _ e => .inr (.inr e)))
                · rcases HFN.out with e | e
                  · refine .inl ⟨List.mem_append_right _ ?_, by rw [HBk.out, if_pos e]⟩
                    rw [e]; exact List.mem_singleton.2 rfl
                  · refine .inr ?_
                    rw [HBk.out] at e ⊢
                    by_cases h2 : kd = 2
                    · rw [if_pos h2] at e; exact e.elim
                    · rw [if_neg h2] at e ⊢
                      by_cases hl : limit < (out.length : Int) + (n : Int)
                      · rw [if_pos hl] at e ⊢; exact e
                      · rw [if_neg hl] at e ⊢; exact ⟨e.1, e.2.1, e.2.2, hlst⟩
              clear hT7 hB7 hU7 hadd hO8 hU8 hM8 hPp hlst e1 hkl0 hnf
              go_wp2_with fail
              go_ret
              rw [← HMM.out]
              exact HQ.out
end Go.Proofs.Ytkfilgfcgmohlaa
