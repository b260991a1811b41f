import Derived.Test.YtkfilgfcgmohlaaJ10
import Derived.WalkKit
import Derived.WalkSpells
import Derived.WalkLawsBesides
import Derived.Deep.AppendLies
import Derived.Laws.OwnMore
import Derived.Deep.RegionLaw
import Derived.Deep.CutRange
namespace Go.Proofs.Ytkfilgfcgmohlaa
open Go.RowKit
/-- the world of pairwise -/
structure PwM (w wr : World) (lo hi t size log : Nat) (F Bt L : Nat → Nat) (xb r g m : Nat) (f : Nat → Nat) (pos : Nat) (v : Value) (n : Nat) (xs : List Value) (x0 x1 : Nat) : Prop where
  row : RRow w wr (xb + 1) r g m f pos 3 v n xs
  tab : TabAt wr lo hi t size log F Bt L
  c0 : wr.cell? ⟨xb, 0, none⟩ = some (.int .i64 (x0 : Int))
  c1 : wr.cell? ⟨xb, 1, none⟩ = some (.int .i64 (x1 : Int))
  fz : ∀ i, wr.frozen? ⟨xb, i, none⟩ = false
  ord : hi ≤ r ∧ r < xb ∧ (0 < m → g < xb) ∧ w.heap.size ≤ r
theorem PwM.more {w wr w1 : World} {lo hi t size log : Nat} {F Bt L : Nat → Nat} {xb r g m : Nat} {f : Nat → Nat} {pos : Nat} {v v' : Value} {n n' : Nat} {xs xs' : List Value} {x0 x1 : Nat} (h : PwM w wr lo hi t size log F Bt L xb r g m f pos v n xs x0 x1) (hr : w1.ownsRow (xb + 1) 3 1 v' n' xs') (hb : Below (xb + 1) wr w1) : PwM w w1 lo hi t size log F Bt L xb r g m f pos v' n' xs' x0 x1 :=
  ⟨h.row.more hr hb, h.tab.below hb (by have := h.ord; omega), (hb.cell (p := ⟨xb, 0, none⟩) (by show xb < xb + 1; omega)).trans h.c0, (hb.cell (p := ⟨xb, 1, none⟩) (by show xb < xb + 1; omega)).trans h.c1, fun i => (hb.frozen (p := ⟨xb, i, none⟩) (by show xb < xb + 1; omega)).trans (h.fz i), h.ord⟩
theorem PwM.reads {w wr w1 : World} {lo hi t size log : Nat} {F Bt L : Nat → Nat} {xb r g m : Nat} {f : Nat → Nat} {pos pos' : Nat} {v : Value} {n : Nat} {xs : List Value} {x0 x1 : Nat} (h : PwM w wr lo hi t size log F Bt L xb r g m f pos v n xs x0 x1) (hr : RdAt w1 r g m f pos') (hu : Upd r wr w1) : PwM w w1 lo hi t size log F Bt L xb r g m f pos' v n xs x0 x1 :=
  have hl : xb < wr.heap.size := block_lt_of_cell h.c0
  have hne : xb ≠ r := by have := h.ord; omega
  ⟨h.row.reads hr hu, h.tab.upd hu (by have := h.ord; omega) h.ord.1, (hu.cell (p := ⟨xb, 0, none⟩) hl hne).trans h.c0, (hu.cell (p := ⟨xb, 1, none⟩) hl hne).trans h.c1, fun i => (hu.frozen (p := ⟨xb, i, none⟩) hl hne).trans (h.fz i), h.ord⟩
theorem PwM.sm {w wr w1 : World} {lo hi t size log : Nat} {F Bt L : Nat → Nat} {xb r g m : Nat} {f : Nat → Nat} {pos : Nat} {v : Value} {n : Nat} {xs : List Value} {x0 x1 : Nat} (h : PwM w wr lo hi t size log F Bt L xb r g m f pos v n xs x0 x1) (hs : Sm wr w1) : PwM w w1 lo hi t size log F Bt L xb r g m f pos v n xs x0 x1 := h.reads (h.row.rd.sm hs) (hs.upd r)
theorem PwM.tabS {w wr : World} {lo hi t size log : Nat} {F Bt L : Nat → Nat} {xb r g m : Nat} {f : Nat → Nat} {pos : Nat} {v : Value} {n : Nat} {xs : List Value} {x0 x1 : Nat} (h : PwM w wr lo hi t size log F Bt L xb r g m f pos v n xs x0 x1) (u : Value) (i : Nat) : TabAt (wr.setCell ⟨xb, i, none⟩ u) lo hi t size log F Bt L := h.tab.keep (fun k _ h2 => Below.heap_setCell _ _ _ _ (by have := h.ord; show k ≠ xb; omega))
theorem PwM.set0 {w wr : World} {lo hi t size log : Nat} {F Bt L : Nat → Nat} {xb r g m : Nat} {f : Nat → Nat} {pos : Nat} {v : Value} {n : Nat} {xs : List Value} {x0 x1 : Nat} (h : PwM w wr lo hi t size log F Bt L xb r g m f pos v n xs x0 x1) (y : Nat) (z : Int) (hz : z = (y : Int)) : PwM w (wr.setCell ⟨xb, 0, none⟩ (.int .i64 z)) lo hi t size log F Bt L xb r g m f pos v n xs y x1 :=
  ⟨h.row.store _ _ (by have := h.ord; show r ≠ xb; omega) (fun hm => by have := h.ord.2.2.1 hm; show g ≠ xb; omega) (by show xb < xb + 1; omega) (by have := h.ord; show w.heap.size ≤ xb; omega), h.tabS _ _, by rw [cs_same h.c0, hz], (cs_other (addr_ne (by omega))).trans h.c1, fun i => by rw [World.frozen?_setCell]; exact h.fz i, h.ord⟩
theorem PwM.set1 {w wr : World} {lo hi t size log : Nat} {F Bt L : Nat → Nat} {xb r g m : Nat} {f : Nat → Nat} {pos : Nat} {v : Value} {n : Nat} {xs : List Value} {x0 x1 : Nat} (h : PwM w wr lo hi t size log F Bt L xb r g m f pos v n xs x0 x1) (y : Nat) (z : Int) (hz : z = (y : Int)) : PwM w (wr.setCell ⟨xb, 1, none⟩ (.int .i64 z)) lo hi t size log F Bt L xb r g m f pos v n xs x0 y :=
  ⟨h.row.store _ _ (by have := h.ord; show r ≠ xb; omega) (fun hm => by have := h.ord.2.2.1 hm; show g ≠ xb; omega) (by show xb < xb + 1; omega) (by have := h.ord; show w.heap.size ≤ xb; omega), h.tabS _ _, (cs_other (addr_ne (by omega))).trans h.c0, by rw [cs_same h.c1, hz], fun i => by rw [World.frozen?_setCell]; exact h.fz i, h.ord⟩
theorem ivs_map (l : List Nat) (x : Nat) : ivs (l.map fun (x : Nat) => (x : Int)) ++ [.int .i64 (x : Int)] = ivs ((l ++ [x]).map fun (x : Nat) => (x : Int)) := by simp [ivs]
theorem wAt_le (l : List Nat) (x c : Nat) (h : ∀ j, j < l.length → wAt l j ≤ c) (hx : x ≤ c) : ∀ j, j < (l ++ [x]).length → wAt (l ++ [x]) j ≤ c := by
  intro j hj
  by_cases e : j < l.length
  · rw [wAt_app _ _ _ e]; exact h j e
  · obtain rfl : j = l.length := by simp at hj; omega
    rw [wAt_end]; exact hx
theorem pairR_none {s : ByteArray} (h : headR s 6 11 = none) : PairR s none := ⟨by unfold pairM; rw [h]⟩
theorem pairR_some {s : ByteArray} {o : List Int} {log nb : Nat} {r : Option (List Nat)} (h : headR s 6 11 = some (o, log, nb)) (k : (NoLead (tailS s nb) ∧ r = none) ∨ ∃ z, Lead (tailS s nb) z ∧ r = if bkN (tailS s nb) z < 2 * log then none else
      pwR (symT o (2 ^ log)) (bitT o log) (lowT o log) (bkN (tailS s nb) z) (bkF (tailS s nb) z) 256 (highN (bkN (tailS s nb) z) (bkF (tailS s nb) z) 0 log) (highN (bkN (tailS s nb) z) (bkF (tailS s nb) z) log log) (2 * log) []) : PairR s r := ⟨by unfold pairM; rw [h]; exact k⟩
set_option maxRecDepth 100000 in
set_option maxHeartbeats 4000000 in
theorem pair_any (s : ByteArray) (w : World) (hs : s.size ≤ 1048576) :
    Calls Try.prog 93 #[.string s] w fun e w' => PairQ s w e w' := by
  go_enter Try.func93, Try.ntmps93
  go_wp2_with fail
  refine Calls.mono (show Calls _ _ #[_, .int .i64 ((6 : Nat) : Int), .int .i64 ((11 : Nat) : Int)] _ _ from header_any s 6 11 _ (by omega) (by omega) (by omega)) ?_
  rintro e w1 ⟨hb, hq⟩
  cases hH : headR s 6 11 with
  | none =>
    rw [hH] at hq
    obtain ⟨v, a, b, rfl⟩ := hq
    have HH : Hid (PairR s none ∧ Below w.heap.size w w1) := ⟨pairR_none hH, hb⟩
    clear hb hH
    go_wp2_with fail
    go_ret2
    exact ⟨none, HH.out.1, HH.out.2, _, rfl⟩
  | some x =>
    obtain ⟨o, log, nb⟩ := x
    rw [hH] at hq
    obtain ⟨v, rfl, hrow⟩ := hq
    obtain ⟨hl5, hl6, hnb, hd⟩ := headR_ok hH
    have hsz := pow_size hl5 (by omega)
    have hop := dist_pos hd hsz.pos
    obtain ⟨go, cp, rfl, hgo1, hgo2⟩ := hrow.form hop
    have hoc := headR_row hrow
    have HH : Hid (headR s 6 11 = some (o, log, nb)) := hH
    have HB : Hid (Below w.heap.size w w1) := hb
    have HD : Hid (Dist 11 o (2 ^ log) ∧ isSize (2 ^ log)) := ⟨hd, hsz⟩
    clear hb hH hd hrow hgo1 hgo2
    go_wp2_with fail
    refine (of_any o log go cp 11 _ hoc HD.out.1 HD.out.2 (by omega) (by omega)).mono ?_
    rintro e w2 ⟨t, gs, gb, gl, rfl, hO⟩
    have HT : Hid (TabAt w2 w1.heap.size w2.heap.size t (2 ^ log) log (symT o (2 ^ log)) (bitT o log) (lowT o log)) := hO.tab HD.out.2.pos
    have HB2 : Hid (Below w.heap.size w w2) := HB.out.trans (hO.bel.mono HB.out.size)
    have h12 : w1.heap.size ≤ w2.heap.size := hO.bel.size
    clear hO hoc
    have hnbI : (nb : Int) ≤ (s.size : Int) := by omega
    go_wp2_with fail
    refine Calls.mono (show Calls _ _ #[.string (tailS s nb)] _ _ from backward_any (tailS s nb) _ (by unfold tailS; rw [ByteArray.size_extract]; omega)) ?_
    rintro e w3 ⟨r, ok, rfl, hb3, hr3, hcase⟩
    rcases hcase with ⟨rfl, hnl⟩ | ⟨rfl, z, g, hL, hR⟩
    · have HF : Hid (PairR s none ∧ Below w.heap.size w w3) := ⟨pairR_some HH.out (.inl ⟨hnl, rfl⟩), HB2.out.trans (hb3.mono HB2.out.size)⟩
      clear hb3 hr3 hnl
      go_wp2_with fail
      go_ret2
      exact ⟨none, HF.out.1, HF.out.2, _, rfl⟩
    obtain ⟨m, hm⟩ : ∃ m, m = bkN (tailS s nb) z := ⟨_, rfl⟩
    obtain ⟨f, hf⟩ : ∃ f, f = bkF (tailS s nb) z := ⟨_, rfl⟩
    rw [← hm, ← hf] at hR
    obtain ⟨R, hRe⟩ : ∃ R, R = pwR (symT o (2 ^ log)) (bitT o log) (lowT o log) m f 256 (highN m f 0 log) (highN m f log log) (2 * log) [] := ⟨_, rfl⟩
    have HPR : Hid (PairR s (if m < 2 * log then none else R)) := pairR_some HH.out (.inr ⟨z, hL, by rw [hRe, hm, hf]⟩)
    have HRE : Hid (R = pwR (symT o (2 ^ log)) (bitT o log) (lowT o log) m f 256 (highN m f 0 log) (highN m f log log) (2 * log) []) := hRe
    have HB3 : Hid (Below w2.heap.size w2 w3) := hb3
    have hmb : m ≤ 1099511627776 := hR.len
    have hr2 : w2.heap.size ≤ r := hr3
    clear hb3 hm hf hL hRe HH HB hr3
    go_wp2_with fail
    refine (rd_left r g m f 0 _ hR).mono ?_
    rintro e w4 ⟨rfl, hsm4⟩
    have hR4 := hR.sm hsm4
    have HB4 : Hid (Below w2.heap.size w2 w4) := HB3.out.trans (hsm4.below _)
    rw [Nat.sub_zero]
    clear hR hsm4
    by_cases hm2 : m < 2 * log
    · rw [if_pos hm2] at HPR
      have hb5 : decide ((m : Int) < 2 * (log : Int)) = true := decide_eq_true (by omega)
      clear hR4
      go_wp2_with fail
      go_ret2
      exact ⟨none, HPR.out, HB2.out.trans (HB4.out.mono HB2.out.size), _, rfl⟩
    rw [if_neg hm2] at HPR
    have hb5 : decide ((m : Int) < 2 * (log : Int)) = false := decide_eq_false (by omega)
    have hrl := hR4.lt
    have hgl := hR4.glt
    have hf2 := hR4.two
    go_wp2_with fail
    refine (rd_high r g m f 0 log _ (hR4.alloc _) (by omega)).mono ?_
    rintro e w5 ⟨rfl, hR5, hU5⟩
    obtain ⟨xb, hxb⟩ : ∃ xb, xb = w4.heap.size := ⟨_, rfl⟩
    rw [← hxb] at hrl hgl
    have hrx : r ≠ xb := by omega
    have hgx : 0 < m → g ≠ xb := fun h => by have := hgl h; omega
    have cx0 : w5.cell? ⟨xb, 0, none⟩ = some (.int .i64 0) := by rw [hU5.cell (p := ⟨xb, 0, none⟩) (by rw [hxb]; simp) (Ne.symm hrx), hxb]; simp
    have cx1 : w5.cell? ⟨xb, 1, none⟩ = some (.int .i64 0) := by rw [hU5.cell (p := ⟨xb, 1, none⟩) (by rw [hxb]; simp) (Ne.symm hrx), hxb]; simp
    have fx : ∀ i, w5.frozen? ⟨xb, i, none⟩ = false := fun i => by rw [hU5.frozen (p := ⟨xb, i, none⟩) (by rw [hxb]; simp) (Ne.symm hrx), hxb]; simp
    have fx0 := fx 0
    have HFX : Hid (∀ i, w5.frozen? ⟨xb, i, none⟩ = false) := fx
    have hx2 : w2.heap.size ≤ xb := by rw [hxb]; exact HB4.out.size
    have HB5 : Hid (Below w2.heap.size w2 w5 ∧ xb + 1 ≤ w5.heap.size) := ⟨(HB4.out.alloc (by rw [← hxb]; exact hx2) _).trans (hU5.below hr2 (by simp; omega)), by have := hU5.size; rw [hxb]; simpa using this⟩
    rw [← hxb]
    obtain ⟨X0, hX0⟩ : ∃ X0, X0 = highN m f 0 log := ⟨_, rfl⟩
    have HX0 : Hid (X0 = highN m f 0 log) := hX0
    have hX0l : X0 < 2 ^ log := by rw [hX0]; exact highN_lt m f hf2 0 log
    rw [← hX0]
    rw [Nat.zero_add] at hR5
    clear fx hX0 hU5 hR4 hxb
    have hR6 : RdAt (w5.setCell ⟨xb, 0, none⟩ (.int .i64 (X0 : Int))) r g m f log := hR5.keep (Below.heap_setCell _ _ _ _ hrx) (fun h => Below.heap_setCell _ _ _ _ (hgx h))
    clear hR5
    go_wp2_with fail
    refine (rd_high r g m f log log _ hR6 (by omega)).mono ?_
    rintro e w7 ⟨rfl, hR7, hU7⟩
    have hxl : xb < (w5.setCell ⟨xb, 0, none⟩ (.int .i64 (X0 : Int))).heap.size := by rw [World.size_setCell]; have := HB5.out.2; omega
    have dx0 : w7.cell? ⟨xb, 0, none⟩ = some (.int .i64 (X0 : Int)) := (hU7.cell (p := ⟨xb, 0, none⟩) hxl (Ne.symm hrx)).trans (cs_same cx0)
    have dx1 : w7.cell? ⟨xb, 1, none⟩ = some (.int .i64 0) := (hU7.cell (p := ⟨xb, 1, none⟩) hxl (Ne.symm hrx)).trans ((cs_other (addr_ne (by omega))).trans cx1)
    have dfx : ∀ i, w7.frozen? ⟨xb, i, none⟩ = false := fun i => by rw [hU7.frozen (p := ⟨xb, i, none⟩) hxl (Ne.symm hrx), World.frozen?_setCell]; exact HFX.out i
    have df1 := dfx 1
    have HB7 : Hid (Below w2.heap.size w2 w7 ∧ xb + 1 ≤ w7.heap.size) := ⟨(HB5.out.1.setCell hx2 _).trans (hU7.below hr2 (by rw [World.size_setCell]; have := HB5.out.2; omega)), by have := hU7.size; rw [World.size_setCell] at this; have := HB5.out.2; omega⟩
    obtain ⟨X1, hX1⟩ : ∃ X1, X1 = highN m f log log := ⟨_, rfl⟩
    have HX1 : Hid (X1 = highN m f log log) := hX1
    have hX1l : X1 < 2 ^ log := by rw [hX1]; exact highN_lt m f hf2 log log
    rw [← hX1]
    have HFX7 : Hid (∀ i, w7.frozen? ⟨xb, i, none⟩ = false) := dfx
    have HR8 : Hid (RRow w (w7.setCell ⟨xb, 1, none⟩ (.int .i64 (X1 : Int))) (xb + 1) r g m f (2 * log) 3 (.slice none 0 0) 0 (ivs [])) := by
      refine ⟨?_, World.ownsRow_nil _ _ _ _, ?_, by rw [World.size_setCell]; exact HB7.out.2, by omega, fun h => by have := hgl h; omega, by have := HB2.out.size; omega⟩
      · rw [show 2 * log = log + log by omega]
        exact hR7.keep (Below.heap_setCell _ _ _ _ hrx) (fun h => Below.heap_setCell _ _ _ _ (hgx h))
      · exact HB2.out.trans (Below.mono (HB7.out.1.setCell hx2 _) HB2.out.size)
    have ex0 : (w7.setCell ⟨xb, 1, none⟩ (.int .i64 (X1 : Int))).cell? ⟨xb, 0, none⟩ = some (.int .i64 (X0 : Int)) := (cs_other (addr_ne (by omega))).trans dx0
    have ex1 : (w7.setCell ⟨xb, 1, none⟩ (.int .i64 (X1 : Int))).cell? ⟨xb, 1, none⟩ = some (.int .i64 (X1 : Int)) := cs_same dx1
    have HFX8 : Hid (∀ i, (w7.setCell ⟨xb, 1, none⟩ (.int .i64 (X1 : Int))).frozen? ⟨xb, i, none⟩ = false) := fun i => by rw [World.frozen?_setCell]; exact HFX7.out i
    have HT8 : Hid (TabAt (w7.setCell ⟨xb, 1, none⟩ (.int .i64 (X1 : Int))) w1.heap.size w2.heap.size t (2 ^ log) log (symT o (2 ^ log)) (bitT o log) (lowT o log)) := HT.out.below (HB7.out.1.setCell hx2 _) (Nat.le_refl _)
    clear hX1 hR7 hU7 dfx cx0 cx1 fx0 hR6 HFX HFX7 HB7 HB5 HB4 HB3 HT
    go_wp2_with fail
    have HP8 : Hid (PwM w (w7.setCell ⟨xb, 1, none⟩ (.int .i64 (X1 : Int))) w1.heap.size w2.heap.size t (2 ^ log) log (symT o (2 ^ log)) (bitT o log) (lowT o log) xb r g m f (2 * log) (.slice none 0 0) 0 (ivs []) X0 X1) :=
      ⟨HR8.out, HT8.out, ex0, ex1, HFX8.out, hr2, hrl, hgl, by have := HB2.out.size; omega⟩
    generalize (w7.setCell ⟨xb, 1, none⟩ (.int .i64 (X1 : Int))) = W8 at HP8 ⊢
    have HW : Hid (w.heap.size ≤ xb + 1) := by have := HB2.out.size; show _ ≤ _; omega
    rw [← HX0.out, ← HX1.out] at HRE
    clear HR8 HT8 ex0 ex1 HFX8 dx0 dx1 df1 hxl HX0 HX1
    go_loopw [11, 12] (fun ov iv wr => ∃ (i x0 x1 pos : Nat) (l : List Nat), iv = .int .i64 i ∧ i ≤ 256 ∧ l.length = i ∧ x0 < 2 ^ log ∧ x1 < 2 ^ log ∧ (∀ j, j < l.length → wAt l j ≤ 11) ∧
        PwM w wr w1.heap.size w2.heap.size t (2 ^ log) log (symT o (2 ^ log)) (bitT o log) (lowT o log) xb r g m f pos ov l.length (ivs (l.map fun (x : Nat) => (x : Int))) x0 x1 ∧
        pwR (symT o (2 ^ log)) (bitT o log) (lowT o log) m f (256 - i) (if i % 2 = 0 then x0 else x1) (if i % 2 = 0 then x1 else x0) pos l = R) (fun _ iv _ => (256 - intOf iv).toNat)
    case atStart => exact ⟨0, X0, X1, 2 * log, [], rfl, by omega, rfl, hX0l, hX1l, fun j hj => by simp at hj, HP8.out, HRE.out.symm⟩
    case round =>
      clear HP8 HRE
      obtain ⟨i, x0, x1, pos, l, rfl, hi, hli, hx0, hx1, h11, hP, hpw⟩ := hrel
      have HP : Hid (PwM w wr w1.heap.size w2.heap.size t (2 ^ log) log (symT o (2 ^ log)) (bitT o log) (lowT o log) xb r g m f pos u11 l.length (ivs (l.map fun (x : Nat) => (x : Int))) x0 x1) := hP
      have H11 : Hid (∀ j, j < l.length → wAt l j ≤ 11) := h11
      have HLI : Hid (l.length = i) := hli
      have hl256 : l.length ≤ 256 := by omega
      clear hli
      have HPW : Hid (pwR (symT o (2 ^ log)) (bitT o log) (lowT o log) m f (256 - i) (if i % 2 = 0 then x0 else x1) (if i % 2 = 0 then x1 else x0) pos l = R) := hpw
      have hrow := hP.row.row
      have hbig := hP.row.big
      have c0 := hP.c0
      have c1 := hP.c1
      have hxw : xb < wr.heap.size := block_lt_of_cell c0
      obtain ⟨gs, gb, gl, t0, t1, t2, t3, hs4, hb4, hl4, q1, q2, q3, q4, q5, q6⟩ := hP.tab.ex
      clear hP h11 hpw
      by_cases hi256 : i < 256
      · rcases (show i % 2 = 0 ∨ i % 2 = 1 by omega) with hp | hp
        · have hpe : (i : Int) % 2 = 0 := by omega
          have hpt : (i : Int).tmod 2 = 0 := by rw [Int.tmod_eq_emod_of_nonneg (by omega)]; omega
          have hin : i % 2 = 0 := by omega
          rw [if_pos hp, if_pos hp] at HPW
          have hF := (sym_ok o HD.out.2 HD.out.1 x0 hx0).1
          have hF' := (sym_ok o HD.out.2 HD.out.1 x1 hx1).1
          have hlk := low_ok o HD.out.2 HD.out.1 x0 hx0
          have hdl := HD.out.1.len
          have hsc := hs4.c x0 hx0
          have hso := hs4.c x1 hx1
          have hbc := hb4.c x0 hx0
          have hlc := hl4.c x0 hx0
          obtain ⟨S1, hS1⟩ : ∃ S1, S1 = symT o (2 ^ log) x0 := ⟨_, rfl⟩
          obtain ⟨S2, hS2⟩ : ∃ S2, S2 = symT o (2 ^ log) x1 := ⟨_, rfl⟩
          obtain ⟨b, hbe⟩ : ∃ b, b = bitT o log x0 := ⟨_, rfl⟩
          obtain ⟨lw, hlw⟩ : ∃ lw, lw = lowT o log x0 := ⟨_, rfl⟩
          rw [← hS1] at hsc hF
          rw [← hS2] at hso hF'
          rw [← hbe] at hbc hlk
          rw [← hlw] at hlc hlk
          have HSTEP : Hid (pwR (symT o (2 ^ log)) (bitT o log) (lowT o log) m f (256 - i) x0 x1 pos l = if m - pos < b then some (l ++ [S1] ++ [S2]) else pwR (symT o (2 ^ log)) (bitT o log) (lowT o log) m f (256 - (i + 1)) x1 (lw + highN m f pos b) (pos + b) (l ++ [S1])) := by
            show _ = _
            rw [show 256 - i = (256 - (i + 1)) + 1 by omega, pwR, ← hS1, ← hS2, ← hbe, ← hlw]
          have hb6 : b ≤ 9 := by have := hlk.1; omega
          have hlwb : lw ≤ 512 := Nat.le_trans (Nat.le_add_right lw (2 ^ b)) (Nat.le_trans hlk.2.2 HD.out.2.le)
          have h2b : 2 ^ b ≤ 2 ^ 9 := Nat.pow_le_pow_right (by omega) hb6
          have HLK : Hid (lw + 2 ^ b ≤ 2 ^ log) := hlk.2.2
          have hs2I : ((x0 : Nat) : Int) < ((2 ^ log : Nat) : Int) := by omega
          have hs2O : ((x1 : Nat) : Int) < ((2 ^ log : Nat) : Int) := by omega
          have hs20 : (0 : Int) ≤ ((x0 : Nat) : Int) := by omega
          have hs20' : (0 : Int) ≤ ((x1 : Nat) : Int) := by omega
          have hs2P : (((x1 : Nat) : Int) < (2 : Int) ^ log) := by rw [show (2 : Int) ^ log = ((2 ^ log : Nat) : Int) by norm_cast]; omega
          have HSS : Hid (S1 ≤ 11 ∧ S2 ≤ 11) := by show _ ∧ _; omega
          have HEQ : Hid (S1 = symT o (2 ^ log) x0 ∧ S2 = symT o (2 ^ log) x1 ∧ b = bitT o log x0 ∧ lw = lowT o log x0) := ⟨hS1, hS2, hbe, hlw⟩
          clear hS1 hS2 hbe hlw hlk hdl hF hF'
          go_upto_region 17 with (at_builtin; refine ia_list (by rfl) (.tmp 59) (.tmp 67) (by rfl) (by first | rfl | simp) (gb := wr.heap.size) (y := (S1 : Int)) (by simp [Act.eval]) (by omega) hrow hbig (by repeat (first | exact Below.refl _ _ | refine Below.drew ?_ | refine Below.alloc ?_ (by simp <;> omega) _)) (by simp) ?_; intro g1 cap1 w9 hfin)
          have HP9 : Hid (PwM w w9 w1.heap.size w2.heap.size t (2 ^ log) log (symT o (2 ^ log)) (bitT o log) (lowT o log) xb r g m f pos (.slice (some ⟨g1, 0, none⟩) (l.length + 1) cap1) (l.length + 1) (ivs (l.map fun (x : Nat) => (x : Int)) ++ [.int .i64 (S1 : Int)]) x0 x1) := HP.out.more hfin.out.1 hfin.out.2
          clear hfin hrow hbig c0 c1 t0 t1 t2 t3 hs4 hb4 hl4 q1 q2 q3 q4 q5 q6 hsc hso hbc hlc hxw
          obtain ⟨gs', gb', gl', t0, t1, t2, t3, hs', hb', hl', q1, q2, q3, q4, q5, q6⟩ := HP9.out.tab.ex
          have bc := hb'.c x0 hx0
          rw [← HEQ.out.2.2.1] at bc
          have hrd9 := HP9.out.row.rd
          clear hs' hb' hl' q1 q2 q3 q4 q5 q6
          go_cut [78] from 51 to 113 (fun bv wx => bv = .bool (decide (m - pos < b)) ∧ PwM w wx w1.heap.size w2.heap.size t (2 ^ log) log (symT o (2 ^ log)) (bitT o log) (lowT o log) xb r g m f pos (.slice (some ⟨g1, 0, none⟩) (l.length + 1) cap1) (l.length + 1) (ivs (l.map fun (x : Nat) => (x : Int)) ++ [.int .i64 (S1 : Int)]) x0 x1)
          case first =>
            go_region_with (go_at_call 103; refine (rd_left r g m f pos _ (by first | exact hrd9.drew | exact hrd9)).mono ?_; rintro e w10 ⟨rfl, hs10⟩; have d2 := (hs10.cell ⟨t, 1 + 1, none⟩).trans t2; have db := (hs10.cell ⟨gb', x0, none⟩).trans bc)
            all_goals
              go_wp2_with fail
              go_meet
              exact ⟨rfl, by first | exact HP9.out.sm (((Sm.refl _).drew).trans hs10) | exact HP9.out.sm hs10 | exact (HP9.out.sm hs10).sm ((Sm.refl _).drew)⟩
          case rest =>
            obtain ⟨rfl, hP10⟩ := hcut
            have HP10 : Hid (PwM w wc w1.heap.size w2.heap.size t (2 ^ log) log (symT o (2 ^ log)) (bitT o log) (lowT o log) xb r g m f pos (.slice (some ⟨g1, 0, none⟩) (l.length + 1) cap1) (l.length + 1) (ivs (l.map fun (x : Nat) => (x : Int)) ++ [.int .i64 (S1 : Int)]) x0 x1) := hP10
            clear hP10 HP9 t0 t1 t2 t3 bc hrd9
            obtain ⟨gs2, gb2, gl2, t0, t1, t2, t3, hs', hb', hl', q1, q2, q3, q4, q5, q6⟩ := HP10.out.tab.ex
            have bc := hb'.c x0 hx0
            have sc := hs'.c x1 hx1
            have lc := hl'.c x0 hx0
            rw [← HEQ.out.2.2.1] at bc
            rw [← HEQ.out.2.1] at sc
            rw [← HEQ.out.2.2.2] at lc
            have c0 := HP10.out.c0
            have c1 := HP10.out.c1
            have fz := HP10.out.fz 0
            have hrd := HP10.out.row.rd
            have hrow := HP10.out.row.row
            have hbig := HP10.out.row.big
            have hxw : xb < wc.heap.size := block_lt_of_cell c0
            have htw : t < wc.heap.size := block_lt_of_cell t0
            have hgsw : gs2 < wc.heap.size := block_lt_of_cell sc
            clear hs' hb' hl' q1 q2 q3 q4 q5 q6
            have hw0 : IntKind.i64.wrap 0 = 0 := i64_id _ (by omega) (by omega)
            have hw1 : IntKind.i64.wrap 1 = 1 := i64_id _ (by omega) (by omega)
            by_cases hlt : m - pos < b
            · rw [if_pos hlt] at HSTEP
              have hdb : decide (m - pos < b) = true := decide_eq_true hlt
              rw [hdb]
              go_wp2_with fail
              go_region_law ((refine ia_step (by rfl) (.tmp 79) (.tmp 91) (by rfl) (by first | rfl | simp) (gb := wc.heap.size) (y := (S2 : Int)) (by simp [Act.eval]) (by omega) hrow hbig (by repeat (first | exact Below.refl _ _ | refine Below.drew ?_ | refine Below.alloc ?_ (by simp <;> omega) _)) (by simp) ?_; intro g3 cap3 w11 hfin))
              all_goals
                go_wp2_with fail
                go_ret2
                refine ⟨some (l ++ [S1] ++ [S2]), ?_, ?_, _, rfl, ?_, ?_, ?_⟩
                · rw [← HSTEP.out, HPW.out]; exact HPR.out
                · exact HP10.out.row.bel.trans (hfin.out.2.mono HW.out)
                · rw [← ivs_map, ← ivs_map, show (l ++ [S1] ++ [S2]).length = l.length + 1 + 1 by simp]
                  exact row_mono hfin.out.1 HW.out
                · have := HLI.out; simp; omega
                · exact wAt_le _ _ _ (wAt_le _ _ _ H11.out HSS.out.1) HSS.out.2
            · rw [if_neg hlt] at HSTEP
              have hdb : decide (m - pos < b) = false := decide_eq_false hlt
              rw [hdb]
              go_wp2_with fail
              refine (rd_high r g m f pos b _ hrd (by omega)).mono ?_
              rintro e w12 ⟨rfl, hR12, hU12⟩
              have HP12 : Hid (PwM w w12 w1.heap.size w2.heap.size t (2 ^ log) log (symT o (2 ^ log)) (bitT o log) (lowT o log) xb r g m f (pos + b) (.slice (some ⟨g1, 0, none⟩) (l.length + 1) cap1) (l.length + 1) (ivs (l.map fun (x : Nat) => (x : Int)) ++ [.int .i64 (S1 : Int)]) x0 x1) := HP10.out.reads hR12 hU12
              have hvl := highN_lt m f hf2 pos b
              obtain ⟨y, hy⟩ : ∃ y, y = highN m f pos b := ⟨_, rfl⟩
              have HY : Hid (y = highN m f pos b) := hy
              rw [← hy] at hvl ⊢
              clear t0 t1 t2 t3 bc sc lc c0 c1 fz hrd hrow hbig hxw htw hgsw hR12 hU12 hy
              obtain ⟨gs3, gb3, gl3, t0, t1, t2, t3, hs', hb', hl', q1, q2, q3, q4, q5, q6⟩ := HP12.out.tab.ex
              have lc := hl'.c x0 hx0
              rw [← HEQ.out.2.2.2] at lc
              have c0 := HP12.out.c0
              have fz := HP12.out.fz 0
              clear hs' hb' hl' q1 q2 q3 q4 q5 q6
              go_wp2_with fail
              refine ⟨⟨i + 1, lw + y, x1, pos + b, l ++ [S1], by go_num, by omega, by simp [HLI.out], ?_, ?_, wAt_le _ _ _ H11.out HSS.out.1, ?_, ?_⟩, by simp [intOf]; omega⟩
              · have := HLK.out; omega
              · exact hx1
              · rw [← ivs_map, show (l ++ [S1]).length = l.length + 1 by simp]
                exact HP12.out.set0 (lw + y) ((lw : Int) + (y : Int)) (by omega)
              · rw [if_neg (show ¬ (i + 1) % 2 = 0 by omega), if_neg (show ¬ (i + 1) % 2 = 0 by omega), ← HPW.out, HSTEP.out, ← HY.out]
        · have hpe : (i : Int) % 2 = 1 := by omega
          have hpt : (i : Int).tmod 2 = 1 := by rw [Int.tmod_eq_emod_of_nonneg (by omega)]; omega
          have hin : i % 2 = 1 := by omega
          rw [if_neg (show ¬ i % 2 = 0 by omega), if_neg (show ¬ i % 2 = 0 by omega)] at HPW
          have hF := (sym_ok o HD.out.2 HD.out.1 x1 hx1).1
          have hF' := (sym_ok o HD.out.2 HD.out.1 x0 hx0).1
          have hlk := low_ok o HD.out.2 HD.out.1 x1 hx1
          have hdl := HD.out.1.len
          have hsc := hs4.c x1 hx1
          have hso := hs4.c x0 hx0
          have hbc := hb4.c x1 hx1
          have hlc := hl4.c x1 hx1
          obtain ⟨S1, hS1⟩ : ∃ S1, S1 = symT o (2 ^ log) x1 := ⟨_, rfl⟩
          obtain ⟨S2, hS2⟩ : ∃ S2, S2 = symT o (2 ^ log) x0 := ⟨_, rfl⟩
          obtain ⟨b, hbe⟩ : ∃ b, b = bitT o log x1 := ⟨_, rfl⟩
          obtain ⟨lw, hlw⟩ : ∃ lw, lw = lowT o log x1 := ⟨_, rfl⟩
          rw [← hS1] at hsc hF
          rw [← hS2] at hso hF'
          rw [← hbe] at hbc hlk
          rw [← hlw] at hlc hlk
          have HSTEP : Hid (pwR (symT o (2 ^ log)) (bitT o log) (lowT o log) m f (256 - i) x1 x0 pos l = if m - pos < b then some (l ++ [S1] ++ [S2]) else pwR (symT o (2 ^ log)) (bitT o log) (lowT o log) m f (256 - (i + 1)) x0 (lw + highN m f pos b) (pos + b) (l ++ [S1])) := by
            show _ = _
            rw [show 256 - i = (256 - (i + 1)) + 1 by omega, pwR, ← hS1, ← hS2, ← hbe, ← hlw]
          have hb6 : b ≤ 9 := by have := hlk.1; omega
          have hlwb : lw ≤ 512 := Nat.le_trans (Nat.le_add_right lw (2 ^ b)) (Nat.le_trans hlk.2.2 HD.out.2.le)
          have h2b : 2 ^ b ≤ 2 ^ 9 := Nat.pow_le_pow_right (by omega) hb6
          have HLK : Hid (lw + 2 ^ b ≤ 2 ^ log) := hlk.2.2
          have hs2I : ((x1 : Nat) : Int) < ((2 ^ log : Nat) : Int) := by omega
          have hs2O : ((x0 : Nat) : Int) < ((2 ^ log : Nat) : Int) := by omega
          have hs20 : (0 : Int) ≤ ((x1 : Nat) : Int) := by omega
          have hs20' : (0 : Int) ≤ ((x0 : Nat) : Int) := by omega
          have hs2P : (((x0 : Nat) : Int) < (2 : Int) ^ log) := by rw [show (2 : Int) ^ log = ((2 ^ log : Nat) : Int) by norm_cast]; omega
          have HSS : Hid (S1 ≤ 11 ∧ S2 ≤ 11) := by show _ ∧ _; omega
          have HEQ : Hid (S1 = symT o (2 ^ log) x1 ∧ S2 = symT o (2 ^ log) x0 ∧ b = bitT o log x1 ∧ lw = lowT o log x1) := ⟨hS1, hS2, hbe, hlw⟩
          clear hS1 hS2 hbe hlw hlk hdl hF hF'
          go_upto_region 17 with (at_builtin; refine ia_list (by rfl) (.tmp 59) (.tmp 67) (by rfl) (by first | rfl | simp) (gb := wr.heap.size) (y := (S1 : Int)) (by simp [Act.eval]) (by omega) hrow hbig (by repeat (first | exact Below.refl _ _ | refine Below.drew ?_ | refine Below.alloc ?_ (by simp <;> omega) _)) (by simp) ?_; intro g1 cap1 w9 hfin)
          have HP9 : Hid (PwM w w9 w1.heap.size w2.heap.size t (2 ^ log) log (symT o (2 ^ log)) (bitT o log) (lowT o log) xb r g m f pos (.slice (some ⟨g1, 0, none⟩) (l.length + 1) cap1) (l.length + 1) (ivs (l.map fun (x : Nat) => (x : Int)) ++ [.int .i64 (S1 : Int)]) x0 x1) := HP.out.more hfin.out.1 hfin.out.2
          clear hfin hrow hbig c0 c1 t0 t1 t2 t3 hs4 hb4 hl4 q1 q2 q3 q4 q5 q6 hsc hso hbc hlc hxw
          obtain ⟨gs', gb', gl', t0, t1, t2, t3, hs', hb', hl', q1, q2, q3, q4, q5, q6⟩ := HP9.out.tab.ex
          have bc := hb'.c x1 hx1
          rw [← HEQ.out.2.2.1] at bc
          have hrd9 := HP9.out.row.rd
          clear hs' hb' hl' q1 q2 q3 q4 q5 q6
          go_cut [78] from 51 to 113 (fun bv wx => bv = .bool (decide (m - pos < b)) ∧ PwM w wx w1.heap.size w2.heap.size t (2 ^ log) log (symT o (2 ^ log)) (bitT o log) (lowT o log) xb r g m f pos (.slice (some ⟨g1, 0, none⟩) (l.length + 1) cap1) (l.length + 1) (ivs (l.map fun (x : Nat) => (x : Int)) ++ [.int .i64 (S1 : Int)]) x0 x1)
          case first =>
            go_region_with (go_at_call 103; refine (rd_left r g m f pos _ (by first | exact hrd9.drew | exact hrd9)).mono ?_; rintro e w10 ⟨rfl, hs10⟩; have d2 := (hs10.cell ⟨t, 1 + 1, none⟩).trans t2; have db := (hs10.cell ⟨gb', x1, none⟩).trans bc)
            all_goals
              go_wp2_with fail
              go_meet
              exact ⟨rfl, by first | exact HP9.out.sm (((Sm.refl _).drew).trans hs10) | exact HP9.out.sm hs10 | exact (HP9.out.sm hs10).sm ((Sm.refl _).drew)⟩
          case rest =>
            obtain ⟨rfl, hP10⟩ := hcut
            have HP10 : Hid (PwM w wc w1.heap.size w2.heap.size t (2 ^ log) log (symT o (2 ^ log)) (bitT o log) (lowT o log) xb r g m f pos (.slice (some ⟨g1, 0, none⟩) (l.length + 1) cap1) (l.length + 1) (ivs (l.map fun (x : Nat) => (x : Int)) ++ [.int .i64 (S1 : Int)]) x0 x1) := hP10
            clear hP10 HP9 t0 t1 t2 t3 bc hrd9
            obtain ⟨gs2, gb2, gl2, t0, t1, t2, t3, hs', hb', hl', q1, q2, q3, q4, q5, q6⟩ := HP10.out.tab.ex
            have bc := hb'.c x1 hx1
            have sc := hs'.c x0 hx0
            have lc := hl'.c x1 hx1
            rw [← HEQ.out.2.2.1] at bc
            rw [← HEQ.out.2.1] at sc
            rw [← HEQ.out.2.2.2] at lc
            have c0 := HP10.out.c0
            have c1 := HP10.out.c1
            have fz := HP10.out.fz 1
            have hrd := HP10.out.row.rd
            have hrow := HP10.out.row.row
            have hbig := HP10.out.row.big
            have hxw : xb < wc.heap.size := block_lt_of_cell c0
            have htw : t < wc.heap.size := block_lt_of_cell t0
            have hgsw : gs2 < wc.heap.size := block_lt_of_cell sc
            clear hs' hb' hl' q1 q2 q3 q4 q5 q6
            have hw0 : IntKind.i64.wrap 0 = 0 := i64_id _ (by omega) (by omega)
            have hw1 : IntKind.i64.wrap 1 = 1 := i64_id _ (by omega) (by omega)
            by_cases hlt : m - pos < b
            · rw [if_pos hlt] at HSTEP
              have hdb : decide (m - pos < b) = true := decide_eq_true hlt
              rw [hdb]
              go_wp2_with fail
              go_region_law ((refine ia_step (by rfl) (.tmp 79) (.tmp 91) (by rfl) (by first | rfl | simp) (gb := wc.heap.size) (y := (S2 : Int)) (by simp [Act.eval]) (by omega) hrow hbig (by repeat (first | exact Below.refl _ _ | refine Below.drew ?_ | refine Below.alloc ?_ (by simp <;> omega) _)) (by simp) ?_; intro g3 cap3 w11 hfin))
              all_goals
                go_wp2_with fail
                go_ret2
                refine ⟨some (l ++ [S1] ++ [S2]), ?_, ?_, _, rfl, ?_, ?_, ?_⟩
                · rw [← HSTEP.out, HPW.out]; exact HPR.out
                · exact HP10.out.row.bel.trans (hfin.out.2.mono HW.out)
                · rw [← ivs_map, ← ivs_map, show (l ++ [S1] ++ [S2]).length = l.length + 1 + 1 by simp]
                  exact row_mono hfin.out.1 HW.out
                · have := HLI.out; simp; omega
                · exact wAt_le _ _ _ (wAt_le _ _ _ H11.out HSS.out.1) HSS.out.2
            · rw [if_neg hlt] at HSTEP
              have hdb : decide (m - pos < b) = false := decide_eq_false hlt
              rw [hdb]
              go_wp2_with fail
              refine (rd_high r g m f pos b _ hrd (by omega)).mono ?_
              rintro e w12 ⟨rfl, hR12, hU12⟩
              have HP12 : Hid (PwM w w12 w1.heap.size w2.heap.size t (2 ^ log) log (symT o (2 ^ log)) (bitT o log) (lowT o log) xb r g m f (pos + b) (.slice (some ⟨g1, 0, none⟩) (l.length + 1) cap1) (l.length + 1) (ivs (l.map fun (x : Nat) => (x : Int)) ++ [.int .i64 (S1 : Int)]) x0 x1) := HP10.out.reads hR12 hU12
              have hvl := highN_lt m f hf2 pos b
              obtain ⟨y, hy⟩ : ∃ y, y = highN m f pos b := ⟨_, rfl⟩
              have HY : Hid (y = highN m f pos b) := hy
              rw [← hy] at hvl ⊢
              clear t0 t1 t2 t3 bc sc lc c0 c1 fz hrd hrow hbig hxw htw hgsw hR12 hU12 hy
              obtain ⟨gs3, gb3, gl3, t0, t1, t2, t3, hs', hb', hl', q1, q2, q3, q4, q5, q6⟩ := HP12.out.tab.ex
              have lc := hl'.c x1 hx1
              rw [← HEQ.out.2.2.2] at lc
              have c1 := HP12.out.c1
              have fz := HP12.out.fz 1
              clear hs' hb' hl' q1 q2 q3 q4 q5 q6
              go_wp2_with fail
              refine ⟨⟨i + 1, x0, lw + y, pos + b, l ++ [S1], by go_num, by omega, by simp [HLI.out], ?_, ?_, wAt_le _ _ _ H11.out HSS.out.1, ?_, ?_⟩, by simp [intOf]; omega⟩
              · exact hx0
              · have := HLK.out; omega
              · rw [← ivs_map, show (l ++ [S1]).length = l.length + 1 by simp]
                exact HP12.out.set1 (lw + y) ((lw : Int) + (y : Int)) (by omega)
              · rw [if_pos (show (i + 1) % 2 = 0 by omega), if_pos (show (i + 1) % 2 = 0 by omega), ← HPW.out, HSTEP.out, ← HY.out]
      · obtain rfl : i = 256 := by omega
        have HN : Hid (R = none) := by
          show _ = _
          rw [← HPW.out, show 256 - 256 = 0 from rfl, pwR]
        clear hrow hbig c0 c1 t0 t1 t2 t3 hs4 hb4 hl4 q1 q2 q3 q4 q5 q6 hxw HPW
        go_wp2_with fail
        go_ret2
        rw [HN.out] at HPR
        exact ⟨none, HPR.out, HP.out.row.bel, _, rfl⟩
end Go.Proofs.Ytkfilgfcgmohlaa
