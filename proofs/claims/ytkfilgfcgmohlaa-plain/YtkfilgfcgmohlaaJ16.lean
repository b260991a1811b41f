import Derived.Test.YtkfilgfcgmohlaaJ15
import Derived.WalkKit
import Derived.WalkSpells
import Derived.WalkLawsBesides
import Derived.Laws.ResultCell
import Derived.Laws.Rows
namespace Go.Proofs.Ytkfilgfcgmohlaa
open Go.RowKit
theorem results_head {fn : Func} {p u : Tmp} (h : fn.results = #[.cell p 109, .tmp u]) (tmps : Array Value) (w : World) (g : Nat) (cs : Array Value)
    (hp : tmps.getD p undef = .pointer (some ⟨g, 0, none⟩)) (hg : w.heap[g]? = some (.cells cs 109 (0, 0))) (hi : cs.size = 4) :
    (results fn tmps).run Try.prog w = .ok (.tuple #[.agg cs, tmps.getD u undef]) w := by
  have hl := run_loadVar_row (P := Try.prog) w g 109 109 cs (0, 0) _ hg Try.underlying109 rfl (by rw [hi]; exact fHead)
  rw [results_cell_tmp h, hp]
  simp [asAddr, hl, Result.andThen]
theorem set_twice (w : World) (p : Addr) (a b : Value) : (w.setCell p a).setCell p b = w.setCell p b := by
  simp only [World.setCell]
  congr 1
  apply Array.ext_getElem?
  intro i
  simp only [Array.getElem?_modify]
  by_cases hi : p.block = i
  · simp only [hi, if_true]
    cases w.heap[i]? with
    | none => rfl
    | some o =>
      cases o with
      | cells c e f => by_cases hs : p.spot.isSome = true <;> simp [hs]
      | _ => rfl
  · simp only [hi, if_false]
theorem canon (w : World) (d : Nat) (a b : Value) (o : Obj) (hd : d < w.heap.size) : ((w.setCell ⟨d, 0, none⟩ a).alloc o).setCell ⟨d, 0, none⟩ b = (w.setCell ⟨d, 0, none⟩ b).alloc o := by
  rw [World.setCell_alloc_past o d 0 b (by rw [World.size_setCell]; exact hd), set_twice]
theorem set_row {W : World} {g : Nat} {cs : Array Value} {t : TypeId} {fr : Nat × Nat} (h : W.heap[g]? = some (.cells cs t fr)) (i : Nat) (v : Value) : (W.setCell ⟨g, i, none⟩ v).heap[g]? = some (.cells (cs.setIfInBounds i v) t fr) := by
  simp [World.setCell, Array.getElem?_modify, h]
/-- a head is laid into the block of results -/
def put4 (W : World) (g : Nat) (b0 b1 b2 b3 : Value) (o : Obj) : World := ((((W.setCell ⟨g, 0, none⟩ b0).setCell ⟨g, 1, none⟩ b1).setCell ⟨g, 2, none⟩ b2).setCell ⟨g, 3, none⟩ b3).alloc o
theorem put4_row {W : World} {g : Nat} {a0 a1 a2 a3 b0 b1 b2 b3 : Value} {t : TypeId} {o : Obj} (h : W.heap[g]? = some (.cells #[a0, a1, a2, a3] t (0, 0))) (hg : g < W.heap.size) : (put4 W g b0 b1 b2 b3 o).heap[g]? = some (.cells #[b0, b1, b2, b3] t (0, 0)) := by
  unfold put4
  rw [Below.heap_alloc _ _ _ (by rw [World.size_setCell, World.size_setCell, World.size_setCell, World.size_setCell]; exact hg)]
  rw [set_row (set_row (set_row (set_row h 0 b0) 1 b1) 2 b2) 3 b3]
  rfl
theorem put4_old {W : World} {g k : Nat} {b0 b1 b2 b3 : Value} {o : Obj} (hk : k < W.heap.size) (hg : k ≠ g) : (put4 W g b0 b1 b2 b3 o).heap[k]? = W.heap[k]? := by
  unfold put4
  rw [Below.heap_alloc _ _ _ (by rw [World.size_setCell, World.size_setCell, World.size_setCell, World.size_setCell]; exact hk)]
  rw [Below.heap_setCell _ _ _ _ hg, Below.heap_setCell _ _ _ _ hg, Below.heap_setCell _ _ _ _ hg, Below.heap_setCell _ _ _ _ hg]
theorem put4_upd {w W : World} {d : Nat} {b0 b1 b2 b3 : Value} {o : Obj} (h : Upd d w W) : Upd d w (put4 W w.heap.size b0 b1 b2 b3 o) := by
  refine ⟨h.os, h.tape, h.output, ?_, fun k h1 h2 => (put4_old (Nat.lt_of_lt_of_le h1 h.size) (by omega)).trans (h.block k h1 h2)⟩
  unfold put4
  rw [World.size_alloc, World.size_setCell, World.size_setCell, World.size_setCell, World.size_setCell]
  exact Nat.le_trans h.size (Nat.le_succ _)
def zHead : Value := .agg #[.int .u64 0, .bool false, .int .u64 0, .bool false]
def hdAgg (s : ByteArray) (p : Nat) : Value := .agg #[.int .u64 (hWin (gOf s p) (hdV s p) (hdZ s p) : Int), .bool (decide (0 < sizeW (gOf s p))), .int .u64 (hSize (gOf s p) (hdZ s p) : Int), .bool (decide (gOf s p / 4 % 2 = 1))]
/-- what readHead answers -/
def HeadP (d : Nat) (s : ByteArray) (p : Nat) (w : World) (x : Ending) (w' : World) : Prop :=
  Upd d w w' ∧ (hdE s p ≠ 0 → x = .returned (.tuple #[zHead, .int .i64 (hdE s p)])) ∧ (hdE s p = 0 → x = .returned (.tuple #[hdAgg s p, .int .i64 0]) ∧ ∃ r, w'.heap[d]? = (w.setCell ⟨d, 0, none⟩ (.string r)).heap[d]? ∧ RestAt s (hdEnd s p) r)
set_option maxRecDepth 100000 in
set_option maxHeartbeats 2000000 in
theorem pReadHead (d p : Nat) (s r : ByteArray) (w : World) (hr : RestAt s p r) (hc : w.cell? ⟨d, 0, none⟩ = some (.string r)) (hz : w.frozen? ⟨d, 0, none⟩ = false) :
    Calls Try.prog 62 #[.pointer (some ⟨d, 0, none⟩)] w fun x w' => HeadP d s p w x w' := by
  have hdl : d < w.heap.size := block_lt_of_cell hc
  have HR : Hid (RestAt s p r) := hr
  clear hr
  have cA : (w.alloc (Obj.cells #[.int .u64 0, .bool false, .int .u64 0, .bool false] 109)).cell? ⟨d, 0, none⟩ = some (.string r) := by
    rw [World.cell?_of_block (w := w) (a := ⟨d, 0, none⟩) (Below.heap_alloc _ _ _ hdl)]; exact hc
  have zA : (w.alloc (Obj.cells #[.int .u64 0, .bool false, .int .u64 0, .bool false] 109)).frozen? ⟨d, 0, none⟩ = false := by
    rw [World.frozen?_of_block (w := w) (a := ⟨d, 0, none⟩) (Below.heap_alloc _ _ _ hdl)]; exact hz
  obtain ⟨H, hH⟩ : ∃ H, H = Obj.cells #[.int .u64 0, .bool false, .int .u64 0, .bool false] 109 := ⟨_, rfl⟩
  have HB : Hid (∀ q, ((w.setCell ⟨d, 0, none⟩ (.string q)).alloc H).cell? ⟨d, 0, none⟩ = some (.string q) ∧ ((w.setCell ⟨d, 0, none⟩ (.string q)).alloc H).frozen? ⟨d, 0, none⟩ = false ∧ ((w.setCell ⟨d, 0, none⟩ (.string q)).alloc H).heap[w.heap.size]? = some H ∧ Upd d w ((w.setCell ⟨d, 0, none⟩ (.string q)).alloc H)) := by
    intro q
    have hl : d < (w.setCell ⟨d, 0, none⟩ (.string q)).heap.size := by rw [World.size_setCell]; exact hdl
    refine ⟨?_, ?_, ?_, ((Upd.refl d w).setCell 0 _).alloc _⟩
    · rw [World.cell?_of_block (w := w.setCell ⟨d, 0, none⟩ (.string q)) (a := ⟨d, 0, none⟩) (Below.heap_alloc _ _ _ hl)]; exact cs_same hc
    · rw [World.frozen?_of_block (w := w.setCell ⟨d, 0, none⟩ (.string q)) (a := ⟨d, 0, none⟩) (Below.heap_alloc _ _ _ hl), World.frozen?_setCell]; exact hz
    · have := heap_alloc_new (w.setCell ⟨d, 0, none⟩ (.string q)) H
      rwa [World.size_setCell] at this
  rw [hH] at HB
  clear hH
  by_cases h1 : s.size < p + 1
  · have HE : Hid (hdE s p = 2) := by show _ = _; unfold hdE; rw [if_pos h1]
    go_enter Try.func62, Try.ntmps62
    go_wp2_with fail
    refine (show Calls _ _ #[.pointer (some ⟨d, 0, none⟩), .int .i64 ((1 : Nat) : Int)] _ _ from numR_no d s r p 1 _ HR.out cA h1).mono ?_
    rintro x w1 ⟨rfl, hw1⟩
    rw [hw1]
    go_wp2_with fail
    refine bodyPost_ret (results_head rfl _ _ w.heap.size #[.int .u64 0, .bool false, .int .u64 0, .bool false] rfl (heap_alloc_new _ _) rfl) rfl ⟨(Upd.refl d w).alloc _, fun _ => by rw [HE.out]; rfl, fun h => by rw [HE.out] at h; cases h⟩
  · obtain ⟨T, hT⟩ : ∃ T, T = gOf s p := ⟨_, rfl⟩
    have hT8 : T < 256 := by rw [hT]; exact gOf_lt s p
    have hn1 : numN (gOf s) p 1 = T := by rw [hT]; simp [numN]
    have HT : Hid (T = gOf s p) := hT
    clear hT
    have h8 := and8 T hT8
    go_enter Try.func62, Try.ntmps62
    go_wp2_with fail
    refine (show Calls _ _ #[.pointer (some ⟨d, 0, none⟩), .int .i64 ((1 : Nat) : Int)] _ _ from numR_ok d s r p 1 _ HR.out cA zA (by omega) (by omega)).mono ?_
    rintro x w1 ⟨rfl, r1, hw1, hr1⟩
    rw [hn1, hw1]
    by_cases h4 : T / 8 % 2 = 1
    · rw [decide_eq_true h4] at h8
      have HE : Hid (hdE s p = 4) := by show _ = _; unfold hdE; rw [if_neg h1, ← HT.out, if_pos h4]
      clear hn1 hw1
      go_wp2_with fail
      exact bodyPost_ret (results_head rfl _ _ w.heap.size #[.int .u64 0, .bool false, .int .u64 0, .bool false] rfl (HB.out r1).2.2.1 rfl) rfl ⟨(HB.out r1).2.2.2, fun _ => by rw [HE.out]; rfl, fun h => by rw [HE.out] at h; cases h⟩
    · rw [decide_eq_false h4] at h8
      clear hn1 hw1
      have HP : Hid (∀ e, (s.size < p + 1 + winW T + dictW T + sizeW T → e = 2) → (¬ s.size < p + 1 + winW T + dictW T + sizeW T → e = if hdD s p ≠ 0 then 5 else if 134217728 < hWin T (hdV s p) (hdZ s p) then 6 else 0) → hdE s p = e) := by
        intro e h2 h3
        unfold hdE hdEnd
        rw [if_neg h1, ← HT.out, if_neg h4]
        by_cases hh : s.size < p + 1 + winW T + dictW T + sizeW T
        · rw [if_pos hh, h2 hh]
        · rw [if_neg hh, h3 hh]
      have HDV : Hid (hdV s p = numN (gOf s) (p + 1) (winW T) ∧ hdD s p = numN (gOf s) (p + 1 + winW T) (dictW T) ∧ hdZ s p = numN (gOf s) (p + 1 + winW T + dictW T) (sizeW T) ∧ hdEnd s p = p + 1 + winW T + dictW T + sizeW T) := by
        unfold hdV hdD hdZ hdEnd
        rw [← HT.out]
        exact ⟨rfl, rfl, rfl, rfl⟩
      have HW1 : Hid (∀ w, Calls Try.prog 71 #[.int .u64 (T : Int)] w fun x w' => x = .returned (.int .i64 (winW T : Int)) ∧ w' = w) := pWinW T hT8
      have HW2 : Hid (∀ w, Calls Try.prog 72 #[.int .u64 (T : Int)] w fun x w' => x = .returned (.int .i64 (dictW T : Int)) ∧ w' = w) := pDictW T hT8
      have HW3 : Hid (∀ w, Calls Try.prog 73 #[.int .u64 (T : Int)] w fun x w' => x = .returned (.int .i64 (sizeW T : Int)) ∧ w' = w) := pSizeW T hT8
      have hwl := winW_le T
      have hdl' := dictW_le T
      have hsl := sizeW_le T hT8
      have HMH : Hid (∀ v sz : Nat, v < 256 → sz < 18446744073709551616 → (sizeW T = 2 → sz < 65536) → ∀ w, Calls Try.prog 74 #[.int .u64 (T : Int), .int .u64 (v : Int), .int .u64 (sz : Int)] w fun x w' => x = .returned (.agg #[.int .u64 (hWin T v sz : Int), .bool (decide (0 < sizeW T)), .int .u64 (hSize T sz : Int), .bool (decide (T / 4 % 2 = 1))]) ∧ Below w.heap.size w w') := fun v sz a1 a2 a3 w => pMakeHead T v sz hT8 a1 a2 a3 w
      obtain ⟨a1, ha1⟩ : ∃ a1, a1 = winW T := ⟨_, rfl⟩
      obtain ⟨a2, ha2⟩ : ∃ a2, a2 = dictW T := ⟨_, rfl⟩
      obtain ⟨a3, ha3⟩ : ∃ a3, a3 = sizeW T := ⟨_, rfl⟩
      have HA3 : Hid (a3 = sizeW T) := ha3
      rw [← ha1] at HP HDV HW1 hwl
      rw [← ha2] at HP HDV HW2 hdl'
      rw [← ha3] at HP HDV HW3 hsl HMH
      clear ha1 ha2 ha3
      go_wp2_with fail
      refine (HW1.out _).mono ?_
      rintro x w2 ⟨rfl, hw2⟩
      rw [hw2]
      clear hw2
      go_wp2_with fail
      by_cases k2 : s.size < p + 1 + a1
      · refine (numR_no d s r1 (p + 1) a1 _ hr1 (HB.out r1).1 k2).mono ?_
        rintro x w3 ⟨rfl, hw3⟩
        rw [hw3]
        have HE : Hid (hdE s p = 2) := HP.out 2 (fun _ => rfl) (fun h => absurd (by omega) h)
        clear hw3
        go_wp2_with fail
        exact bodyPost_ret (results_head rfl _ _ w.heap.size #[.int .u64 0, .bool false, .int .u64 0, .bool false] rfl (HB.out r1).2.2.1 rfl) rfl ⟨(HB.out r1).2.2.2, fun _ => by rw [HE.out]; rfl, fun h => by rw [HE.out] at h; cases h⟩
      · refine (numR_ok d s r1 (p + 1) a1 _ hr1 (HB.out r1).1 (HB.out r1).2.1 (by omega) (by omega)).mono ?_
        rintro x w3 ⟨rfl, r2, hw3, hr2⟩
        rw [hw3, canon _ _ _ _ _ hdl]
        have hv := numN_lt (gOf s) (gOf_lt s) a1 (p + 1)
        obtain ⟨v, hve⟩ : ∃ v, v = numN (gOf s) (p + 1) a1 := ⟨_, rfl⟩
        rw [← hve] at hv ⊢
        have HV : Hid (v = numN (gOf s) (p + 1) a1) := hve
        have hv256 : v < 256 := by
          rcases (show a1 = 0 ∨ a1 = 1 by omega) with e | e <;> rw [e] at hv <;> omega
        clear hw3 hve hv
        go_wp2_with fail
        refine (HW2.out _).mono ?_
        rintro x w4 ⟨rfl, hw4⟩
        rw [hw4]
        clear hw4
        go_wp2_with fail
        by_cases k3 : s.size < p + 1 + a1 + a2
        · refine (numR_no d s r2 (p + 1 + a1) a2 _ hr2 (HB.out r2).1 k3).mono ?_
          rintro x w5 ⟨rfl, hw5⟩
          rw [hw5]
          have HE : Hid (hdE s p = 2) := HP.out 2 (fun _ => rfl) (fun h => absurd (by omega) h)
          clear hw5
          go_wp2_with fail
          exact bodyPost_ret (results_head rfl _ _ w.heap.size #[.int .u64 0, .bool false, .int .u64 0, .bool false] rfl (HB.out r2).2.2.1 rfl) rfl ⟨(HB.out r2).2.2.2, fun _ => by rw [HE.out]; rfl, fun h => by rw [HE.out] at h; cases h⟩
        · refine (numR_ok d s r2 (p + 1 + a1) a2 _ hr2 (HB.out r2).1 (HB.out r2).2.1 (by omega) (by omega)).mono ?_
          rintro x w5 ⟨rfl, r3, hw5, hr3⟩
          rw [hw5, canon _ _ _ _ _ hdl]
          obtain ⟨dc, hdc⟩ : ∃ dc, dc = numN (gOf s) (p + 1 + a1) a2 := ⟨_, rfl⟩
          rw [← hdc]
          have HDC : Hid (dc = numN (gOf s) (p + 1 + a1) a2) := hdc
          clear hw5 hdc
          go_wp2_with fail
          refine (HW3.out _).mono ?_
          rintro x w6 ⟨rfl, hw6⟩
          rw [hw6]
          clear hw6
          go_wp2_with fail
          by_cases k4 : s.size < p + 1 + a1 + a2 + a3
          · refine (numR_no d s r3 (p + 1 + a1 + a2) a3 _ hr3 (HB.out r3).1 k4).mono ?_
            rintro x w7 ⟨rfl, hw7⟩
            rw [hw7]
            have HE : Hid (hdE s p = 2) := HP.out 2 (fun _ => rfl) (fun h => absurd k4 h)
            clear hw7
            go_wp2_with fail
            exact bodyPost_ret (results_head rfl _ _ w.heap.size #[.int .u64 0, .bool false, .int .u64 0, .bool false] rfl (HB.out r3).2.2.1 rfl) rfl ⟨(HB.out r3).2.2.2, fun _ => by rw [HE.out]; rfl, fun h => by rw [HE.out] at h; cases h⟩
          · refine (numR_ok d s r3 (p + 1 + a1 + a2) a3 _ hr3 (HB.out r3).1 (HB.out r3).2.1 (by omega) hsl).mono ?_
            rintro x w7 ⟨rfl, r4, hw7, hr4⟩
            rw [hw7, canon _ _ _ _ _ hdl]
            have hz1 := numN_lt (gOf s) (gOf_lt s) a3 (p + 1 + a1 + a2)
            obtain ⟨sz, hsz⟩ : ∃ sz, sz = numN (gOf s) (p + 1 + a1 + a2) a3 := ⟨_, rfl⟩
            rw [← hsz] at hz1 ⊢
            have HSZ : Hid (sz = numN (gOf s) (p + 1 + a1 + a2) a3) := hsz
            have hzb : sz < 18446744073709551616 := Nat.lt_of_lt_of_le hz1 (Nat.le_trans (Nat.pow_le_pow_right (by omega) hsl) (by decide))
            have hz2 : a3 = 2 → sz < 65536 := fun h => by rw [h] at hz1; omega
            have HZ2 : Hid (a3 = 2 → sz < 65536) := hz2
            have HEq : Hid (hdV s p = v ∧ hdD s p = dc ∧ hdZ s p = sz ∧ hdEnd s p = p + 1 + a1 + a2 + a3) := by
              refine ⟨HDV.out.1.trans HV.out.symm, HDV.out.2.1.trans HDC.out.symm, HDV.out.2.2.1.trans HSZ.out.symm, HDV.out.2.2.2⟩
            have HR4 : Hid (RestAt s (p + 1 + a1 + a2 + a3) r4) := hr4
            clear hw7 hsz hz1 hz2 hr4
            by_cases hd0 : dc = 0
            · have hdb : ((dc : Int) != 0) = false := by rw [bne_eq_false_iff_eq]; omega
              have HD0 : Hid (dc = 0) := hd0
              clear hd0
              go_wp2_with fail
              refine (HMH.out v sz hv256 hzb HZ2.out _).mono ?_
              rintro x w8 ⟨rfl, hb8⟩
              have hsz0 : ((w.setCell ⟨d, 0, none⟩ (.string r4)).alloc (Obj.cells #[.int .u64 0, .bool false, .int .u64 0, .bool false] 109)).heap.size = w.heap.size + 1 := by rw [World.size_alloc, World.size_setCell]
              have row8 : w8.heap[w.heap.size]? = some (Obj.cells #[.int .u64 0, .bool false, .int .u64 0, .bool false] 109) := (hb8.block w.heap.size (by omega)).trans (HB.out r4).2.2.1
              have hs8 : w.heap.size < w8.heap.size := Nat.lt_of_lt_of_le (by omega) hb8.size
              have HU8 : Hid (Upd d w w8 ∧ w8.heap[d]? = (w.setCell ⟨d, 0, none⟩ (.string r4)).heap[d]? ∧ w8.heap[w.heap.size]? = some (Obj.cells #[.int .u64 0, .bool false, .int .u64 0, .bool false] 109)) := by
                refine ⟨(HB.out r4).2.2.2.trans ⟨hb8.os, hb8.tape, hb8.output, hb8.size, fun k h1 _ => hb8.block k h1⟩, ?_, row8⟩
                exact (hb8.block d (by omega)).trans (Below.heap_alloc _ _ _ (by rw [World.size_setCell]; exact hdl))
              have e0 : w8.cell? ⟨w.heap.size, 0, none⟩ = some (.int .u64 0) := by simp [World.cell?, row8]
              have e1 : w8.cell? ⟨w.heap.size, 1, none⟩ = some (.bool false) := by simp [World.cell?, row8]
              have e2 : w8.cell? ⟨w.heap.size, 2, none⟩ = some (.int .u64 0) := by simp [World.cell?, row8]
              have e3 : w8.cell? ⟨w.heap.size, 3, none⟩ = some (.bool false) := by simp [World.cell?, row8]
              have z0 : ∀ i, w8.frozen? ⟨w.heap.size, i, none⟩ = false := fun i => by simp [World.frozen?, row8]
              have z00 := z0 0
              have z01 := z0 1
              have z02 := z0 2
              have z03 := z0 3
              obtain ⟨WN, hWN⟩ : ∃ WN, WN = hWin T v sz := ⟨_, rfl⟩
              rw [← hWN]
              have HWN : Hid (WN = hWin T v sz) := hWN
              clear hWN hb8 hsz0 row8 z0
              obtain ⟨ck, hck⟩ : ∃ ck, ck = decide (T / 4 % 2 = 1) := ⟨_, rfl⟩
              obtain ⟨td, htd⟩ : ∃ td, td = decide (0 < a3) := ⟨_, rfl⟩
              obtain ⟨SZ, hSZ⟩ : ∃ SZ, SZ = hSize T sz := ⟨_, rfl⟩
              rw [← hck, ← htd, ← hSZ]
              have HCK : Hid (ck = decide (T / 4 % 2 = 1) ∧ td = decide (0 < a3) ∧ SZ = hSize T sz) := ⟨hck, htd, hSZ⟩
              clear hck htd hSZ
              by_cases hbig : 134217728 < WN
              · have hbd : decide ((134217728 : Int) < (WN : Int)) = true := decide_eq_true (by omega)
                have HE : Hid (hdE s p = 6) := HP.out 6 (fun h => absurd h k4) (fun _ => by rw [if_neg (by rw [HEq.out.2.1]; exact fun h => h HD0.out), HEq.out.1, HEq.out.2.2.1, ← HWN.out, if_pos hbig])
                clear hbig
                go_wp2_with fail
                exact bodyPost_ret (results_head rfl _ _ w.heap.size #[.int .u64 0, .bool false, .int .u64 0, .bool false] rfl (put4_row HU8.out.2.2 hs8) rfl) rfl ⟨put4_upd HU8.out.1, fun _ => by rw [HE.out]; rfl, fun h => by rw [HE.out] at h; cases h⟩
              · have hbd : decide ((134217728 : Int) < (WN : Int)) = false := decide_eq_false (by omega)
                have HE : Hid (hdE s p = 0) := HP.out 0 (fun h => absurd h k4) (fun _ => by rw [if_neg (by rw [HEq.out.2.1]; exact fun h => h HD0.out), HEq.out.1, HEq.out.2.2.1, ← HWN.out, if_neg hbig])
                clear hbig
                go_wp2_with fail
                refine bodyPost_ret (results_head rfl _ _ w.heap.size #[.int .u64 (WN : Int), .bool td, .int .u64 (SZ : Int), .bool ck] rfl (put4_row HU8.out.2.2 hs8) rfl) rfl ⟨put4_upd HU8.out.1, fun h => absurd HE.out h, fun _ => ⟨?_, r4, ?_, ?_⟩⟩
                · unfold hdAgg
                  rw [← HT.out, HEq.out.1, HEq.out.2.2.1, ← HWN.out, ← HA3.out, ← HCK.out.1, ← HCK.out.2.1, ← HCK.out.2.2]
                  rfl
                · exact (put4_old (g := w.heap.size) (by omega) (show d ≠ w.heap.size by omega)).trans HU8.out.2.1
                · rw [HEq.out.2.2.2]; exact HR4.out
            · have hdb : ((dc : Int) != 0) = true := by rw [bne_iff_ne]; omega
              have HE : Hid (hdE s p = 5) := HP.out 5 (fun h => absurd h k4) (fun _ => by rw [if_pos (by rw [HEq.out.2.1]; exact hd0)])
              clear hd0
              go_wp2_with fail
              exact bodyPost_ret (results_head rfl _ _ w.heap.size #[.int .u64 0, .bool false, .int .u64 0, .bool false] rfl (HB.out r4).2.2.1 rfl) rfl ⟨(HB.out r4).2.2.2, fun _ => by rw [HE.out]; rfl, fun h => by rw [HE.out] at h; cases h⟩
end Go.Proofs.Ytkfilgfcgmohlaa
namespace Go.Proofs.Ytkfilgfcgmohlaa
open Go.RowKit
/-- bytes that are passed over, from place k on: the error -/
def passE (s : ByteArray) (k : Nat) : Int := if s.size < k + 4 then 2 else if s.size < k + 4 + numN (gOf s) k 4 then 2 else 0
/-- what passOver answers -/
def PassP (d : Nat) (s : ByteArray) (k : Nat) (w : World) (x : Ending) (w' : World) : Prop :=
  x = .returned (.int .i64 (passE s k)) ∧ Upd d w w' ∧ (passE s k = 0 → ∃ r, w' = w.setCell ⟨d, 0, none⟩ (.string r) ∧ RestAt s (k + 4 + numN (gOf s) k 4) r)
set_option maxHeartbeats 2000000 in
theorem pPass (d k : Nat) (s r : ByteArray) (w : World) (hr : RestAt s k r) (hc : w.cell? ⟨d, 0, none⟩ = some (.string r)) (hz : w.frozen? ⟨d, 0, none⟩ = false) :
    Calls Try.prog 50 #[.pointer (some ⟨d, 0, none⟩)] w fun x w' => PassP d s k w x w' := by
  by_cases h1 : s.size < k + 4
  · have HE : Hid (passE s k = 2) := by show _ = _; unfold passE; rw [if_pos h1]
    go_enter Try.func50, Try.ntmps50
    go_wp2_with fail
    refine (show Calls _ _ #[.pointer (some ⟨d, 0, none⟩), .int .i64 ((4 : Nat) : Int)] _ _ from numR_no d s r k 4 _ hr hc h1).mono ?_
    rintro x w1 ⟨rfl, hw1⟩
    rw [hw1]
    go_wp2_with fail
    go_ret
    exact ⟨by rw [HE.out]; rfl, Upd.refl _ _, fun h => by rw [HE.out] at h; cases h⟩
  · have hn4 := numN_lt (gOf s) (gOf_lt s) 4 k
    obtain ⟨n, hn⟩ : ∃ n, n = numN (gOf s) k 4 := ⟨_, rfl⟩
    have HN : Hid (n = numN (gOf s) k 4) := hn
    have hwn : IntKind.i64.wrap (n : Int) = (n : Int) := i64_id _ (by omega) (by omega)
    go_enter Try.func50, Try.ntmps50
    go_wp2_with fail
    refine (show Calls _ _ #[.pointer (some ⟨d, 0, none⟩), .int .i64 ((4 : Nat) : Int)] _ _ from numR_ok d s r k 4 _ hr hc hz (by omega) (by omega)).mono ?_
    rintro x w1 ⟨rfl, r1, hw1, hr1⟩
    rw [← hn]
    have c1 : w1.cell? ⟨d, 0, none⟩ = some (.string r1) := by rw [hw1]; exact cs_same hc
    have z1 : w1.frozen? ⟨d, 0, none⟩ = false := by rw [hw1, World.frozen?_setCell]; exact hz
    have HW : Hid (w1 = w.setCell ⟨d, 0, none⟩ (.string r1)) := hw1
    clear hw1 hn
    go_wp2_with fail
    by_cases h2 : s.size < k + 4 + n
    · have HE : Hid (passE s k = 2) := by show _ = _; unfold passE; rw [if_neg h1, ← HN.out, if_pos h2]
      refine (takeR_no d s r1 (k + 4) n _ hr1 c1 h2).mono ?_
      rintro x w2 ⟨rfl, hw2⟩
      rw [hw2]
      clear hw2
      go_wp2_with fail
      go_ret
      exact ⟨by rw [HE.out]; rfl, by rw [HW.out]; exact (Upd.refl d w).setCell 0 _, fun h => by rw [HE.out] at h; cases h⟩
    · have HE : Hid (passE s k = 0) := by show _ = _; unfold passE; rw [if_neg h1, ← HN.out, if_neg h2]
      refine (takeR_ok d s r1 (k + 4) n _ hr1 c1 z1 (by omega)).mono ?_
      rintro x w2 ⟨part, r2, rfl, _, _, hw2, hr2⟩
      have HR2 : Hid (RestAt s (k + 4 + n) r2 ∧ w2 = w.setCell ⟨d, 0, none⟩ (.string r2)) := ⟨hr2, by rw [hw2, HW.out, set_twice]⟩
      clear hw2 hr2
      go_wp2_with fail
      go_ret
      exact ⟨by rw [HE.out]; rfl, by rw [HR2.out.2]; exact (Upd.refl d w).setCell 0 _, fun _ => ⟨r2, HR2.out.2, by rw [← HN.out]; exact HR2.out.1⟩⟩
end Go.Proofs.Ytkfilgfcgmohlaa
namespace Go.Proofs.Ytkfilgfcgmohlaa
/-- bytes as a row -/
def baOf (l : List Nat) : ByteArray := ⟨(l.map UInt8.ofNat).toArray⟩
theorem baOf_size (l : List Nat) : (baOf l).size = l.length := by show ((l.map UInt8.ofNat).toArray).size = _; simp
def cutL (s : ByteArray) (p n : Nat) : List Nat := (List.range n).map (fun i => gOf s (p + i))
theorem cutL_len (s : ByteArray) (p n : Nat) : (cutL s p n).length = n := by simp [cutL]
theorem cutL_lt (s : ByteArray) (p n : Nat) : ∀ x ∈ cutL s p n, x < 256 := by
  intro x hx
  obtain ⟨i, _, rfl⟩ := List.mem_map.1 hx
  exact gOf_lt _ _
/-- what the bytes say: a compressed block is met; an error; or so far, and on -/
abbrev Res := Option (Sum Int (Nat × List Nat × Bool))
abbrev Res.met : Res := none
abbrev Res.bad (e : Int) : Res := some (.inl e)
abbrev Res.go (p : Nat) (out : List Nat) (last : Bool) : Res := some (.inr (p, out, last))
theorem Res.elim {motive : Res → Prop} (met : motive Res.met) (bad : ∀ e, motive (Res.bad e)) (go : ∀ p out last, motive (Res.go p out last)) (r : Res) : motive r := by
  rcases r with _ | (e | ⟨p, out, last⟩)
  · exact met
  · exact bad e
  · exact go p out last
theorem Res.go_inj {p p' : Nat} {out out' : List Nat} {l l' : Bool} (h : Res.go p out l = Res.go p' out' l') : p = p' ∧ out = out' ∧ l = l' := by
  cases h; exact ⟨rfl, rfl, rfl⟩
/-- a block from place p on -/
def blkL (s : ByteArray) (p h : Nat) : List Nat := if h / 2 % 4 = 0 then cutL s (p + 3) (h / 8) else List.replicate (h / 8) (gOf s (p + 3))
def blkW (h : Nat) : Nat := if h / 2 % 4 = 1 then 1 else h / 8
def blkH (s : ByteArray) (p : Nat) : Nat := numN (gOf s) p 3
def blkS (s : ByteArray) (limit M : Int) (p : Nat) (out : List Nat) : Res :=
  if s.size < p + 3 then .bad 2
  else if blkH s p / 2 % 4 = 3 ∨ M < (blkH s p / 8 : Nat) then .bad 7
  else if s.size < p + 3 + blkW (blkH s p) then .bad 2
  else if blkH s p / 2 % 4 = 2 then .met
  else if limit < (out.length : Int) + (blkH s p / 8 : Nat) then .bad 14
  else .go (p + 3 + blkW (blkH s p)) (out ++ blkL s p (blkH s p)) (decide (blkH s p % 2 = 1))
theorem blkL_len (s : ByteArray) (p h : Nat) : (blkL s p h).length = h / 8 := by
  unfold blkL; split
  · exact cutL_len _ _ _
  · exact List.length_replicate
theorem blkL_lt (s : ByteArray) (p h : Nat) : ∀ x ∈ blkL s p h, x < 256 := by
  unfold blkL; split
  · exact cutL_lt _ _ _
  · intro x hx; rw [(List.mem_replicate.1 hx).2]; exact gOf_lt _ _
theorem blkS_go {s : ByteArray} {limit M : Int} {p : Nat} {out : List Nat} {p' : Nat} {out' : List Nat} {last : Bool} (h : blkS s limit M p out = .go p' out' last) : p + 3 ≤ p' ∧ p' ≤ s.size ∧ out' = out ++ blkL s p (blkH s p) ∧ (out'.length : Int) ≤ limit := by
  unfold blkS at h
  split at h
  · cases h
  · split at h
    · cases h
    · split at h
      · cases h
      · split at h
        · cases h
        · split at h
          · cases h
          · obtain ⟨h1, h2, h3⟩ := Res.go_inj h
            refine ⟨by omega, by omega, h2.symm, ?_⟩
            rw [← h2, List.length_append, blkL_len]; omega
/-- blocks from place p on, up to the last one; n: at most so many -/
def blocksF (s : ByteArray) (limit M : Int) : Nat → Nat → List Nat → Res
  | 0, _, _ => .bad 2
  | n + 1, p, out => match blkS s limit M p out with
    | none => .met
    | some (.inl e) => .bad e
    | some (.inr (p', out', l)) => if l = true then .go p' out' true else blocksF s limit M n p' out'
def blocksS (s : ByteArray) (limit M : Int) (p : Nat) (out : List Nat) : Res := blocksF s limit M (s.size + 1 - p) p out
theorem blkS_far {s : ByteArray} {limit M : Int} {p : Nat} {out : List Nat} (h : s.size < p + 3) : blkS s limit M p out = .bad 2 := by unfold blkS; rw [if_pos h]
theorem blocksF_any {s : ByteArray} {limit M : Int} : ∀ (n m p : Nat) (out : List Nat), s.size + 1 - p ≤ n → s.size + 1 - p ≤ m → blocksF s limit M n p out = blocksF s limit M m p out := by
  intro n
  induction n with
  | zero =>
    intro m p out h1 _
    cases m with
    | zero => rfl
    | succ m => rw [blocksF, blocksF, blkS_far (by omega)]
  | succ n ih =>
    intro m p out h1 h2
    cases m with
    | zero => rw [blocksF, blocksF, blkS_far (by omega)]
    | succ m =>
      rw [blocksF, blocksF]
      cases hb : blkS s limit M p out using Res.elim with
      | met => rfl
      | bad e => rfl
      | go q o l =>
        have hq := blkS_go hb
        cases l with
        | true => rfl
        | false =>
          show blocksF s limit M n q o = blocksF s limit M m q o
          exact ih m q o (by omega) (by omega)
theorem blocksS_met {s : ByteArray} {limit M : Int} {p : Nat} {out : List Nat} (h : blkS s limit M p out = .met) : blocksS s limit M p out = .met := by
  unfold blocksS
  rw [blocksF_any _ (s.size + 1 - p + 1) p out (Nat.le_refl _) (by omega), blocksF, h]
theorem blocksS_bad {s : ByteArray} {limit M : Int} {p : Nat} {out : List Nat} {e : Int} (h : blkS s limit M p out = .bad e) : blocksS s limit M p out = .bad e := by
  unfold blocksS
  rw [blocksF_any _ (s.size + 1 - p + 1) p out (Nat.le_refl _) (by omega), blocksF, h]
theorem blocksS_last {s : ByteArray} {limit M : Int} {p : Nat} {out : List Nat} {p' : Nat} {out' : List Nat} (h : blkS s limit M p out = .go p' out' true) : blocksS s limit M p out = .go p' out' true := by
  unfold blocksS
  rw [blocksF_any _ (s.size + 1 - p + 1) p out (Nat.le_refl _) (by omega), blocksF, h]
  rfl
theorem blocksS_on {s : ByteArray} {limit M : Int} {p : Nat} {out : List Nat} {p' : Nat} {out' : List Nat} (h : blkS s limit M p out = .go p' out' false) : blocksS s limit M p out = blocksS s limit M p' out' := by
  have hq := blkS_go h
  unfold blocksS
  rw [blocksF_any _ (s.size + 1 - p + 1) p out (Nat.le_refl _) (by omega), blocksF, h]
  show blocksF s limit M (s.size + 1 - p) p' out' = _
  exact blocksF_any _ _ p' out' (by omega) (by omega)
theorem blocksS_go {s : ByteArray} {limit M : Int} : ∀ (n p : Nat) (out : List Nat) {p' : Nat} {out' : List Nat} {last : Bool}, s.size - p ≤ n → blocksS s limit M p out = .go p' out' last → p + 3 ≤ p' ∧ p' ≤ s.size ∧ last = true := by
  intro n
  induction n with
  | zero =>
    intro p out p' out' last hn h
    cases hb : blkS s limit M p out using Res.elim with
    | met => rw [blocksS_met hb] at h; cases h
    | bad e => rw [blocksS_bad hb] at h; cases h
    | go q o l => have := blkS_go hb; omega
  | succ n ih =>
    intro p out p' out' last hn h
    cases hb : blkS s limit M p out using Res.elim with
    | met => rw [blocksS_met hb] at h; cases h
    | bad e => rw [blocksS_bad hb] at h; cases h
    | go q o l =>
      have hq := blkS_go hb
      cases l with
      | true => rw [blocksS_last hb] at h; cases h; exact ⟨hq.1, hq.2.1, rfl⟩
      | false =>
        rw [blocksS_on hb] at h
        have := ih q o (by omega) h
        exact ⟨by omega, this.2⟩
theorem blocksS_len {s : ByteArray} {limit M : Int} : ∀ (n p : Nat) (out : List Nat) {p' : Nat} {out' : List Nat} {last : Bool}, s.size - p ≤ n → blocksS s limit M p out = .go p' out' last → out.length ≤ out'.length := by
  intro n
  induction n with
  | zero =>
    intro p out p' out' last hn h
    cases hb : blkS s limit M p out using Res.elim with
    | met => rw [blocksS_met hb] at h; cases h
    | bad e => rw [blocksS_bad hb] at h; cases h
    | go q o l => have := blkS_go hb; omega
  | succ n ih =>
    intro p out p' out' last hn h
    cases hb : blkS s limit M p out using Res.elim with
    | met => rw [blocksS_met hb] at h; cases h
    | bad e => rw [blocksS_bad hb] at h; cases h
    | go q o l =>
      have hq := blkS_go hb
      have hl : out.length ≤ o.length := by rw [hq.2.2.1, List.length_append]; omega
      cases l with
      | true => rw [blocksS_last hb] at h; cases h; exact hl
      | false =>
        rw [blocksS_on hb] at h
        exact Nat.le_trans hl (ih q o (by omega) h)
/-- the lowest 32 bits -/
def low32 (n : Nat) : Nat := n % 4294967296
/-- a frame's end: told: its size; ck: a checksum; a: where the frame began in what came out -/
def endS (s : ByteArray) (told ck : Bool) (size a : Nat) (p : Nat) (out : List Nat) : Res :=
  if told = true ∧ size ≠ out.length - a then .bad 15
  else if ck = true then
    if s.size < p + 4 then .bad 2
    else if numN (gOf s) p 4 ≠ low32 (xsumN (baOf (out.drop a))) then .bad 16
    else .go (p + 4) out true
  else .go p out true
def hdM (s : ByteArray) (p : Nat) : Int := ((mostP (hWin (gOf s p) (hdV s p) (hdZ s p)) : Nat) : Int)
/-- behind a frame's blocks -/
def afterS (s : ByteArray) (told ck : Bool) (size a : Nat) : Res → Res
  | none => .met
  | some (.inl e) => .bad e
  | some (.inr (p, out, _)) => endS s told ck size a p out
/-- a frame from place p on, behind its first four bytes -/
def frameS (s : ByteArray) (limit : Int) (p : Nat) (out : List Nat) : Res :=
  if hdE s p ≠ 0 then .bad (hdE s p)
  else afterS s (decide (0 < sizeW (gOf s p))) (decide (gOf s p / 4 % 2 = 1)) (hSize (gOf s p) (hdZ s p)) out.length (blocksS s limit (hdM s p) (hdEnd s p) out)
theorem num_small (s : ByteArray) (p n : Nat) (h : n ≤ 4) : numN (gOf s) p n < 4294967296 := by
  have h1 := numN_lt (gOf s) (gOf_lt s) n p
  have h2 : 256 ^ n ≤ 256 ^ 4 := Nat.pow_le_pow_right (by omega) h
  omega
theorem num_eight (s : ByteArray) (p n : Nat) (h : n ≤ 8) : numN (gOf s) p n < 18446744073709551616 := by
  have h1 := numN_lt (gOf s) (gOf_lt s) n p
  have h2 : 256 ^ n ≤ 256 ^ 8 := Nat.pow_le_pow_right (by omega) h
  omega
theorem hSize_lt (s : ByteArray) (p : Nat) : hSize (gOf s p) (hdZ s p) < 18446744073709551616 := by
  unfold hSize hdZ
  split
  · rename_i h
    rw [h]
    have := num_small s (p + 1 + winW (gOf s p) + dictW (gOf s p)) 2 (by omega)
    omega
  · exact num_eight _ _ _ (sizeW_le _ (gOf_lt s p))
theorem endS_go {s : ByteArray} {told ck : Bool} {size a p : Nat} {out : List Nat} {p' : Nat} {out' : List Nat} {last : Bool} (h : endS s told ck size a p out = .go p' out' last) : p ≤ p' ∧ out' = out := by
  unfold endS at h
  split at h
  · cases h
  · split at h
    · split at h
      · cases h
      · split at h
        · cases h
        · cases h; exact ⟨by omega, rfl⟩
    · cases h; exact ⟨by omega, rfl⟩
theorem hdEnd_gt (s : ByteArray) (p : Nat) : p < hdEnd s p := by unfold hdEnd; omega
theorem frameS_go {s : ByteArray} {limit : Int} {p : Nat} {out : List Nat} {p' : Nat} {out' : List Nat} {last : Bool} (h : frameS s limit p out = .go p' out' last) : p < p' := by
  unfold frameS at h
  split at h
  · cases h
  · unfold afterS at h
    split at h
    · cases h
    · cases h
    · rename_i hb
      have h1 := blocksS_go _ _ _ (Nat.le_refl _) hb
      have h2 := endS_go h
      have h3 := hdEnd_gt s p
      omega
/-- what stands at place p: a frame, or bytes that are passed over -/
def nextS (s : ByteArray) (limit : Int) (p : Nat) (out : List Nat) : Res :=
  if s.size < p + 4 then .bad 2
  else if numN (gOf s) p 4 = 4247762216 then frameS s limit (p + 4) out
  else if 407710288 ≤ numN (gOf s) p 4 ∧ numN (gOf s) p 4 ≤ 407710303 then
    if passE s (p + 4) ≠ 0 then .bad (passE s (p + 4)) else .go (p + 4 + 4 + numN (gOf s) (p + 4) 4) out true
  else .bad 3
theorem nextS_go {s : ByteArray} {limit : Int} {p : Nat} {out : List Nat} {p' : Nat} {out' : List Nat} {last : Bool} (h : nextS s limit p out = .go p' out' last) : p < p' := by
  unfold nextS at h
  split at h
  · cases h
  · split at h
    · have := frameS_go h; omega
    · split at h
      · split at h
        · cases h
        · cases h; omega
      · cases h
/-- all that the bytes say from place p on; n: at most so many frames -/
def readF (s : ByteArray) (limit : Int) : Nat → Nat → List Nat → Res
  | 0, p, out => .go p out true
  | n + 1, p, out => if p < s.size then
      match nextS s limit p out with
      | none => .met
      | some (.inl e) => .bad e
      | some (.inr (p', out', _)) => readF s limit n p' out'
    else .go p out true
def readS (s : ByteArray) (limit : Int) (p : Nat) (out : List Nat) : Res := readF s limit (s.size - p) p out
theorem readF_any {s : ByteArray} {limit : Int} : ∀ (n m p : Nat) (out : List Nat), s.size - p ≤ n → s.size - p ≤ m → readF s limit n p out = readF s limit m p out := by
  intro n
  induction n with
  | zero =>
    intro m p out h1 _
    cases m with
    | zero => rfl
    | succ m => rw [readF, readF, if_neg (by omega)]
  | succ n ih =>
    intro m p out h1 h2
    cases m with
    | zero => rw [readF, readF, if_neg (by omega)]
    | succ m =>
      rw [readF, readF]
      by_cases hp : p < s.size
      · rw [if_pos hp, if_pos hp]
        cases hb : nextS s limit p out using Res.elim with
        | met => rfl
        | bad e => rfl
        | go q o l =>
          have hq := nextS_go hb
          show readF s limit n q o = readF s limit m q o
          exact ih m q o (by omega) (by omega)
      · rw [if_neg hp, if_neg hp]
theorem readS_end {s : ByteArray} {limit : Int} {p : Nat} {out : List Nat} (h : ¬ p < s.size) : readS s limit p out = .go p out true := by
  unfold readS
  rw [show s.size - p = 0 by omega, readF]
theorem readS_met {s : ByteArray} {limit : Int} {p : Nat} {out : List Nat} (h0 : p < s.size) (h : nextS s limit p out = .met) : readS s limit p out = .met := by
  unfold readS
  rw [readF_any _ (s.size - p + 1) p out (Nat.le_refl _) (by omega), readF, if_pos h0, h]
theorem readS_bad {s : ByteArray} {limit : Int} {p : Nat} {out : List Nat} {e : Int} (h0 : p < s.size) (h : nextS s limit p out = .bad e) : readS s limit p out = .bad e := by
  unfold readS
  rw [readF_any _ (s.size - p + 1) p out (Nat.le_refl _) (by omega), readF, if_pos h0, h]
theorem readS_on {s : ByteArray} {limit : Int} {p : Nat} {out : List Nat} {p' : Nat} {out' : List Nat} {last : Bool} (h0 : p < s.size) (h : nextS s limit p out = .go p' out' last) : readS s limit p out = readS s limit p' out' := by
  have hq := nextS_go h
  unfold readS
  rw [readF_any _ (s.size - p + 1) p out (Nat.le_refl _) (by omega), readF, if_pos h0, h]
  show readF s limit (s.size - p) p' out' = _
  exact readF_any _ _ p' out' (by omega) (by omega)
/-- an error is one -/
theorem blkS_bad {s : ByteArray} {limit M : Int} {p : Nat} {out : List Nat} {e : Int} (h : blkS s limit M p out = .bad e) : e ≠ 0 := by
  unfold blkS at h
  split at h
  · cases h; decide
  · split at h
    · cases h; decide
    · split at h
      · cases h; decide
      · split at h
        · cases h
        · split at h
          · cases h; decide
          · cases h
theorem blocksS_bad0 {s : ByteArray} {limit M : Int} : ∀ (n p : Nat) (out : List Nat) {e : Int}, s.size - p ≤ n → blocksS s limit M p out = .bad e → e ≠ 0 := by
  intro n
  induction n with
  | zero =>
    intro p out e hn h
    cases hb : blkS s limit M p out using Res.elim with
    | met => rw [blocksS_met hb] at h; cases h
    | bad e => rw [blocksS_bad hb] at h; cases h; exact blkS_bad hb
    | go q o l => have := blkS_go hb; omega
  | succ n ih =>
    intro p out e hn h
    cases hb : blkS s limit M p out using Res.elim with
    | met => rw [blocksS_met hb] at h; cases h
    | bad e => rw [blocksS_bad hb] at h; cases h; exact blkS_bad hb
    | go q o l =>
      have hq := blkS_go hb
      cases l with
      | true => rw [blocksS_last hb] at h; cases h
      | false => rw [blocksS_on hb] at h; exact ih q o (by omega) h
theorem endS_bad {s : ByteArray} {told ck : Bool} {size a p : Nat} {out : List Nat} {e : Int} (h : endS s told ck size a p out = .bad e) : e ≠ 0 := by
  unfold endS at h
  split at h
  · cases h; decide
  · split at h
    · split at h
      · cases h; decide
      · split at h
        · cases h; decide
        · cases h
    · cases h
theorem frameS_bad {s : ByteArray} {limit : Int} {p : Nat} {out : List Nat} {e : Int} (h : frameS s limit p out = .bad e) : e ≠ 0 := by
  unfold frameS at h
  split at h
  · rename_i h0; cases h; exact h0
  · unfold afterS at h
    split at h
    · cases h
    · rename_i hb; cases h; exact blocksS_bad0 _ _ _ (Nat.le_refl _) hb
    · exact endS_bad h
theorem nextS_bad {s : ByteArray} {limit : Int} {p : Nat} {out : List Nat} {e : Int} (h : nextS s limit p out = .bad e) : e ≠ 0 := by
  unfold nextS at h
  split at h
  · cases h; decide
  · split at h
    · exact frameS_bad h
    · split at h
      · split at h
        · rename_i h0; cases h; exact h0
        · cases h
      · cases h; decide
end Go.Proofs.Ytkfilgfcgmohlaa
