import Derived.Test.YtipdjbkkpjlamaaGreatSL
import Derived.WalkKit
import Derived.WalkSpells
import Derived.WalkLawsBesides
import Derived.Laws.OwnMore
import Derived.OneCell
import Derived.Deep.RegionHeld3
import Derived.Deep.DrawnRows
import Derived.Deep.QuietTactic
import Derived.BigQuiet
namespace Go.Proofs.YtipdjbkkpjlamaaGreat
open Go.RowKit
attribute [local go_sem ↓] Go.wp_at_zero Go.wp_at_succ
theorem nums_set (l : List Int) (j : Nat) (x : Int) : nums (l.set j x) = (nums l).set j (.int .i64 x) := by simp [nums, List.map_set]
/-- one number of a list, in both of its copies -/
theorem Inv.setInt {w0 w : World} {b B : Nat} {own : Nat → Nat} {k c : Nat} {T : List ByteArray} {S : List (Nat × ByteArray)} {I J : List Value} {L : List (List Int)} (h : Inv w0 w b B own k c T S I J L) (i : Nat) (l : List Int) (hl : L[i]? = some l) (gu cu gv cv : Nat)
    (hu : I[i]? = some (.slice (some ⟨gu, 0, none⟩) l.length cu)) (hv : J[i]? = some (.slice (some ⟨gv, 0, none⟩) l.length cv)) (j : Nat) (x : Int) :
    Inv w0 ((w.setCell ⟨gu, j, none⟩ (.int .i64 x)).setCell ⟨gv, j, none⟩ (.int .i64 x)) b B own k c T S I J (L.set i (l.set j x)) := by
  obtain ⟨u, v, h1, h2, hru, hrv⟩ := h.ll i l hl
  obtain rfl : u = .slice (some ⟨gu, 0, none⟩) l.length cu := by rw [hu] at h1; simpa using h1.symm
  obtain rfl : v = .slice (some ⟨gv, 0, none⟩) l.length cv := by rw [hv] at h2; simpa using h2.symm
  have ou : own gu = 6 + 3 * i := hru.tag gu rfl
  have ov : own gv = 7 + 3 * i := hrv.tag gv rfl
  have hne : gu ≠ gv := fun e => by rw [e] at ou; omega
  have lu := ownsRow_lt hru.row gu rfl
  have lv := ownsRow_lt hrv.row gv rfl
  have hob := h.ob
  have far : ∀ q, own q ≠ 6 + 3 * i → own q ≠ 7 + 3 * i → ((w.setCell ⟨gu, j, none⟩ (.int .i64 x)).setCell ⟨gv, j, none⟩ (.int .i64 x)).heap[q]? = w.heap[q]? := fun q hq1 hq2 =>
    (Below.heap_setCell _ _ _ _ (fun e => hq2 (by dsimp only at e; rw [e]; exact ov))).trans (Below.heap_setCell _ _ _ _ (fun e => hq1 (by dsimp only at e; rw [e]; exact ou)))
  have keepR : ∀ {t e size : Nat} {y : Value} {n : Nat} {xs : List Value}, Row w B own t e size y n xs → t ≠ 6 + 3 * i → t ≠ 7 + 3 * i → Row ((w.setCell ⟨gu, j, none⟩ (.int .i64 x)).setCell ⟨gv, j, none⟩ (.int .i64 x)) B own t e size y n xs := fun hr n1 n2 =>
    ⟨ownsRow_same hr.row (fun g hg => far g (by rw [hr.tag g hg]; exact n1) (by rw [hr.tag g hg]; exact n2)), hr.tag⟩
  have hbb := far b (by omega) (by omega)
  have cell : ∀ q, ((w.setCell ⟨gu, j, none⟩ (.int .i64 x)).setCell ⟨gv, j, none⟩ (.int .i64 x)).cell? ⟨b, q, none⟩ = w.cell? ⟨b, q, none⟩ := fun q => World.cell?_of_block (a := ⟨b, q, none⟩) hbb
  have hil : i < L.length := by
    rcases Nat.lt_or_ge i L.length with h' | h'
    · exact h'
    · rw [List.getElem?_eq_none h'] at hl; cases hl
  refine ⟨hob, h.low, fun q hq => h.new q (by rw [World.size_setCell, World.size_setCell] at hq; exact hq), fun q hq => ?_, fun q => ?_, ?_, ?_, ?_, ?_, fun q hq => ?_, by rw [List.length_set]; exact h.li, fun i' l' hl' => ?_, fun j' p hp => ?_, by rw [List.length_set]; exact h.bt, h.zt, h.zs, fun l' hl' => ?_, (h.bel.setCell lu.2 _).setCell lv.2 _⟩
  · obtain ⟨y, hy⟩ := h.cells q hq; exact ⟨y, (cell q).trans hy⟩
  · rw [World.frozen?_of_block (a := ⟨b, q, none⟩) hbb]; exact h.fz q
  · obtain ⟨y, hy, hr⟩ := h.vt; exact ⟨y, (cell 3).trans hy, keepR hr (by omega) (by omega)⟩
  · obtain ⟨y, hy, hr⟩ := h.vs; exact ⟨y, (cell 2).trans hy, keepR hr (by omega) (by omega)⟩
  · obtain ⟨y, hy, hr⟩ := h.vi; exact ⟨y, (cell 5).trans hy, keepR hr (by omega) (by omega)⟩
  · obtain ⟨y, hy, hr⟩ := h.vj; exact ⟨y, (cell 6).trans hy, keepR hr (by omega) (by omega)⟩
  · obtain ⟨y, hy, hw⟩ := h.nb q hq; exact ⟨y, (cell q).trans hy, hw⟩
  · by_cases e : i' = i
    · subst e
      rw [List.getElem?_set_self hil] at hl'
      obtain rfl : l.set j x = l' := by simpa using hl'
      refine ⟨_, _, hu, hv, ⟨?_, hru.tag⟩, ⟨?_, hrv.tag⟩⟩
      · rw [List.length_set, nums_set]
        exact ownsRow_setCell_other (World.ownsRow.stored hru.row j _).1 (by simp [Value.ownBlock]; exact hne) _
      · rw [List.length_set, nums_set]
        exact (World.ownsRow.stored (ownsRow_setCell_other hrv.row (by simp [Value.ownBlock]; exact Ne.symm hne) _) j _).1
    · rw [List.getElem?_set_ne (Ne.symm e)] at hl'
      obtain ⟨y, z, h3, h4, h5, h6⟩ := h.ll i' l' hl'
      exact ⟨y, z, h3, h4, keepR h5 (by omega) (by omega), keepR h6 (by omega) (by omega)⟩
  · obtain ⟨h1, LL, RR, hr⟩ := h.ss j' p hp
    exact ⟨h1, LL, RR, hr.of_cells (far p.1 (by rw [h1]; omega) (by rw [h1]; omega))⟩
  · rcases List.mem_or_eq_of_mem_set hl' with h' | h'
    · exact h.zl l' h'
    · rw [h', List.length_set]; exact h.zl l (List.mem_of_getElem? hl)
set_option maxRecDepth 100000 in
set_option maxHeartbeats 2000000 in
theorem owner_int {w0 w : World} {b B : Nat} {own : Nat → Nat} {k c : Nat} {T : List ByteArray} {S : List (Nat × ByteArray)} {I J : List Value} {L : List (List Int)} (h : Inv w0 w b B own k c T S I J L) (hk : k ≤ 1048576)
    (a0 b0 c0 : Int) (s0 : ByteArray) (ha : (Lit.int .i64 a0).wf = true) (hb : (Lit.int .i64 b0).wf = true) :
    Calls Tryz.prog 10 #[.pointer (some ⟨b, 0, none⟩), .agg #[.int .i64 12, .int .i64 a0, .int .i64 b0, .int .i64 c0, .string s0]] w fun e w' => e = .returned (.bool true) ∧ St w0 w' b B (k + 1) c := by
  have HI : Hid (Inv w0 w b B own k c T S I J L) := h
  have hblt := h.lt
  have hLk := h.bt.2.2
  have hIL := h.li.1
  have hJL := h.li.2
  obtain ⟨vi, h5, hri⟩ := h.vi
  obtain ⟨vj, h6, hrj⟩ := h.vj
  by_cases hz : L.length = 0
  · obtain ⟨pa, cap, rfl⟩ := hri.form
    rw [show I.length = 0 by omega] at h5
    clear hri hrj h hIL hJL hz hLk h6 ha hb
    go_enter Tryz.func10, Tryz.ntmps10
    go_wp2
    go_ret
    exact ⟨rfl, (HI.out.alloc _).st1⟩
  · obtain ⟨gi, ci, rfl, hgi1, hgi2, hgi3, hgic, hgif, _⟩ := hri.at (by omega)
    obtain ⟨gj, cj, rfl, hgj1, hgj2, hgj3, hgjc, hgjf, _⟩ := hrj.at (by omega)
    obtain ⟨n, hn⟩ : ∃ n, n = L.length := ⟨_, rfl⟩
    rw [hIL, ← hn] at h5
    rw [hJL, ← hn] at h6
    obtain ⟨i, hi, hin⟩ := pickI_nat a0 n (by omega)
    obtain ⟨u, v, l, hu, hv, hl, hll, hru, hrv⟩ := h.ints i (by omega)
    obtain ⟨pu, cu, rfl⟩ := hru.form
    obtain ⟨pv, cv, rfl⟩ := hrv.form
    have ki : w.cell? ⟨gi, i, none⟩ = some (.slice pu l.length cu) := (hgic i (by omega)).trans hu
    have kj : w.cell? ⟨gj, i, none⟩ = some (.slice pv l.length cv) := (hgjc i (by omega)).trans hv
    have HPI : Hid (pickI a0 n = (i : Int)) := hi
    have HW : Hid ((Lit.int .i64 a0).wf = true ∧ (Lit.int .i64 b0).wf = true) := ⟨ha, hb⟩
    have HX : Hid (I[i]? = some (.slice pu l.length cu) ∧ J[i]? = some (.slice pv l.length cv) ∧ L[i]? = some l) := ⟨hu, hv, hl⟩
    have HRU : Hid (Row w B own (6 + 3 * i) 3 1 (.slice pu l.length cu) l.length (nums l)) := hru
    have HRV : Hid (Row w B own (7 + 3 * i) 3 1 (.slice pv l.length cv) l.length (nums l)) := hrv
    obtain ⟨m, hm⟩ : ∃ m, m = l.length := ⟨_, rfl⟩
    have HM : Hid (m = l.length) := hm
    rw [← hm] at ki kj hll
    have hnk : n ≤ 1048576 := by omega
    have hn0 : (0 : Int) < (n : Int) := by omega
    have hin2 : (i : Int) < (n : Int) := by omega
    clear hri hrj h hIL hJL hz hLk ha hb hgic hgjc hgif hgjf hu hv hl hru hrv hi hm hn
    by_cases hz : (0 : Int) < (m : Int)
    · obtain ⟨gu, cu', hpu, hu1, hu2, hu3, huc, huf, _⟩ := HRU.out.at (by rw [← HM.out]; omega)
      obtain ⟨gv, cv', hpv, hv1, hv2, hv3, hvc, hvf, _⟩ := HRV.out.at (by rw [← HM.out]; omega)
      simp at hpu hpv
      obtain ⟨rfl, rfl⟩ := hpu
      obtain ⟨rfl, rfl⟩ := hpv
      obtain ⟨j, hj, hjm⟩ := pickI_nat b0 m (by omega)
      have HPJ : Hid (pickI b0 m = (j : Int)) := hj
      have cu1 : ∃ y, w.cell? ⟨gu, j, none⟩ = some y := ⟨(nums l)[j]'(by simp [nums, ← HM.out]; omega), by rw [huc j (by rw [← HM.out]; omega)]; exact List.getElem?_eq_getElem _⟩
      have cv1 : ∃ y, w.cell? ⟨gv, j, none⟩ = some y := ⟨(nums l)[j]'(by simp [nums, ← HM.out]; omega), by rw [hvc j (by rw [← HM.out]; omega)]; exact List.getElem?_eq_getElem _⟩
      obtain ⟨yu, cu1⟩ := cu1
      obtain ⟨yv, cv1⟩ := cv1
      have fu := huf j
      have fv := hvf j
      have hjm2 : (j : Int) < (m : Int) := by omega
      have hob := HI.out.ob
      have n1 : b ≠ gu := fun e => by rw [e] at hob; omega
      have n2 : b ≠ gv := fun e => by rw [e] at hob; omega
      have n3 : gi ≠ gu := fun e => by rw [e] at hgi3; omega
      have n4 : gj ≠ gu := fun e => by rw [e] at hgj3; omega
      have n5 : gv ≠ gu := fun e => by rw [e] at hv3; omega
      clear huc hvc huf hvf hj hob
      go_enter Tryz.func10, Tryz.ntmps10
      go_wp2_with fail
      go_quiet ((go_at_call 14; exact Calls.quiet_of_same (lpick_at _ _ _ _ HW.out.1 (by omega) (by omega) HPI.out)))
      go_wp2_with fail
      generalize hW : (w.alloc (Obj.cells #[.int .i64 12, .int .i64 a0, .int .i64 b0, .int .i64 c0, .string s0] 28)).drewN nq = W
      have hBl : Below w.heap.size w W := by rw [← hW]; exact below_drewN ((Below.refl _ _).alloc (Nat.le_refl _) _) _
      have HIW : Hid (Inv w0 W b B own k c T S I J L) := HI.out.later hBl
      have k5 := (hBl.cell (p := ⟨b, 5, none⟩) hblt).trans h5
      have k6 := (hBl.cell (p := ⟨b, 6, none⟩) hblt).trans h6
      have kki := (hBl.cell (p := ⟨gi, i, none⟩) hgi1).trans ki
      have kkj := (hBl.cell (p := ⟨gj, i, none⟩) hgj1).trans kj
      have kcu := (hBl.cell (p := ⟨gu, j, none⟩) hu1).trans cu1
      have kcv := (hBl.cell (p := ⟨gv, j, none⟩) hv1).trans cv1
      have kfu := (hBl.frozen (p := ⟨gu, j, none⟩) hu1).trans fu
      have kfv := (hBl.frozen (p := ⟨gv, j, none⟩) hv1).trans fv
      have kb : W.cell? ⟨w.heap.size, 2, none⟩ = some (.int .i64 b0) := by rw [← hW]; simp
      have kc : W.cell? ⟨w.heap.size, 3, none⟩ = some (.int .i64 c0) := by rw [← hW]; simp
      have n6 : w.heap.size ≠ gu := by omega
      obtain ⟨H, hH⟩ : ∃ H, H = w.heap.size := ⟨_, rfl⟩
      rw [← hH] at kb kc n6 ⊢
      clear hW hBl h5 h6 ki kj cu1 cv1 fu fv hu1 hv1 hu2 hv2 hu3 hv3 hgi1 hgi2 hgi3 hgj1 hgj2 hgj3 hblt hH
      go_quiet ((go_at_call 14; exact Calls.quiet_of_same (lpick_at _ _ _ _ HW.out.2 (by omega) (by omega) HPJ.out)))
      go_wp2_with fail
      go_region_held3 (fun X => X.cell? ⟨b, 5, none⟩ = some (.slice (some ⟨gi, 0, none⟩) n ci) ∧ X.cell? ⟨gi, i, none⟩ = some (.slice (some ⟨gu, 0, none⟩) m cu) ∧ X.cell? ⟨H, 3, none⟩ = some (.int .i64 c0)) (first | go_keep | exact ⟨(cs_other (fun e => n1 (by injection e with e1 e2 e3; exact e1.symm))).trans k5, (cs_other (fun e => n3 (by injection e with e1 e2 e3; exact e1.symm))).trans kki, (cs_other (fun e => n6 (by injection e with e1 e2 e3; exact e1.symm))).trans kc⟩) (fail)
      go_wp2_with fail
      generalize hV : ((W.drewN (nq + 1)).setCell ⟨gu, j, none⟩ (.int .i64 c0)) = V
      have v6 : V.cell? ⟨b, 6, none⟩ = some (.slice (some ⟨gj, 0, none⟩) n cj) := by rw [← hV]; exact (cs_other (fun e => n1 (by injection e with e1 e2 e3; exact e1.symm))).trans k6
      have vj : V.cell? ⟨gj, i, none⟩ = some (.slice (some ⟨gv, 0, none⟩) m cv) := by rw [← hV]; exact (cs_other (fun e => n4 (by injection e with e1 e2 e3; exact e1.symm))).trans kkj
      have vc : V.cell? ⟨H, 3, none⟩ = some (.int .i64 c0) := by rw [← hV]; exact (cs_other (fun e => n6 (by injection e with e1 e2 e3; exact e1.symm))).trans kc
      have vv : V.cell? ⟨gv, j, none⟩ = some yv := by rw [← hV]; exact (cs_other (fun e => n5 (by injection e with e1 e2 e3; exact e1.symm))).trans kcv
      have vf : V.frozen? ⟨gv, j, none⟩ = false := by rw [← hV, World.frozen?_setCell]; exact kfv
      have HF : Hid (Inv w0 (V.setCell ⟨gv, j, none⟩ (.int .i64 c0)) b B own k c T S I J (L.set i (l.set j c0))) := by
        rw [← hV]
        exact (HIW.out.drewN (nq + 1)).setInt i l HX.out.2.2 gu cu gv cv HX.out.1 HX.out.2.1 j c0
      clear hV k5 k6 kki kkj kcu kcv kfu kfv kb kc
      go_region
      all_goals
        go_wp2
        go_ret
        exact ⟨rfl, HF.out.drew.st1⟩
    · go_enter Tryz.func10, Tryz.ntmps10
      go_wp2_with fail
      go_quiet ((go_at_call 14; exact Calls.quiet_of_same (lpick_at _ _ _ _ HW.out.1 (by omega) (by omega) HPI.out)))
      go_wp2
      go_ret
      exact ⟨rfl, ((HI.out.alloc _).drewN _).st1⟩
end Go.Proofs.YtipdjbkkpjlamaaGreat
