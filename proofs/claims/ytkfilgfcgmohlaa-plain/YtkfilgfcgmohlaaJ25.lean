import Derived.Test.YtkfilgfcgmohlaaJ24
import Derived.WalkKit
import Derived.WalkSpells
import Derived.WalkLawsBesides
namespace Go.Proofs.Ytkfilgfcgmohlaa
open Go.RowKit
/-- which of the last three; how far back -/
def whichN (v l : Nat) : Nat := if 3 < v then 3 else if l = 0 then v else v - 1
def backN (v l : Nat) (R0 R1 R2 : Int) : Int := if 3 < v then (v : Int) - 3 else if whichN v l = 3 then R0 - 1 else if whichN v l = 0 then R0 else if whichN v l = 1 then R1 else R2
/-- those that stood ahead move back by one -/
def repD (C : Nat → Value) (q k : Nat) : Nat → Value :=
  if k = 2 then C else if k = 1 then (if 2 ≤ q then upV C 12 (C 11) else C) else (if 1 ≤ q then upV (if 2 ≤ q then upV C 12 (C 11) else C) 11 (C 10) else C)
def offC (C : Nat → Value) (q : Nat) (back : Int) : Nat → Value := upV (repD C q 0) 10 (.int .i64 back)
theorem repD_c (C : Nat → Value) (q : Nat) (i : Nat) (h : i ≠ 11) (h' : i ≠ 12) (k : Nat) : repD C q k i = C i := by
  unfold repD
  split
  · rfl
  · split
    · split
      · rw [upV_other _ _ _ _ h']
      · rfl
    · split
      · rw [upV_other _ _ _ _ h]
        split
        · rw [upV_other _ _ _ _ h']
        · rfl
      · rfl
set_option maxRecDepth 100000 in
set_option maxHeartbeats 2000000 in
theorem offset_any (b : Nat) (C : Nat → Value) (v l : Nat) (R0 R1 R2 : Int) (w : World) (h : Wc w b C) (h10 : C 10 = .int .i64 R0) (h11 : C 11 = .int .i64 R1) (h12 : C 12 = .int .i64 R2) (hv : 1 ≤ v) (hv2 : v ≤ 1099511627776) (hR : -1099511627776 ≤ R0) (hR2 : R0 ≤ 1099511627776) :
    Calls Try.prog 88 #[.pointer (some ⟨b, 0, none⟩), .int .i64 (v : Int), .int .i64 (l : Int)] w fun x w' => x = .returned (.int .i64 (backN v l R0 R1 R2)) ∧ Wc w' b (offC C (whichN v l) (backN v l R0 R1 R2)) ∧ Upd b w w' := by
  have c10 := h.c 10 (by omega)
  have c11 := h.c 11 (by omega)
  have c12 := h.c 12 (by omega)
  rw [h10] at c10
  rw [h11] at c11
  rw [h12] at c12
  have HW : Hid (Wc w b C) := h
  have HC : Hid (C 10 = .int .i64 R0 ∧ C 11 = .int .i64 R1 ∧ C 12 = .int .i64 R2) := ⟨h10, h11, h12⟩
  clear h h10 h11 h12
  go_enter Try.func88, Try.ntmps88
  by_cases hv3 : 3 < v
  · have hd : decide ((3 : Int) < (v : Int)) = true := decide_eq_true (by omega)
    by_cases hl : l = 0
    · subst hl
      have HQ : Hid (whichN v 0 = 3 ∧ backN v 0 R0 R1 R2 = (v : Int) - 3) := by
        show _ ∧ _
        unfold backN whichN; rw [if_pos hv3, if_pos hv3]; exact ⟨rfl, rfl⟩
      go_wp2_with fail
      go_loopw [9] (fun kv wr => ∃ k : Nat, k ≤ 2 ∧ kv = .int .i64 k ∧ Wc wr b (repD C 3 k) ∧ Upd b w wr) (fun kv _ => (intOf kv).toNat)
      case atStart => exact ⟨2, by omega, rfl, HW.out, Upd.refl b w⟩
      case round =>
        obtain ⟨k, hk, rfl, hWr, hUr⟩ := hrel
        have HWr : Hid (Wc wr b (repD C 3 k) ∧ Upd b w wr) := ⟨hWr, hUr⟩
        have d10 := hWr.c 10 (by omega)
        have d11 := hWr.c 11 (by omega)
        have d12 := hWr.c 12 (by omega)
        have f10 := hWr.fz 10
        have f11 := hWr.fz 11
        have f12 := hWr.fz 12
        rw [repD_c C 3 10 (by omega) (by omega) k, HC.out.1] at d10
        clear hWr hUr
        rcases (show k = 2 ∨ k = 1 ∨ k = 0 by omega) with rfl | rfl | rfl
        · rw [show repD C 3 2 11 = C 11 from rfl, HC.out.2.1] at d11
          rw [show repD C 3 2 12 = C 12 from rfl, HC.out.2.2] at d12
          go_wp2_with fail
          go_region
          go_wp2_with fail
          refine ⟨⟨1, by omega, rfl, ?_, ?_⟩, by simp [intOf]⟩
          · rw [show repD C 3 1 = upV (repD C 3 2) 12 (.int .i64 R1) by rw [← HC.out.2.1]; rfl]; exact (HWr.out.1.set 12 (by omega) (.int .i64 R1)).sm ((Sm.refl _).drew)
          · first | exact (HWr.out.2.drew).setCell 12 _ | exact ((HWr.out.2).setCell 12 _).drew
        · obtain ⟨x11, hx11⟩ : ∃ x11, repD C 3 1 11 = .int .i64 x11 := ⟨R1, by rw [← HC.out.2.1]; rfl⟩
          rw [hx11] at d11
          go_wp2_with fail
          go_region
          go_wp2_with fail
          refine ⟨⟨0, by omega, rfl, ?_, ?_⟩, by simp [intOf]⟩
          · rw [show repD C 3 0 = upV (repD C 3 1) 11 (.int .i64 R0) by rw [← HC.out.1]; rfl]; exact (HWr.out.1.set 11 (by omega) (.int .i64 R0)).sm ((Sm.refl _).drew)
          · first | exact (HWr.out.2.drew).setCell 11 _ | exact ((HWr.out.2).setCell 11 _).drew
        · go_wp2_with fail
          go_ret
          refine ⟨by rw [HQ.out.2]; rfl, ?_, (HWr.out.2).setCell 10 _⟩
          rw [HQ.out.1, HQ.out.2]
          exact HWr.out.1.set 10 (by omega) _
    · have hlb : ((l : Int) == 0) = false := by rw [beq_eq_false_iff_ne]; omega
      have HQ : Hid (whichN v l = 3 ∧ backN v l R0 R1 R2 = (v : Int) - 3) := by
        show _ ∧ _
        unfold backN whichN; rw [if_pos hv3, if_pos hv3]; exact ⟨rfl, rfl⟩
      go_wp2_with fail
      go_loopw [9] (fun kv wr => ∃ k : Nat, k ≤ 2 ∧ kv = .int .i64 k ∧ Wc wr b (repD C 3 k) ∧ Upd b w wr) (fun kv _ => (intOf kv).toNat)
      case atStart => exact ⟨2, by omega, rfl, HW.out, Upd.refl b w⟩
      case round =>
        obtain ⟨k, hk, rfl, hWr, hUr⟩ := hrel
        have HWr : Hid (Wc wr b (repD C 3 k) ∧ Upd b w wr) := ⟨hWr, hUr⟩
        have d10 := hWr.c 10 (by omega)
        have d11 := hWr.c 11 (by omega)
        have d12 := hWr.c 12 (by omega)
        have f10 := hWr.fz 10
        have f11 := hWr.fz 11
        have f12 := hWr.fz 12
        rw [repD_c C 3 10 (by omega) (by omega) k, HC.out.1] at d10
        clear hWr hUr
        rcases (show k = 2 ∨ k = 1 ∨ k = 0 by omega) with rfl | rfl | rfl
        · rw [show repD C 3 2 11 = C 11 from rfl, HC.out.2.1] at d11
          rw [show repD C 3 2 12 = C 12 from rfl, HC.out.2.2] at d12
          go_wp2_with fail
          go_region
          go_wp2_with fail
          refine ⟨⟨1, by omega, rfl, ?_, ?_⟩, by simp [intOf]⟩
          · rw [show repD C 3 1 = upV (repD C 3 2) 12 (.int .i64 R1) by rw [← HC.out.2.1]; rfl]; exact (HWr.out.1.set 12 (by omega) (.int .i64 R1)).sm ((Sm.refl _).drew)
          · first | exact (HWr.out.2.drew).setCell 12 _ | exact ((HWr.out.2).setCell 12 _).drew
        · obtain ⟨x11, hx11⟩ : ∃ x11, repD C 3 1 11 = .int .i64 x11 := ⟨R1, by rw [← HC.out.2.1]; rfl⟩
          rw [hx11] at d11
          go_wp2_with fail
          go_region
          go_wp2_with fail
          refine ⟨⟨0, by omega, rfl, ?_, ?_⟩, by simp [intOf]⟩
          · rw [show repD C 3 0 = upV (repD C 3 1) 11 (.int .i64 R0) by rw [← HC.out.1]; rfl]; exact (HWr.out.1.set 11 (by omega) (.int .i64 R0)).sm ((Sm.refl _).drew)
          · first | exact (HWr.out.2.drew).setCell 11 _ | exact ((HWr.out.2).setCell 11 _).drew
        · go_wp2_with fail
          go_ret
          refine ⟨by rw [HQ.out.2]; rfl, ?_, (HWr.out.2).setCell 10 _⟩
          rw [HQ.out.1, HQ.out.2]
          exact HWr.out.1.set 10 (by omega) _
  · have hd : decide ((3 : Int) < (v : Int)) = false := decide_eq_false (by omega)
    by_cases hl : l = 0
    · subst hl
      rcases (show v = 1 ∨ v = 2 ∨ v = 3 by omega) with rfl | rfl | rfl
      · have HQ : Hid (whichN 1 0 = 1 ∧ backN 1 0 R0 R1 R2 = R1) := by
          show _ ∧ _
          exact ⟨rfl, rfl⟩
        go_wp2_with fail
        go_loopw [9] (fun kv wr => ∃ k : Nat, k ≤ 2 ∧ kv = .int .i64 k ∧ Wc wr b (repD C 1 k) ∧ Upd b w wr) (fun kv _ => (intOf kv).toNat)
        case atStart => exact ⟨2, by omega, rfl, HW.out, Upd.refl b w⟩
        case round =>
          obtain ⟨k, hk, rfl, hWr, hUr⟩ := hrel
          have HWr : Hid (Wc wr b (repD C 1 k) ∧ Upd b w wr) := ⟨hWr, hUr⟩
          have d10 := hWr.c 10 (by omega)
          have d11 := hWr.c 11 (by omega)
          have d12 := hWr.c 12 (by omega)
          have f10 := hWr.fz 10
          have f11 := hWr.fz 11
          have f12 := hWr.fz 12
          rw [repD_c C 1 10 (by omega) (by omega) k, HC.out.1] at d10
          clear hWr hUr
          rcases (show k = 2 ∨ k = 1 ∨ k = 0 by omega) with rfl | rfl | rfl
          · rw [show repD C 1 2 11 = C 11 from rfl, HC.out.2.1] at d11
            rw [show repD C 1 2 12 = C 12 from rfl, HC.out.2.2] at d12
            go_wp2_with fail
            skip
            skip
            refine ⟨⟨1, by omega, rfl, ?_, ?_⟩, by simp [intOf]⟩
            · exact HWr.out.1
            · exact HWr.out.2
          · obtain ⟨x11, hx11⟩ : ∃ x11, repD C 1 1 11 = .int .i64 x11 := ⟨R1, by rw [← HC.out.2.1]; rfl⟩
            rw [hx11] at d11
            go_wp2_with fail
            go_region
            go_wp2_with fail
            refine ⟨⟨0, by omega, rfl, ?_, ?_⟩, by simp [intOf]⟩
            · rw [show repD C 1 0 = upV (repD C 1 1) 11 (.int .i64 R0) by rw [← HC.out.1]; rfl]; exact (HWr.out.1.set 11 (by omega) (.int .i64 R0)).sm ((Sm.refl _).drew)
            · first | exact (HWr.out.2.drew).setCell 11 _ | exact ((HWr.out.2).setCell 11 _).drew
          · go_wp2_with fail
            go_ret
            refine ⟨by rw [HQ.out.2]; rfl, ?_, (HWr.out.2).setCell 10 _⟩
            rw [HQ.out.1, HQ.out.2]
            exact HWr.out.1.set 10 (by omega) _
      · have HQ : Hid (whichN 2 0 = 2 ∧ backN 2 0 R0 R1 R2 = R2) := by
          show _ ∧ _
          exact ⟨rfl, rfl⟩
        go_wp2_with fail
        go_loopw [9] (fun kv wr => ∃ k : Nat, k ≤ 2 ∧ kv = .int .i64 k ∧ Wc wr b (repD C 2 k) ∧ Upd b w wr) (fun kv _ => (intOf kv).toNat)
        case atStart => exact ⟨2, by omega, rfl, HW.out, Upd.refl b w⟩
        case round =>
          obtain ⟨k, hk, rfl, hWr, hUr⟩ := hrel
          have HWr : Hid (Wc wr b (repD C 2 k) ∧ Upd b w wr) := ⟨hWr, hUr⟩
          have d10 := hWr.c 10 (by omega)
          have d11 := hWr.c 11 (by omega)
          have d12 := hWr.c 12 (by omega)
          have f10 := hWr.fz 10
          have f11 := hWr.fz 11
          have f12 := hWr.fz 12
          rw [repD_c C 2 10 (by omega) (by omega) k, HC.out.1] at d10
          clear hWr hUr
          rcases (show k = 2 ∨ k = 1 ∨ k = 0 by omega) with rfl | rfl | rfl
          · rw [show repD C 2 2 11 = C 11 from rfl, HC.out.2.1] at d11
            rw [show repD C 2 2 12 = C 12 from rfl, HC.out.2.2] at d12
            go_wp2_with fail
            go_region
            go_wp2_with fail
            refine ⟨⟨1, by omega, rfl, ?_, ?_⟩, by simp [intOf]⟩
            · rw [show repD C 2 1 = upV (repD C 2 2) 12 (.int .i64 R1) by rw [← HC.out.2.1]; rfl]; exact (HWr.out.1.set 12 (by omega) (.int .i64 R1)).sm ((Sm.refl _).drew)
            · first | exact (HWr.out.2.drew).setCell 12 _ | exact ((HWr.out.2).setCell 12 _).drew
          · obtain ⟨x11, hx11⟩ : ∃ x11, repD C 2 1 11 = .int .i64 x11 := ⟨R1, by rw [← HC.out.2.1]; rfl⟩
            rw [hx11] at d11
            go_wp2_with fail
            go_region
            go_wp2_with fail
            refine ⟨⟨0, by omega, rfl, ?_, ?_⟩, by simp [intOf]⟩
            · rw [show repD C 2 0 = upV (repD C 2 1) 11 (.int .i64 R0) by rw [← HC.out.1]; rfl]; exact (HWr.out.1.set 11 (by omega) (.int .i64 R0)).sm ((Sm.refl _).drew)
            · first | exact (HWr.out.2.drew).setCell 11 _ | exact ((HWr.out.2).setCell 11 _).drew
          · go_wp2_with fail
            go_ret
            refine ⟨by rw [HQ.out.2]; rfl, ?_, (HWr.out.2).setCell 10 _⟩
            rw [HQ.out.1, HQ.out.2]
            exact HWr.out.1.set 10 (by omega) _
      · have HQ : Hid (whichN 3 0 = 3 ∧ backN 3 0 R0 R1 R2 = R0 - 1) := by
          show _ ∧ _
          exact ⟨rfl, rfl⟩
        go_wp2_with fail
        go_loopw [9] (fun kv wr => ∃ k : Nat, k ≤ 2 ∧ kv = .int .i64 k ∧ Wc wr b (repD C 3 k) ∧ Upd b w wr) (fun kv _ => (intOf kv).toNat)
        case atStart => exact ⟨2, by omega, rfl, HW.out, Upd.refl b w⟩
        case round =>
          obtain ⟨k, hk, rfl, hWr, hUr⟩ := hrel
          have HWr : Hid (Wc wr b (repD C 3 k) ∧ Upd b w wr) := ⟨hWr, hUr⟩
          have d10 := hWr.c 10 (by omega)
          have d11 := hWr.c 11 (by omega)
          have d12 := hWr.c 12 (by omega)
          have f10 := hWr.fz 10
          have f11 := hWr.fz 11
          have f12 := hWr.fz 12
          rw [repD_c C 3 10 (by omega) (by omega) k, HC.out.1] at d10
          clear hWr hUr
          rcases (show k = 2 ∨ k = 1 ∨ k = 0 by omega) with rfl | rfl | rfl
          · rw [show repD C 3 2 11 = C 11 from rfl, HC.out.2.1] at d11
            rw [show repD C 3 2 12 = C 12 from rfl, HC.out.2.2] at d12
            go_wp2_with fail
            go_region
            go_wp2_with fail
            refine ⟨⟨1, by omega, rfl, ?_, ?_⟩, by simp [intOf]⟩
            · rw [show repD C 3 1 = upV (repD C 3 2) 12 (.int .i64 R1) by rw [← HC.out.2.1]; rfl]; exact (HWr.out.1.set 12 (by omega) (.int .i64 R1)).sm ((Sm.refl _).drew)
            · first | exact (HWr.out.2.drew).setCell 12 _ | exact ((HWr.out.2).setCell 12 _).drew
          · obtain ⟨x11, hx11⟩ : ∃ x11, repD C 3 1 11 = .int .i64 x11 := ⟨R1, by rw [← HC.out.2.1]; rfl⟩
            rw [hx11] at d11
            go_wp2_with fail
            go_region
            go_wp2_with fail
            refine ⟨⟨0, by omega, rfl, ?_, ?_⟩, by simp [intOf]⟩
            · rw [show repD C 3 0 = upV (repD C 3 1) 11 (.int .i64 R0) by rw [← HC.out.1]; rfl]; exact (HWr.out.1.set 11 (by omega) (.int .i64 R0)).sm ((Sm.refl _).drew)
            · first | exact (HWr.out.2.drew).setCell 11 _ | exact ((HWr.out.2).setCell 11 _).drew
          · go_wp2_with fail
            go_ret
            refine ⟨by rw [HQ.out.2]; rfl, ?_, (HWr.out.2).setCell 10 _⟩
            rw [HQ.out.1, HQ.out.2]
            exact HWr.out.1.set 10 (by omega) _
    · have hlb : ((l : Int) == 0) = false := by rw [beq_eq_false_iff_ne]; omega
      rcases (show v = 1 ∨ v = 2 ∨ v = 3 by omega) with rfl | rfl | rfl
      · have HQ : Hid (whichN 1 l = 0 ∧ backN 1 l R0 R1 R2 = R0) := by
          show _ ∧ _
          unfold backN whichN; simp [hl]
        go_wp2_with fail
        go_loopw [9] (fun kv wr => ∃ k : Nat, k ≤ 2 ∧ kv = .int .i64 k ∧ Wc wr b (repD C 0 k) ∧ Upd b w wr) (fun kv _ => (intOf kv).toNat)
        case atStart => exact ⟨2, by omega, rfl, HW.out, Upd.refl b w⟩
        case round =>
          obtain ⟨k, hk, rfl, hWr, hUr⟩ := hrel
          have HWr : Hid (Wc wr b (repD C 0 k) ∧ Upd b w wr) := ⟨hWr, hUr⟩
          have d10 := hWr.c 10 (by omega)
          have d11 := hWr.c 11 (by omega)
          have d12 := hWr.c 12 (by omega)
          have f10 := hWr.fz 10
          have f11 := hWr.fz 11
          have f12 := hWr.fz 12
          rw [repD_c C 0 10 (by omega) (by omega) k, HC.out.1] at d10
          clear hWr hUr
          rcases (show k = 2 ∨ k = 1 ∨ k = 0 by omega) with rfl | rfl | rfl
          · rw [show repD C 0 2 11 = C 11 from rfl, HC.out.2.1] at d11
            rw [show repD C 0 2 12 = C 12 from rfl, HC.out.2.2] at d12
            go_wp2_with fail
            skip
            skip
            refine ⟨⟨1, by omega, rfl, ?_, ?_⟩, by simp [intOf]⟩
            · exact HWr.out.1
            · exact HWr.out.2
          · obtain ⟨x11, hx11⟩ : ∃ x11, repD C 0 1 11 = .int .i64 x11 := ⟨R1, by rw [← HC.out.2.1]; rfl⟩
            rw [hx11] at d11
            go_wp2_with fail
            skip
            skip
            refine ⟨⟨0, by omega, rfl, ?_, ?_⟩, by simp [intOf]⟩
            · exact HWr.out.1
            · exact HWr.out.2
          · go_wp2_with fail
            go_ret
            refine ⟨by rw [HQ.out.2]; rfl, ?_, (HWr.out.2).setCell 10 _⟩
            rw [HQ.out.1, HQ.out.2]
            exact HWr.out.1.set 10 (by omega) _
      · have HQ : Hid (whichN 2 l = 1 ∧ backN 2 l R0 R1 R2 = R1) := by
          show _ ∧ _
          unfold backN whichN; simp [hl]
        go_wp2_with fail
        go_loopw [9] (fun kv wr => ∃ k : Nat, k ≤ 2 ∧ kv = .int .i64 k ∧ Wc wr b (repD C 1 k) ∧ Upd b w wr) (fun kv _ => (intOf kv).toNat)
        case atStart => exact ⟨2, by omega, rfl, HW.out, Upd.refl b w⟩
        case round =>
          obtain ⟨k, hk, rfl, hWr, hUr⟩ := hrel
          have HWr : Hid (Wc wr b (repD C 1 k) ∧ Upd b w wr) := ⟨hWr, hUr⟩
          have d10 := hWr.c 10 (by omega)
          have d11 := hWr.c 11 (by omega)
          have d12 := hWr.c 12 (by omega)
          have f10 := hWr.fz 10
          have f11 := hWr.fz 11
          have f12 := hWr.fz 12
          rw [repD_c C 1 10 (by omega) (by omega) k, HC.out.1] at d10
          clear hWr hUr
          rcases (show k = 2 ∨ k = 1 ∨ k = 0 by omega) with rfl | rfl | rfl
          · rw [show repD C 1 2 11 = C 11 from rfl, HC.out.2.1] at d11
            rw [show repD C 1 2 12 = C 12 from rfl, HC.out.2.2] at d12
            go_wp2_with fail
            skip
            skip
            refine ⟨⟨1, by omega, rfl, ?_, ?_⟩, by simp [intOf]⟩
            · exact HWr.out.1
            · exact HWr.out.2
          · obtain ⟨x11, hx11⟩ : ∃ x11, repD C 1 1 11 = .int .i64 x11 := ⟨R1, by rw [← HC.out.2.1]; rfl⟩
            rw [hx11] at d11
            go_wp2_with fail
            go_region
            go_wp2_with fail
            refine ⟨⟨0, by omega, rfl, ?_, ?_⟩, by simp [intOf]⟩
            · rw [show repD C 1 0 = upV (repD C 1 1) 11 (.int .i64 R0) by rw [← HC.out.1]; rfl]; exact (HWr.out.1.set 11 (by omega) (.int .i64 R0)).sm ((Sm.refl _).drew)
            · first | exact (HWr.out.2.drew).setCell 11 _ | exact ((HWr.out.2).setCell 11 _).drew
          · go_wp2_with fail
            go_ret
            refine ⟨by rw [HQ.out.2]; rfl, ?_, (HWr.out.2).setCell 10 _⟩
            rw [HQ.out.1, HQ.out.2]
            exact HWr.out.1.set 10 (by omega) _
      · have HQ : Hid (whichN 3 l = 2 ∧ backN 3 l R0 R1 R2 = R2) := by
          show _ ∧ _
          unfold backN whichN; simp [hl]
        go_wp2_with fail
        go_loopw [9] (fun kv wr => ∃ k : Nat, k ≤ 2 ∧ kv = .int .i64 k ∧ Wc wr b (repD C 2 k) ∧ Upd b w wr) (fun kv _ => (intOf kv).toNat)
        case atStart => exact ⟨2, by omega, rfl, HW.out, Upd.refl b w⟩
        case round =>
          obtain ⟨k, hk, rfl, hWr, hUr⟩ := hrel
          have HWr : Hid (Wc wr b (repD C 2 k) ∧ Upd b w wr) := ⟨hWr, hUr⟩
          have d10 := hWr.c 10 (by omega)
          have d11 := hWr.c 11 (by omega)
          have d12 := hWr.c 12 (by omega)
          have f10 := hWr.fz 10
          have f11 := hWr.fz 11
          have f12 := hWr.fz 12
          rw [repD_c C 2 10 (by omega) (by omega) k, HC.out.1] at d10
          clear hWr hUr
          rcases (show k = 2 ∨ k = 1 ∨ k = 0 by omega) with rfl | rfl | rfl
          · rw [show repD C 2 2 11 = C 11 from rfl, HC.out.2.1] at d11
            rw [show repD C 2 2 12 = C 12 from rfl, HC.out.2.2] at d12
            go_wp2_with fail
            go_region
            go_wp2_with fail
            refine ⟨⟨1, by omega, rfl, ?_, ?_⟩, by simp [intOf]⟩
            · rw [show repD C 2 1 = upV (repD C 2 2) 12 (.int .i64 R1) by rw [← HC.out.2.1]; rfl]; exact (HWr.out.1.set 12 (by omega) (.int .i64 R1)).sm ((Sm.refl _).drew)
            · first | exact (HWr.out.2.drew).setCell 12 _ | exact ((HWr.out.2).setCell 12 _).drew
          · obtain ⟨x11, hx11⟩ : ∃ x11, repD C 2 1 11 = .int .i64 x11 := ⟨R1, by rw [← HC.out.2.1]; rfl⟩
            rw [hx11] at d11
            go_wp2_with fail
            go_region
            go_wp2_with fail
            refine ⟨⟨0, by omega, rfl, ?_, ?_⟩, by simp [intOf]⟩
            · rw [show repD C 2 0 = upV (repD C 2 1) 11 (.int .i64 R0) by rw [← HC.out.1]; rfl]; exact (HWr.out.1.set 11 (by omega) (.int .i64 R0)).sm ((Sm.refl _).drew)
            · first | exact (HWr.out.2.drew).setCell 11 _ | exact ((HWr.out.2).setCell 11 _).drew
          · go_wp2_with fail
            go_ret
            refine ⟨by rw [HQ.out.2]; rfl, ?_, (HWr.out.2).setCell 10 _⟩
            rw [HQ.out.1, HQ.out.2]
            exact HWr.out.1.set 10 (by omega) _
end Go.Proofs.Ytkfilgfcgmohlaa
namespace Go.Proofs.Ytkfilgfcgmohlaa
open Go.RowKit
/-- a state has gone on -/
structure OnQ (w w' : World) (r g m : Nat) (f : Nat → Nat) (pos ab t y : Nat) : Prop where
  rd : RdAt w' r g m f pos
  here : w'.cell? ⟨ab, t, none⟩ = some (.int .i64 (y : Int))
  others : ∀ i, i ≠ t → w'.cell? ⟨ab, i, none⟩ = w.cell? ⟨ab, i, none⟩
  fz : ∀ i, w'.frozen? ⟨ab, i, none⟩ = false
  upd : Upd2 r (some ab) w w'
theorem Upd.then2 {r ab i : Nat} {w w1 : World} (h : Upd r w w1) (v : Value) : Upd2 r (some ab) w (w1.setCell ⟨ab, i, none⟩ v) :=
  ⟨h.os, h.tape, h.output, by rw [World.size_setCell]; exact h.size, fun k h1 h2 h3 => (Below.heap_setCell _ _ _ _ (fun e => h3 (congrArg some e))).trans (h.block k h1 h2)⟩
theorem OnQ.sm {w w' w2 : World} {r g m : Nat} {f : Nat → Nat} {pos ab t y : Nat} (h : OnQ w w' r g m f pos ab t y) (hs : Sm w' w2) : OnQ w w2 r g m f pos ab t y :=
  ⟨h.rd.sm hs, (hs.cell _).trans h.here, fun i hi => (hs.cell _).trans (h.others i hi), fun i => (hs.frozen _).trans (h.fz i), ⟨hs.os.trans h.upd.os, hs.tape.trans h.upd.tape, hs.output.trans h.upd.output, by rw [hs.heap]; exact h.upd.size, fun k h1 h2 h3 => by rw [hs.heap]; exact h.upd.block k h1 h2 h3⟩⟩
set_option maxRecDepth 100000 in
set_option maxHeartbeats 2000000 in
theorem on_any (b r g m ab tb t lo hi size log x pos : Nat) (f F Bt L : Nat → Nat) (C : Nat → Value) (w : World) (ht : t < 3) (h : Wc w b C) (h7 : C (7 + t) = .pointer (some ⟨tb, 0, none⟩)) (hT : TabAt w lo hi tb size log F Bt L) (hR : RdAt w r g m f pos)
    (ha : w.cell? ⟨ab, t, none⟩ = some (.int .i64 (x : Int))) (haf : ∀ i, w.frozen? ⟨ab, i, none⟩ = false) (hx : x < size) (hb : Bt x ≤ 9) (hl : L x ≤ 512) (hbr : b ≠ r) (hab : ab ≠ r) (hag : 0 < m → g ≠ ab) (hh : hi ≤ w.heap.size) (hrt : r < lo ∨ hi ≤ r) :
    Calls Try.prog 87 #[.pointer (some ⟨b, 0, none⟩), .pointer (some ⟨r, 0, none⟩), .pointer (some ⟨ab, 0, none⟩), .int .i64 (t : Int)] w fun e w' => e = .returned (.tuple #[]) ∧ OnQ w w' r g m f (pos + Bt x) ab t (L x + highN m f pos (Bt x)) := by
  obtain ⟨gs, gb, gl, t0, t1, t2, t3, hs', hb', hl', q1, q2, q3, q4, q5, q6⟩ := hT.ex
  have bc := hb'.c x hx
  have lc := hl'.c x hx
  have HTT : Hid (lo ≤ tb ∧ tb < hi ∧ lo ≤ gb ∧ gb < hi ∧ lo ≤ gl ∧ gl < hi) := ⟨hT.tlo, hT.thi, q3, q4, q5, q6⟩
  have c7 := h.c (7 + t) (by omega)
  rw [h7] at c7
  have hf2 := hR.two
  have hbl : b < w.heap.size := h.lt
  have HA : Hid (∀ i, w.frozen? ⟨ab, i, none⟩ = false) := haf
  have hal : ab < w.heap.size := block_lt_of_cell ha
  have hxI : (x : Int) < (size : Int) := by omega
  have hx0 : (0 : Int) ≤ (x : Int) := by omega
  obtain ⟨B, hBe⟩ : ∃ B, B = Bt x := ⟨_, rfl⟩
  obtain ⟨lw, hlw⟩ : ∃ lw, lw = L x := ⟨_, rfl⟩
  rw [← hBe] at bc hb ⊢
  rw [← hlw] at lc hl ⊢
  clear hs' hb' hl' hT h h7 haf q1 q2 q3 q4 q5 q6 hBe hlw t0 t1
  have key : ∀ (w1 : World) (y : Nat), RdAt w1 r g m f (pos + B) → Upd r w w1 → y = lw + highN m f pos B → OnQ w (w1.setCell ⟨ab, t, none⟩ (.int .i64 (y : Int))) r g m f (pos + B) ab t (lw + highN m f pos B) := by
    intro w1 y hR1 hU1 hy
    refine ⟨hR1.keep (Below.heap_setCell _ _ _ _ (Ne.symm hab)) (fun hm => Below.heap_setCell _ _ _ _ (hag hm)), ?_, fun i hi => ?_, fun i => ?_, hU1.then2 _⟩
    · rw [cs_same ((hU1.cell (p := ⟨ab, t, none⟩) hal hab).trans ha), hy]
    · rw [cs_other (addr_ne (Ne.symm hi))]; exact hU1.cell (p := ⟨ab, i, none⟩) hal hab
    · rw [World.frozen?_setCell, hU1.frozen (p := ⟨ab, i, none⟩) hal hab]; exact HA.out i
  have KEY : Hid (∀ (w1 : World) (y : Nat), RdAt w1 r g m f (pos + B) → Upd r w w1 → y = lw + highN m f pos B → OnQ w (w1.setCell ⟨ab, t, none⟩ (.int .i64 (y : Int))) r g m f (pos + B) ab t (lw + highN m f pos B)) := key
  clear key
  rcases (show t = 0 ∨ t = 1 ∨ t = 2 by omega) with rfl | rfl | rfl
  all_goals
    go_enter Try.func87, Try.ntmps87
    go_wp2_with fail
    refine (rd_high r g m f pos B _ hR (by omega)).mono ?_
    rintro e w1 ⟨rfl, hR1, hU1⟩
    have HR1 : Hid (RdAt w1 r g m f (pos + B) ∧ Upd r w w1) := ⟨hR1, hU1⟩
    have hv := highN_lt m f hf2 pos B
    have h2b : 2 ^ B ≤ 2 ^ 9 := Nat.pow_le_pow_right (by omega) hb
    have d7 := (hU1.cell (p := ⟨b, _, none⟩) hbl hbr).trans c7
    have e3 := (hU1.cell (p := ⟨tb, 1 + 1 + 1, none⟩) (by have := HTT.out; show tb < _; omega) (by have := HTT.out; show tb ≠ r; omega)).trans t3
    have el := (hU1.cell (p := ⟨gl, x, none⟩) (by have := HTT.out; show gl < _; omega) (by have := HTT.out; show gl ≠ r; omega)).trans lc
    have ea := (hU1.cell (p := ⟨ab, _, none⟩) hal hab).trans ha
    have ef := fun i => (hU1.frozen (p := ⟨ab, i, none⟩) hal hab).trans (HA.out i)
    have ef0 := ef 0
    have ef1 := ef 1
    have ef2 := ef 2
    obtain ⟨v, hve⟩ : ∃ v, v = highN m f pos B := ⟨_, rfl⟩
    have HV : Hid (v = highN m f pos B) := hve
    rw [← hve] at hv ⊢
    clear hR1 hU1 c7 t2 t3 bc lc hve ef hR
    go_wp2_with fail
    go_region
    go_wp2_with fail
    have h := KEY.out w1 (lw + v) HR1.out.1 HR1.out.2 (by rw [HV.out])
    rw [Int.natCast_add] at h
    exact bodyPost_end (results_none rfl _ _ _) rfl ⟨rfl, h.sm ((Sm.refl _).drew)⟩
end Go.Proofs.Ytkfilgfcgmohlaa
