import Derived.Test.YtbdndhiamihloaaWA
import Derived.WalkSpells
import Derived.WalkLawsBesides
import Derived.Deep.RegionWith
import Derived.Deep.MidRow
namespace Go.Proofs.Ytbdndhiamihloaa
open Go.RowKit
set_option maxRecDepth 100000 in
set_option maxHeartbeats 1000000 in
theorem sumValue_any (b : Nat) (L R : Nat → Int) (l : List UInt8) (w : World) (hp : Rep w b l L R) (hc1 : l.length ≤ 1099511627776) :
    Calls Try.prog 12 #[.pointer (some ⟨b, 0, none⟩)] w fun e w' => e = .returned (.int .u64 (Xi.sum l)) ∧ w' = w := by
  have hc := hp.cells.count
  have HR : Hid (Rep w b l L R) := hp
  have HS : Hid (SumAt w b L R l.length) := hp.cells
  clear hp
  obtain ⟨n, hn⟩ : ∃ n, n = l.length := ⟨_, rfl⟩
  rw [← hn] at hc HS hc1
  have HN : Hid (n = l.length) := hn
  clear hn
  by_cases h32 : 32 ≤ n
  · go_enter Try.func12, Try.ntmps12
    go_wp2_with (first
      | (go_at_call 15; refine (joined_any b L R n _ HS.out).mono ?_; rintro e w' ⟨rfl, rfl⟩)
      | (go_at_call 16; refine (withRest_any b L R n _ _ HS.out hc1).mono ?_; rintro e w' ⟨rfl, rfl⟩)
      | (go_at_call 17; refine (finish_any _ _).mono ?_; rintro e w' ⟨rfl, rfl⟩))
    go_ret
    exact ⟨ret_int (HR.out.long HN.out h32), rfl⟩
  · go_enter Try.func12, Try.ntmps12
    go_wp2_with (first
      | (go_at_call 16; refine (withRest_any b L R n _ _ HS.out hc1).mono ?_; rintro e w' ⟨rfl, rfl⟩)
      | (go_at_call 17; refine (finish_any _ _).mono ?_; rintro e w' ⟨rfl, rfl⟩))
    go_ret
    exact ⟨ret_int (HR.out.bare HN.out h32), rfl⟩
theorem Try.size65 : (Try.prog.info? 35).map (·.size) = some zeros.size := by kernel_rfl
theorem Try.size62 : (Try.prog.info? 32).map (·.size) = some lanes0.size := by kernel_rfl
theorem zeros_one : zeros.all (·.oneCell') = true := by decide +kernel
theorem lanes0_one : lanes0.all (·.oneCell') = true := by simp [lanes0, Value.oneCell']
set_option maxHeartbeats 1000000 in
theorem start_any (b : Nat) (L R : Nat → Int) (c : Int) (w : World) (hs : SumAt w b L R c) :
    Calls Try.prog 14 #[.pointer (some ⟨b, 0, none⟩)] w fun e w' => e = .returned (.tuple #[]) ∧ Upd b w w' ∧ Rep w' b [] (fun _ => 0) (fun _ => 0) := by
  have ht := hs.there 37 (by omega)
  have HS : Hid (SumAt w b L R c) := hs
  clear hs
  go_enter Try.func14, Try.ntmps14
  go_wp2_with (refine wpList_store_mid rfl 35 (.tmp 4) (.tmp 3) rfl b 0 zeros rfl rfl (by rw [zeros_size]; exact ht) Try.size65 zeros_one ?_)
  go_end0
  exact ⟨rfl, (Upd.refl b w).setCells _ _, HS.out.restart⟩
set_option maxHeartbeats 1000000 in
theorem fold_any (b : Nat) (L R : Nat → Int) (c : Nat) (w : World) (hs : SumAt w b L R c) (h32 : 32 < c) :
    Calls Try.prog 18 #[.pointer (some ⟨b, 0, none⟩)] w fun e w' => e = .returned (.tuple #[]) ∧ Upd b w w' ∧ SumAt w' b (lapped L R 4) R c := by
  have hc := hs.count
  have HS : Hid (SumAt w b L R c) := hs
  clear hs
  have hc32 : ((c : Int) == 32) = false := by simp; omega
  go_enter Try.func18, Try.ntmps18
  go_wp2
  clear hc
  go_loopw [2] (fun k wr => ∃ j : Nat, j ≤ 4 ∧ k = .int .i64 j ∧ Upd b w wr ∧ SumAt wr b (lapped L R j) R c) (fun k _ => (4 - intOf k).toNat)
  case atStart => exact ⟨0, by omega, rfl, Upd.refl _ _, by rw [lapped_zero]; exact HS.out⟩
  case round =>
    obtain ⟨j, hj, rfl, hu, hs⟩ := hrel
    by_cases hlt : j < 4
    · have hl : wr.cell? ⟨b, j, none⟩ = some (.int .u64 (L j)) := by rw [hs.lane j hlt, lapped_at]
      have hf := hs.free j
      have HU : Hid (Upd b w wr) := hu
      have HR : Hid (SumAt wr b (lapped L R j) R c) := hs
      clear hu hs HS
      go_wp2_with (go_at_call 21; refine (number_any b (lapped L R j) R c _ _ _ HR.out (by omega) (by omega) (by omega)).mono ?_; rintro e w' ⟨rfl, rfl⟩)
      go_region_with (go_at_call 20; refine (lap_any _ _ _).mono ?_; rintro e w' ⟨rfl, rfl⟩)
      all_goals go_wp2
      exact ⟨⟨j + 1, by omega, by go_num, (HU.out.setCell _ _).drew, (HR.out.lap hlt).drew⟩, by simp [intOf]; omega⟩
    · obtain rfl : j = 4 := by omega
      go_wp2
      go_end0
      exact ⟨rfl, hu, hs⟩
set_option maxHeartbeats 1000000 in
theorem fold_first (b : Nat) (L R : Nat → Int) (w : World) (hs : SumAt w b L R (32 : Nat)) :
    Calls Try.prog 18 #[.pointer (some ⟨b, 0, none⟩)] w fun e w' => e = .returned (.tuple #[]) ∧ Upd b w w' ∧ SumAt w' b (lapped Xi.lane0 R 4) R (32 : Nat) := by
  have hc : w.cell? ⟨b, 36, none⟩ = some (.int .u64 32) := hs.count
  have HS : Hid (SumAt w b L R (32 : Nat)) := hs
  clear hs
  go_enter Try.func18, Try.ntmps18
  go_wp2_with fail
  refine (first_any _).mono ?_
  rintro e w1 ⟨rfl, hw1⟩
  have H1 : Hid (SumAt w1 b L R (32 : Nat)) := by rw [hw1]; exact HS.out.alloc _
  have HU : Hid (Upd b w w1) := by rw [hw1]; exact (Upd.refl b w).alloc _
  clear hw1 hc HS
  go_wp2_with (refine wpList_store_mid rfl 32 (.tmp 12) (.tmp 10) rfl b 0 lanes0 rfl rfl (H1.out.there 4 (by omega)) Try.size62 lanes0_one ?_)
  obtain ⟨w2, hw2⟩ : ∃ w2, w2 = w1.setCells b 0 lanes0.toList := ⟨_, rfl⟩
  have H2 : Hid (SumAt w2 b Xi.lane0 R (32 : Nat)) := by rw [hw2]; exact H1.out.setLanes
  have HV : Hid (Upd b w w2) := by rw [hw2]; exact HU.out.setCells _ _
  rw [← hw2]
  clear hw2 H1 HU
  go_loopw [2] (fun k wr => ∃ j : Nat, j ≤ 4 ∧ k = .int .i64 j ∧ Upd b w wr ∧ SumAt wr b (lapped Xi.lane0 R j) R (32 : Nat)) (fun k _ => (4 - intOf k).toNat)
  case atStart => exact ⟨0, by omega, rfl, HV.out, by rw [lapped_zero]; exact H2.out⟩
  case round =>
    obtain ⟨j, hj, rfl, hu, hs⟩ := hrel
    by_cases hlt : j < 4
    · have hl : wr.cell? ⟨b, j, none⟩ = some (.int .u64 (Xi.lane0 j)) := by rw [hs.lane j hlt, lapped_at]
      have hf := hs.free j
      have HU : Hid (Upd b w wr) := hu
      have HR : Hid (SumAt wr b (lapped Xi.lane0 R j) R (32 : Nat)) := hs
      clear hu hs H2 HV
      go_wp2_with (go_at_call 21; refine (number_any b (lapped Xi.lane0 R j) R (32 : Nat) _ _ _ HR.out (by omega) (by omega) (by omega)).mono ?_; rintro e w' ⟨rfl, rfl⟩)
      go_region_with (go_at_call 20; refine (lap_any _ _ _).mono ?_; rintro e w' ⟨rfl, rfl⟩)
      all_goals go_wp2
      exact ⟨⟨j + 1, by omega, by go_num, (HU.out.setCell _ _).drew, (HR.out.lap hlt).drew⟩, by simp [intOf]; omega⟩
    · obtain rfl : j = 4 := by omega
      go_wp2
      go_end0
      exact ⟨rfl, hu, hs⟩
/-- a whole lot of 32 bytes goes into the lanes -/
theorem fold_all (b : Nat) (L L' R : Nat → Int) (c : Nat) (w : World) (hs : SumAt w b L R c) (hL : c = 32 ∧ L' = Xi.lane0 ∨ 32 < c ∧ L' = L) :
    Calls Try.prog 18 #[.pointer (some ⟨b, 0, none⟩)] w fun e w' => e = .returned (.tuple #[]) ∧ Upd b w w' ∧ SumAt w' b (lapped L' R 4) R c := by
  rcases hL with ⟨rfl, rfl⟩ | ⟨h, rfl⟩
  · exact fold_first b L R w hs
  · exact fold_any b L' R c w hs h
end Go.Proofs.Ytbdndhiamihloaa
