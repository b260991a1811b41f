import Derived.Test.YtbdndhiamihloaaState
import Derived.WalkKit
import Derived.WalkSpells
import Derived.WalkLawsBesides
namespace Go.Proofs.Ytbdndhiamihloaa
open Go.RowKit
set_option maxHeartbeats 400000 in
theorem turn_any (x : Int) (k : Int) (w : World) (hk : 1 ≤ k) (hk2 : k ≤ 63) :
    Calls Try.prog 19 #[.int .u64 x, .int .u64 k] w fun e w' => e = .returned (.int .u64 (Xi.rol x k.toNat)) ∧ w' = w := by
  obtain ⟨k, rfl⟩ := Int.eq_ofNat_of_zero_le (show 0 ≤ k by omega)
  rw [Int.toNat_natCast]
  go_enter Try.func19, Try.ntmps19
  go_wp2
  go_ret
  exact ⟨rfl, rfl⟩
set_option maxHeartbeats 400000 in
theorem lap_any (v x : Int) (w : World) :
    Calls Try.prog 20 #[.int .u64 v, .int .u64 x] w fun e w' => e = .returned (.int .u64 (Xi.lap v x)) ∧ w' = w := by
  go_enter Try.func20, Try.ntmps20
  go_wp2_with fail
  refine (turn_any _ 31 _ (by omega) (by omega)).mono ?_
  rintro e w' ⟨rfl, rfl⟩
  go_wp2
  go_ret
  exact ⟨rfl, rfl⟩
set_option maxHeartbeats 400000 in
theorem finish_any (h : Int) (w : World) :
    Calls Try.prog 17 #[.int .u64 h] w fun e w' => e = .returned (.int .u64 (Xi.fin h)) ∧ w' = w := by
  go_enter Try.func17, Try.ntmps17
  go_wp2
  go_ret
  exact ⟨rfl, rfl⟩
set_option maxHeartbeats 400000 in
theorem first_any (w : World) :
    Calls Try.prog 22 #[] w fun e w' => e = .returned (.agg lanes0) ∧ w' = w.alloc (.cells lanes0 32) := by
  go_enter Try.func22, Try.ntmps22
  go_wp2
  exact bodyPost_ret (v := .agg lanes0) (by simp [results, Try.results22, go_sem, lanes0]) rfl ⟨rfl, rfl⟩
set_option maxHeartbeats 400000 in
theorem number_any (b : Nat) (L R : Nat → Int) (c : Int) (at0 n : Int) (w : World) (hs : SumAt w b L R c) (h0 : 0 ≤ at0) (h1 : 0 ≤ n) (h2 : at0 + n ≤ 32) :
    Calls Try.prog 21 #[.pointer (some ⟨b, 0, none⟩), .int .i64 at0, .int .i64 n] w fun e w' => e = .returned (.int .u64 (Xi.num R at0.toNat n.toNat)) ∧ w' = w := by
  obtain ⟨p, rfl⟩ := Int.eq_ofNat_of_zero_le h0
  obtain ⟨n, rfl⟩ := Int.eq_ofNat_of_zero_le h1
  rw [Int.toNat_natCast, Int.toNat_natCast]
  have hr := hs.rest
  have hb := hs.small
  clear hs
  go_enter Try.func21, Try.ntmps21
  go_wp2
  go_loop [7, 8] (fun x i => ∃ k : Nat, k ≤ n ∧ i = .int .i64 ((k : Int) - 1) ∧ x = .int .u64 (Xi.numTo R p n (n - k))) (fun _ i => (intOf i + 1).toNat)
  case atStart => exact ⟨n, Nat.le_refl _, rfl, by simp [Xi.numTo]⟩
  case round =>
    obtain ⟨k, hk, rfl, rfl⟩ := hrel
    cases k with
    | succ k =>
      have e1 : ((k + 1 : Nat) : Int) - 1 = (k : Int) := by omega
      have hc : w.cell? ⟨b, 4 + (p + k) % 32, none⟩ = some (.int .u8 (R (p + k))) := by rw [Nat.mod_eq_of_lt (by omega)]; exact hr (p + k) (by omega)
      have hb0 := (hb (p + k)).1
      have hb1 := (hb (p + k)).2
      clear hr hb
      rw [e1]
      clear e1
      go_wp2
      go_round
      case rel =>
        refine ⟨k, by omega, rfl, ?_⟩
        rw [Xi.numTo_step R p n k hk]
      case measure => simp [intOf]
    | zero =>
      clear hr hb
      go_wp2
      go_ret
      exact ⟨rfl, rfl⟩
set_option maxHeartbeats 1000000 in
theorem joined_any (b : Nat) (L R : Nat → Int) (c : Int) (w : World) (hs : SumAt w b L R c) :
    Calls Try.prog 15 #[.pointer (some ⟨b, 0, none⟩)] w fun e w' => e = .returned (.int .u64 (Xi.joined L)) ∧ w' = w := by
  have hl := hs.lane
  have h0 := hl 0 (by omega)
  have h1 := hl 1 (by omega)
  have h2 := hl 2 (by omega)
  have h3 := hl 3 (by omega)
  clear hl hs
  go_enter Try.func15, Try.ntmps15
  go_wp2_with (go_at_call 19; refine (turn_any _ _ _ (by omega) (by omega)).mono ?_; rintro e w' ⟨rfl, rfl⟩)
  go_loop [3, 4] (fun h i => ∃ k : Nat, k ≤ 4 ∧ i = .int .i64 k ∧ h = .int .u64 (Xi.mixTo L (Xi.join0 (L 0) (L 1) (L 2) (L 3)) k)) (fun _ i => (4 - intOf i).toNat)
  case atStart => exact ⟨0, by omega, rfl, rfl⟩
  case round =>
    obtain ⟨k, hk, rfl, rfl⟩ := hrel
    by_cases hlt : k < 4
    · have hc : w'.cell? ⟨b, k, none⟩ = some (.int .u64 (L k)) := by
        match k, hlt with
        | 0, _ => exact h0
        | 1, _ => exact h1
        | 2, _ => exact h2
        | 3, _ => exact h3
      clear h0 h1 h2 h3
      go_wp2_with (go_at_call 20; refine (lap_any _ _ _).mono ?_; rintro e w' ⟨rfl, rfl⟩)
      go_round
      case rel => exact ⟨k + 1, by omega, by go_num, rfl⟩
      case measure => simp [intOf]; omega
    · obtain rfl : k = 4 := by omega
      go_wp2
      go_ret
      exact ⟨rfl, rfl⟩
set_option maxRecDepth 100000 in
set_option maxHeartbeats 1000000 in
theorem withRest_any (b : Nat) (L R : Nat → Int) (c : Nat) (h : Int) (w : World) (hs : SumAt w b L R c) (hc1 : c ≤ 1099511627776) :
    Calls Try.prog 16 #[.pointer (some ⟨b, 0, none⟩), .int .u64 h] w fun e w' => e = .returned (.int .u64 (Xi.rest R 0 (c % 32) h)) ∧ w' = w := by
  have hc := hs.count
  have HS : Hid (SumAt w b L R c) := hs
  clear hs
  go_enter Try.func16, Try.ntmps16
  go_wp2
  clear hc1
  go_loop [1, 6] (fun x i => ∃ j : Nat, 8 * j ≤ c % 32 ∧ i = .int .i64 ((8 * j : Nat) : Int) ∧ x = .int .u64 (Xi.eights R 0 h j)) (fun _ i => (32 - intOf i).toNat)
  case atStart => exact ⟨0, by omega, rfl, rfl⟩
  case round =>
    obtain ⟨j, hj, rfl, rfl⟩ := hrel
    by_cases hlt : 8 * j + 8 ≤ c % 32
    · go_wp2_with (first
        | (go_at_call 21; refine (number_any b L R c _ _ _ HS.out (by omega) (by omega) (by omega)).mono ?_; rintro e w' ⟨rfl, rfl⟩)
        | (go_at_call 20; refine (lap_any _ _ _).mono ?_; rintro e w' ⟨rfl, rfl⟩)
        | (go_at_call 19; refine (turn_any _ _ _ (by omega) (by omega)).mono ?_; rintro e w' ⟨rfl, rfl⟩))
      go_round
      case rel =>
        refine ⟨j + 1, by omega, by go_num, ?_⟩
        simp only [Xi.eights, Xi.step8, Nat.zero_add]
      case measure => simp [intOf]; omega
    · have e8 : Hid (j = c % 32 / 8) := (by omega : j = c % 32 / 8)
      have hd8 : decide (8 * (j : Int) + 8 ≤ (c : Int) % 32) = false := by simp; omega
      by_cases h4 : 8 * j + 4 ≤ c % 32
      · go_wp2_with (first
          | (go_at_call 21; refine (number_any b L R c _ _ _ HS.out (by omega) (by omega) (by omega)).mono ?_; rintro e w' ⟨rfl, rfl⟩)
          | (go_at_call 19; refine (turn_any _ _ _ (by omega) (by omega)).mono ?_; rintro e w' ⟨rfl, rfl⟩))
        go_loop [1, 6] (fun x i => ∃ m : Nat, 8 * j + 4 + m ≤ c % 32 ∧ i = .int .i64 ((8 * j + 4 + m : Nat) : Int) ∧ x = .int .u64 (Xi.ones R (8 * j + 4) (Xi.step4 (Xi.eights R 0 h j) (Xi.num R (8 * j) 4)) m)) (fun _ i => (32 - intOf i).toNat)
        case atStart => exact ⟨0, by omega, by go_num, rfl⟩
        case round =>
          obtain ⟨m, hm, rfl, rfl⟩ := hrel
          by_cases hl2 : 8 * j + 4 + m < c % 32
          · go_wp2_with (first
              | (go_at_call 21; refine (number_any b L R c _ _ _ HS.out (by omega) (by omega) (by omega)).mono ?_; rintro e w' ⟨rfl, rfl⟩)
              | (go_at_call 19; refine (turn_any _ _ _ (by omega) (by omega)).mono ?_; rintro e w' ⟨rfl, rfl⟩))
            go_round
            case rel =>
              exact ⟨m + 1, by omega, by go_num, rfl⟩
            case measure => simp [intOf]; omega
          · go_wp2
            go_ret
            exact ⟨ret_int (Xi.rest_four R (c % 32) j m h e8.out h4 hl2 hm), rfl⟩
      · have hd4 : decide (8 * (j : Int) + 4 ≤ (c : Int) % 32) = false := by simp; omega
        go_wp2
        go_loop [1, 6] (fun x i => ∃ m : Nat, 8 * j + m ≤ c % 32 ∧ i = .int .i64 ((8 * j + m : Nat) : Int) ∧ x = .int .u64 (Xi.ones R (8 * j) (Xi.eights R 0 h j) m)) (fun _ i => (32 - intOf i).toNat)
        case atStart => exact ⟨0, by omega, by go_num, rfl⟩
        case round =>
          obtain ⟨m, hm, rfl, rfl⟩ := hrel
          by_cases hl2 : 8 * j + m < c % 32
          · go_wp2_with (first
              | (go_at_call 21; refine (number_any b L R c _ _ _ HS.out (by omega) (by omega) (by omega)).mono ?_; rintro e w' ⟨rfl, rfl⟩)
              | (go_at_call 19; refine (turn_any _ _ _ (by omega) (by omega)).mono ?_; rintro e w' ⟨rfl, rfl⟩))
            go_round
            case rel =>
              exact ⟨m + 1, by omega, by go_num, rfl⟩
            case measure => simp [intOf]; omega
          · go_wp2
            go_ret
            exact ⟨ret_int (Xi.rest_none R (c % 32) j m h e8.out h4 hl2 hm), rfl⟩
end Go.Proofs.Ytbdndhiamihloaa
