import Derived.Test.YtbdndhiamihloaaWD
import Derived.WalkSpells
import Derived.WalkLawsBesides
namespace Go.Proofs.Ytbdndhiamihloaa
open Go.RowKit
set_option maxHeartbeats 1000000 in
theorem clipped_any (s : ByteArray) (w : World) (hs : s.size ≤ maxLen) :
    Calls Try.prog 4 #[.string s, .int .i64 4096] w fun e w' => ∃ t : ByteArray, e = .returned (.string t) ∧ t.size ≤ 4096 ∧ w' = w := by
  unfold maxLen at hs
  by_cases h : 4096 < s.size
  · go_enter Try.func4, Try.ntmps4
    go_wp2
    go_ret
    exact ⟨_, rfl, by simp [ByteArray.size_extract]; omega, rfl⟩
  · go_enter Try.func4, Try.ntmps4
    go_wp2
    go_ret
    exact ⟨s, rfl, by omega, rfl⟩
set_option maxHeartbeats 1000000 in
theorem pick_any (c : Int) (n : Int) (w : World) (hc : (Lit.int .i64 c).wf = true) (hn : 0 < n) (hn2 : n ≤ 1099511627776) :
    Calls Try.prog 11 #[.int .i64 c, .int .i64 n] w fun e w' => ∃ k : Nat, e = .returned (.int .i64 k) ∧ (k : Int) < n ∧ w' = w := by
  have hlo : Hid (-9223372036854775808 ≤ c) := i64_low hc
  clear hc
  by_cases h : c < 0
  · go_enter Try.func11, Try.ntmps11
    go_wp2
    go_ret
    have e1 := neg_fold c hlo.out h
    refine ⟨((-(c + 1)) % n).toNat, ret_int ?_, ?_, rfl⟩
    · rw [e1, Int.tmod_eq_emod_of_nonneg (by omega), Int.toNat_of_nonneg (Int.emod_nonneg _ (by omega))]
    · rw [Int.toNat_of_nonneg (Int.emod_nonneg _ (by omega))]; exact Int.emod_lt_of_pos _ hn
  · go_enter Try.func11, Try.ntmps11
    go_wp2
    go_ret
    refine ⟨(c % n).toNat, ret_int ?_, ?_, rfl⟩
    · rw [Int.toNat_of_nonneg (Int.emod_nonneg _ (by omega))]
    · rw [Int.toNat_of_nonneg (Int.emod_nonneg _ (by omega))]; exact Int.emod_lt_of_pos _ hn
end Go.Proofs.Ytbdndhiamihloaa
