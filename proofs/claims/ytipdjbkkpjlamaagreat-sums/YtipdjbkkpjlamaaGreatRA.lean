import Derived.Test.YtipdjbkkpjlamaaGreatState
import Derived.Test.YtipdjbkkpjlamaaGreatMA
import Derived.WalkKit
import Derived.WalkSpells
import Derived.WalkLawsBesides
namespace Go.Proofs.YtipdjbkkpjlamaaGreat
open Go.RowKit
set_option maxHeartbeats 400000 in
theorem plus_any (ah al bh bl : Int) (a b : Nat) (w : World) (ha : IsH ah al a) (hb : IsH bh bl b) :
    Calls Tryz.prog 44 #[.agg #[.int .i64 ah, .int .i64 al], .agg #[.int .i64 bh, .int .i64 bl]] w fun e w' =>
      ∃ h l, e = .returned (.agg #[.int .i64 h, .int .i64 l]) ∧ IsH h l ((a + b) % 18446744073709551616) ∧ Below w.heap.size w w' := by
  have HF : Hid (IsH _ _ _) := isH_plus ha hb
  obtain ⟨h1, h2, h3, h4⟩ := ha.bds
  obtain ⟨h5, h6, h7, h8⟩ := hb.bds
  clear ha hb
  go_enter Tryz.func44, Tryz.ntmps44
  go_wp2
  exact bodyPost_ret (v := .agg #[.int .i64 _, .int .i64 _]) (by simp [results, Tryz.results44, go_sem]) rfl ⟨_, _, rfl, HF.out, (((Below.refl _ _).alloc (Nat.le_refl _) _).alloc (by simp) _).alloc (by simp; omega) _⟩
set_option maxHeartbeats 400000 in
theorem mixed_any (ah al bh bl : Int) (a b : Nat) (w : World) (ha : IsH ah al a) (hb : IsH bh bl b) :
    Calls Tryz.prog 63 #[.agg #[.int .i64 ah, .int .i64 al], .agg #[.int .i64 bh, .int .i64 bl]] w fun e w' =>
      ∃ h l, e = .returned (.agg #[.int .i64 h, .int .i64 l]) ∧ IsH h l (a ^^^ b) ∧ Below w.heap.size w w' := by
  have HF : Hid (IsH _ _ _) := isH_mixed ha hb
  clear ha hb
  go_enter Tryz.func63, Tryz.ntmps63
  go_wp2
  exact bodyPost_ret (v := .agg #[.int .i64 _, .int .i64 _]) (by simp [results, Tryz.results63, go_sem]) rfl ⟨_, _, rfl, HF.out, (((Below.refl _ _).alloc (Nat.le_refl _) _).alloc (by simp) _).alloc (by simp; omega) _⟩
set_option maxHeartbeats 400000 in
theorem bitOf_any (h l : Int) (n i : Nat) (w : World) (k : IsH h l n) (hi : i < 64) :
    Calls Tryz.prog 79 #[.agg #[.int .i64 h, .int .i64 l], .int .i64 i] w fun e w' => e = .returned (.int .i64 ((n / 2 ^ i % 2 : Nat) : Int)) ∧ Below w.heap.size w w' := by
  obtain ⟨h1, h2, h3, h4⟩ := k.bds
  have HK : Hid (IsH h l n) := k
  clear k
  by_cases h32 : i < 32
  · go_enter Tryz.func79, Tryz.ntmps79
    go_wp2
    go_ret
    exact ⟨ret_int (isH_bit_low HK.out i h32), (Below.refl _ _).alloc (Nat.le_refl _) _⟩
  · go_enter Tryz.func79, Tryz.ntmps79
    go_wp2
    go_ret
    exact ⟨ret_int (isH_bit_high HK.out i (by omega)), (Below.refl _ _).alloc (Nat.le_refl _) _⟩
end Go.Proofs.YtipdjbkkpjlamaaGreat
