import Derived.Test.YtipdjbkkpjlamaaGreatSpec
import Derived.Laws.BitsAllLaws
namespace Go.Proofs.YtipdjbkkpjlamaaGreat
theorem i64_id (n : Int) (h1 : -9223372036854775808 ≤ n) (h2 : n ≤ 9223372036854775807) : IntKind.i64.wrap n = n := by
  rw [IntKind.wrap_i64]; omega
theorem ofInt_i64 (a : Nat) (ha : a < 9223372036854775808) : (BitVec.ofInt 64 (a : Int)).toNat = a := by
  rw [BitVec.ofInt_natCast, BitVec.toNat_ofNat]; exact Nat.mod_eq_of_lt (by omega)
theorem i64_and (a b : Nat) (ha : a < 9223372036854775808) (hb : b < 9223372036854775808) : bits .and .i64 (a : Int) (b : Int) = ((a &&& b : Nat) : Int) := by
  have hx : a &&& b < 2 ^ 63 := Nat.and_lt_two_pow _ (by omega)
  show IntKind.i64.wrap ((BitVec.ofInt 64 (a : Int) &&& BitVec.ofInt 64 (b : Int)).toNat : Int) = _
  rw [BitVec.toNat_and, ofInt_i64 a ha, ofInt_i64 b hb, i64_id _ (by omega) (by omega)]
theorem i64_or (a b : Nat) (ha : a < 9223372036854775808) (hb : b < 9223372036854775808) : bits .or .i64 (a : Int) (b : Int) = ((a ||| b : Nat) : Int) := by
  have hx : a ||| b < 2 ^ 63 := Nat.or_lt_two_pow (by omega) (by omega)
  show IntKind.i64.wrap ((BitVec.ofInt 64 (a : Int) ||| BitVec.ofInt 64 (b : Int)).toNat : Int) = _
  rw [BitVec.toNat_or, ofInt_i64 a ha, ofInt_i64 b hb, i64_id _ (by omega) (by omega)]
theorem i64_xor (a b : Nat) (ha : a < 9223372036854775808) (hb : b < 9223372036854775808) : bits .xor .i64 (a : Int) (b : Int) = ((a ^^^ b : Nat) : Int) := by
  have hx : a ^^^ b < 2 ^ 63 := Nat.xor_lt_two_pow (by omega) (by omega)
  show IntKind.i64.wrap ((BitVec.ofInt 64 (a : Int) ^^^ BitVec.ofInt 64 (b : Int)).toNat : Int) = _
  rw [BitVec.toNat_xor, ofInt_i64 a ha, ofInt_i64 b hb, i64_id _ (by omega) (by omega)]
theorem i64_mask32 (x : Int) (h1 : 0 ≤ x) (h2 : x < 9223372036854775808) : bits .and .i64 x 4294967295 = x % 4294967296 := by
  obtain ⟨a, rfl⟩ := Int.eq_ofNat_of_zero_le h1
  rw [show (4294967295 : Int) = ((4294967295 : Nat) : Int) from rfl, i64_and a 4294967295 (by omega) (by omega), show (4294967295 : Nat) = 2 ^ 32 - 1 from rfl, Nat.and_two_pow_sub_one_eq_mod]
  omega
theorem i64_mask16 (x : Int) (h1 : 0 ≤ x) (h2 : x < 9223372036854775808) : bits .and .i64 x 65535 = x % 65536 := by
  obtain ⟨a, rfl⟩ := Int.eq_ofNat_of_zero_le h1
  rw [show (65535 : Int) = ((65535 : Nat) : Int) from rfl, i64_and a 65535 (by omega) (by omega), show (65535 : Nat) = 2 ^ 16 - 1 from rfl, Nat.and_two_pow_sub_one_eq_mod]
  omega
theorem i64_mask1 (x : Int) (h1 : 0 ≤ x) (h2 : x < 9223372036854775808) : bits .and .i64 x 1 = x % 2 := by
  obtain ⟨a, rfl⟩ := Int.eq_ofNat_of_zero_le h1
  rw [show (1 : Int) = ((1 : Nat) : Int) from rfl, i64_and a 1 (by omega) (by omega), show (1 : Nat) = 2 ^ 1 - 1 from rfl, Nat.and_two_pow_sub_one_eq_mod]
  omega
/-- two halves of a number of 64 bits -/
structure IsH (h l : Int) (n : Nat) : Prop where
  hi : h = ((n / 4294967296 : Nat) : Int)
  lo : l = ((n % 4294967296 : Nat) : Int)
  lt : n < 18446744073709551616
theorem IsH.bds {h l : Int} {n : Nat} (k : IsH h l n) : 0 ≤ h ∧ h < 4294967296 ∧ 0 ≤ l ∧ l < 4294967296 := by
  have := k.hi; have := k.lo; have := k.lt; omega
theorem IsH.mk2 {h l : Int} {n : Nat} (a b : Nat) (ha : h = (a : Int)) (hb : l = (b : Int)) (hn : n = a * 4294967296 + b) (h1 : a < 4294967296) (h2 : b < 4294967296) : IsH h l n :=
  ⟨by omega, by omega, by omega⟩
theorem isH_plus {ah al bh bl : Int} {a b : Nat} (ha : IsH ah al a) (hb : IsH bh bl b) :
    IsH (bits .and .i64 (ah + bh + (al + bl) / 4294967296) 4294967295) (bits .and .i64 (al + bl) 4294967295) ((a + b) % 18446744073709551616) := by
  have h1 := ha.bds; have h2 := hb.bds
  rw [i64_mask32 _ (by omega) (by omega), i64_mask32 _ (by omega) (by omega)]
  have := ha.hi; have := ha.lo; have := ha.lt; have := hb.hi; have := hb.lo; have := hb.lt
  exact ⟨by omega, by omega, by omega⟩
theorem isH_mixed {ah al bh bl : Int} {a b : Nat} (ha : IsH ah al a) (hb : IsH bh bl b) :
    IsH (bits .xor .i64 ah bh) (bits .xor .i64 al bl) (a ^^^ b) := by
  have := ha.lt; have := hb.lt
  rw [ha.hi, ha.lo, hb.hi, hb.lo, i64_xor _ _ (by omega) (by omega), i64_xor _ _ (by omega) (by omega)]
  refine ⟨?_, ?_, Nat.xor_lt_two_pow (n := 64) (by omega) (by omega)⟩
  · congr 1
    rw [show (4294967296 : Nat) = 2 ^ 32 from rfl, ← Nat.shiftRight_eq_div_pow, ← Nat.shiftRight_eq_div_pow, ← Nat.shiftRight_eq_div_pow, Nat.shiftRight_xor_distrib]
  · congr 1
    rw [show (4294967296 : Nat) = 2 ^ 32 from rfl, Nat.xor_mod_two_pow]
theorem isH_bit_low {h l : Int} {n : Nat} (k : IsH h l n) (i : Nat) (hi : i < 32) : bits .and .i64 (l / 2 ^ i) 1 = ((n / 2 ^ i % 2 : Nat) : Int) := by
  have hb := k.bds
  have e : l / 2 ^ i = ((n % 4294967296 / 2 ^ i : Nat) : Int) := by rw [k.lo]; norm_cast
  have hle : n % 4294967296 / 2 ^ i ≤ n % 4294967296 := Nat.div_le_self _ _
  have key : n % 4294967296 / 2 ^ i % 2 = n / 2 ^ i % 2 := by
    have h1 : (n % 2 ^ 32).testBit i = n.testBit i := by rw [Nat.testBit_mod_two_pow]; simp [hi]
    rw [Nat.testBit_eq_decide_div_mod_eq, Nat.testBit_eq_decide_div_mod_eq] at h1
    have a1 : n % 2 ^ 32 / 2 ^ i % 2 < 2 := Nat.mod_lt _ (by omega)
    have a2 : n / 2 ^ i % 2 < 2 := Nat.mod_lt _ (by omega)
    show n % 2 ^ 32 / 2 ^ i % 2 = _
    have := decide_eq_decide.1 h1
    omega
  have hlt := k.lt
  obtain ⟨q, hq⟩ : ∃ q : Nat, n % 4294967296 / 2 ^ i = q := ⟨_, rfl⟩
  rw [hq] at e hle key
  rw [e, i64_mask1 _ (by omega) (by omega), ← key]
  omega
theorem isH_bit_high {h l : Int} {n : Nat} (k : IsH h l n) (i : Nat) (hi : 32 ≤ i) : bits .and .i64 (h / 2 ^ (i - 32)) 1 = ((n / 2 ^ i % 2 : Nat) : Int) := by
  have hb := k.bds
  have e : h / 2 ^ (i - 32) = ((n / 4294967296 / 2 ^ (i - 32) : Nat) : Int) := by rw [k.hi]; norm_cast
  have hle : n / 4294967296 / 2 ^ (i - 32) ≤ n / 4294967296 := Nat.div_le_self _ _
  have key : n / 4294967296 / 2 ^ (i - 32) = n / 2 ^ i := by
    rw [Nat.div_div_eq_div_mul, show (4294967296 : Nat) = 2 ^ 32 from rfl, ← Nat.pow_add, show 32 + (i - 32) = i by omega]
  have hlt := k.lt
  rw [key] at e hle
  obtain ⟨q, hq⟩ : ∃ q : Nat, n / 2 ^ i = q := ⟨_, rfl⟩
  rw [hq] at e hle ⊢
  rw [e, i64_mask1 _ (by omega) (by omega)]
  omega
end Go.Proofs.YtipdjbkkpjlamaaGreat
