import Derived.Test.YtipdjbkkpjlamaaGreatMA
namespace Go.Proofs.YtipdjbkkpjlamaaGreat
/-- what 'moved' has made behind i of its rounds -/
def mv (a k : Nat) (r : Bool) : Nat → Nat
  | 0 => 0
  | i + 1 => if k ≤ i then mv a k r i ||| (a / 2 ^ i % 2) * 2 ^ (i - k) else if r = true then mv a k r i ||| (a / 2 ^ i % 2) * 2 ^ (i + 64 - k) else mv a k r i
theorem bit_lt (a i : Nat) : a / 2 ^ i % 2 < 2 := Nat.mod_lt _ (by omega)
theorem testBit_bit (a i j t : Nat) : ((a / 2 ^ i % 2) * 2 ^ j).testBit t = (decide (t = j) && a.testBit i) := by
  rw [Nat.testBit_eq_decide_div_mod_eq (x := a)]
  have h := bit_lt a i
  obtain ⟨b, hb⟩ : ∃ b, a / 2 ^ i % 2 = b := ⟨_, rfl⟩
  rw [hb] at h ⊢
  rw [Nat.testBit_mul_two_pow]
  match b, h with
  | 0, _ => simp
  | 1, _ =>
    by_cases e : t = j
    · subst e; simp
    · by_cases e2 : j ≤ t
      · obtain ⟨m, hm⟩ : ∃ m, t - j = m + 1 := ⟨t - j - 1, by omega⟩
        rw [hm, Nat.testBit_succ]
        simp [e]
      · simp [e, e2]
theorem mv_testBit (a k : Nat) (r : Bool) (hk : k < 64) : ∀ i, i ≤ 64 → ∀ t, (mv a k r i).testBit t = (decide (t < 64) && (if t + k < 64 then decide (t + k < i) && a.testBit (t + k) else r && decide (t + k - 64 < i) && a.testBit (t + k - 64)))
  | 0, _, t => by simp [mv]
  | i + 1, hi, t => by
    have ih := mv_testBit a k r hk i (by omega) t
    simp only [mv]
    by_cases h1 : k ≤ i
    · rw [if_pos h1, Nat.testBit_or, testBit_bit, ih]
      by_cases e : t = i - k
      · have e1 : t < 64 := by omega
        have e2 : t + k < 64 := by omega
        have e3 : t + k = i := by omega
        have d1 : decide (t < 64) = true := decide_eq_true e1
        have d2 : decide (t = i - k) = true := decide_eq_true e
        rw [d1, d2, if_pos e2, if_pos e2, e3]
        simp
      · by_cases c : t + k < 64
        · have : decide (t + k < i + 1) = decide (t + k < i) := by simp; omega
          simp [e, c, this]
        · have : decide (t + k - 64 < i + 1) = decide (t + k - 64 < i) ∨ ¬ t < 64 := by
            by_cases c2 : t < 64
            · left; simp; omega
            · right; exact c2
          rcases this with h | h
          · simp [e, c, h]
          · simp [e, c, h]
    · rw [if_neg h1]
      cases r with
      | false =>
        simp only [Bool.false_eq_true, if_false]
        rw [ih]
        by_cases c : t + k < 64
        · have : decide (t + k < i + 1) = decide (t + k < i) := by simp; omega
          simp [c, this]
        · simp [c]
      | true =>
        simp only [if_true]
        rw [Nat.testBit_or, testBit_bit, ih]
        by_cases e : t = i + 64 - k
        · have e1 : t < 64 := by omega
          have e2 : ¬ t + k < 64 := by omega
          have e3 : t + k - 64 = i := by omega
          simp [e1, e2, e3]
          simp [e]
        · by_cases c : t + k < 64
          · have : decide (t + k < i + 1) = decide (t + k < i) := by simp; omega
            simp [e, c, this]
          · have : decide (t + k - 64 < i + 1) = decide (t + k - 64 < i) := by simp; omega
            simp [e, c, this]
theorem mv_lt (a k : Nat) (r : Bool) (hk : k < 64) (i : Nat) (hi : i ≤ 64) : mv a k r i < 18446744073709551616 := by
  show _ < 2 ^ 64
  exact Nat.lt_pow_two_of_testBit _ (fun t ht => by rw [mv_testBit a k r hk i hi]; simp; omega)
theorem mv_down (a k : Nat) (ha : a < 18446744073709551616) (hk : k < 64) : mv a k false 64 = a / 2 ^ k := by
  apply Nat.eq_of_testBit_eq
  intro t
  rw [mv_testBit a k false hk 64 (by omega), ← Nat.shiftRight_eq_div_pow, Nat.testBit_shiftRight, Nat.add_comm k t]
  by_cases c : t + k < 64
  · have : t < 64 := by omega
    simp [c, this]
  · have : a.testBit (t + k) = false := Nat.testBit_lt_two_pow (Nat.lt_of_lt_of_le ha (Nat.pow_le_pow_right (n := 2) (by omega) (show 64 ≤ t + k by omega)))
    simp [c, this]
/-- the bits turned k places up -/
def rolN (x k : Nat) : Nat := x * 2 ^ k % 18446744073709551616 ||| x / 2 ^ (64 - k)
theorem mv_round (a k : Nat) (ha : a < 18446744073709551616) (h1 : 1 ≤ k) (h2 : k ≤ 63) : mv a (64 - k) true 64 = rolN a k := by
  apply Nat.eq_of_testBit_eq
  intro t
  unfold rolN
  rw [mv_testBit a (64 - k) true (by omega) 64 (by omega), Nat.testBit_or, show (18446744073709551616 : Nat) = 2 ^ 64 from rfl, Nat.testBit_mod_two_pow, Nat.testBit_mul_two_pow, ← Nat.shiftRight_eq_div_pow, Nat.testBit_shiftRight]
  by_cases c : t + (64 - k) < 64
  · have c1 : t < 64 := by omega
    have c2 : ¬ k ≤ t := by omega
    simp [c, c1, c2, Nat.add_comm]
  · by_cases c1 : t < 64
    · have c2 : k ≤ t := by omega
      have c3 : t + (64 - k) - 64 = t - k := by omega
      have c4 : t - k < 64 := by omega
      have : a.testBit (64 - k + t) = false := Nat.testBit_lt_two_pow (Nat.lt_of_lt_of_le ha (Nat.pow_le_pow_right (n := 2) (by omega) (show 64 ≤ 64 - k + t by omega)))
      simp [c, c1, c2, c3, c4, this]
    · have : a.testBit (64 - k + t) = false := Nat.testBit_lt_two_pow (Nat.lt_of_lt_of_le ha (Nat.pow_le_pow_right (n := 2) (by omega) (show 64 ≤ 64 - k + t by omega)))
      simp [c1, this]
theorem rolN_lt (x k : Nat) (h : x < 18446744073709551616) : rolN x k < 18446744073709551616 := by
  unfold rolN
  exact Nat.or_lt_two_pow (n := 64) (Nat.mod_lt _ (by omega)) (Nat.lt_of_le_of_lt (Nat.div_le_self _ _) h)
theorem isH_or_low {h l : Int} {n : Nat} (k : IsH h l n) (b j : Nat) (hb : b < 2) (hj : j < 32) : IsH h (bits .or .i64 l ((b : Int) * 2 ^ j)) (n ||| b * 2 ^ j) := by
  have hlt := k.lt
  have h2 : 2 ^ j ≤ 2 ^ 31 := Nat.pow_le_pow_right (by omega) (by omega)
  have hs : b * 2 ^ j < 4294967296 := by
    match b, hb with
    | 0, _ => omega
    | 1, _ => omega
  have e : ((b : Int) * 2 ^ j) = ((b * 2 ^ j : Nat) : Int) := by norm_cast
  rw [k.lo, e, i64_or _ _ (by omega) (by omega)]
  refine ⟨?_, ?_, Nat.or_lt_two_pow (n := 64) hlt (by omega)⟩
  · rw [k.hi]; congr 1
    rw [show (4294967296 : Nat) = 2 ^ 32 from rfl, ← Nat.shiftRight_eq_div_pow, ← Nat.shiftRight_eq_div_pow, Nat.shiftRight_or_distrib, Nat.shiftRight_eq_div_pow (b * 2 ^ j), Nat.div_eq_of_lt (a := b * 2 ^ j) hs, Nat.or_zero]
  · congr 1
    rw [show (4294967296 : Nat) = 2 ^ 32 from rfl, Nat.or_mod_two_pow, Nat.mod_eq_of_lt (a := b * 2 ^ j) hs]
theorem isH_or_high {h l : Int} {n : Nat} (k : IsH h l n) (b j : Nat) (hb : b < 2) (hj : 32 ≤ j) (hj2 : j < 64) : IsH (bits .or .i64 h ((b : Int) * 2 ^ (j - 32))) l (n ||| b * 2 ^ j) := by
  have hlt := k.lt
  have h2 : 2 ^ (j - 32) ≤ 2 ^ 31 := Nat.pow_le_pow_right (by omega) (by omega)
  have hs : b * 2 ^ (j - 32) < 4294967296 := by
    match b, hb with
    | 0, _ => omega
    | 1, _ => omega
  have e : ((b : Int) * 2 ^ (j - 32)) = ((b * 2 ^ (j - 32) : Nat) : Int) := by norm_cast
  have e2 : b * 2 ^ j = b * 2 ^ (j - 32) * 2 ^ 32 := by rw [Nat.mul_assoc, ← Nat.pow_add, show j - 32 + 32 = j by omega]
  rw [k.hi, e, i64_or _ _ (by omega) (by omega), e2]
  refine ⟨?_, ?_, Nat.or_lt_two_pow (n := 64) hlt (by omega)⟩
  · congr 1
    rw [show (4294967296 : Nat) = 2 ^ 32 from rfl, ← Nat.shiftRight_eq_div_pow, ← Nat.shiftRight_eq_div_pow, Nat.shiftRight_or_distrib, Nat.shiftRight_eq_div_pow (b * 2 ^ (j - 32) * 2 ^ 32), Nat.mul_div_cancel _ (by omega)]
  · rw [k.lo]; congr 1
    rw [show (4294967296 : Nat) = 2 ^ 32 from rfl, Nat.or_mod_two_pow, Nat.mul_mod_left, Nat.or_zero]
end Go.Proofs.YtipdjbkkpjlamaaGreat
