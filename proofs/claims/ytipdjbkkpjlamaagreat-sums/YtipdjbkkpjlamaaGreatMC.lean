import Derived.Test.YtipdjbkkpjlamaaGreatMA
namespace Go.Proofs.YtipdjbkkpjlamaaGreat
def dig (a i : Nat) : Nat := a / 65536 ^ i % 65536
theorem dig_lt (a i : Nat) : dig a i < 65536 := Nat.mod_lt _ (by omega)
def val (z : Nat → Nat) : Nat := z 0 + z 1 * 65536 + z 2 * 4294967296 + z 3 * 281474976710656
def updM (f : Nat → Nat) (k v : Nat) : Nat → Nat := fun i => if i = k then v else f i
theorem updM_same (f : Nat → Nat) (k v : Nat) : updM f k v k = v := by simp [updM]
theorem updM_other (f : Nat → Nat) (k v i : Nat) (h : i ≠ k) : updM f k v i = f i := by simp [updM, h]
theorem val_upd (z : Nat → Nat) (j v : Nat) (hj : j < 4) : val (updM z j (v % 65536)) + v / 65536 * 65536 ^ (j + 1) + z j * 65536 ^ j = val z + v * 65536 ^ j := by
  unfold val
  match j, hj with
  | 0, _ => rw [updM_same, updM_other _ _ _ 1 (by omega), updM_other _ _ _ 2 (by omega), updM_other _ _ _ 3 (by omega)]; omega
  | 1, _ => rw [updM_same, updM_other _ _ _ 0 (by omega), updM_other _ _ _ 2 (by omega), updM_other _ _ _ 3 (by omega)]; omega
  | 2, _ => rw [updM_same, updM_other _ _ _ 1 (by omega), updM_other _ _ _ 0 (by omega), updM_other _ _ _ 3 (by omega)]; omega
  | 3, _ => rw [updM_same, updM_other _ _ _ 1 (by omega), updM_other _ _ _ 2 (by omega), updM_other _ _ _ 0 (by omega)]; omega
theorem mod_succ (a i : Nat) : a % 65536 ^ (i + 1) = a % 65536 ^ i + dig a i * 65536 ^ i := by
  unfold dig
  rw [Nat.pow_succ, Nat.mod_mul, Nat.mul_comm (65536 ^ i)]
theorem val_lt (z : Nat → Nat) (hz : ∀ i, z i < 65536) : val z < 18446744073709551616 := by
  have := hz 0; have := hz 1; have := hz 2; have := hz 3
  unfold val; omega
/-- one digit of a row -/
theorem row_step (z z0 : Nat → Nat) (a b i k c v : Nat) (hik : i + k < 4) (hv : v = z (i + k) + dig a i * dig b k + c)
    (h : val z + c * 65536 ^ (i + k) = val z0 + dig b k * 65536 ^ k * (a % 65536 ^ i)) :
    val (updM z (i + k) (v % 65536)) + v / 65536 * 65536 ^ (i + 1 + k) = val z0 + dig b k * 65536 ^ k * (a % 65536 ^ (i + 1)) := by
  have e := val_upd z (i + k) v hik
  rw [mod_succ, Nat.mul_add, ← Nat.add_assoc, ← h]
  have e2 : dig b k * 65536 ^ k * (dig a i * 65536 ^ i) = dig a i * dig b k * 65536 ^ (i + k) := by
    rw [Nat.pow_add]
    simp only [Nat.mul_comm, Nat.mul_left_comm, Nat.mul_assoc]
  rw [e2, show i + 1 + k = i + k + 1 by omega]
  rw [hv, Nat.add_mul, Nat.add_mul, ← hv] at e
  omega
/-- one row -/
theorem row_end (z z0 : Nat → Nat) (a b k c : Nat) (hk : k < 4) (hz : ∀ i, z i < 65536)
    (h : val z + c * 65536 ^ (4 - k + k) = val z0 + dig b k * 65536 ^ k * (a % 65536 ^ (4 - k))) (h0 : val z0 = a * (b % 65536 ^ k) % 18446744073709551616) :
    val z = a * (b % 65536 ^ (k + 1)) % 18446744073709551616 := by
  have hlt := val_lt z hz
  have e4 : (18446744073709551616 : Nat) = 65536 ^ k * 65536 ^ (4 - k) := by
    rw [← Nat.pow_add, show k + (4 - k) = 4 by omega]
  have e5 : 65536 ^ (4 - k + k) = 18446744073709551616 := by rw [show 4 - k + k = 4 by omega]
  rw [e5] at h
  have e6 : val z % 18446744073709551616 = (val z0 + dig b k * 65536 ^ k * (a % 65536 ^ (4 - k))) % 18446744073709551616 := by
    rw [← h, Nat.add_mul_mod_self_right]
  rw [Nat.mod_eq_of_lt hlt] at e6
  rw [e6, mod_succ, Nat.mul_add, h0]
  have e7 : (dig b k * 65536 ^ k * (a % 65536 ^ (4 - k))) % 18446744073709551616 = (a * (dig b k * 65536 ^ k)) % 18446744073709551616 := by
    rw [Nat.mul_assoc, ← Nat.mul_mod_mul_left, ← e4, Nat.mul_mod_mod, ← Nat.mul_assoc, Nat.mul_comm]
  rw [Nat.add_mod, Nat.mod_mod, e7, ← Nat.add_mod]
theorem all_mod (b : Nat) (hb : b < 18446744073709551616) : b % 65536 ^ 4 = b := Nat.mod_eq_of_lt hb
theorem i64_join (a b : Nat) (ha : a < 65536) (hb : b < 65536) : bits .or .i64 ((a : Int) * 65536) (b : Int) = ((a * 65536 + b : Nat) : Int) := by
  rw [show ((a : Int) * 65536) = ((a * 65536 : Nat) : Int) by omega, i64_or _ _ (by omega) (by omega), nat_join 16 (a * 65536) b (by omega) (by omega)]
theorem isH_val (z : Nat → Nat) (hz : ∀ i, z i < 65536) : IsH (bits .or .i64 ((z 3 : Int) * 65536) (z 2 : Int)) (bits .or .i64 ((z 1 : Int) * 65536) (z 0 : Int)) (val z) := by
  rw [i64_join _ _ (hz 3) (hz 2), i64_join _ _ (hz 1) (hz 0)]
  have := hz 0; have := hz 1; have := hz 2; have := hz 3
  exact IsH.mk2 _ _ rfl rfl (by unfold val; omega) (by omega) (by omega)
theorem dig_cells {h l : Int} {n : Nat} (k : IsH h l n) : bits .and .i64 l 65535 = (dig n 0 : Int) ∧ l / 65536 = (dig n 1 : Int) ∧ bits .and .i64 h 65535 = (dig n 2 : Int) ∧ h / 65536 = (dig n 3 : Int) := by
  have hb := k.bds
  rw [i64_mask16 _ (by omega) (by omega), i64_mask16 _ (by omega) (by omega)]
  have h1 := k.hi; have h2 := k.lo; have h3 := k.lt
  unfold dig
  refine ⟨?_, ?_, ?_, ?_⟩
  · show _ = ((n / 1 % 65536 : Nat) : Int); omega
  · show _ = ((n / 65536 % 65536 : Nat) : Int); omega
  · show _ = ((n / 4294967296 % 65536 : Nat) : Int); omega
  · show _ = ((n / 281474976710656 % 65536 : Nat) : Int); omega
/-- behind k rows -/
def OutInv (a b k : Nat) (z : Nat → Nat) : Prop := val z = a * (b % 65536 ^ k) % 18446744073709551616
/-- behind i digits of row k -/
def RowInv (a b k i c : Nat) (z y : Nat → Nat) : Prop := val y + c * 65536 ^ (i + k) = val z + dig b k * 65536 ^ k * (a % 65536 ^ i)
theorem OutInv.zero (a b : Nat) : OutInv a b 0 (fun _ => 0) := by
  unfold OutInv val
  rw [Nat.pow_zero, Nat.mod_one, Nat.mul_zero, Nat.zero_mod, Nat.zero_mul, Nat.zero_mul, Nat.zero_mul]
theorem RowInv.zero (a b k : Nat) (z : Nat → Nat) : RowInv a b k 0 0 z z := by
  unfold RowInv
  rw [Nat.pow_zero, Nat.mod_one, Nat.mul_zero, Nat.zero_mul]
theorem RowInv.step {a b k i c : Nat} {z y : Nat → Nat} (h : RowInv a b k i c z y) (hik : i + k < 4) (v : Nat) (hv : v = y (i + k) + dig a i * dig b k + c) :
    RowInv a b k (i + 1) (v / 65536) z (updM y (i + k) (v % 65536)) := row_step y z a b i k c v hik hv h
theorem RowInv.fin {a b k i c : Nat} {z y : Nat → Nat} (h : RowInv a b k i c z y) (hk : k < 4) (hi : i + k = 4) (hy : ∀ i, y i < 65536) (h0 : OutInv a b k z) : OutInv a b (k + 1) y := by
  obtain rfl : i = 4 - k := by omega
  exact row_end y z a b k c hk hy h h0
theorem OutInv.fin {a b : Nat} {z : Nat → Nat} (h : OutInv a b 4 z) (hb : b < 18446744073709551616) : val z = a * b % 18446744073709551616 := by
  unfold OutInv at h
  rwa [all_mod b hb] at h
theorem carry_lt (y d c v : Nat) (hv : v = y + d + c) (hy : y < 65536) (hd : d ≤ 65535 * 65535) (hc : c < 65536) : v / 65536 < 65536 := by omega
theorem mask_val (v : Nat) (h : v < 4294967296 * 65536) : bits .and .i64 (v : Int) 65535 = ((v % 65536 : Nat) : Int) := by
  rw [i64_mask16 _ (by omega) (by omega)]; omega
end Go.Proofs.YtipdjbkkpjlamaaGreat
