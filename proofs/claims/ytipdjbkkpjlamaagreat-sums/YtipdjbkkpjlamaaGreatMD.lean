import Derived.Test.YtipdjbkkpjlamaaGreatRI
namespace Go.Proofs.YtipdjbkkpjlamaaGreat
/-! The two checksums are one. -/
theorem w_nat (n : Nat) : IntKind.u64.wrap (n : Int) = ((n % 18446744073709551616 : Nat) : Int) := by rw [IntKind.wrap_u64]; omega
theorem w_mul (a b : Nat) : IntKind.u64.wrap ((a : Int) * (b : Int)) = ((mulM a b : Nat) : Int) := by
  rw [show (a : Int) * (b : Int) = ((a * b : Nat) : Int) by push_cast; rfl, w_nat]; rfl
theorem w_add (a b : Nat) : IntKind.u64.wrap ((a : Int) + (b : Int)) = ((addM a b : Nat) : Int) := by
  rw [show (a : Int) + (b : Int) = ((a + b : Nat) : Int) by push_cast; rfl, w_nat]; rfl
theorem mulM_lt (a b : Nat) : mulM a b < 18446744073709551616 := Nat.mod_lt _ (by omega)
theorem addM_lt (a b : Nat) : addM a b < 18446744073709551616 := Nat.mod_lt _ (by omega)
theorem xor_lt (a b : Nat) (ha : a < 18446744073709551616) (hb : b < 18446744073709551616) : a ^^^ b < 18446744073709551616 := Nat.xor_lt_two_pow (n := 64) ha hb
theorem rol_nat (x k : Nat) (hx : x < 18446744073709551616) : Xi.rol (x : Int) k = ((rolN x k : Nat) : Int) := by
  unfold Xi.rol rolN
  have e1 : IntKind.u64.wrap ((x : Int) * 2 ^ k) = ((x * 2 ^ k % 18446744073709551616 : Nat) : Int) := by
    rw [show (x : Int) * 2 ^ k = ((x * 2 ^ k : Nat) : Int) by push_cast; rfl, w_nat]
  have e2 : (x : Int) / 2 ^ (64 - k) = ((x / 2 ^ (64 - k) : Nat) : Int) := by push_cast; rfl
  rw [e1, e2, u64_or_nat _ _ (Nat.mod_lt _ (by omega)) (Nat.lt_of_le_of_lt (Nat.div_le_self _ _) hx)]
theorem p1 : primeN 1 = 11400714785074694791 := rfl
theorem p2 : primeN 2 = 14029467366897019727 := rfl
theorem p3 : primeN 3 = 1609587929392839161 := rfl
theorem p4 : primeN 4 = 9650029242287828579 := rfl
theorem p5 : primeN 5 = 2870177450012600261 := rfl
theorem lapN_lt (v x : Nat) : lapN v x < 18446744073709551616 := mulM_lt _ _
theorem lap_nat (v x : Nat) : Xi.lap (v : Int) (x : Int) = ((lapN v x : Nat) : Int) := by
  unfold Xi.lap lapN
  rw [show (14029467366897019727 : Int) = ((primeN 2 : Nat) : Int) from rfl, show (11400714785074694791 : Int) = ((primeN 1 : Nat) : Int) from rfl, w_mul, w_add, rol_nat _ _ (addM_lt _ _), w_mul]
theorem lap_zero (x : Nat) : Xi.lap 0 (x : Int) = ((lapN 0 x : Nat) : Int) := lap_nat 0 x
theorem xor_nat (a b : Nat) (ha : a < 18446744073709551616) (hb : b < 18446744073709551616) : bits .xor .u64 (a : Int) (b : Int) = ((a ^^^ b : Nat) : Int) := u64_xor_nat a b ha hb
theorem mix_nat (h v : Nat) (hh : h < 18446744073709551616) : Xi.mix (h : Int) (v : Int) = ((addM (mulM (h ^^^ lapN 0 v) (primeN 1)) (primeN 4) : Nat) : Int) := by
  unfold Xi.mix
  rw [lap_zero, xor_nat _ _ hh (lapN_lt _ _), show (11400714785074694791 : Int) = ((primeN 1 : Nat) : Int) from rfl, show (9650029242287828579 : Int) = ((primeN 4 : Nat) : Int) from rfl, w_mul, w_add]
theorem addM_zero (a : Nat) (h : a < 18446744073709551616) : addM 0 a = a := by unfold addM; rw [Nat.zero_add]; exact Nat.mod_eq_of_lt h
theorem joined_nat (L : Nat → Int) (n : Nat → Nat) (hL : ∀ k, k < 4 → L k = (n k : Int)) (hn : ∀ k, k < 4 → n k < 18446744073709551616) : Xi.joined L = ((s4 n 4 : Nat) : Int) := by
  have h0 : Xi.join0 (L 0) (L 1) (L 2) (L 3) = ((s3 n 4 : Nat) : Int) := by
    unfold Xi.join0
    rw [hL 0 (by omega), hL 1 (by omega), hL 2 (by omega), hL 3 (by omega), rol_nat _ _ (hn 0 (by omega)), rol_nat _ _ (hn 1 (by omega)), rol_nat _ _ (hn 2 (by omega)), rol_nat _ _ (hn 3 (by omega)), w_add, w_add, w_add]
    congr 1
    show _ = addM (addM (addM (addM 0 (rolN (n 0) 1)) (rolN (n 1) 7)) (rolN (n 2) 12)) (rolN (n 3) 18)
    rw [addM_zero _ (rolN_lt _ _ (hn 0 (by omega)))]
  have hs : ∀ k, s4 n k < 18446744073709551616 := fun k => by cases k <;> exact addM_lt _ _
  have key : ∀ k, k ≤ 4 → Xi.mixTo L (Xi.join0 (L 0) (L 1) (L 2) (L 3)) k = ((s4 n k : Nat) : Int) := by
    intro k
    induction k with
    | zero => intro _; exact h0
    | succ k ih =>
      intro hk
      simp only [Xi.mixTo]
      rw [ih (by omega), hL k (by omega), mix_nat _ _ (hs k)]
      rfl
  exact key 4 (by omega)
theorem foldN_lt (h x k a : Nat) : foldN h x k a < 18446744073709551616 := mulM_lt _ _
theorem step8_nat (h x : Nat) (hh : h < 18446744073709551616) : Xi.step8 (h : Int) (x : Int) = ((step8N h x : Nat) : Int) := by
  unfold Xi.step8 step8N foldN
  rw [lap_zero, xor_nat _ _ hh (lapN_lt _ _), rol_nat _ _ (xor_lt _ _ hh (lapN_lt _ _)), show (11400714785074694791 : Int) = ((primeN 1 : Nat) : Int) from rfl, show (9650029242287828579 : Int) = ((primeN 4 : Nat) : Int) from rfl, w_mul, w_add]
theorem step4_nat (h x : Nat) (hh : h < 18446744073709551616) : Xi.step4 (h : Int) (x : Int) = ((step4N h x : Nat) : Int) := by
  unfold Xi.step4 step4N foldN
  rw [show (11400714785074694791 : Int) = ((primeN 1 : Nat) : Int) from rfl, w_mul, xor_nat _ _ hh (mulM_lt _ _), rol_nat _ _ (xor_lt _ _ hh (mulM_lt _ _)), show (14029467366897019727 : Int) = ((primeN 2 : Nat) : Int) from rfl, show (1609587929392839161 : Int) = ((primeN 3 : Nat) : Int) from rfl, w_mul, w_add]
theorem step1_nat (h x : Nat) (hh : h < 18446744073709551616) : Xi.step1 (h : Int) (x : Int) = ((step1N h x : Nat) : Int) := by
  unfold Xi.step1 step1N foldN
  rw [show (2870177450012600261 : Int) = ((primeN 5 : Nat) : Int) from rfl, w_mul, xor_nat _ _ hh (mulM_lt _ _), rol_nat _ _ (xor_lt _ _ hh (mulM_lt _ _)), show (11400714785074694791 : Int) = ((primeN 1 : Nat) : Int) from rfl, w_mul]
theorem fin_nat (h : Nat) (hh : h < 18446744073709551616) : Xi.fin (h : Int) = ((lastN h : Nat) : Int) := by
  have d : ∀ (x k : Nat) (c : Int), c = ((2 ^ k : Nat) : Int) → (x : Int) / c = ((x / 2 ^ k : Nat) : Int) := fun x k c hc => by rw [hc]; push_cast; rfl
  have dl : ∀ (x k : Nat), x < 18446744073709551616 → x / 2 ^ k < 18446744073709551616 := fun x k hx => Nat.lt_of_le_of_lt (Nat.div_le_self _ _) hx
  have e1 : Xi.fin1 (h : Int) = ((last1 h : Nat) : Int) := by
    unfold Xi.fin1 last1
    rw [d h 33 8589934592 rfl, xor_nat _ _ hh (dl _ _ hh), show (14029467366897019727 : Int) = ((primeN 2 : Nat) : Int) from rfl, w_mul]
  have l1 : last1 h < 18446744073709551616 := mulM_lt _ _
  have e2 : Xi.fin2 ((last1 h : Nat) : Int) = ((last2 (last1 h) : Nat) : Int) := by
    unfold Xi.fin2 last2
    rw [d (last1 h) 29 536870912 rfl, xor_nat _ _ l1 (dl _ _ l1), show (1609587929392839161 : Int) = ((primeN 3 : Nat) : Int) from rfl, w_mul]
  have l2 : last2 (last1 h) < 18446744073709551616 := mulM_lt _ _
  unfold Xi.fin lastN
  rw [e1, e2, d (last2 (last1 h)) 32 4294967296 rfl, xor_nat _ _ l2 (dl _ _ l2)]
theorem numTo_nat (g : Nat → Nat) (hg : ∀ i, g i < 256) (p n : Nat) (hn : n ≤ 8) : ∀ j, j ≤ n → Xi.numTo (fun i => (g i : Int)) p n j = ((numN g (p + (n - j)) j : Nat) : Int)
  | 0, _ => rfl
  | j + 1, hj => by
    simp only [Xi.numTo]
    rw [numTo_nat g hg p n hn j (by omega)]
    have hb := numN_lt g hg j (p + (n - j))
    have hp : 256 ^ j ≤ 256 ^ 7 := Nat.pow_le_pow_right (by omega) (by omega)
    have hgl := hg (p + (n - 1 - j))
    rw [show ((numN g (p + (n - j)) j : Nat) : Int) * 256 = ((numN g (p + (n - j)) j * 256 : Nat) : Int) from rfl, w_nat, Nat.mod_eq_of_lt (by omega), u64_or_nat _ _ (by omega) (by omega), nat_join 8 _ _ (by omega) (by omega)]
    congr 1
    rw [show p + (n - (j + 1)) = p + (n - 1 - j) by omega]
    simp only [numN]
    rw [show p + (n - 1 - j) + 1 = p + (n - j) by omega]
    omega
theorem num_nat (g : Nat → Nat) (hg : ∀ i, g i < 256) (p n : Nat) (hn : n ≤ 8) : Xi.num (fun i => (g i : Int)) p n = ((numN g p n : Nat) : Int) := by
  have := numTo_nat g hg p n hn n (Nat.le_refl _)
  rw [Nat.sub_self, Nat.add_zero] at this
  exact this
theorem lane0_nat (k : Nat) (hk : k < 4) : Xi.lane0 k = ((lane0N k : Nat) : Int) := by
  match k, hk with
  | 0, _ => decide +kernel
  | 1, _ => decide +kernel
  | 2, _ => decide +kernel
  | 3, _ => decide +kernel
theorem lane_nat (s : ByteArray) (k : Nat) (hk : k < 4) : ∀ m, Xi.lane (fun i => (gOf s i : Int)) k m = ((laneN s m k : Nat) : Int)
  | 0 => by rw [show laneN s 0 k = lane0N k by simp [laneN]]; exact lane0_nat k hk
  | m + 1 => by
    simp only [Xi.lane]
    rw [lane_nat s k hk m, num_nat _ (gOf_lt s) _ _ (by omega), lap_nat]
    rfl
theorem laneN_lt (s : ByteArray) (k : Nat) (hk : k < 4) (m : Nat) : laneN s m k < 18446744073709551616 := by
  cases m with
  | zero =>
    rw [show laneN s 0 k = lane0N k by simp [laneN]]
    match k, hk with
    | 0, _ => exact addM_lt _ _
    | 1, _ => decide +kernel
    | 2, _ => decide +kernel
    | 3, _ => exact mulM_lt _ _
  | succ m => rw [show laneN s (m + 1) k = lapN (laneN s m k) (numN (gOf s) (32 * m + 8 * k) 8) by simp [laneN]]; exact lapN_lt _ _
theorem eightsN_lt (g : Nat → Nat) (p h : Nat) (hh : h < 18446744073709551616) (j : Nat) : eightsN g p h j < 18446744073709551616 := by
  cases j with
  | zero => exact hh
  | succ j => exact addM_lt _ _
theorem onesN_lt (g : Nat → Nat) (p h : Nat) (hh : h < 18446744073709551616) (j : Nat) : onesN g p h j < 18446744073709551616 := by
  cases j with
  | zero => exact hh
  | succ j => exact foldN_lt _ _ _ _
theorem eights_nat (g : Nat → Nat) (hg : ∀ i, g i < 256) (p h : Nat) (hh : h < 18446744073709551616) : ∀ j, Xi.eights (fun i => (g i : Int)) p (h : Int) j = ((eightsN g p h j : Nat) : Int)
  | 0 => rfl
  | j + 1 => by
    simp only [Xi.eights, eightsN]
    rw [eights_nat g hg p h hh j, num_nat g hg _ _ (by omega), step8_nat _ _ (eightsN_lt g p h hh j)]
theorem ones_nat (g : Nat → Nat) (hg : ∀ i, g i < 256) (p h : Nat) (hh : h < 18446744073709551616) : ∀ j, Xi.ones (fun i => (g i : Int)) p (h : Int) j = ((onesN g p h j : Nat) : Int)
  | 0 => rfl
  | j + 1 => by
    simp only [Xi.ones, onesN]
    rw [ones_nat g hg p h hh j, num_nat g hg _ _ (by omega), step1_nat _ _ (onesN_lt g p h hh j)]
theorem rest_nat (g : Nat → Nat) (hg : ∀ i, g i < 256) (p n h : Nat) (hh : h < 18446744073709551616) : Xi.rest (fun i => (g i : Int)) p n (h : Int) = ((restN g p n h : Nat) : Int) := by
  unfold Xi.rest restN
  by_cases c : 8 * (n / 8) + 4 ≤ n
  · rw [if_pos c, if_pos c, eights_nat g hg p h hh, num_nat g hg _ _ (by omega), step4_nat _ _ (eightsN_lt g p h hh _), ones_nat g hg _ _ (show step4N _ _ < _ from addM_lt _ _)]
  · rw [if_neg c, if_neg c, eights_nat g hg p h hh, ones_nat g hg _ _ (eightsN_lt g p h hh _)]
theorem restN_lt (g : Nat → Nat) (p n h : Nat) (hh : h < 18446744073709551616) : restN g p n h < 18446744073709551616 := by
  unfold restN
  split
  · exact onesN_lt _ _ _ (addM_lt _ _) _
  · exact onesN_lt _ _ _ (eightsN_lt _ _ _ hh _) _
theorem sum_nat (s : ByteArray) : Xi.sum s.data.toList = ((xsumN s : Nat) : Int) := by
  have hlen : s.data.toList.length = s.size := by rw [Array.length_toList]; rfl
  have hbt : Xi.byte s.data.toList = fun i => ((gOf s i : Nat) : Int) := rfl
  unfold Xi.sum Xi.xxh xsumN
  rw [hlen, hbt]
  have hh : Xi.head (fun i => ((gOf s i : Nat) : Int)) s.size = (((if 32 ≤ s.size then headN s else primeN 5) : Nat) : Int) := by
    unfold Xi.head
    by_cases c : 32 ≤ s.size
    · rw [if_pos c, if_pos c]
      exact joined_nat _ _ (fun k hk => lane_nat s k hk _) (fun k hk => laneN_lt s k hk _)
    · rw [if_neg c, if_neg c]; rfl
  rw [hh, w_add]
  show Xi.fin (Xi.rest _ _ _ ((beginN s : Nat) : Int)) = _
  have hb : beginN s < 18446744073709551616 := addM_lt _ _
  rw [rest_nat _ (gOf_lt s) _ _ _ hb, fin_nat _ (restN_lt _ _ _ _ hb)]
end Go.Proofs.YtipdjbkkpjlamaaGreat
