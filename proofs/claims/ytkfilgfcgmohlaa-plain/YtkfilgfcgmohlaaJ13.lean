import Derived.Test.YtkfilgfcgmohlaaJ01
import Derived.Test.YtkfilgfcgmohlaaJ02
import Derived.WalkKit
import Derived.WalkSpells
import Derived.WalkLawsBesides
import Derived.Deep.QuietTactic
import Derived.BigQuiet
namespace Go.Proofs.Ytkfilgfcgmohlaa
open Go.RowKit
set_option maxHeartbeats 1000000 in
/-- bytes that are not there -/
theorem ptake_no (d : Nat) (rest : ByteArray) (n : Int) (w : World) (hc : w.cell? ⟨d, 0, none⟩ = some (.string rest)) (hn : n < 0 ∨ (rest.size : Int) < n) :
    Calls Try.prog 61 #[.pointer (some ⟨d, 0, none⟩), .int .i64 n] w fun x w' => x = .returned (.tuple #[.string ⟨#[]⟩, .bool false]) ∧ w' = w := by
  by_cases h0 : n < 0
  · have hb : decide (n < 0) = true := decide_eq_true h0
    go_enter Try.func61, Try.ntmps61
    go_wp2_with fail
    go_ret2
    exact ⟨rfl, rfl⟩
  · have hb : decide (n < 0) = false := decide_eq_false h0
    have hb2 : decide ((rest.size : Int) < n) = true := decide_eq_true (by omega)
    go_enter Try.func61, Try.ntmps61
    go_wp2_with fail
    go_ret2
    exact ⟨rfl, rfl⟩
set_option maxHeartbeats 1000000 in
theorem ptake_ok (d : Nat) (rest : ByteArray) (n : Nat) (w : World) (hc : w.cell? ⟨d, 0, none⟩ = some (.string rest)) (hz : w.frozen? ⟨d, 0, none⟩ = false) (hn : n ≤ rest.size) :
    Calls Try.prog 61 #[.pointer (some ⟨d, 0, none⟩), .int .i64 (n : Int)] w fun x w' => x = .returned (.tuple #[.string (rest.extract 0 n), .bool true]) ∧ w' = w.setCell ⟨d, 0, none⟩ (.string (rest.extract n rest.size)) := by
  have hb : decide ((n : Int) < 0) = false := decide_eq_false (by omega)
  have hb2 : decide ((rest.size : Int) < (n : Int)) = false := decide_eq_false (by omega)
  have hI : (n : Int) ≤ (rest.size : Int) := by omega
  go_enter Try.func61, Try.ntmps61
  go_wp2_with fail
  go_ret2
  exact ⟨rfl, rfl⟩
end Go.Proofs.Ytkfilgfcgmohlaa
namespace Go.Proofs.Ytkfilgfcgmohlaa
def dig (a i : Nat) : Nat := a / 65536 ^ i % 65536
theorem dig_lt (a i : Nat) : dig a i < 65536 := Nat.mod_lt _ (by omega)
def val (z : Nat → Nat) : Nat := z 0 + z 1 * 65536 + z 2 * 4294967296 + z 3 * 281474976710656
def updM (f : Nat → Nat) (k v : Nat) : Nat → Nat := fun i => if i = k then v else f i
theorem updM_same (f : Nat → Nat) (k v : Nat) : updM f k v k = v := by simp [updM]
theorem updM_other (f : Nat → Nat) (k v i : Nat) (h : i ≠ k) : updM f k v i = f i := by simp [updM, h]
theorem val_upd (z : Nat → Nat) (j v : Nat) (hj : j < 4) : val (updM z j (v % 65536)) + v / 65536 * 65536 ^ (j + 1) + z j * 65536 ^ j = val z + v * 65536 ^ j := by
  unfold val
  match j, hj with
  | 0, _ => rw [updM_same, updM_other _ _ _ 1 (by omega), updM_other _ _ _ 2 (by omega), updM_other _ _ _ 3 (by omega)]; omega
  | 1, _ => rw [updM_same, updM_other _ _ _ 0 (by omega), updM_other _ _ _ 2 (by omega), updM_other _ _ _ 3 (by omega)]; omega
  | 2, _ => rw [updM_same, updM_other _ _ _ 1 (by omega), updM_other _ _ _ 0 (by omega), updM_other _ _ _ 3 (by omega)]; omega
  | 3, _ => rw [updM_same, updM_other _ _ _ 1 (by omega), updM_other _ _ _ 2 (by omega), updM_other _ _ _ 0 (by omega)]; omega
theorem mod_succ (a i : Nat) : a % 65536 ^ (i + 1) = a % 65536 ^ i + dig a i * 65536 ^ i := by
  unfold dig
  rw [Nat.pow_succ, Nat.mod_mul, Nat.mul_comm (65536 ^ i)]
theorem val_lt (z : Nat → Nat) (hz : ∀ i, z i < 65536) : val z < 18446744073709551616 := by
  have := hz 0; have := hz 1; have := hz 2; have := hz 3
  unfold val; omega
/-- one digit of a row -/
theorem row_step (z z0 : Nat → Nat) (a b i k c v : Nat) (hik : i + k < 4) (hv : v = z (i + k) + dig a i * dig b k + c)
    (h : val z + c * 65536 ^ (i + k) = val z0 + dig b k * 65536 ^ k * (a % 65536 ^ i)) :
    val (updM z (i + k) (v % 65536)) + v / 65536 * 65536 ^ (i + 1 + k) = val z0 + dig b k * 65536 ^ k * (a % 65536 ^ (i + 1)) := by
  have e := val_upd z (i + k) v hik
  rw [mod_succ, Nat.mul_add, ← Nat.add_assoc, ← h]
  have e2 : dig b k * 65536 ^ k * (dig a i * 65536 ^ i) = dig a i * dig b k * 65536 ^ (i + k) := by
    rw [Nat.pow_add]
    simp only [Nat.mul_comm, Nat.mul_left_comm, Nat.mul_assoc]
  rw [e2, show i + 1 + k = i + k + 1 by omega]
  rw [hv, Nat.add_mul, Nat.add_mul, ← hv] at e
  omega
/-- one row -/
theorem row_end (z z0 : Nat → Nat) (a b k c : Nat) (hk : k < 4) (hz : ∀ i, z i < 65536)
    (h : val z + c * 65536 ^ (4 - k + k) = val z0 + dig b k * 65536 ^ k * (a % 65536 ^ (4 - k))) (h0 : val z0 = a * (b % 65536 ^ k) % 18446744073709551616) :
    val z = a * (b % 65536 ^ (k + 1)) % 18446744073709551616 := by
  have hlt := val_lt z hz
  have e4 : (18446744073709551616 : Nat) = 65536 ^ k * 65536 ^ (4 - k) := by
    rw [← Nat.pow_add, show k + (4 - k) = 4 by omega]
  have e5 : 65536 ^ (4 - k + k) = 18446744073709551616 := by rw [show 4 - k + k = 4 by omega]
  rw [e5] at h
  have e6 : val z % 18446744073709551616 = (val z0 + dig b k * 65536 ^ k * (a % 65536 ^ (4 - k))) % 18446744073709551616 := by
    rw [← h, Nat.add_mul_mod_self_right]
  rw [Nat.mod_eq_of_lt hlt] at e6
  rw [e6, mod_succ, Nat.mul_add, h0]
  have e7 : (dig b k * 65536 ^ k * (a % 65536 ^ (4 - k))) % 18446744073709551616 = (a * (dig b k * 65536 ^ k)) % 18446744073709551616 := by
    rw [Nat.mul_assoc, ← Nat.mul_mod_mul_left, ← e4, Nat.mul_mod_mod, ← Nat.mul_assoc, Nat.mul_comm]
  rw [Nat.add_mod, Nat.mod_mod, e7, ← Nat.add_mod]
theorem all_mod (b : Nat) (hb : b < 18446744073709551616) : b % 65536 ^ 4 = b := Nat.mod_eq_of_lt hb
theorem i64_join (a b : Nat) (ha : a < 65536) (hb : b < 65536) : bits .or .i64 ((a : Int) * 65536) (b : Int) = ((a * 65536 + b : Nat) : Int) := by
  rw [show ((a : Int) * 65536) = ((a * 65536 : Nat) : Int) by omega, i64_or _ _ (by omega) (by omega), nat_join 16 (a * 65536) b (by omega) (by omega)]
theorem isH_val (z : Nat → Nat) (hz : ∀ i, z i < 65536) : IsH (bits .or .i64 ((z 3 : Int) * 65536) (z 2 : Int)) (bits .or .i64 ((z 1 : Int) * 65536) (z 0 : Int)) (val z) := by
  rw [i64_join _ _ (hz 3) (hz 2), i64_join _ _ (hz 1) (hz 0)]
  have := hz 0; have := hz 1; have := hz 2; have := hz 3
  exact IsH.mk2 _ _ rfl rfl (by unfold val; omega) (by omega) (by omega)
theorem dig_cells {h l : Int} {n : Nat} (k : IsH h l n) : bits .and .i64 l 65535 = (dig n 0 : Int) ∧ l / 65536 = (dig n 1 : Int) ∧ bits .and .i64 h 65535 = (dig n 2 : Int) ∧ h / 65536 = (dig n 3 : Int) := by
  have hb := k.bds
  rw [i64_mask16 _ (by omega) (by omega), i64_mask16 _ (by omega) (by omega)]
  have h1 := k.hi; have h2 := k.lo; have h3 := k.lt
  unfold dig
  refine ⟨?_, ?_, ?_, ?_⟩
  · show _ = ((n / 1 % 65536 : Nat) : Int); omega
  · show _ = ((n / 65536 % 65536 : Nat) : Int); omega
  · show _ = ((n / 4294967296 % 65536 : Nat) : Int); omega
  · show _ = ((n / 281474976710656 % 65536 : Nat) : Int); omega
/-- behind k rows -/
def OutInv (a b k : Nat) (z : Nat → Nat) : Prop := val z = a * (b % 65536 ^ k) % 18446744073709551616
/-- behind i digits of row k -/
def RowInv (a b k i c : Nat) (z y : Nat → Nat) : Prop := val y + c * 65536 ^ (i + k) = val z + dig b k * 65536 ^ k * (a % 65536 ^ i)
theorem OutInv.zero (a b : Nat) : OutInv a b 0 (fun _ => 0) := by
  unfold OutInv val
  rw [Nat.pow_zero, Nat.mod_one, Nat.mul_zero, Nat.zero_mod, Nat.zero_mul, Nat.zero_mul, Nat.zero_mul]
theorem RowInv.zero (a b k : Nat) (z : Nat → Nat) : RowInv a b k 0 0 z z := by
  unfold RowInv
  rw [Nat.pow_zero, Nat.mod_one, Nat.mul_zero, Nat.zero_mul]
theorem RowInv.step {a b k i c : Nat} {z y : Nat → Nat} (h : RowInv a b k i c z y) (hik : i + k < 4) (v : Nat) (hv : v = y (i + k) + dig a i * dig b k + c) :
    RowInv a b k (i + 1) (v / 65536) z (updM y (i + k) (v % 65536)) := row_step y z a b i k c v hik hv h
theorem RowInv.fin {a b k i c : Nat} {z y : Nat → Nat} (h : RowInv a b k i c z y) (hk : k < 4) (hi : i + k = 4) (hy : ∀ i, y i < 65536) (h0 : OutInv a b k z) : OutInv a b (k + 1) y := by
  obtain rfl : i = 4 - k := by omega
  exact row_end y z a b k c hk hy h h0
theorem OutInv.fin {a b : Nat} {z : Nat → Nat} (h : OutInv a b 4 z) (hb : b < 18446744073709551616) : val z = a * b % 18446744073709551616 := by
  unfold OutInv at h
  rwa [all_mod b hb] at h
theorem carry_lt (y d c v : Nat) (hv : v = y + d + c) (hy : y < 65536) (hd : d ≤ 65535 * 65535) (hc : c < 65536) : v / 65536 < 65536 := by omega
theorem mask_val (v : Nat) (h : v < 4294967296 * 65536) : bits .and .i64 (v : Int) 65535 = ((v % 65536 : Nat) : Int) := by
  rw [i64_mask16 _ (by omega) (by omega)]; omega
end Go.Proofs.Ytkfilgfcgmohlaa
namespace Go.Proofs.Ytkfilgfcgmohlaa
open Go.RowKit
def mulM (a b : Nat) : Nat := a * b % 18446744073709551616
/-- what 'times' holds in memory -/
structure TmAt (B : Nat) (w wr : World) (a b : Nat) (z : Nat → Nat) : Prop where
  xc : ∀ i, i < 4 → wr.cell? ⟨B + 1 + 1 + 1, i, none⟩ = some (.int .i64 (dig a i : Nat))
  yc : ∀ i, i < 4 → wr.cell? ⟨B + 1 + 1 + 1 + 1, i, none⟩ = some (.int .i64 (dig b i : Nat))
  zc : ∀ i, i < 4 → wr.cell? ⟨B + 1 + 1 + 1 + 1 + 1, i, none⟩ = some (.int .i64 (z i : Nat))
  zf : ∀ i, wr.frozen? ⟨B + 1 + 1 + 1 + 1 + 1, i, none⟩ = false
  r0 : wr.cell? ⟨B + 1 + 1, 0, none⟩ = some (.int .i64 0)
  r1 : wr.cell? ⟨B + 1 + 1, 1, none⟩ = some (.int .i64 0)
  rf : ∀ i, wr.frozen? ⟨B + 1 + 1, i, none⟩ = false
  small : ∀ i, z i < 65536
  bel : Below B w wr
theorem TmAt.set {B : Nat} {w wr : World} {a b : Nat} {z : Nat → Nat} (h : TmAt B w wr a b z) (j v : Nat) (hj : j < 4) (hv : v < 65536) :
    TmAt B w (wr.setCell ⟨B + 1 + 1 + 1 + 1 + 1, j, none⟩ (.int .i64 (v : Nat))) a b (updM z j v) where
  xc i hi := by rw [cs_other (blk_ne (by omega))]; exact h.xc i hi
  yc i hi := by rw [cs_other (blk_ne (by omega))]; exact h.yc i hi
  zc i hi := by
    by_cases e : i = j
    · subst e; rw [updM_same]; exact cs_same (h.zc i hi)
    · rw [updM_other _ _ _ _ e, cs_other (addr_ne (by omega))]; exact h.zc i hi
  zf i := by rw [World.frozen?_setCell]; exact h.zf i
  r0 := by rw [cs_other (blk_ne (by omega))]; exact h.r0
  r1 := by rw [cs_other (blk_ne (by omega))]; exact h.r1
  rf i := by rw [World.frozen?_setCell]; exact h.rf i
  small i := by
    by_cases e : i = j
    · subst e; rw [updM_same]; exact hv
    · rw [updM_other _ _ _ _ e]; exact h.small i
  bel := h.bel.setCell (by dsimp only; omega) _
theorem TmAt.drewN {B : Nat} {w wr : World} {a b : Nat} {z : Nat → Nat} (h : TmAt B w wr a b z) (n : Nat) : TmAt B w (wr.drewN n) a b z :=
  ⟨h.xc, h.yc, h.zc, h.zf, h.r0, h.r1, h.rf, h.small, ⟨h.bel.os, h.bel.tape, h.bel.output, h.bel.size, h.bel.block⟩⟩
theorem TmAt.start (w : World) (o1 o2 : Obj) (a b : Nat) (t u v : TypeId) :
    TmAt w.heap.size w ((((((w.alloc o1).alloc o2).alloc (.cells #[.int .i64 0, .int .i64 0] t)).alloc (.cells #[.int .i64 (dig a 0 : Nat), .int .i64 (dig a 1 : Nat), .int .i64 (dig a 2 : Nat), .int .i64 (dig a 3 : Nat)] u)).alloc
      (.cells #[.int .i64 (dig b 0 : Nat), .int .i64 (dig b 1 : Nat), .int .i64 (dig b 2 : Nat), .int .i64 (dig b 3 : Nat)] u)).alloc (.cells #[.int .i64 0, .int .i64 0, .int .i64 0, .int .i64 0] v)) a b (fun _ => 0) where
  xc i hi := by
    rw [World.cell?_alloc_past _ _ _ (by simp), World.cell?_alloc_past _ _ _ (by simp), World.cell?_alloc_at _ _ _ _ (by simp)]
    match i, hi with
    | 0, _ => rfl
    | 1, _ => rfl
    | 2, _ => rfl
    | 3, _ => rfl
  yc i hi := by
    rw [World.cell?_alloc_past _ _ _ (by simp), World.cell?_alloc_at _ _ _ _ (by simp)]
    match i, hi with
    | 0, _ => rfl
    | 1, _ => rfl
    | 2, _ => rfl
    | 3, _ => rfl
  zc i hi := by
    rw [World.cell?_alloc_at _ _ _ _ (by simp)]
    match i, hi with
    | 0, _ => rfl
    | 1, _ => rfl
    | 2, _ => rfl
    | 3, _ => rfl
  zf i := by rw [World.frozen?_alloc_at _ _ _ _ (by simp)]
  r0 := by rw [World.cell?_alloc_past _ _ _ (by simp), World.cell?_alloc_past _ _ _ (by simp), World.cell?_alloc_past _ _ _ (by simp), World.cell?_alloc_at _ _ _ _ (by simp)]; rfl
  r1 := by rw [World.cell?_alloc_past _ _ _ (by simp), World.cell?_alloc_past _ _ _ (by simp), World.cell?_alloc_past _ _ _ (by simp), World.cell?_alloc_at _ _ _ _ (by simp)]; rfl
  rf i := by rw [World.frozen?_alloc_past _ _ _ (by simp), World.frozen?_alloc_past _ _ _ (by simp), World.frozen?_alloc_past _ _ _ (by simp), World.frozen?_alloc_at _ _ _ _ (by simp)]
  small i := by show 0 < 65536; omega
  bel := ((((((Below.refl _ _).alloc (Nat.le_refl _) _).alloc (by simp) _).alloc (by simp; omega) _).alloc (by simp; omega) _).alloc (by simp; omega) _).alloc (by simp; omega) _
set_option maxRecDepth 100000 in
set_option maxHeartbeats 2000000 in
theorem times_any (ah al bh bl : Int) (a b : Nat) (w : World) (ha : IsH ah al a) (hb : IsH bh bl b) :
    Calls Try.prog 46 #[.agg #[.int .i64 ah, .int .i64 al], .agg #[.int .i64 bh, .int .i64 bl]] w fun e w' =>
      ∃ h l, e = .returned (.agg #[.int .i64 h, .int .i64 l]) ∧ IsH h l (mulM a b) ∧ Below w.heap.size w w' := by
  obtain ⟨a0, a1, a2, a3⟩ := dig_cells ha
  obtain ⟨b0, b1, b2, b3⟩ := dig_cells hb
  have HA : Hid (IsH bh bl b) := hb
  clear ha hb
  go_enter Try.func46, Try.ntmps46
  go_wp2
  clear a0 a1 a2 a3 b0 b1 b2 b3
  go_loopw [8] (fun kv wr => ∃ k : Nat, k ≤ 4 ∧ kv = .int .i64 k ∧ ∃ z, TmAt w.heap.size w wr a b z ∧ OutInv a b k z) (fun kv _ => (4 - intOf kv).toNat)
  case atStart => exact ⟨0, by omega, rfl, _, TmAt.start w _ _ a b _ _ _, OutInv.zero a b⟩
  case round =>
    obtain ⟨k, hk, rfl, z, hz, hval⟩ := hrel
    have HV : Hid (OutInv a b k z) := hval
    clear hval
    by_cases hlt : k < 4
    · obtain ⟨wo, hwo⟩ : ∃ wo : World, wo = wr := ⟨_, rfl⟩
      have HZ : Hid (TmAt w.heap.size w wr a b z) := hz
      clear hz
      go_wp2
      go_loopw [9, 10] (fun cv iv wi => ∃ i c : Nat, i + k ≤ 4 ∧ iv = .int .i64 i ∧ cv = .int .i64 c ∧ c < 65536 ∧ ∃ y, TmAt w.heap.size w wi a b y ∧ RowInv a b k i c z y) (fun _ iv _ => (4 - intOf iv).toNat)
      case atStart => exact ⟨0, 0, by omega, rfl, rfl, by omega, z, HZ.out, RowInv.zero a b k z⟩
      case round =>
        obtain ⟨i, c, hik, rfl, rfl, hc, y, hy, he⟩ := hrel
        have HE : Hid (RowInv a b k i c z y) := he
        clear he
        by_cases hin : i + k < 4
        · have cx := hy.xc i (by omega)
          have cy := hy.yc k hlt
          have cz := hy.zc (i + k) hin
          have fz := hy.zf (i + k)
          have HY : Hid (TmAt w.heap.size w wr a b y) := hy
          have sy := hy.small (i + k)
          have sx := dig_lt a i
          have sb := dig_lt b k
          have sm : dig a i * dig b k ≤ 65535 * 65535 := Nat.mul_le_mul (by omega) (by omega)
          have hi1 : (0 : Int) ≤ (i : Int) + (k : Int) := by omega
          have hi2 : (i : Int) + (k : Int) < 4 := by omega
          have hi3 : (i : Int) < 4 := by omega
          have hi4 : (k : Int) < 4 := by omega
          clear hy
          go_wp2
          go_quiet (fail)
          go_wp2
          obtain ⟨v, hv⟩ : ∃ v, v = y (i + k) + dig a i * dig b k + c := ⟨_, rfl⟩
          have ev : ((y (i + k) : Nat) : Int) + ((dig a i : Nat) : Int) * ((dig b k : Nat) : Int) + (c : Int) = (v : Int) := by rw [hv]; push_cast; rfl
          have hvl : v < 4294967296 * 65536 := by rw [hv]; omega
          rw [ev, mask_val v hvl]
          refine ⟨⟨i + 1, v / 65536, by omega, by go_num, by go_num, carry_lt _ _ _ v hv sy sm hc, _, (HY.out.drewN nq).set (i + k) (v % 65536) hin (Nat.mod_lt _ (by omega)), HE.out.step hin v hv⟩, by simp [intOf]; omega⟩
        · have HO : Hid (OutInv a b (k + 1) y) := HE.out.fin hlt (by omega) hy.small HV.out
          go_wp2
          exact ⟨⟨k + 1, by omega, by go_num, y, hy, HO.out⟩, by simp [intOf]; omega⟩
    · obtain rfl : k = 4 := by omega
      have HF : Hid (IsH (bits .or .i64 ((z 3 : Int) * 65536) (z 2 : Int)) (bits .or .i64 ((z 1 : Int) * 65536) (z 0 : Int)) (mulM a b)) := by
        have := isH_val z hz.small
        rwa [HV.out.fin HA.out.lt] at this
      have z0 := hz.zc 0 (by omega)
      have z1 := hz.zc 1 (by omega)
      have z2 := hz.zc 2 (by omega)
      have z3 := hz.zc 3 (by omega)
      have s0 := hz.small 0
      have s1 := hz.small 1
      have s2 := hz.small 2
      have s3 := hz.small 3
      have r0 := hz.r0
      have r1 := hz.r1
      have f0 := hz.rf 0
      have f1 := hz.rf 1
      have HB : Hid (Below w.heap.size w wr) := hz.bel
      clear hz HV HA
      go_wp2
      obtain ⟨h, hh⟩ : ∃ h, h = bits .or .i64 ((z 3 : Int) * 65536) (z 2 : Int) := ⟨_, rfl⟩
      obtain ⟨l, hl⟩ : ∃ l, l = bits .or .i64 ((z 1 : Int) * 65536) (z 0 : Int) := ⟨_, rfl⟩
      rw [← hh, ← hl]
      rw [← hh, ← hl] at HF
      have q0 : ((wr.setCell ⟨w.heap.size + 1 + 1, 0, none⟩ (.int .i64 h)).setCell ⟨w.heap.size + 1 + 1, 1, none⟩ (.int .i64 l)).cell? ⟨w.heap.size + 1 + 1, 0, none⟩ = some (.int .i64 h) := by
        rw [cs_other (addr_ne (by omega))]; exact cs_same r0
      have q1 : ((wr.setCell ⟨w.heap.size + 1 + 1, 0, none⟩ (.int .i64 h)).setCell ⟨w.heap.size + 1 + 1, 1, none⟩ (.int .i64 l)).cell? ⟨w.heap.size + 1 + 1, 1, none⟩ = some (.int .i64 l) := by
        exact cs_same (by rw [cs_other (addr_ne (by omega))]; exact r1)
      exact bodyPost_ret (v := .agg #[.int .i64 h, .int .i64 l]) (by simp [results, Try.results46, go_sem, q0, q1]) rfl ⟨h, l, rfl, HF.out, (HB.out.setCell (by dsimp only; omega) _).setCell (by dsimp only; omega) _⟩
end Go.Proofs.Ytkfilgfcgmohlaa
namespace Go.Proofs.Ytkfilgfcgmohlaa
open Go.RowKit
/-- a variable that holds a Half -/
structure Half2 (w : World) (b : Nat) (h l : Int) : Prop where
  c0 : w.cell? ⟨b, 0, none⟩ = some (.int .i64 h)
  c1 : w.cell? ⟨b, 1, none⟩ = some (.int .i64 l)
  f : ∀ i, w.frozen? ⟨b, i, none⟩ = false
theorem Half2.lt {w : World} {b : Nat} {h l : Int} (k : Half2 w b h l) : b < w.heap.size := block_lt_of_cell k.c0
theorem Half2.same {w w' : World} {b : Nat} {h l : Int} (k : Half2 w b h l) (hb : w'.heap[b]? = w.heap[b]?) : Half2 w' b h l :=
  ⟨(World.cell?_of_block (w := w) (a := ⟨b, 0, none⟩) hb).trans k.c0, (World.cell?_of_block (w := w) (a := ⟨b, 1, none⟩) hb).trans k.c1, fun i => (World.frozen?_of_block (w := w) (a := ⟨b, i, none⟩) hb).trans (k.f i)⟩
theorem Half2.later {w w' : World} {b : Nat} {h l : Int} (k : Half2 w b h l) (hb : Below w.heap.size w w') : Half2 w' b h l := k.same (hb.block b k.lt)
theorem Half2.alloc {w : World} {b : Nat} {h l : Int} (k : Half2 w b h l) (o : Obj) : Half2 (w.alloc o) b h l := k.same (Below.heap_alloc _ _ _ k.lt)
theorem Half2.other {w : World} {b : Nat} {h l : Int} (k : Half2 w b h l) (c i : Nat) (v : Value) (hc : b ≠ c) : Half2 (w.setCell ⟨c, i, none⟩ v) b h l := k.same (Below.heap_setCell _ _ _ _ hc)
theorem Half2.drew {w : World} {b : Nat} {h l : Int} (k : Half2 w b h l) : Half2 w.drew b h l := k.same rfl
theorem Half2.put {w : World} {b : Nat} {h l : Int} (k : Half2 w b h l) (h' l' : Int) : Half2 ((w.setCell ⟨b, 0, none⟩ (.int .i64 h')).setCell ⟨b, 1, none⟩ (.int .i64 l')) b h' l' :=
  ⟨by rw [cs_other (addr_ne (by omega))]; exact cs_same k.c0, cs_same (by rw [cs_other (addr_ne (by omega))]; exact k.c1), fun i => by rw [World.frozen?_setCell, World.frozen?_setCell]; exact k.f i⟩
theorem Half2.new (w : World) (h l : Int) (t : TypeId) (b : Nat) (hb : b = w.heap.size) : Half2 (w.alloc (.cells #[.int .i64 h, .int .i64 l] t)) b h l := by
  subst hb
  exact ⟨by rw [World.cell?_alloc_new]; rfl, by rw [World.cell?_alloc_new]; rfl, fun i => by rw [World.frozen?_alloc_new]⟩
def addM (a b : Nat) : Nat := (a + b) % 18446744073709551616
def lapN (v x : Nat) : Nat := mulM (rolN (addM v (mulM x (primeN 2))) 31) (primeN 1)
set_option maxRecDepth 100000 in
set_option maxHeartbeats 2000000 in
theorem rlap_any (vh vl xh xl : Int) (v x : Nat) (w : World) (hv : IsH vh vl v) (hx : IsH xh xl x) :
    Calls Try.prog 44 #[.agg #[.int .i64 vh, .int .i64 vl], .agg #[.int .i64 xh, .int .i64 xl]] w fun e w' =>
      ∃ h l, e = .returned (.agg #[.int .i64 h, .int .i64 l]) ∧ IsH h l (lapN v x) ∧ Below w.heap.size w w' := by
  have HV : Hid (IsH vh vl v) := hv
  have HX : Hid (IsH xh xl x) := hx
  clear hv hx
  go_enter Try.func44, Try.ntmps44
  go_wp2_with fail
  refine (prime_any 2 _ (by omega) (by omega)).mono ?_
  rintro e w1 ⟨ph, pl, rfl, hres, hb⟩
  have Hp : Hid (IsH ph pl (primeN 2)) := hres
  have Fv1 : Hid (Half2 w1 (w.heap.size) vh vl) := Half2.later (((Half2.new w vh vl _ _ rfl).alloc _).alloc _) hb
  have Fx1 : Hid (Half2 w1 (w.heap.size + 1) xh xl) := Half2.later ((Half2.new _ xh xl _ _ (by simp)).alloc _) hb
  have Fr1 : Hid (Half2 w1 (w.heap.size + 1 + 1) 0 0) := Half2.later (Half2.new _ 0 0 _ _ (by simp)) hb
  have B1 : Hid (Below w.heap.size w w1) := ((((Below.refl _ _).alloc (Nat.le_refl _) _).alloc (by simp) _).alloc (by simp; omega) _).trans (hb.mono (by simp; omega))
  clear hres hb
  obtain ⟨qv0, qv1, qvf⟩ := Fv1.out
  have qvf0 := qvf 0
  have qvf1 := qvf 1
  have qvl := Fv1.out.lt
  clear qvf
  obtain ⟨qx0, qx1, qxf⟩ := Fx1.out
  have qxf0 := qxf 0
  have qxf1 := qxf 1
  have qxl := Fx1.out.lt
  clear qxf
  obtain ⟨qr0, qr1, qrf⟩ := Fr1.out
  have qrf0 := qrf 0
  have qrf1 := qrf 1
  have qrl := Fr1.out.lt
  clear qrf
  go_wp2_with fail
  refine (times_any _ _ _ _ x (primeN 2) _ HX.out Hp.out).mono ?_
  rintro e w2 ⟨yh, yl, rfl, hres, hb⟩
  have Hy : Hid (IsH yh yl (mulM x (primeN 2))) := hres
  have Fv2 : Hid (Half2 w2 (w.heap.size) vh vl) := Half2.later (Fv1.out.alloc _) hb
  have Fr2 : Hid (Half2 w2 (w.heap.size + 1 + 1) 0 0) := Half2.later (Fr1.out.alloc _) hb
  have B2 : Hid (Below w.heap.size w w2) := (B1.out.alloc (by omega) _).trans (hb.mono (by simp; omega))
  clear hres hb Fv1 Fx1 Fr1 qv0 qv1 qvf0 qvf1 qvl qx0 qx1 qxf0 qxf1 qxl qr0 qr1 qrf0 qrf1 qrl B1
  obtain ⟨qv0, qv1, qvf⟩ := Fv2.out
  have qvf0 := qvf 0
  have qvf1 := qvf 1
  have qvl := Fv2.out.lt
  clear qvf
  obtain ⟨qr0, qr1, qrf⟩ := Fr2.out
  have qrf0 := qrf 0
  have qrf1 := qrf 1
  have qrl := Fr2.out.lt
  clear qrf
  go_wp2_with fail
  refine (plus_any _ _ _ _ v _ _ HV.out Hy.out).mono ?_
  rintro e w3 ⟨sh, sl, rfl, hres, hb⟩
  have Hs : Hid (IsH sh sl (addM v (mulM x (primeN 2)))) := hres
  have Fv3 : Hid (Half2 w3 (w.heap.size) vh vl) := Half2.later (Fv2.out.alloc _) hb
  have Fr3 : Hid (Half2 w3 (w.heap.size + 1 + 1) 0 0) := Half2.later (Fr2.out.alloc _) hb
  have B3 : Hid (Below w.heap.size w w3) := (B2.out.alloc (by omega) _).trans (hb.mono (by simp; omega))
  clear hres hb Fv2 Fr2 qv0 qv1 qvf0 qvf1 qvl qr0 qr1 qrf0 qrf1 qrl B2
  obtain ⟨qv0, qv1, qvf⟩ := Fv3.out
  have qvf0 := qvf 0
  have qvf1 := qvf 1
  have qvl := Fv3.out.lt
  clear qvf
  obtain ⟨qr0, qr1, qrf⟩ := Fr3.out
  have qrf0 := qrf 0
  have qrf1 := qrf 1
  have qrl := Fr3.out.lt
  clear qrf
  go_wp2_with fail
  refine (left_any _ _ _ 31 _ Hs.out (by omega) (by omega)).mono ?_
  rintro e w4 ⟨th, tl, rfl, hres, hb⟩
  have Ht : Hid (IsH th tl (rolN (addM v (mulM x (primeN 2))) 31)) := hres
  have Fv4 : Hid (Half2 w4 (w.heap.size) sh sl) := Half2.later (Fv3.out.put sh sl) hb
  have Fr4 : Hid (Half2 w4 (w.heap.size + 1 + 1) 0 0) := Half2.later ((Fr3.out.other _ _ _ (by omega)).other _ _ _ (by omega)) hb
  have B4 : Hid (Below w.heap.size w w4) := ((B3.out.setCell (by dsimp only; omega) _).setCell (by dsimp only; omega) _).trans (hb.mono (by simp; omega))
  clear hres hb Fv3 Fr3 qv0 qv1 qvf0 qvf1 qvl qr0 qr1 qrf0 qrf1 qrl B3
  obtain ⟨qv0, qv1, qvf⟩ := Fv4.out
  have qvf0 := qvf 0
  have qvf1 := qvf 1
  have qvl := Fv4.out.lt
  clear qvf
  obtain ⟨qr0, qr1, qrf⟩ := Fr4.out
  have qrf0 := qrf 0
  have qrf1 := qrf 1
  have qrl := Fr4.out.lt
  clear qrf
  go_wp2_with fail
  refine (prime_any 1 _ (by omega) (by omega)).mono ?_
  rintro e w5 ⟨qh, ql, rfl, hres, hb⟩
  have Hq : Hid (IsH qh ql (primeN 1)) := hres
  have Fv5 : Hid (Half2 w5 (w.heap.size) th tl) := Half2.later (Fv4.out.put th tl) hb
  have Fr5 : Hid (Half2 w5 (w.heap.size + 1 + 1) 0 0) := Half2.later ((Fr4.out.other _ _ _ (by omega)).other _ _ _ (by omega)) hb
  have B5 : Hid (Below w.heap.size w w5) := ((B4.out.setCell (by dsimp only; omega) _).setCell (by dsimp only; omega) _).trans (hb.mono (by simp; omega))
  clear hres hb Fv4 Fr4 qv0 qv1 qvf0 qvf1 qvl qr0 qr1 qrf0 qrf1 qrl B4
  obtain ⟨qv0, qv1, qvf⟩ := Fv5.out
  have qvf0 := qvf 0
  have qvf1 := qvf 1
  have qvl := Fv5.out.lt
  clear qvf
  obtain ⟨qr0, qr1, qrf⟩ := Fr5.out
  have qrf0 := qrf 0
  have qrf1 := qrf 1
  have qrl := Fr5.out.lt
  clear qrf
  go_wp2_with fail
  refine (times_any _ _ _ _ _ (primeN 1) _ Ht.out Hq.out).mono ?_
  rintro e w6 ⟨uh, ul, rfl, hres, hb⟩
  have Hu : Hid (IsH uh ul (lapN v x)) := hres
  have Fr6 : Hid (Half2 w6 (w.heap.size + 1 + 1) 0 0) := Half2.later (Fr5.out.alloc _) hb
  have B6 : Hid (Below w.heap.size w w6) := (B5.out.alloc (by omega) _).trans (hb.mono (by simp; omega))
  clear hres hb Fv5 Fr5 qv0 qv1 qvf0 qvf1 qvl qr0 qr1 qrf0 qrf1 qrl B5
  obtain ⟨qr0, qr1, qrf⟩ := Fr6.out
  have qrf0 := qrf 0
  have qrf1 := qrf 1
  have qrl := Fr6.out.lt
  clear qrf
  go_wp2
  have hput := Fr6.out.put uh ul
  exact bodyPost_ret (v := .agg #[.int .i64 uh, .int .i64 ul]) (by simp [results, Try.results44, go_sem, hput.c0, hput.c1]) rfl ⟨uh, ul, rfl, Hu.out, (B6.out.setCell (by dsimp only; omega) _).setCell (by dsimp only; omega) _⟩
end Go.Proofs.Ytkfilgfcgmohlaa
namespace Go.Proofs.Ytkfilgfcgmohlaa
open Go.RowKit
def foldN (h x k a : Nat) : Nat := mulM (rolN (h ^^^ x) k) (primeN a)
set_option maxRecDepth 100000 in
set_option maxHeartbeats 2000000 in
theorem rfold_one (hh hl xh xl : Int) (h x : Nat) (k a : Int) (w : World) (hH : IsH hh hl h) (hX : IsH xh xl x) (hk1 : 1 ≤ k) (hk2 : k ≤ 63) (ha1 : 1 ≤ a) (ha5 : a ≤ 5)  :
    Calls Try.prog 45 #[.agg #[.int .i64 hh, .int .i64 hl], .agg #[.int .i64 xh, .int .i64 xl], .int .i64 k, .int .i64 a, .int .i64 0] w fun e w' =>
      ∃ rh rl, e = .returned (.agg #[.int .i64 rh, .int .i64 rl]) ∧ IsH rh rl (foldN h x k.toNat a.toNat) ∧ Below w.heap.size w w' := by
  have HH : Hid (IsH hh hl h) := hH
  have HX : Hid (IsH xh xl x) := hX
  clear hH hX
  go_enter Try.func45, Try.ntmps45
  go_wp2_with fail
  refine (mixed_any _ _ _ _ h x _ HH.out HX.out).mono ?_
  rintro e w1 ⟨mh, ml, rfl, hres, hb⟩
  have Hm : Hid (IsH mh ml (h ^^^ x)) := hres
  have Fh1 : Hid (Half2 w1 (w.heap.size) hh hl) := Half2.later (((Half2.new w hh hl _ _ rfl).alloc _).alloc _) hb
  have Fr1 : Hid (Half2 w1 (w.heap.size + 1 + 1) 0 0) := Half2.later (Half2.new _ 0 0 _ _ (by simp)) hb
  have B1 : Hid (Below w.heap.size w w1) := ((((Below.refl _ _).alloc (Nat.le_refl _) _).alloc (by simp) _).alloc (by simp; omega) _).trans (hb.mono (by simp; omega))
  clear hres hb
  obtain ⟨qh0, qh1, qhf⟩ := Fh1.out
  have qhf0 := qhf 0
  have qhf1 := qhf 1
  have qhl := Fh1.out.lt
  clear qhf
  obtain ⟨qr0, qr1, qrf⟩ := Fr1.out
  have qrf0 := qrf 0
  have qrf1 := qrf 1
  have qrl := Fr1.out.lt
  clear qrf
  go_wp2_with fail
  refine (left_any _ _ _ k _ Hm.out hk1 hk2).mono ?_
  rintro e w2 ⟨lh, ll, rfl, hres, hb⟩
  have Hl : Hid (IsH lh ll (rolN (h ^^^ x) k.toNat)) := hres
  have Fh2 : Hid (Half2 w2 (w.heap.size) mh ml) := Half2.later (Fh1.out.put mh ml) hb
  have Fr2 : Hid (Half2 w2 (w.heap.size + 1 + 1) 0 0) := Half2.later ((Fr1.out.other _ _ _ (by omega)).other _ _ _ (by omega)) hb
  have B2 : Hid (Below w.heap.size w w2) := ((B1.out.setCell (by dsimp only; omega) _).setCell (by dsimp only; omega) _).trans (hb.mono (by simp; omega))
  clear hres hb Fh1 Fr1 qh0 qh1 qhf0 qhf1 qhl qr0 qr1 qrf0 qrf1 qrl B1
  obtain ⟨qh0, qh1, qhf⟩ := Fh2.out
  have qhf0 := qhf 0
  have qhf1 := qhf 1
  have qhl := Fh2.out.lt
  clear qhf
  obtain ⟨qr0, qr1, qrf⟩ := Fr2.out
  have qrf0 := qrf 0
  have qrf1 := qrf 1
  have qrl := Fr2.out.lt
  clear qrf
  go_wp2_with fail
  refine (prime_any a _ ha1 ha5).mono ?_
  rintro e w3 ⟨ph, pl, rfl, hres, hb⟩
  have Hp : Hid (IsH ph pl (primeN a.toNat)) := hres
  have Fh3 : Hid (Half2 w3 (w.heap.size) lh ll) := Half2.later (Fh2.out.put lh ll) hb
  have Fr3 : Hid (Half2 w3 (w.heap.size + 1 + 1) 0 0) := Half2.later ((Fr2.out.other _ _ _ (by omega)).other _ _ _ (by omega)) hb
  have B3 : Hid (Below w.heap.size w w3) := ((B2.out.setCell (by dsimp only; omega) _).setCell (by dsimp only; omega) _).trans (hb.mono (by simp; omega))
  clear hres hb Fh2 Fr2 qh0 qh1 qhf0 qhf1 qhl qr0 qr1 qrf0 qrf1 qrl B2
  obtain ⟨qh0, qh1, qhf⟩ := Fh3.out
  have qhf0 := qhf 0
  have qhf1 := qhf 1
  have qhl := Fh3.out.lt
  clear qhf
  obtain ⟨qr0, qr1, qrf⟩ := Fr3.out
  have qrf0 := qrf 0
  have qrf1 := qrf 1
  have qrl := Fr3.out.lt
  clear qrf
  go_wp2_with fail
  refine (times_any _ _ _ _ _ _ _ Hl.out Hp.out).mono ?_
  rintro e w4 ⟨th, tl, rfl, hres, hb⟩
  have Ht : Hid (IsH th tl (foldN h x k.toNat a.toNat)) := hres
  have Fh4 : Hid (Half2 w4 (w.heap.size) lh ll) := Half2.later (Fh3.out.alloc _) hb
  have Fr4 : Hid (Half2 w4 (w.heap.size + 1 + 1) 0 0) := Half2.later (Fr3.out.alloc _) hb
  have B4 : Hid (Below w.heap.size w w4) := (B3.out.alloc (by omega) _).trans (hb.mono (by simp; omega))
  clear hres hb Fh3 Fr3 qh0 qh1 qhf0 qhf1 qhl qr0 qr1 qrf0 qrf1 qrl B3
  obtain ⟨qh0, qh1, qhf⟩ := Fh4.out
  have qhf0 := qhf 0
  have qhf1 := qhf 1
  have qhl := Fh4.out.lt
  clear qhf
  obtain ⟨qr0, qr1, qrf⟩ := Fr4.out
  have qrf0 := qrf 0
  have qrf1 := qrf 1
  have qrl := Fr4.out.lt
  clear qrf
  have hne : w.heap.size ≠ w.heap.size + 1 + 1 := by omega
  have G1 : Hid (Half2 _ (w.heap.size + 1 + 1) 0 0) := (Fr4.out.other w.heap.size 0 (.int .i64 th) (by omega)).other w.heap.size 1 (.int .i64 tl) (by omega)
  go_wp2
  have hput := G1.out.put th tl
  exact bodyPost_ret (v := .agg #[.int .i64 th, .int .i64 tl]) (by simp [results, Try.results45, go_sem, hput.c0, hput.c1]) rfl ⟨th, tl, rfl, Ht.out, ((((B4.out.setCell (by dsimp only; omega) _).setCell (by dsimp only; omega) _)).setCell (by dsimp only; omega) _).setCell (by dsimp only; omega) _⟩
set_option maxRecDepth 100000 in
set_option maxHeartbeats 2000000 in
theorem rfold_two (hh hl xh xl : Int) (h x : Nat) (k a b : Int) (w : World) (hH : IsH hh hl h) (hX : IsH xh xl x) (hk1 : 1 ≤ k) (hk2 : k ≤ 63) (ha1 : 1 ≤ a) (ha5 : a ≤ 5) (hb1 : 1 ≤ b) (hb5 : b ≤ 5) :
    Calls Try.prog 45 #[.agg #[.int .i64 hh, .int .i64 hl], .agg #[.int .i64 xh, .int .i64 xl], .int .i64 k, .int .i64 a, .int .i64 b] w fun e w' =>
      ∃ rh rl, e = .returned (.agg #[.int .i64 rh, .int .i64 rl]) ∧ IsH rh rl (addM (foldN h x k.toNat a.toNat) (primeN b.toNat)) ∧ Below w.heap.size w w' := by
  have HH : Hid (IsH hh hl h) := hH
  have HX : Hid (IsH xh xl x) := hX
  clear hH hX
  go_enter Try.func45, Try.ntmps45
  go_wp2_with fail
  refine (mixed_any _ _ _ _ h x _ HH.out HX.out).mono ?_
  rintro e w1 ⟨mh, ml, rfl, hres, hb⟩
  have Hm : Hid (IsH mh ml (h ^^^ x)) := hres
  have Fh1 : Hid (Half2 w1 (w.heap.size) hh hl) := Half2.later (((Half2.new w hh hl _ _ rfl).alloc _).alloc _) hb
  have Fr1 : Hid (Half2 w1 (w.heap.size + 1 + 1) 0 0) := Half2.later (Half2.new _ 0 0 _ _ (by simp)) hb
  have B1 : Hid (Below w.heap.size w w1) := ((((Below.refl _ _).alloc (Nat.le_refl _) _).alloc (by simp) _).alloc (by simp; omega) _).trans (hb.mono (by simp; omega))
  clear hres hb
  obtain ⟨qh0, qh1, qhf⟩ := Fh1.out
  have qhf0 := qhf 0
  have qhf1 := qhf 1
  have qhl := Fh1.out.lt
  clear qhf
  obtain ⟨qr0, qr1, qrf⟩ := Fr1.out
  have qrf0 := qrf 0
  have qrf1 := qrf 1
  have qrl := Fr1.out.lt
  clear qrf
  go_wp2_with fail
  refine (left_any _ _ _ k _ Hm.out hk1 hk2).mono ?_
  rintro e w2 ⟨lh, ll, rfl, hres, hb⟩
  have Hl : Hid (IsH lh ll (rolN (h ^^^ x) k.toNat)) := hres
  have Fh2 : Hid (Half2 w2 (w.heap.size) mh ml) := Half2.later (Fh1.out.put mh ml) hb
  have Fr2 : Hid (Half2 w2 (w.heap.size + 1 + 1) 0 0) := Half2.later ((Fr1.out.other _ _ _ (by omega)).other _ _ _ (by omega)) hb
  have B2 : Hid (Below w.heap.size w w2) := ((B1.out.setCell (by dsimp only; omega) _).setCell (by dsimp only; omega) _).trans (hb.mono (by simp; omega))
  clear hres hb Fh1 Fr1 qh0 qh1 qhf0 qhf1 qhl qr0 qr1 qrf0 qrf1 qrl B1
  obtain ⟨qh0, qh1, qhf⟩ := Fh2.out
  have qhf0 := qhf 0
  have qhf1 := qhf 1
  have qhl := Fh2.out.lt
  clear qhf
  obtain ⟨qr0, qr1, qrf⟩ := Fr2.out
  have qrf0 := qrf 0
  have qrf1 := qrf 1
  have qrl := Fr2.out.lt
  clear qrf
  go_wp2_with fail
  refine (prime_any a _ ha1 ha5).mono ?_
  rintro e w3 ⟨ph, pl, rfl, hres, hb⟩
  have Hp : Hid (IsH ph pl (primeN a.toNat)) := hres
  have Fh3 : Hid (Half2 w3 (w.heap.size) lh ll) := Half2.later (Fh2.out.put lh ll) hb
  have Fr3 : Hid (Half2 w3 (w.heap.size + 1 + 1) 0 0) := Half2.later ((Fr2.out.other _ _ _ (by omega)).other _ _ _ (by omega)) hb
  have B3 : Hid (Below w.heap.size w w3) := ((B2.out.setCell (by dsimp only; omega) _).setCell (by dsimp only; omega) _).trans (hb.mono (by simp; omega))
  clear hres hb Fh2 Fr2 qh0 qh1 qhf0 qhf1 qhl qr0 qr1 qrf0 qrf1 qrl B2
  obtain ⟨qh0, qh1, qhf⟩ := Fh3.out
  have qhf0 := qhf 0
  have qhf1 := qhf 1
  have qhl := Fh3.out.lt
  clear qhf
  obtain ⟨qr0, qr1, qrf⟩ := Fr3.out
  have qrf0 := qrf 0
  have qrf1 := qrf 1
  have qrl := Fr3.out.lt
  clear qrf
  go_wp2_with fail
  refine (times_any _ _ _ _ _ _ _ Hl.out Hp.out).mono ?_
  rintro e w4 ⟨th, tl, rfl, hres, hb⟩
  have Ht : Hid (IsH th tl (foldN h x k.toNat a.toNat)) := hres
  have Fh4 : Hid (Half2 w4 (w.heap.size) lh ll) := Half2.later (Fh3.out.alloc _) hb
  have Fr4 : Hid (Half2 w4 (w.heap.size + 1 + 1) 0 0) := Half2.later (Fr3.out.alloc _) hb
  have B4 : Hid (Below w.heap.size w w4) := (B3.out.alloc (by omega) _).trans (hb.mono (by simp; omega))
  clear hres hb Fh3 Fr3 qh0 qh1 qhf0 qhf1 qhl qr0 qr1 qrf0 qrf1 qrl B3
  obtain ⟨qh0, qh1, qhf⟩ := Fh4.out
  have qhf0 := qhf 0
  have qhf1 := qhf 1
  have qhl := Fh4.out.lt
  clear qhf
  obtain ⟨qr0, qr1, qrf⟩ := Fr4.out
  have qrf0 := qrf 0
  have qrf1 := qrf 1
  have qrl := Fr4.out.lt
  clear qrf
  go_wp2_with fail
  refine (prime_any b _ hb1 hb5).mono ?_
  rintro e w5 ⟨qh, ql, rfl, hres, hb⟩
  have Hq : Hid (IsH qh ql (primeN b.toNat)) := hres
  have Fh5 : Hid (Half2 w5 (w.heap.size) th tl) := Half2.later (Fh4.out.put th tl) hb
  have Fr5 : Hid (Half2 w5 (w.heap.size + 1 + 1) 0 0) := Half2.later ((Fr4.out.other _ _ _ (by omega)).other _ _ _ (by omega)) hb
  have B5 : Hid (Below w.heap.size w w5) := ((B4.out.setCell (by dsimp only; omega) _).setCell (by dsimp only; omega) _).trans (hb.mono (by simp; omega))
  clear hres hb Fh4 Fr4 qh0 qh1 qhf0 qhf1 qhl qr0 qr1 qrf0 qrf1 qrl B4
  obtain ⟨qh0, qh1, qhf⟩ := Fh5.out
  have qhf0 := qhf 0
  have qhf1 := qhf 1
  have qhl := Fh5.out.lt
  clear qhf
  obtain ⟨qr0, qr1, qrf⟩ := Fr5.out
  have qrf0 := qrf 0
  have qrf1 := qrf 1
  have qrl := Fr5.out.lt
  clear qrf
  go_wp2_with fail
  refine (plus_any _ _ _ _ _ _ _ Ht.out Hq.out).mono ?_
  rintro e w6 ⟨sh, sl, rfl, hres, hb⟩
  have Hs : Hid (IsH sh sl (addM (foldN h x k.toNat a.toNat) (primeN b.toNat))) := hres
  have Fh6 : Hid (Half2 w6 (w.heap.size) th tl) := Half2.later (Fh5.out.alloc _) hb
  have Fr6 : Hid (Half2 w6 (w.heap.size + 1 + 1) 0 0) := Half2.later (Fr5.out.alloc _) hb
  have B6 : Hid (Below w.heap.size w w6) := (B5.out.alloc (by omega) _).trans (hb.mono (by simp; omega))
  clear hres hb Fh5 Fr5 qh0 qh1 qhf0 qhf1 qhl qr0 qr1 qrf0 qrf1 qrl B5
  obtain ⟨qh0, qh1, qhf⟩ := Fh6.out
  have qhf0 := qhf 0
  have qhf1 := qhf 1
  have qhl := Fh6.out.lt
  clear qhf
  obtain ⟨qr0, qr1, qrf⟩ := Fr6.out
  have qrf0 := qrf 0
  have qrf1 := qrf 1
  have qrl := Fr6.out.lt
  clear qrf
  have hne : w.heap.size ≠ w.heap.size + 1 + 1 := by omega
  have G1 : Hid (Half2 _ (w.heap.size + 1 + 1) 0 0) := (Fr6.out.other w.heap.size 0 (.int .i64 sh) (by omega)).other w.heap.size 1 (.int .i64 sl) (by omega)
  go_wp2
  have hput := G1.out.put sh sl
  exact bodyPost_ret (v := .agg #[.int .i64 sh, .int .i64 sl]) (by simp [results, Try.results45, go_sem, hput.c0, hput.c1]) rfl ⟨sh, sl, rfl, Hs.out, ((((B6.out.setCell (by dsimp only; omega) _).setCell (by dsimp only; omega) _)).setCell (by dsimp only; omega) _).setCell (by dsimp only; omega) _⟩
def last1 (h : Nat) : Nat := mulM (h ^^^ h / 2 ^ 33) (primeN 2)
def last2 (h : Nat) : Nat := mulM (h ^^^ h / 2 ^ 29) (primeN 3)
def lastN (h : Nat) : Nat := last2 (last1 h) ^^^ last2 (last1 h) / 2 ^ 32
set_option maxRecDepth 100000 in
set_option maxHeartbeats 4000000 in
theorem rlast_any (hh hl : Int) (h : Nat) (w : World) (hH : IsH hh hl h) :
    Calls Try.prog 47 #[.agg #[.int .i64 hh, .int .i64 hl]] w fun e w' =>
      ∃ rh rl, e = .returned (.agg #[.int .i64 rh, .int .i64 rl]) ∧ IsH rh rl (lastN h) ∧ Below w.heap.size w w' := by
  have HH : Hid (IsH hh hl h) := hH
  clear hH
  go_enter Try.func47, Try.ntmps47
  go_wp2_with fail
  refine (moved_any _ _ h 33 false _ HH.out (by omega) (by omega)).mono ?_
  rintro e w1 ⟨xh, xl, rfl, hres, hb⟩
  have Hx : Hid (IsH xh xl (mv h (Int.toNat 33) false 64)) := hres
  have Fh1 : Hid (Half2 w1 (w.heap.size) hh hl) := Half2.later ((Half2.new w hh hl _ _ rfl).alloc _) hb
  have Fr1 : Hid (Half2 w1 (w.heap.size + 1) 0 0) := Half2.later (Half2.new _ 0 0 _ _ (by simp)) hb
  have B1 : Hid (Below w.heap.size w w1) := (((Below.refl _ _).alloc (Nat.le_refl _) _).alloc (by simp) _).trans (hb.mono (by simp; omega))
  clear hres hb
  have Hx' : Hid (IsH xh xl (h / 2 ^ 33)) := by have := Hx.out; rwa [show Int.toNat 33 = 33 from rfl, mv_down h 33 HH.out.lt (by omega)] at this
  clear Hx
  have hx1 : w.heap.size + 1 < w1.heap.size := Fr1.out.lt
  obtain ⟨qh0, qh1, qhf⟩ := Fh1.out
  have qhf0 := qhf 0
  have qhf1 := qhf 1
  have qhl := Fh1.out.lt
  clear qhf
  obtain ⟨qr0, qr1, qrf⟩ := Fr1.out
  have qrf0 := qrf 0
  have qrf1 := qrf 1
  have qrl := Fr1.out.lt
  clear qrf
  go_wp2_with fail
  refine (mixed_any _ _ _ _ h _ _ HH.out Hx'.out).mono ?_
  rintro e w2 ⟨mh, ml, rfl, hres, hb⟩
  have Hm : Hid (IsH mh ml (h ^^^ h / 2 ^ 33)) := hres
  have Fh2 : Hid (Half2 w2 (w.heap.size) hh hl) := Half2.later (Fh1.out.alloc _) hb
  have Fr2 : Hid (Half2 w2 (w.heap.size + 1) 0 0) := Half2.later (Fr1.out.alloc _) hb
  have Fx2 : Hid (Half2 w2 (w1.heap.size) xh xl) := Half2.later (Half2.new w1 xh xl _ _ rfl) hb
  have B2 : Hid (Below w.heap.size w w2) := (B1.out.alloc (by omega) _).trans (hb.mono (by simp; omega))
  clear hres hb Fh1 Fr1 qh0 qh1 qhf0 qhf1 qhl qr0 qr1 qrf0 qrf1 qrl B1
  have hxl2 := Fx2.out.lt
  obtain ⟨qh0, qh1, qhf⟩ := Fh2.out
  have qhf0 := qhf 0
  have qhf1 := qhf 1
  have qhl := Fh2.out.lt
  clear qhf
  obtain ⟨qr0, qr1, qrf⟩ := Fr2.out
  have qrf0 := qrf 0
  have qrf1 := qrf 1
  have qrl := Fr2.out.lt
  clear qrf
  go_wp2_with fail
  refine (prime_any 2 _ (by omega) (by omega)).mono ?_
  rintro e w3 ⟨ph, pl, rfl, hres, hb⟩
  have Hp : Hid (IsH ph pl (primeN 2)) := hres
  have Fh3 : Hid (Half2 w3 (w.heap.size) mh ml) := Half2.later (Fh2.out.put mh ml) hb
  have Fr3 : Hid (Half2 w3 (w.heap.size + 1) 0 0) := Half2.later ((Fr2.out.other _ _ _ (by omega)).other _ _ _ (by omega)) hb
  have Fx3 : Hid (Half2 w3 (w1.heap.size) xh xl) := Half2.later ((Fx2.out.other _ _ _ (by omega)).other _ _ _ (by omega)) hb
  have B3 : Hid (Below w.heap.size w w3) := ((B2.out.setCell (by dsimp only; omega) _).setCell (by dsimp only; omega) _).trans (hb.mono (by simp; omega))
  clear hres hb Fh2 Fr2 Fx2 qh0 qh1 qhf0 qhf1 qhl qr0 qr1 qrf0 qrf1 qrl B2
  have hx3 := Fx3.out.lt
  obtain ⟨qh0, qh1, qhf⟩ := Fh3.out
  have qhf0 := qhf 0
  have qhf1 := qhf 1
  have qhl := Fh3.out.lt
  clear qhf
  obtain ⟨qr0, qr1, qrf⟩ := Fr3.out
  have qrf0 := qrf 0
  have qrf1 := qrf 1
  have qrl := Fr3.out.lt
  clear qrf
  go_wp2_with fail
  refine (times_any _ _ _ _ _ _ _ Hm.out Hp.out).mono ?_
  rintro e w4 ⟨th, tl, rfl, hres, hb⟩
  have Ht : Hid (IsH th tl (last1 h)) := hres
  have Fh4 : Hid (Half2 w4 (w.heap.size) mh ml) := Half2.later (Fh3.out.alloc _) hb
  have Fr4 : Hid (Half2 w4 (w.heap.size + 1) 0 0) := Half2.later (Fr3.out.alloc _) hb
  have Fx4 : Hid (Half2 w4 (w1.heap.size) xh xl) := Half2.later (Fx3.out.alloc _) hb
  have Fp4 : Hid (Half2 w4 (w3.heap.size) ph pl) := Half2.later (Half2.new w3 ph pl _ _ rfl) hb
  have B4 : Hid (Below w.heap.size w w4) := (B3.out.alloc (by omega) _).trans (hb.mono (by simp; omega))
  clear hres hb Fh3 Fr3 Fx3 qh0 qh1 qhf0 qhf1 qhl qr0 qr1 qrf0 qrf1 qrl B3
  have hx4 := Fx4.out.lt
  have hp4 := Fp4.out.lt
  obtain ⟨qh0, qh1, qhf⟩ := Fh4.out
  have qhf0 := qhf 0
  have qhf1 := qhf 1
  have qhl := Fh4.out.lt
  clear qhf
  obtain ⟨qr0, qr1, qrf⟩ := Fr4.out
  have qrf0 := qrf 0
  have qrf1 := qrf 1
  have qrl := Fr4.out.lt
  clear qrf
  go_wp2_with fail
  refine (moved_any _ _ (last1 h) 29 false _ Ht.out (by omega) (by omega)).mono ?_
  rintro e w5 ⟨yh, yl, rfl, hres, hb⟩
  have Hy : Hid (IsH yh yl (mv (last1 h) (Int.toNat 29) false 64)) := hres
  have Fh5 : Hid (Half2 w5 (w.heap.size) th tl) := Half2.later (Fh4.out.put th tl) hb
  have Fr5 : Hid (Half2 w5 (w.heap.size + 1) 0 0) := Half2.later ((Fr4.out.other _ _ _ (by omega)).other _ _ _ (by omega)) hb
  have Fx5 : Hid (Half2 w5 (w1.heap.size) xh xl) := Half2.later ((Fx4.out.other _ _ _ (by omega)).other _ _ _ (by omega)) hb
  have Fp5 : Hid (Half2 w5 (w3.heap.size) ph pl) := Half2.later ((Fp4.out.other _ _ _ (by omega)).other _ _ _ (by omega)) hb
  have B5 : Hid (Below w.heap.size w w5) := ((B4.out.setCell (by dsimp only; omega) _).setCell (by dsimp only; omega) _).trans (hb.mono (by simp; omega))
  clear hres hb Fh4 Fr4 Fx4 Fp4 qh0 qh1 qhf0 qhf1 qhl qr0 qr1 qrf0 qrf1 qrl B4
  have Hy' : Hid (IsH yh yl (last1 h / 2 ^ 29)) := by have := Hy.out; rwa [show Int.toNat 29 = 29 from rfl, mv_down (last1 h) 29 Ht.out.lt (by omega)] at this
  clear Hy
  have hp5 := Fp5.out.lt
  obtain ⟨qh0, qh1, qhf⟩ := Fh5.out
  have qhf0 := qhf 0
  have qhf1 := qhf 1
  have qhl := Fh5.out.lt
  clear qhf
  obtain ⟨qr0, qr1, qrf⟩ := Fr5.out
  have qrf0 := qrf 0
  have qrf1 := qrf 1
  have qrl := Fr5.out.lt
  clear qrf
  obtain ⟨qx0, qx1, qxf⟩ := Fx5.out
  have qxf0 := qxf 0
  have qxf1 := qxf 1
  have qxl := Fx5.out.lt
  clear qxf
  go_wp2_with fail
  refine (mixed_any _ _ _ _ (last1 h) _ _ Ht.out Hy'.out).mono ?_
  rintro e w6 ⟨nh, nl, rfl, hres, hb⟩
  have Hn : Hid (IsH nh nl (last1 h ^^^ last1 h / 2 ^ 29)) := hres
  have Fh6 : Hid (Half2 w6 (w.heap.size) th tl) := Half2.later ((Fh5.out.other _ _ _ (by omega)).other _ _ _ (by omega)) hb
  have Fr6 : Hid (Half2 w6 (w.heap.size + 1) 0 0) := Half2.later ((Fr5.out.other _ _ _ (by omega)).other _ _ _ (by omega)) hb
  have Fx6 : Hid (Half2 w6 (w1.heap.size) yh yl) := Half2.later (Fx5.out.put yh yl) hb
  have Fp6 : Hid (Half2 w6 (w3.heap.size) ph pl) := Half2.later ((Fp5.out.other _ _ _ (by omega)).other _ _ _ (by omega)) hb
  have B6 : Hid (Below w.heap.size w w6) := ((B5.out.setCell (by dsimp only; omega) _).setCell (by dsimp only; omega) _).trans (hb.mono (by simp; omega))
  clear hres hb Fh5 Fr5 Fx5 Fp5 qh0 qh1 qhf0 qhf1 qhl qr0 qr1 qrf0 qrf1 qrl qx0 qx1 qxf0 qxf1 qxl B5
  have hx6 := Fx6.out.lt
  have hp6 := Fp6.out.lt
  obtain ⟨qh0, qh1, qhf⟩ := Fh6.out
  have qhf0 := qhf 0
  have qhf1 := qhf 1
  have qhl := Fh6.out.lt
  clear qhf
  obtain ⟨qr0, qr1, qrf⟩ := Fr6.out
  have qrf0 := qrf 0
  have qrf1 := qrf 1
  have qrl := Fr6.out.lt
  clear qrf
  go_wp2_with fail
  refine (prime_any 3 _ (by omega) (by omega)).mono ?_
  rintro e w7 ⟨qh, ql, rfl, hres, hb⟩
  have Hq : Hid (IsH qh ql (primeN 3)) := hres
  have Fh7 : Hid (Half2 w7 (w.heap.size) nh nl) := Half2.later (Fh6.out.put nh nl) hb
  have Fr7 : Hid (Half2 w7 (w.heap.size + 1) 0 0) := Half2.later ((Fr6.out.other _ _ _ (by omega)).other _ _ _ (by omega)) hb
  have Fx7 : Hid (Half2 w7 (w1.heap.size) yh yl) := Half2.later ((Fx6.out.other _ _ _ (by omega)).other _ _ _ (by omega)) hb
  have Fp7 : Hid (Half2 w7 (w3.heap.size) ph pl) := Half2.later ((Fp6.out.other _ _ _ (by omega)).other _ _ _ (by omega)) hb
  have B7 : Hid (Below w.heap.size w w7) := ((B6.out.setCell (by dsimp only; omega) _).setCell (by dsimp only; omega) _).trans (hb.mono (by simp; omega))
  clear hres hb Fh6 Fr6 Fx6 Fp6 qh0 qh1 qhf0 qhf1 qhl qr0 qr1 qrf0 qrf1 qrl B6
  have hx7 := Fx7.out.lt
  obtain ⟨qh0, qh1, qhf⟩ := Fh7.out
  have qhf0 := qhf 0
  have qhf1 := qhf 1
  have qhl := Fh7.out.lt
  clear qhf
  obtain ⟨qr0, qr1, qrf⟩ := Fr7.out
  have qrf0 := qrf 0
  have qrf1 := qrf 1
  have qrl := Fr7.out.lt
  clear qrf
  obtain ⟨qp0, qp1, qpf⟩ := Fp7.out
  have qpf0 := qpf 0
  have qpf1 := qpf 1
  have qpl := Fp7.out.lt
  clear qpf
  go_wp2_with fail
  refine (times_any _ _ _ _ _ _ _ Hn.out Hq.out).mono ?_
  rintro e w8 ⟨uh, ul, rfl, hres, hb⟩
  have Hu : Hid (IsH uh ul (last2 (last1 h))) := hres
  have Fh8 : Hid (Half2 w8 (w.heap.size) nh nl) := Half2.later ((Fh7.out.other _ _ _ (by omega)).other _ _ _ (by omega)) hb
  have Fr8 : Hid (Half2 w8 (w.heap.size + 1) 0 0) := Half2.later ((Fr7.out.other _ _ _ (by omega)).other _ _ _ (by omega)) hb
  have Fx8 : Hid (Half2 w8 (w1.heap.size) yh yl) := Half2.later ((Fx7.out.other _ _ _ (by omega)).other _ _ _ (by omega)) hb
  have B8 : Hid (Below w.heap.size w w8) := ((B7.out.setCell (by dsimp only; omega) _).setCell (by dsimp only; omega) _).trans (hb.mono (by simp; omega))
  clear hres hb Fh7 Fr7 Fx7 Fp7 qh0 qh1 qhf0 qhf1 qhl qr0 qr1 qrf0 qrf1 qrl qp0 qp1 qpf0 qpf1 qpl B7
  have hx8 := Fx8.out.lt
  obtain ⟨qh0, qh1, qhf⟩ := Fh8.out
  have qhf0 := qhf 0
  have qhf1 := qhf 1
  have qhl := Fh8.out.lt
  clear qhf
  obtain ⟨qr0, qr1, qrf⟩ := Fr8.out
  have qrf0 := qrf 0
  have qrf1 := qrf 1
  have qrl := Fr8.out.lt
  clear qrf
  go_wp2_with fail
  refine (moved_any _ _ (last2 (last1 h)) 32 false _ Hu.out (by omega) (by omega)).mono ?_
  rintro e w9 ⟨zh, zl, rfl, hres, hb⟩
  have Hz : Hid (IsH zh zl (mv (last2 (last1 h)) (Int.toNat 32) false 64)) := hres
  have Fh9 : Hid (Half2 w9 (w.heap.size) uh ul) := Half2.later (Fh8.out.put uh ul) hb
  have Fr9 : Hid (Half2 w9 (w.heap.size + 1) 0 0) := Half2.later ((Fr8.out.other _ _ _ (by omega)).other _ _ _ (by omega)) hb
  have Fx9 : Hid (Half2 w9 (w1.heap.size) yh yl) := Half2.later ((Fx8.out.other _ _ _ (by omega)).other _ _ _ (by omega)) hb
  have B9 : Hid (Below w.heap.size w w9) := ((B8.out.setCell (by dsimp only; omega) _).setCell (by dsimp only; omega) _).trans (hb.mono (by simp; omega))
  clear hres hb Fh8 Fr8 Fx8 qh0 qh1 qhf0 qhf1 qhl qr0 qr1 qrf0 qrf1 qrl B8
  have Hz' : Hid (IsH zh zl (last2 (last1 h) / 2 ^ 32)) := by have := Hz.out; rwa [show Int.toNat 32 = 32 from rfl, mv_down (last2 (last1 h)) 32 Hu.out.lt (by omega)] at this
  clear Hz
  obtain ⟨qh0, qh1, qhf⟩ := Fh9.out
  have qhf0 := qhf 0
  have qhf1 := qhf 1
  have qhl := Fh9.out.lt
  clear qhf
  obtain ⟨qr0, qr1, qrf⟩ := Fr9.out
  have qrf0 := qrf 0
  have qrf1 := qrf 1
  have qrl := Fr9.out.lt
  clear qrf
  obtain ⟨qx0, qx1, qxf⟩ := Fx9.out
  have qxf0 := qxf 0
  have qxf1 := qxf 1
  have qxl := Fx9.out.lt
  clear qxf
  go_wp2_with fail
  refine (mixed_any _ _ _ _ (last2 (last1 h)) _ _ Hu.out Hz'.out).mono ?_
  rintro e w10 ⟨vh, vl, rfl, hres, hb⟩
  have Hv : Hid (IsH vh vl (lastN h)) := hres
  have Fr10 : Hid (Half2 w10 (w.heap.size + 1) 0 0) := Half2.later ((Fr9.out.other _ _ _ (by omega)).other _ _ _ (by omega)) hb
  have B10 : Hid (Below w.heap.size w w10) := ((B9.out.setCell (by dsimp only; omega) _).setCell (by dsimp only; omega) _).trans (hb.mono (by simp; omega))
  clear hres hb Fh9 Fr9 Fx9 qh0 qh1 qhf0 qhf1 qhl qr0 qr1 qrf0 qrf1 qrl qx0 qx1 qxf0 qxf1 qxl B9
  obtain ⟨qr0, qr1, qrf⟩ := Fr10.out
  have qrf0 := qrf 0
  have qrf1 := qrf 1
  have qrl := Fr10.out.lt
  clear qrf
  go_wp2
  have hput := Fr10.out.put vh vl
  exact bodyPost_ret (v := .agg #[.int .i64 vh, .int .i64 vl]) (by simp [results, Try.results47, go_sem, hput.c0, hput.c1]) rfl ⟨vh, vl, rfl, Hv.out, (B10.out.setCell (by dsimp only; omega) _).setCell (by dsimp only; omega) _⟩
end Go.Proofs.Ytkfilgfcgmohlaa
