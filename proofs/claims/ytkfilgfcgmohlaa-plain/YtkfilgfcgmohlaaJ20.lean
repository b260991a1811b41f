import Derived.Test.YtkfilgfcgmohlaaJ12
import Derived.WalkKit
import Derived.WalkSpells
import Derived.WalkLawsBesides
namespace Go.Proofs.Ytkfilgfcgmohlaa
open Go.RowKit
theorem or_byteW (h g : Nat) (hh : h < 1099511627776) (hg : g < 256) : bits .or .i64 ((h : Int) * 256) (g : Int) = ((g + 256 * h : Nat) : Int) := by
  rw [show ((h : Int) * 256) = ((h * 256 : Nat) : Int) by omega, i64_or _ _ (by omega) (by omega), nat_join 8 (h * 256) g (by omega) (by omega)]
  omega
theorem gOf_none (s : ByteArray) (i : Nat) (h : s.size ≤ i) : gOf s i = 0 := by
  unfold gOf
  rw [List.getD_eq_getElem?_getD, List.getElem?_eq_none (by rw [Array.length_toList]; exact h)]
  rfl
set_option maxRecDepth 100000 in
set_option maxHeartbeats 1000000 in
theorem le_any (s : ByteArray) (p n : Nat) (w : World) (hs : s.size ≤ 1099511627776) (hp : p ≤ 1048576) (hn : n ≤ 5) :
    Calls Try.prog 66 #[.string s, .int .i64 (p : Int), .int .i64 (n : Int)] w fun e w' => e = .returned (.int .i64 (numN (gOf s) p n : Int)) ∧ w' = w := by
  go_enter Try.func66, Try.ntmps66
  go_wp2_with fail
  go_loop [7, 8] (fun vv iv => ∃ k : Nat, k ≤ n ∧ iv = .int .i64 ((k : Int) - 1) ∧ vv = .int .i64 (numN (gOf s) (p + k) (n - k) : Int)) (fun _ iv => (intOf iv + 1).toNat)
  case atStart => exact ⟨n, Nat.le_refl _, rfl, by rw [Nat.sub_self]; rfl⟩
  case round =>
    obtain ⟨k, hk, rfl, rfl⟩ := hrel
    cases k with
    | zero =>
      go_wp2_with fail
      go_ret
      exact ⟨rfl, rfl⟩
    | succ k =>
      rw [show ((k + 1 : Nat) : Int) - 1 = (k : Int) by omega]
      have hv := numN_lt (gOf s) (gOf_lt s) (n - (k + 1)) (p + (k + 1))
      have h4 : 256 ^ (n - (k + 1)) ≤ 256 ^ 4 := Nat.pow_le_pow_right (n := 256) (by omega) (by omega)
      have HE : Hid (numN (gOf s) (p + k) (n - k) = gOf s (p + k) + 256 * numN (gOf s) (p + (k + 1)) (n - (k + 1))) := by
        show _ = _
        rw [show n - k = (n - (k + 1)) + 1 by omega, numN]; rfl
      obtain ⟨v, hve⟩ : ∃ v, v = numN (gOf s) (p + (k + 1)) (n - (k + 1)) := ⟨_, rfl⟩
      rw [← hve] at hv HE ⊢
      have hv4 : v < 4294967296 := by omega
      clear hve hv h4
      have hgl := gOf_lt s (p + k)
      by_cases hpk : p + k < s.size
      · have hix : ∀ wz, (Instr.index 9 (.string s) (.int .i64 ((p : Int) + (k : Int)))).run Try.prog wz = .ok (.int .u8 ((gOf s (p + k) : Nat) : Int)) wz := run_at s _ (p + k) (by omega) hpk
        have hw8 : IntKind.i64.wrap (gOf s (p + k) : Int) = (gOf s (p + k) : Int) := i64_id _ (by omega) (by omega)
        obtain ⟨b, hb⟩ : ∃ b, b = gOf s (p + k) := ⟨_, rfl⟩
        rw [← hb] at hix hgl hw8 HE
        have hor := or_byteW v b (by omega) hgl
        clear hb
        go_wp2_with fail
        go_round
        case rel => exact ⟨k, by omega, rfl, by rw [HE.out]; first | rfl | rw [hor] | (congr 1; rw [hor])⟩
        case measure => simp [intOf]
      · rw [gOf_none s (p + k) (by omega)] at HE
        go_wp2_with fail
        go_round
        case rel => exact ⟨k, by omega, rfl, by rw [HE.out]; congr 1; omega⟩
        case measure => simp [intOf]
/-- how many bytes a block may give, and take -/
def mostN (W : Int) : Int := if W < 131072 then W else 131072
set_option maxHeartbeats 1000000 in
theorem most_any (f : Nat) (W : Int) (w : World) (h : w.cell? ⟨f, 0, none⟩ = some (.int .i64 W)) :
    Calls Try.prog 37 #[.pointer (some ⟨f, 0, none⟩)] w fun e w' => e = .returned (.int .i64 (mostN W)) ∧ w' = w := by
  by_cases hW : W < 131072
  · have HE : Hid (mostN W = W) := by show _ = _; unfold mostN; rw [if_pos hW]
    go_enter Try.func37, Try.ntmps37
    go_wp2_with fail
    go_ret
    exact ⟨by rw [HE.out]; rfl, rfl⟩
  · have HE : Hid (mostN W = 131072) := by show _ = _; unfold mostN; rw [if_neg hW]
    go_enter Try.func37, Try.ntmps37
    go_wp2_with fail
    go_ret
    exact ⟨by rw [HE.out]; rfl, rfl⟩
/-- how many bits tell more behind a code -/
def llX : List Nat := [1, 1, 1, 1, 2, 2, 3, 3, 4, 6, 7, 8, 9, 10, 11, 12, 13, 14, 15, 16]
def mlX : List Nat := [1, 1, 1, 1, 2, 2, 3, 3, 4, 4, 5, 7, 8, 9, 10, 11, 12, 13, 14, 15, 16]
def extraN (t code : Nat) : Nat := if t = 1 then code else if t = 0 then (if 16 ≤ code then llX.getD (code - 16) 0 else 0) else (if 32 ≤ code then mlX.getD (code - 32) 0 else 0)
theorem ll_cell (W : World) (j : Nat) (hj : j < 20) : (W.alloc (Obj.cells (llX.map fun (x : Nat) => Value.int .i64 (x : Int)).toArray 3)).cell? ⟨W.heap.size, j, none⟩ = some (.int .i64 (llX.getD j 0 : Int)) := by
  rw [World.cell?_alloc_new]
  simp [List.getD_eq_getElem?_getD, show j < llX.length from hj]
theorem ml_cell (W : World) (j : Nat) (hj : j < 21) : (W.alloc (Obj.cells (mlX.map fun (x : Nat) => Value.int .i64 (x : Int)).toArray 3)).cell? ⟨W.heap.size, j, none⟩ = some (.int .i64 (mlX.getD j 0 : Int)) := by
  rw [World.cell?_alloc_new]
  simp [List.getD_eq_getElem?_getD, show j < mlX.length from hj]
end Go.Proofs.Ytkfilgfcgmohlaa
namespace Go.Proofs.Ytkfilgfcgmohlaa
open Go.RowKit
/-- a code that a table has -/
def CodeOk (t code : Nat) : Prop := (t = 0 ∧ code ≤ 35) ∨ (t = 1 ∧ code ≤ 31) ∨ (t = 2 ∧ code ≤ 52)
set_option maxRecDepth 100000 in
set_option maxHeartbeats 1000000 in
theorem extra_any (t code : Nat) (w : World) (hok : CodeOk t code) :
    Calls Try.prog 101 #[.int .i64 (t : Int), .int .i64 (code : Int)] w fun e w' => e = .returned (.int .i64 (extraN t code : Int)) ∧ Below w.heap.size w w' := by
  have hb : (t = 0 → code ≤ 35) ∧ (t = 2 → code ≤ 52) := by unfold CodeOk at hok; omega
  have ht : t = 0 ∨ t = 1 ∨ t = 2 := by unfold CodeOk at hok; omega
  clear hok
  rcases ht with ht0 | ht1 | ht2
  · obtain rfl := ht0
    by_cases hc : 16 ≤ code
    · obtain ⟨j, hj⟩ : ∃ j, code = j + 16 := ⟨code - 16, by omega⟩
      have HE : Hid (extraN 0 code = llX.getD j 0) := by
        show _ = _
        unfold extraN
        rw [if_neg (by omega), if_pos rfl, if_pos hc, show code - 16 = j by omega]
      have hj2 : j < 20 := by have := hb.1 rfl; omega
      have cc : (w.alloc (Obj.cells #[Value.int .i64 1, Value.int .i64 1, Value.int .i64 1, Value.int .i64 1, Value.int .i64 2, Value.int .i64 2, Value.int .i64 3, Value.int .i64 3, Value.int .i64 4, Value.int .i64 6, Value.int .i64 7, Value.int .i64 8, Value.int .i64 9, Value.int .i64 10, Value.int .i64 11, Value.int .i64 12, Value.int .i64 13, Value.int .i64 14, Value.int .i64 15, Value.int .i64 16] 3)).cell? ⟨w.heap.size, j, none⟩ = some (.int .i64 (llX.getD j 0 : Int)) := ll_cell w j hj2
      obtain ⟨x, hx⟩ : ∃ x, x = llX.getD j 0 := ⟨_, rfl⟩
      rw [← hx] at cc HE
      subst hj
      have hjI : (j : Int) < 20 := by omega
      clear hx hb
      go_enter Try.func101, Try.ntmps101
      go_wp2_with fail
      go_ret
      exact ⟨by rw [HE.out]; rfl, (Below.refl _ _).alloc (Nat.le_refl _) _⟩
    · have HE : Hid (extraN 0 code = 0) := by
        show _ = _
        unfold extraN
        rw [if_neg (by omega), if_pos rfl, if_neg hc]
      clear hb
      go_enter Try.func101, Try.ntmps101
      go_wp2_with fail
      go_ret
      exact ⟨by rw [HE.out]; rfl, (Below.refl _ _).alloc (Nat.le_refl _) _⟩
  · obtain rfl := ht1
    have HE : Hid (extraN 1 code = code) := by show _ = _; unfold extraN; rw [if_pos rfl]
    clear hb
    go_enter Try.func101, Try.ntmps101
    go_wp2_with fail
    go_ret
    exact ⟨by rw [HE.out]; rfl, Below.refl _ _⟩
  · obtain rfl := ht2
    by_cases hc : 32 ≤ code
    · obtain ⟨j, hj⟩ : ∃ j, code = j + 32 := ⟨code - 32, by omega⟩
      have HE : Hid (extraN 2 code = mlX.getD j 0) := by
        show _ = _
        unfold extraN
        rw [if_neg (by omega), if_neg (by omega), if_pos hc, show code - 32 = j by omega]
      have hj2 : j < 21 := by have := hb.2 rfl; omega
      have cc : (w.alloc (Obj.cells #[Value.int .i64 1, Value.int .i64 1, Value.int .i64 1, Value.int .i64 1, Value.int .i64 2, Value.int .i64 2, Value.int .i64 3, Value.int .i64 3, Value.int .i64 4, Value.int .i64 4, Value.int .i64 5, Value.int .i64 7, Value.int .i64 8, Value.int .i64 9, Value.int .i64 10, Value.int .i64 11, Value.int .i64 12, Value.int .i64 13, Value.int .i64 14, Value.int .i64 15, Value.int .i64 16] 3)).cell? ⟨w.heap.size, j, none⟩ = some (.int .i64 (mlX.getD j 0 : Int)) := ml_cell w j hj2
      obtain ⟨x, hx⟩ : ∃ x, x = mlX.getD j 0 := ⟨_, rfl⟩
      rw [← hx] at cc HE
      subst hj
      have hjI : (j : Int) < 21 := by omega
      clear hx hb
      go_enter Try.func101, Try.ntmps101
      go_wp2_with fail
      go_ret
      exact ⟨by rw [HE.out]; rfl, (Below.refl _ _).alloc (Nat.le_refl _) _⟩
    · have HE : Hid (extraN 2 code = 0) := by
        show _ = _
        unfold extraN
        rw [if_neg (by omega), if_neg (by omega), if_neg hc]
      clear hb
      go_enter Try.func101, Try.ntmps101
      go_wp2_with fail
      go_ret
      exact ⟨by rw [HE.out]; rfl, (Below.refl _ _).alloc (Nat.le_refl _) _⟩
theorem llX_le : ∀ j, llX.getD j 0 ≤ 16 := by
  intro j
  by_cases h : j < 20
  · have : ∀ j : Fin 20, llX.getD j.val 0 ≤ 16 := by decide
    exact this ⟨j, h⟩
  · rw [List.getD_eq_getElem?_getD, List.getElem?_eq_none (by simp [llX]; omega)]; simp
theorem mlX_le : ∀ j, mlX.getD j 0 ≤ 16 := by
  intro j
  by_cases h : j < 21
  · have : ∀ j : Fin 21, mlX.getD j.val 0 ≤ 16 := by decide
    exact this ⟨j, h⟩
  · rw [List.getD_eq_getElem?_getD, List.getElem?_eq_none (by simp [mlX]; omega)]; simp
theorem extraN_le (t code : Nat) (hok : CodeOk t code) : extraN t code ≤ 31 := by
  have h1 := llX_le (code - 16)
  have h2 := mlX_le (code - 32)
  unfold extraN
  unfold CodeOk at hok
  split
  · omega
  · split
    · split <;> omega
    · split <;> omega
/-- the least value of a code -/
def leastN (t : Nat) : Nat → Nat
  | 0 => if t = 1 then 1 else if t = 2 then 3 else 0
  | c + 1 => leastN t c + 2 ^ extraN t c
theorem codeOk_less {t c d : Nat} (h : CodeOk t d) (hc : c ≤ d) : CodeOk t c := by unfold CodeOk at h ⊢; omega
theorem leastN_le (t : Nat) : ∀ c, c ≤ 53 → (∀ d, d < c → CodeOk t d) → leastN t c ≤ 3 + c * 2147483648
  | 0, _, _ => by unfold leastN; split <;> (try split) <;> omega
  | c + 1, hc, h => by
    have ih := leastN_le t c (by omega) (fun d hd => h d (by omega))
    have h1 := extraN_le t c (h c (by omega))
    have h2 : 2 ^ extraN t c ≤ 2 ^ 31 := Nat.pow_le_pow_right (by omega) h1
    rw [leastN]
    omega
set_option maxRecDepth 100000 in
set_option maxHeartbeats 1000000 in
theorem least_any (t code : Nat) (w : World) (hok : CodeOk t code) :
    Calls Try.prog 102 #[.int .i64 (t : Int), .int .i64 (code : Int)] w fun e w' => e = .returned (.int .i64 (leastN t code : Int)) ∧ Below w.heap.size w w' := by
  have hc53 : code ≤ 53 := by unfold CodeOk at hok; omega
  have HOK : Hid (CodeOk t code) := hok
  have ht : t = 0 ∨ t = 1 ∨ t = 2 := by unfold CodeOk at hok; omega
  clear hok
  rcases ht with rfl | rfl | rfl
  · show Calls _ _ #[.int .i64 0, .int .i64 (code : Int)] _ _
    go_enter Try.func102, Try.ntmps102
    go_wp2_with fail
    go_loopw [5, 6] (fun vv cv wr => ∃ c : Nat, c ≤ code ∧ cv = .int .i64 c ∧ vv = .int .i64 (leastN 0 c : Int) ∧ Below w.heap.size w wr) (fun _ cv _ => (code - intOf cv).toNat)
    case atStart => exact ⟨0, by omega, rfl, rfl, Below.refl _ _⟩
    case round =>
      obtain ⟨c, hc, rfl, rfl, hb⟩ := hrel
      have HB : Hid (Below w.heap.size w wr) := hb
      clear hb
      by_cases hlt : c < code
      · go_wp2_with fail
        refine Calls.mono (show Calls _ _ #[.int .i64 ((0 : Nat) : Int), .int .i64 (c : Int)] _ _ from extra_any 0 c _ (codeOk_less HOK.out hc)) ?_
        rintro e w1 ⟨rfl, hb1⟩
        have HB1 : Hid (Below w.heap.size w w1) := HB.out.trans (hb1.mono HB.out.size)
        have hx := extraN_le 0 c (codeOk_less HOK.out hc)
        have hl := leastN_le 0 c (by omega) (fun d hd => codeOk_less HOK.out (by omega))
        have HE : Hid (leastN 0 (c + 1) = leastN 0 c + 2 ^ extraN 0 c) := rfl
        obtain ⟨E, hE⟩ : ∃ E, E = extraN 0 c := ⟨_, rfl⟩
        obtain ⟨v, hv⟩ : ∃ v, v = leastN 0 c := ⟨_, rfl⟩
        obtain ⟨P, hP⟩ : ∃ P, P = 2 ^ E := ⟨_, rfl⟩
        have hp := pow_int E P hP
        rw [← hE] at hx HE ⊢
        rw [← hv] at hl HE ⊢
        rw [← hP] at HE
        have hPb : P ≤ 2147483648 := by
          have : 2 ^ E ≤ 2 ^ 31 := Nat.pow_le_pow_right (by omega) hx
          omega
        clear hb1 hE hv hP
        go_wp2_with fail
        exact ⟨⟨c + 1, by omega, by go_num, by rw [HE.out]; go_num, HB1.out⟩, by simp [intOf]; omega⟩
      · obtain rfl : c = code := by omega
        go_wp2_with fail
        go_ret
        exact ⟨rfl, HB.out⟩
  · show Calls _ _ #[.int .i64 1, .int .i64 (code : Int)] _ _
    go_enter Try.func102, Try.ntmps102
    go_wp2_with fail
    go_loopw [5, 6] (fun vv cv wr => ∃ c : Nat, c ≤ code ∧ cv = .int .i64 c ∧ vv = .int .i64 (leastN 1 c : Int) ∧ Below w.heap.size w wr) (fun _ cv _ => (code - intOf cv).toNat)
    case atStart => exact ⟨0, by omega, rfl, rfl, Below.refl _ _⟩
    case round =>
      obtain ⟨c, hc, rfl, rfl, hb⟩ := hrel
      have HB : Hid (Below w.heap.size w wr) := hb
      clear hb
      by_cases hlt : c < code
      · go_wp2_with fail
        refine Calls.mono (show Calls _ _ #[.int .i64 ((1 : Nat) : Int), .int .i64 (c : Int)] _ _ from extra_any 1 c _ (codeOk_less HOK.out hc)) ?_
        rintro e w1 ⟨rfl, hb1⟩
        have HB1 : Hid (Below w.heap.size w w1) := HB.out.trans (hb1.mono HB.out.size)
        have hx := extraN_le 1 c (codeOk_less HOK.out hc)
        have hl := leastN_le 1 c (by omega) (fun d hd => codeOk_less HOK.out (by omega))
        have HE : Hid (leastN 1 (c + 1) = leastN 1 c + 2 ^ extraN 1 c) := rfl
        obtain ⟨E, hE⟩ : ∃ E, E = extraN 1 c := ⟨_, rfl⟩
        obtain ⟨v, hv⟩ : ∃ v, v = leastN 1 c := ⟨_, rfl⟩
        obtain ⟨P, hP⟩ : ∃ P, P = 2 ^ E := ⟨_, rfl⟩
        have hp := pow_int E P hP
        rw [← hE] at hx HE ⊢
        rw [← hv] at hl HE ⊢
        rw [← hP] at HE
        have hPb : P ≤ 2147483648 := by
          have : 2 ^ E ≤ 2 ^ 31 := Nat.pow_le_pow_right (by omega) hx
          omega
        clear hb1 hE hv hP
        go_wp2_with fail
        exact ⟨⟨c + 1, by omega, by go_num, by rw [HE.out]; go_num, HB1.out⟩, by simp [intOf]; omega⟩
      · obtain rfl : c = code := by omega
        go_wp2_with fail
        go_ret
        exact ⟨rfl, HB.out⟩
  · show Calls _ _ #[.int .i64 2, .int .i64 (code : Int)] _ _
    go_enter Try.func102, Try.ntmps102
    go_wp2_with fail
    go_loopw [5, 6] (fun vv cv wr => ∃ c : Nat, c ≤ code ∧ cv = .int .i64 c ∧ vv = .int .i64 (leastN 2 c : Int) ∧ Below w.heap.size w wr) (fun _ cv _ => (code - intOf cv).toNat)
    case atStart => exact ⟨0, by omega, rfl, rfl, Below.refl _ _⟩
    case round =>
      obtain ⟨c, hc, rfl, rfl, hb⟩ := hrel
      have HB : Hid (Below w.heap.size w wr) := hb
      clear hb
      by_cases hlt : c < code
      · go_wp2_with fail
        refine Calls.mono (show Calls _ _ #[.int .i64 ((2 : Nat) : Int), .int .i64 (c : Int)] _ _ from extra_any 2 c _ (codeOk_less HOK.out hc)) ?_
        rintro e w1 ⟨rfl, hb1⟩
        have HB1 : Hid (Below w.heap.size w w1) := HB.out.trans (hb1.mono HB.out.size)
        have hx := extraN_le 2 c (codeOk_less HOK.out hc)
        have hl := leastN_le 2 c (by omega) (fun d hd => codeOk_less HOK.out (by omega))
        have HE : Hid (leastN 2 (c + 1) = leastN 2 c + 2 ^ extraN 2 c) := rfl
        obtain ⟨E, hE⟩ : ∃ E, E = extraN 2 c := ⟨_, rfl⟩
        obtain ⟨v, hv⟩ : ∃ v, v = leastN 2 c := ⟨_, rfl⟩
        obtain ⟨P, hP⟩ : ∃ P, P = 2 ^ E := ⟨_, rfl⟩
        have hp := pow_int E P hP
        rw [← hE] at hx HE ⊢
        rw [← hv] at hl HE ⊢
        rw [← hP] at HE
        have hPb : P ≤ 2147483648 := by
          have : 2 ^ E ≤ 2 ^ 31 := Nat.pow_le_pow_right (by omega) hx
          omega
        clear hb1 hE hv hP
        go_wp2_with fail
        exact ⟨⟨c + 1, by omega, by go_num, by rw [HE.out]; go_num, HB1.out⟩, by simp [intOf]; omega⟩
      · obtain rfl : c = code := by omega
        go_wp2_with fail
        go_ret
        exact ⟨rfl, HB.out⟩
/-- one state for ever -/
theorem lone_any (c : Nat) (w : World) :
    Calls Try.prog 81 #[.int .i64 (c : Int)] w fun e w' => ∃ t, e = .returned (.pointer (some ⟨t, 0, none⟩)) ∧ Below w.heap.size w w' ∧ TabAt w' w.heap.size w'.heap.size t 1 0 (fun _ => c) (fun _ => 0) (fun _ => 0) := by
  go_enter Try.func81, Try.ntmps81
  go_wp2_with fail
  go_ret
  refine ⟨_, rfl, ((((Below.refl _ _).alloc (Nat.le_refl _) _).alloc (by simp) _).alloc (by simp <;> omega) _).alloc (by simp <;> omega) _, ⟨⟨w.heap.size, w.heap.size + 1, w.heap.size + 1 + 1, ?_, ?_, ?_, ?_, ⟨fun x hx => ?_, fun x => ?_⟩, ⟨fun x hx => ?_, fun x => ?_⟩, ⟨fun x hx => ?_, fun x => ?_⟩, by omega, by simp <;> omega, by omega, by simp <;> omega, by omega, by simp⟩, by omega, by simp⟩⟩
  · rw [World.cell?_alloc_at _ _ _ _ (by simp)]; rfl
  · rw [World.cell?_alloc_at _ _ _ _ (by simp)]; rfl
  · rw [World.cell?_alloc_at _ _ _ _ (by simp)]; rfl
  · rw [World.cell?_alloc_at _ _ _ _ (by simp)]; rfl
  · obtain rfl : x = 0 := by omega
    rw [World.cell?_alloc_past _ _ _ (by simp <;> omega), World.cell?_alloc_past _ _ _ (by simp <;> omega), World.cell?_alloc_past _ _ _ (by simp <;> omega), World.cell?_alloc_at _ _ _ _ (by simp)]; rfl
  · rw [World.frozen?_alloc_past _ _ _ (by simp <;> omega), World.frozen?_alloc_past _ _ _ (by simp <;> omega), World.frozen?_alloc_past _ _ _ (by simp <;> omega), World.frozen?_alloc_at _ _ _ _ (by simp)]
  · obtain rfl : x = 0 := by omega
    rw [World.cell?_alloc_past _ _ _ (by simp <;> omega), World.cell?_alloc_past _ _ _ (by simp <;> omega), World.cell?_alloc_at _ _ _ _ (by simp)]; rfl
  · rw [World.frozen?_alloc_past _ _ _ (by simp <;> omega), World.frozen?_alloc_past _ _ _ (by simp <;> omega), World.frozen?_alloc_at _ _ _ _ (by simp)]
  · obtain rfl : x = 0 := by omega
    rw [World.cell?_alloc_past _ _ _ (by simp <;> omega), World.cell?_alloc_at _ _ _ _ (by simp)]; rfl
  · rw [World.frozen?_alloc_past _ _ _ (by simp <;> omega), World.frozen?_alloc_at _ _ _ _ (by simp)]
end Go.Proofs.Ytkfilgfcgmohlaa
namespace Go.Proofs.Ytkfilgfcgmohlaa
open Go.RowKit
/-- the greatest code of a table; its greatest accuracy -/
def topN (t : Nat) : Nat := if t = 0 then 35 else if t = 1 then 31 else 52
def accN (t : Nat) : Nat := if t = 1 then 8 else 9
set_option maxHeartbeats 400000 in
theorem top_any (t : Nat) (w : World) (ht : t < 3) :
    Calls Try.prog 78 #[.int .i64 (t : Int)] w fun e w' => e = .returned (.int .i64 (topN t : Int)) ∧ w' = w := by
  rcases (show t = 0 ∨ t = 1 ∨ t = 2 by omega) with rfl | rfl | rfl
  all_goals
    go_enter Try.func78, Try.ntmps78
    go_wp2_with fail
    go_ret
    exact ⟨rfl, rfl⟩
set_option maxHeartbeats 400000 in
theorem acc_any (t : Nat) (w : World) (ht : t < 3) :
    Calls Try.prog 82 #[.int .i64 (t : Int)] w fun e w' => e = .returned (.int .i64 (accN t : Int)) ∧ w' = w := by
  rcases (show t = 0 ∨ t = 1 ∨ t = 2 by omega) with rfl | rfl | rfl
  all_goals
    go_enter Try.func82, Try.ntmps82
    go_wp2_with fail
    go_ret
    exact ⟨rfl, rfl⟩
/-- the window that a byte tells -/
def wideW (b : Nat) : Nat := 1024 * 2 ^ (b / 8) + 1024 * 2 ^ (b / 8) / 8 * (b % 8)
set_option maxRecDepth 100000 in
set_option maxHeartbeats 1000000 in
theorem wideW_any (b : Nat) (w : World) (hb : b < 256) :
    Calls Try.prog 36 #[.int .i64 (b : Int)] w fun e w' => e = .returned (.int .i64 (wideW b : Int)) ∧ w' = w := by
  go_enter Try.func36, Try.ntmps36
  go_wp2_with fail
  go_loop [3, 4] (fun pv iv => ∃ i p : Nat, i ≤ b / 8 ∧ iv = .int .i64 i ∧ pv = .int .i64 p ∧ p = 1024 * 2 ^ i) (fun _ iv => (b - intOf iv).toNat)
  case atStart => exact ⟨0, 1024, by omega, rfl, rfl, rfl⟩
  case round =>
    obtain ⟨i, p, hi, rfl, rfl, hp⟩ := hrel
    have HP : Hid (p = 1024 * 2 ^ i) := hp
    have hp2 : 2 ^ i ≤ 2 ^ 31 := Nat.pow_le_pow_right (by omega) (by omega)
    have hpb : p ≤ 2199023255552 := by omega
    clear hp hp2
    by_cases hlt : i < b / 8
    · go_wp2_with fail
      go_round
      case rel => exact ⟨i + 1, 2 * p, by omega, by go_num, by go_num, by rw [HP.out, Nat.pow_succ]; omega⟩
      case measure => simp [intOf]; omega
    · obtain rfl : i = b / 8 := by omega
      have HE : Hid (wideW b = p + p / 8 * (b % 8)) := by show _ = _; unfold wideW; rw [HP.out]
      obtain ⟨m, hm⟩ : ∃ m, m = b % 8 := ⟨_, rfl⟩
      obtain ⟨q, hq⟩ : ∃ q, q = p / 8 := ⟨_, rfl⟩
      have hm8 : m < 8 := by omega
      have hqb : q ≤ 274877906944 := by omega
      rw [← hm, ← hq] at HE
      have hqm : q * m ≤ 274877906944 * 7 := Nat.mul_le_mul hqb (by omega)
      have hmI : (b : Int) % 8 = (m : Int) := by omega
      have hmT : (b : Int).tmod 8 = (m : Int) := by rw [Int.tmod_eq_emod_of_nonneg (by omega)]; omega
      have hqI : (p : Int) / 8 = (q : Int) := by omega
      have hqmI : (q : Int) * (m : Int) = ((q * m : Nat) : Int) := by norm_cast
      obtain ⟨z, hz⟩ : ∃ z, z = q * m := ⟨_, rfl⟩
      rw [← hz] at hqm hqmI HE
      clear hm hq hz
      go_wp2_with fail
      go_ret
      exact ⟨ret_int (by rw [HE.out]; omega), rfl⟩
set_option maxRecDepth 100000 in
set_option maxHeartbeats 1000000 in
/-- what a state says of a value -/
theorem part_any (t code r g n : Nat) (f : Nat → Nat) (pos : Nat) (w : World) (hok : CodeOk t code) (h : RdAt w r g n f pos) :
    Calls Try.prog 86 #[.pointer (some ⟨r, 0, none⟩), .int .i64 (t : Int), .int .i64 (code : Int)] w fun e w' =>
      e = .returned (.int .i64 ((leastN t code + highN n f pos (extraN t code) : Nat) : Int)) ∧ RdAt w' r g n f (pos + extraN t code) ∧ Upd r w w' := by
  have hx := extraN_le t code hok
  have hl := leastN_le t code (by unfold CodeOk at hok; omega) (fun d hd => codeOk_less hok (by omega))
  have hc53 : code ≤ 53 := by unfold CodeOk at hok; omega
  have HOK : Hid (CodeOk t code) := hok
  have hf := h.two
  have HR : Hid (RdAt w r g n f pos) := h
  clear hok h
  go_enter Try.func86, Try.ntmps86
  go_wp2_with fail
  refine (extra_any t code _ HOK.out).mono ?_
  rintro e w1 ⟨rfl, hb1⟩
  have hR1 := HR.out.below hb1 HR.out.lt HR.out.glt
  have HU1 : Hid (Upd r w w1) := ⟨hb1.os, hb1.tape, hb1.output, hb1.size, fun k hk _ => hb1.block k hk⟩
  clear hb1
  go_wp2_with fail
  refine (rd_high r g n f pos (extraN t code) _ hR1 (by omega)).mono ?_
  rintro e w2 ⟨rfl, hR2, hU2⟩
  have HU2 : Hid (Upd r w w2) := HU1.out.trans hU2
  have hv := highN_lt n f hf pos (extraN t code)
  have hv31 : 2 ^ extraN t code ≤ 2 ^ 31 := Nat.pow_le_pow_right (by omega) hx
  obtain ⟨v, hve⟩ : ∃ v, v = highN n f pos (extraN t code) := ⟨_, rfl⟩
  have HV : Hid (v = highN n f pos (extraN t code)) := hve
  rw [← hve] at hv ⊢
  clear hU2 hR1 hve
  go_wp2_with fail
  refine (least_any t code _ HOK.out).mono ?_
  rintro e w3 ⟨rfl, hb3⟩
  have HR3 : Hid (RdAt w3 r g n f (pos + extraN t code)) := hR2.below hb3 hR2.lt hR2.glt
  have HU3 : Hid (Upd r w w3) := HU2.out.trans ⟨hb3.os, hb3.tape, hb3.output, hb3.size, fun k hk _ => hb3.block k hk⟩
  obtain ⟨l, hle⟩ : ∃ l, l = leastN t code := ⟨_, rfl⟩
  have HLE : Hid (l = leastN t code) := hle
  rw [← hle] at hl ⊢
  have hlb : l ≤ 113816633347 := by omega
  have hvb : v ≤ 2147483648 := by omega
  clear hb3 hR2 hle hl hv hv31
  go_wp2_with fail
  go_ret
  exact ⟨ret_int (by rw [HLE.out, HV.out]; omega), HR3.out, HU3.out⟩
end Go.Proofs.Ytkfilgfcgmohlaa
