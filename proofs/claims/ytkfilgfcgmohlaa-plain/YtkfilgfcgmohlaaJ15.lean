import Derived.Test.YtkfilgfcgmohlaaJ14
import Derived.WalkKit
import Derived.WalkSpells
import Derived.WalkLawsBesides
import Derived.Deep.CutRange
import Derived.Laws.Rows
namespace Go.Proofs.Ytkfilgfcgmohlaa
open Go.RowKit
/-- a head's size and window -/
def hSize (T sz : Nat) : Nat := if sizeW T = 2 then sz + 256 else sz
def hWin (T v sz : Nat) : Nat := if T / 32 % 2 = 1 then hSize T sz else winOf v
theorem fHead : (Try.prog.info? 109).map (·.size) = some 4 := by kernel_rfl
theorem two_heads (w : World) (A : Obj) (B : Obj) : ((w.alloc A).alloc B).heap[w.heap.size]? = some A := by
  exact (Below.heap_alloc _ _ _ (by rw [World.size_alloc]; omega)).trans (heap_alloc_new _ _)
theorem below_two (w : World) (A B : Obj) : Below w.heap.size w ((w.alloc A).alloc B) := ((Below.refl _ _).alloc (Nat.le_refl _) _).alloc (by rw [World.size_alloc]; omega) _
set_option maxRecDepth 100000 in
set_option maxHeartbeats 2000000 in
theorem pMakeHead (T v sz : Nat) (hT : T < 256) (hv : v < 256) (hsz : sz < 18446744073709551616) (hs2 : sizeW T = 2 → sz < 65536) (w : World) :
    Calls Try.prog 74 #[.int .u64 (T : Int), .int .u64 (v : Int), .int .u64 (sz : Int)] w fun x w' => x = .returned (.agg #[.int .u64 (hWin T v sz : Int), .bool (decide (0 < sizeW T)), .int .u64 (hSize T sz : Int), .bool (decide (T / 4 % 2 = 1))]) ∧ Below w.heap.size w w' := by
  have h32 := and32 T hT
  have h4 := and4 T hT
  obtain ⟨sg, hsg⟩ : ∃ sg, sg = decide (T / 32 % 2 = 1) := ⟨_, rfl⟩
  obtain ⟨ck, hck⟩ : ∃ ck, ck = decide (T / 4 % 2 = 1) := ⟨_, rfl⟩
  rw [← hsg] at h32
  rw [← hck] at h4 ⊢
  have HWn : Hid (hWin T v sz = if sg then hSize T sz else winOf v) := by show _ = _; rw [hsg]; unfold hWin; by_cases h : T / 32 % 2 = 1 <;> simp [h]
  clear hsg hck
  have HSW := pSizeW T hT
  have HSWH : Hid (∀ w, Calls Try.prog 73 #[.int .u64 (T : Int)] w fun x w' => x = .returned (.int .i64 (sizeW T : Int)) ∧ w' = w) := HSW
  clear HSW
  obtain ⟨S, hS⟩ : ∃ S, S = sizeW T := ⟨_, rfl⟩
  obtain ⟨Z, hZ⟩ : ∃ Z, Z = hSize T sz := ⟨_, rfl⟩
  have hZ2 : Z = if S = 2 then sz + 256 else sz := by rw [hZ, hS]; rfl
  rw [← hS] at HSWH hs2 ⊢
  rw [← hZ] at HWn ⊢
  clear hS hZ
  obtain ⟨B2, hB2⟩ : ∃ B2 : Bool, ((S : Int) == 2) = B2 := ⟨_, rfl⟩
  have HZ : Hid (Z = if B2 then sz + 256 else sz) := by
    show _ = _
    rw [hZ2, ← hB2]
    by_cases h : S = 2
    · subst h; rfl
    · rw [if_neg h, if_neg (by simp; omega)]
  clear hZ2
  go_enter Try.func74, Try.ntmps74
  go_wp2_with fail
  refine (HSWH.out _).mono ?_
  rintro x w1 ⟨rfl, hw1⟩
  rw [hw1]
  clear hw1
  go_upto_if 12 with fail
  go_cut [2] from 13 to 14 (fun zv wx => zv = .int .u64 (Z : Int) ∧ wx = w.alloc (Obj.cells #[.int .u64 0, .bool false, .int .u64 0, .bool false] 109))
  case first =>
    cases B2 with
    | true =>
      have h2 : S = 2 := by have := beq_iff_eq.1 hB2; omega
      have hb := hs2 h2
      have hw : IntKind.u64.wrap ((sz : Int) + 256) = (Z : Int) := by rw [HZ.out, if_pos rfl, show (sz : Int) + 256 = ((sz + 256 : Nat) : Int) by omega]; exact IntWalk.u64_in _ (by omega)
      clear h2
      go_wp2_with fail
      go_meet
      exact ⟨rfl, rfl⟩
    | false =>
      go_wp2_with fail
      go_meet
      exact ⟨by rw [HZ.out]; rfl, rfl⟩
  case rest =>
    obtain ⟨rfl, hwc⟩ := hcut
    rw [hwc]
    clear hB2 hwc
    cases sg with
    | true =>
      go_wp2_with fail
      refine bodyPost_ret (results_cell_row rfl _ _ w.heap.size 109 #[.int .u64 (Z : Int), .bool (decide (0 < S)), .int .u64 (Z : Int), .bool ck] (0, 0) _ rfl (two_heads _ _ _) Try.underlying109 rfl fHead) rfl ⟨?_, below_two _ _ _⟩
      rw [HWn.out]
      rfl
    | false =>
      go_wp2_with fail
      refine (pWinOf v hv _).mono ?_
      rintro x w2 ⟨rfl, hw2⟩
      rw [hw2]
      clear hw2
      go_wp2_with fail
      refine bodyPost_ret (results_cell_row rfl _ _ w.heap.size 109 #[.int .u64 (winOf v : Int), .bool (decide (0 < S)), .int .u64 (Z : Int), .bool ck] (0, 0) _ rfl (two_heads _ _ _) Try.underlying109 rfl fHead) rfl ⟨?_, below_two _ _ _⟩
      rw [HWn.out]
      rfl
end Go.Proofs.Ytkfilgfcgmohlaa
namespace Go.Proofs.Ytkfilgfcgmohlaa
open Go.RowKit
/-- r is what stands behind the first k bytes of s -/
structure RestAt (s : ByteArray) (k : Nat) (r : ByteArray) : Prop where
  le : k ≤ s.size
  size : r.size = s.size - k
  byte : ∀ i, i < r.size → gOf r i = gOf s (k + i)
theorem RestAt.start (s : ByteArray) : RestAt s 0 s := ⟨Nat.zero_le _, by omega, fun i _ => by rw [Nat.zero_add]⟩
theorem RestAt.next {s r : ByteArray} {k n : Nat} (h : RestAt s k r) (hn : n ≤ r.size) : RestAt s (k + n) (r.extract n r.size) := by
  have hs := h.size
  have hl := h.le
  have hz : (r.extract n r.size).size = r.size - n := by rw [ByteArray.size_extract]; omega
  refine ⟨by omega, by omega, fun i hi => ?_⟩
  rw [hz] at hi
  rw [gOf_extract r n r.size i (by omega) (Nat.le_refl _), h.byte (n + i) (by omega), Nat.add_assoc]
theorem numN_same (g f : Nat → Nat) : ∀ n p q, (∀ i, i < n → g (p + i) = f (q + i)) → numN g p n = numN f q n
  | 0, _, _, _ => rfl
  | n + 1, p, q, h => by
    simp only [numN]
    rw [show g p = f q from h 0 (by omega), numN_same g f n (p + 1) (q + 1) (fun i hi => by have := h (i + 1) (by omega); rw [show p + 1 + i = p + (i + 1) by omega, show q + 1 + i = q + (i + 1) by omega]; exact this)]
theorem RestAt.num {s r : ByteArray} {k n : Nat} (h : RestAt s k r) (hn : n ≤ r.size) : numN (gOf r) 0 n = numN (gOf s) k n :=
  numN_same _ _ n 0 k (fun i hi => by rw [Nat.zero_add]; exact h.byte i (by omega))
theorem numR_no (d : Nat) (s r : ByteArray) (k n : Nat) (w : World) (h : RestAt s k r) (hc : w.cell? ⟨d, 0, none⟩ = some (.string r)) (hn : s.size < k + n) :
    Calls Try.prog 48 #[.pointer (some ⟨d, 0, none⟩), .int .i64 (n : Int)] w fun x w' => x = .returned (.tuple #[.int .u64 0, .bool false]) ∧ w' = w :=
  pnum_no d r n w hc (.inr (by have := h.size; have := h.le; omega))
theorem numR_ok (d : Nat) (s r : ByteArray) (k n : Nat) (w : World) (h : RestAt s k r) (hc : w.cell? ⟨d, 0, none⟩ = some (.string r)) (hz : w.frozen? ⟨d, 0, none⟩ = false) (hn : k + n ≤ s.size) (h8 : n ≤ 8) :
    Calls Try.prog 48 #[.pointer (some ⟨d, 0, none⟩), .int .i64 (n : Int)] w fun x w' => x = .returned (.tuple #[.int .u64 ((numN (gOf s) k n : Nat) : Int), .bool true]) ∧ ∃ r', w' = w.setCell ⟨d, 0, none⟩ (.string r') ∧ RestAt s (k + n) r' := by
  have hl : n ≤ r.size := by have := h.size; omega
  refine (pnum_ok d r n w hc hz hl h8).mono ?_
  rintro x w' ⟨rfl, hw⟩
  exact ⟨by rw [h.num hl], _, hw, h.next hl⟩
theorem takeR_no (d : Nat) (s r : ByteArray) (k : Nat) (n : Nat) (w : World) (h : RestAt s k r) (hc : w.cell? ⟨d, 0, none⟩ = some (.string r)) (hn : s.size < k + n) :
    Calls Try.prog 61 #[.pointer (some ⟨d, 0, none⟩), .int .i64 (n : Int)] w fun x w' => x = .returned (.tuple #[.string ⟨#[]⟩, .bool false]) ∧ w' = w :=
  ptake_no d r n w hc (.inr (by have := h.size; have := h.le; omega))
theorem takeR_ok (d : Nat) (s r : ByteArray) (k n : Nat) (w : World) (h : RestAt s k r) (hc : w.cell? ⟨d, 0, none⟩ = some (.string r)) (hz : w.frozen? ⟨d, 0, none⟩ = false) (hn : k + n ≤ s.size) :
    Calls Try.prog 61 #[.pointer (some ⟨d, 0, none⟩), .int .i64 (n : Int)] w fun x w' => ∃ part r', x = .returned (.tuple #[.string part, .bool true]) ∧ part.size = n ∧ (∀ i, i < n → gOf part i = gOf s (k + i)) ∧ w' = w.setCell ⟨d, 0, none⟩ (.string r') ∧ RestAt s (k + n) r' := by
  have hl : n ≤ r.size := by have := h.size; omega
  refine (ptake_ok d r n w hc hz hl).mono ?_
  rintro x w' ⟨rfl, hw⟩
  refine ⟨_, _, rfl, by rw [ByteArray.size_extract]; omega, fun i hi => ?_, hw, h.next hl⟩
  rw [gOf_extract r 0 n i (by omega) hl, Nat.zero_add, h.byte i (by omega)]
/-- a frame's head, from place p on: where its fields stand -/
def hdV (s : ByteArray) (p : Nat) : Nat := numN (gOf s) (p + 1) (winW (gOf s p))
def hdD (s : ByteArray) (p : Nat) : Nat := numN (gOf s) (p + 1 + winW (gOf s p)) (dictW (gOf s p))
def hdZ (s : ByteArray) (p : Nat) : Nat := numN (gOf s) (p + 1 + winW (gOf s p) + dictW (gOf s p)) (sizeW (gOf s p))
def hdEnd (s : ByteArray) (p : Nat) : Nat := p + 1 + winW (gOf s p) + dictW (gOf s p) + sizeW (gOf s p)
/-- its error -/
def hdE (s : ByteArray) (p : Nat) : Int :=
  if s.size < p + 1 then 2
  else if gOf s p / 8 % 2 = 1 then 4
  else if s.size < hdEnd s p then 2
  else if hdD s p ≠ 0 then 5
  else if 134217728 < hWin (gOf s p) (hdV s p) (hdZ s p) then 6
  else 0
theorem winW_le (T : Nat) : winW T ≤ 1 := by unfold winW; split <;> omega
theorem dictW_le (T : Nat) : dictW T ≤ 4 := by
  unfold dictW
  rcases (show T % 4 = 0 ∨ T % 4 = 1 ∨ T % 4 = 2 ∨ T % 4 = 3 by omega) with h | h | h | h <;> rw [h] <;> decide
theorem sizeW_le (T : Nat) (hT : T < 256) : sizeW T ≤ 8 := by
  unfold sizeW
  rcases (show T / 64 = 0 ∨ T / 64 = 1 ∨ T / 64 = 2 ∨ T / 64 = 3 by omega) with h | h | h | h <;> rw [h]
  · rw [if_pos rfl]; split <;> omega
  · rw [if_neg (by omega)]; decide
  · rw [if_neg (by omega)]; decide
  · rw [if_neg (by omega)]; decide
end Go.Proofs.Ytkfilgfcgmohlaa
