import Derived.Test.YtkfilgfcgmohlaaJ15
import Derived.WalkKit
import Derived.WalkSpells
import Derived.WalkLawsBesides
import Derived.Deep.CutRange
import Derived.Laws.Rows
import Derived.Laws.ResultCell
namespace Go.Proofs.Ytkfilgfcgmohlaa
open Go.RowKit
/-- a head's size and window -/
def hSize (T sz : Nat) : Nat := if sizeW T = 2 then sz + 256 else sz
def hWin (T v sz : Nat) : Nat := if T / 32 % 2 = 1 then hSize T sz else winOf v
theorem fHead : (Try.prog.info? 109).map (·.size) = some 4 := by kernel_rfl
theorem two_heads (w : World) (A : Obj) (B : Obj) : ((w.alloc A).alloc B).heap[w.heap.size]? = some A := by
  exact (Below.heap_alloc _ _ _ (by rw [World.size_alloc]; omega)).trans (heap_alloc_new _ _)
theorem below_two (w : World) (A B : Obj) : Below w.heap.size w ((w.alloc A).alloc B) := ((Below.refl _ _).alloc (Nat.le_refl _) _).alloc (by rw [World.size_alloc]; omega) _
set_option maxRecDepth 100000 in
set_option maxHeartbeats 2000000 in
theorem pMakeHead (T v sz : Nat) (hT : T < 256) (hv : v < 256) (hsz : sz < 18446744073709551616) (hs2 : sizeW T = 2 → sz < 65536) (w : World) :
    Calls Try.prog 74 #[.int .u64 (T : Int), .int .u64 (v : Int), .int .u64 (sz : Int)] w fun x w' => x = .returned (.agg #[.int .u64 (hWin T v sz : Int), .bool (decide (0 < sizeW T)), .int .u64 (hSize T sz : Int), .bool (decide (T / 4 % 2 = 1))]) ∧ Below w.heap.size w w' := by
  have h32 := and32 T hT
  have h4 := and4 T hT
  obtain ⟨sg, hsg⟩ : ∃ sg, sg = decide (T / 32 % 2 = 1) := ⟨_, rfl⟩
  obtain ⟨ck, hck⟩ : ∃ ck, ck = decide (T / 4 % 2 = 1) := ⟨_, rfl⟩
  rw [← hsg] at h32
  rw [← hck] at h4 ⊢
  have HWn : Hid (hWin T v sz = if sg then hSize T sz else winOf v) := by show _ = _; rw [hsg]; unfold hWin; by_cases h : T / 32 % 2 = 1 <;> simp [h]
  clear hsg hck
  have HSW := pSizeW T hT
  have HSWH : Hid (∀ w, Calls Try.prog 73 #[.int .u64 (T : Int)] w fun x w' => x = .returned (.int .i64 (sizeW T : Int)) ∧ w' = w) := HSW
  clear HSW
  obtain ⟨S, hS⟩ : ∃ S, S = sizeW T := ⟨_, rfl⟩
  obtain ⟨Z, hZ⟩ : ∃ Z, Z = hSize T sz := ⟨_, rfl⟩
  have hZ2 : Z = if S = 2 then sz + 256 else sz := by rw [hZ, hS]; rfl
  rw [← hS] at HSWH hs2 ⊢
  rw [← hZ] at HWn ⊢
  clear hS hZ
  obtain ⟨B2, hB2⟩ : ∃ B2 : Bool, ((S : Int) == 2) = B2 := ⟨_, rfl⟩
  have HZ : Hid (Z = if B2 then sz + 256 else sz) := by
    show _ = _
    rw [hZ2, ← hB2]
    by_cases h : S = 2
    · subst h; rfl
    · rw [if_neg h, if_neg (by simp; omega)]
  clear hZ2
  go_enter Try.func74, Try.ntmps74
  go_wp2_with fail
  refine (HSWH.out _).mono ?_
  rintro x w1 ⟨rfl, hw1⟩
  rw [hw1]
  clear hw1
  go_upto_if 12 with fail
  go_cut [2] from 13 to 14 (fun zv wx => zv = .int .u64 (Z : Int) ∧ wx = w.alloc (Obj.cells #[.int .u64 0, .bool false, .int .u64 0, .bool false] 109))
  case first =>
    cases B2 with
    | true =>
      have h2 : S = 2 := by have := beq_iff_eq.1 hB2; omega
      have hb := hs2 h2
      have hw : IntKind.u64.wrap ((sz : Int) + 256) = (Z : Int) := by rw [HZ.out, if_pos rfl, show (sz : Int) + 256 = ((sz + 256 : Nat) : Int) by omega]; exact IntWalk.u64_in _ (by omega)
      clear h2
      go_wp2_with fail
      go_meet
      exact ⟨rfl, rfl⟩
    | false =>
      go_wp2_with fail
      go_meet
      exact ⟨by rw [HZ.out]; rfl, rfl⟩
  case rest =>
    obtain ⟨rfl, hwc⟩ := hcut
    rw [hwc]
    clear hB2 hwc
    cases sg with
    | true =>
      go_wp2_with fail
      refine bodyPost_ret (results_cell_row rfl _ _ w.heap.size 109 #[.int .u64 (Z : Int), .bool (decide (0 < S)), .int .u64 (Z : Int), .bool ck] (0, 0) _ rfl (two_heads _ _ _) Try.underlying109 rfl fHead) rfl ⟨?_, below_two _ _ _⟩
      rw [HWn.out]
      rfl
    | false =>
      go_wp2_with fail
      refine (pWinOf v hv _).mono ?_
      rintro x w2 ⟨rfl, hw2⟩
      rw [hw2]
      clear hw2
      go_wp2_with fail
      refine bodyPost_ret (results_cell_row rfl _ _ w.heap.size 109 #[.int .u64 (winOf v : Int), .bool (decide (0 < S)), .int .u64 (Z : Int), .bool ck] (0, 0) _ rfl (two_heads _ _ _) Try.underlying109 rfl fHead) rfl ⟨?_, below_two _ _ _⟩
      rw [HWn.out]
      rfl
end Go.Proofs.Ytkfilgfcgmohlaa
namespace Go.Proofs.Ytkfilgfcgmohlaa
open Go.RowKit
/-- r is what stands behind the first k bytes of s -/
structure RestAt (s : ByteArray) (k : Nat) (r : ByteArray) : Prop where
  le : k ≤ s.size
  size : r.size = s.size - k
  byte : ∀ i, i < r.size → gOf r i = gOf s (k + i)
theorem RestAt.start (s : ByteArray) : RestAt s 0 s := ⟨Nat.zero_le _, by omega, fun i _ => by rw [Nat.zero_add]⟩
theorem RestAt.next {s r : ByteArray} {k n : Nat} (h : RestAt s k r) (hn : n ≤ r.size) : RestAt s (k + n) (r.extract n r.size) := by
  have hs := h.size
  have hl := h.le
  have hz : (r.extract n r.size).size = r.size - n := by rw [ByteArray.size_extract]; omega
  refine ⟨by omega, by omega, fun i hi => ?_⟩
  rw [hz] at hi
  rw [gOf_extract r n r.size i (by omega) (Nat.le_refl _), h.byte (n + i) (by omega), Nat.add_assoc]
theorem numN_same (g f : Nat → Nat) : ∀ n p q, (∀ i, i < n → g (p + i) = f (q + i)) → numN g p n = numN f q n
  | 0, _, _, _ => rfl
  | n + 1, p, q, h => by
    simp only [numN]
    rw [show g p = f q from h 0 (by omega), numN_same g f n (p + 1) (q + 1) (fun i hi => by have := h (i + 1) (by omega); rw [show p + 1 + i = p + (i + 1) by omega, show q + 1 + i = q + (i + 1) by omega]; exact this)]
theorem RestAt.num {s r : ByteArray} {k n : Nat} (h : RestAt s k r) (hn : n ≤ r.size) : numN (gOf r) 0 n = numN (gOf s) k n :=
  numN_same _ _ n 0 k (fun i hi => by rw [Nat.zero_add]; exact h.byte i (by omega))
theorem numR_no (d : Nat) (s r : ByteArray) (k n : Nat) (w : World) (h : RestAt s k r) (hc : w.cell? ⟨d, 0, none⟩ = some (.string r)) (hn : s.size < k + n) :
    Calls Try.prog 48 #[.pointer (some ⟨d, 0, none⟩), .int .i64 (n : Int)] w fun x w' => x = .returned (.tuple #[.int .u64 0, .bool false]) ∧ w' = w :=
  pnum_no d r n w hc (.inr (by have := h.size; have := h.le; omega))
theorem numR_ok (d : Nat) (s r : ByteArray) (k n : Nat) (w : World) (h : RestAt s k r) (hc : w.cell? ⟨d, 0, none⟩ = some (.string r)) (hz : w.frozen? ⟨d, 0, none⟩ = false) (hn : k + n ≤ s.size) (h8 : n ≤ 8) :
    Calls Try.prog 48 #[.pointer (some ⟨d, 0, none⟩), .int .i64 (n : Int)] w fun x w' => x = .returned (.tuple #[.int .u64 ((numN (gOf s) k n : Nat) : Int), .bool true]) ∧ ∃ r', w' = w.setCell ⟨d, 0, none⟩ (.string r') ∧ RestAt s (k + n) r' := by
  have hl : n ≤ r.size := by have := h.size; omega
  refine (pnum_ok d r n w hc hz hl h8).mono ?_
  rintro x w' ⟨rfl, hw⟩
  exact ⟨by rw [h.num hl], _, hw, h.next hl⟩
theorem takeR_no (d : Nat) (s r : ByteArray) (k : Nat) (n : Nat) (w : World) (h : RestAt s k r) (hc : w.cell? ⟨d, 0, none⟩ = some (.string r)) (hn : s.size < k + n) :
    Calls Try.prog 61 #[.pointer (some ⟨d, 0, none⟩), .int .i64 (n : Int)] w fun x w' => x = .returned (.tuple #[.string ⟨#[]⟩, .bool false]) ∧ w' = w :=
  ptake_no d r n w hc (.inr (by have := h.size; have := h.le; omega))
theorem takeR_ok (d : Nat) (s r : ByteArray) (k n : Nat) (w : World) (h : RestAt s k r) (hc : w.cell? ⟨d, 0, none⟩ = some (.string r)) (hz : w.frozen? ⟨d, 0, none⟩ = false) (hn : k + n ≤ s.size) :
    Calls Try.prog 61 #[.pointer (some ⟨d, 0, none⟩), .int .i64 (n : Int)] w fun x w' => ∃ part r', x = .returned (.tuple #[.string part, .bool true]) ∧ part.size = n ∧ (∀ i, i < n → gOf part i = gOf s (k + i)) ∧ w' = w.setCell ⟨d, 0, none⟩ (.string r') ∧ RestAt s (k + n) r' := by
  have hl : n ≤ r.size := by have := h.size; omega
  refine (ptake_ok d r n w hc hz hl).mono ?_
  rintro x w' ⟨rfl, hw⟩
  refine ⟨_, _, rfl, by rw [ByteArray.size_extract]; omega, fun i hi => ?_, hw, h.next hl⟩
  rw [gOf_extract r 0 n i (by omega) hl, Nat.zero_add, h.byte i (by omega)]
/-- a frame's head, from place p on: where its fields stand -/
def hdV (s : ByteArray) (p : Nat) : Nat := numN (gOf s) (p + 1) (winW (gOf s p))
def hdD (s : ByteArray) (p : Nat) : Nat := numN (gOf s) (p + 1 + winW (gOf s p)) (dictW (gOf s p))
def hdZ (s : ByteArray) (p : Nat) : Nat := numN (gOf s) (p + 1 + winW (gOf s p) + dictW (gOf s p)) (sizeW (gOf s p))
def hdEnd (s : ByteArray) (p : Nat) : Nat := p + 1 + winW (gOf s p) + dictW (gOf s p) + sizeW (gOf s p)
/-- its error -/
def hdE (s : ByteArray) (p : Nat) : Int :=
  if s.size < p + 1 then 2
  else if gOf s p / 8 % 2 = 1 then 4
  else if s.size < hdEnd s p then 2
  else if hdD s p ≠ 0 then 5
  else if 134217728 < hWin (gOf s p) (hdV s p) (hdZ s p) then 6
  else 0
theorem winW_le (T : Nat) : winW T ≤ 1 := by unfold winW; split <;> omega
theorem dictW_le (T : Nat) : dictW T ≤ 4 := by
  unfold dictW
  rcases (show T % 4 = 0 ∨ T % 4 = 1 ∨ T % 4 = 2 ∨ T % 4 = 3 by omega) with h | h | h | h <;> rw [h] <;> decide
theorem sizeW_le (T : Nat) (hT : T < 256) : sizeW T ≤ 8 := by
  unfold sizeW
  rcases (show T / 64 = 0 ∨ T / 64 = 1 ∨ T / 64 = 2 ∨ T / 64 = 3 by omega) with h | h | h | h <;> rw [h]
  · rw [if_pos rfl]; split <;> omega
  · rw [if_neg (by omega)]; decide
  · rw [if_neg (by omega)]; decide
  · rw [if_neg (by omega)]; decide
end Go.Proofs.Ytkfilgfcgmohlaa
namespace Go.Proofs.Ytkfilgfcgmohlaa
open Go.RowKit
theorem results_head {fn : Func} {p u : Tmp} (h : fn.results = #[.cell p 109, .tmp u]) (tmps : Array Value) (w : World) (g : Nat) (cs : Array Value)
    (hp : tmps.getD p undef = .pointer (some ⟨g, 0, none⟩)) (hg : w.heap[g]? = some (.cells cs 109 (0, 0))) (hi : cs.size = 4) :
    (results fn tmps).run Try.prog w = .ok (.tuple #[.agg cs, tmps.getD u undef]) w := by
  have hl := run_loadVar_row (P := Try.prog) w g 109 109 cs (0, 0) _ hg Try.underlying109 rfl (by rw [hi]; exact fHead)
  rw [results_cell_tmp h, hp]
  simp [asAddr, hl, Result.andThen]
theorem set_twice (w : World) (p : Addr) (a b : Value) : (w.setCell p a).setCell p b = w.setCell p b := by
  simp only [World.setCell]
  congr 1
  apply Array.ext_getElem?
  intro i
  simp only [Array.getElem?_modify]
  by_cases hi : p.block = i
  · simp only [hi, if_true]
    cases w.heap[i]? with
    | none => rfl
    | some o =>
      cases o with
      | cells c e f => by_cases hs : p.spot.isSome = true <;> simp [hs]
      | _ => rfl
  · simp only [hi, if_false]
theorem canon (w : World) (d : Nat) (a b : Value) (o : Obj) (hd : d < w.heap.size) : ((w.setCell ⟨d, 0, none⟩ a).alloc o).setCell ⟨d, 0, none⟩ b = (w.setCell ⟨d, 0, none⟩ b).alloc o := by
  rw [World.setCell_alloc_past o d 0 b (by rw [World.size_setCell]; exact hd), set_twice]
theorem set_row {W : World} {g : Nat} {cs : Array Value} {t : TypeId} {fr : Nat × Nat} (h : W.heap[g]? = some (.cells cs t fr)) (i : Nat) (v : Value) : (W.setCell ⟨g, i, none⟩ v).heap[g]? = some (.cells (cs.setIfInBounds i v) t fr) := by
  simp [World.setCell, Array.getElem?_modify, h]
/-- a head is laid into the block of results -/
def put4 (W : World) (g : Nat) (b0 b1 b2 b3 : Value) (o : Obj) : World := ((((W.setCell ⟨g, 0, none⟩ b0).setCell ⟨g, 1, none⟩ b1).setCell ⟨g, 2, none⟩ b2).setCell ⟨g, 3, none⟩ b3).alloc o
theorem put4_row {W : World} {g : Nat} {a0 a1 a2 a3 b0 b1 b2 b3 : Value} {t : TypeId} {o : Obj} (h : W.heap[g]? = some (.cells #[a0, a1, a2, a3] t (0, 0))) (hg : g < W.heap.size) : (put4 W g b0 b1 b2 b3 o).heap[g]? = some (.cells #[b0, b1, b2, b3] t (0, 0)) := by
  unfold put4
  rw [Below.heap_alloc _ _ _ (by rw [World.size_setCell, World.size_setCell, World.size_setCell, World.size_setCell]; exact hg)]
  rw [set_row (set_row (set_row (set_row h 0 b0) 1 b1) 2 b2) 3 b3]
  rfl
theorem put4_old {W : World} {g k : Nat} {b0 b1 b2 b3 : Value} {o : Obj} (hk : k < W.heap.size) (hg : k ≠ g) : (put4 W g b0 b1 b2 b3 o).heap[k]? = W.heap[k]? := by
  unfold put4
  rw [Below.heap_alloc _ _ _ (by rw [World.size_setCell, World.size_setCell, World.size_setCell, World.size_setCell]; exact hk)]
  rw [Below.heap_setCell _ _ _ _ hg, Below.heap_setCell _ _ _ _ hg, Below.heap_setCell _ _ _ _ hg, Below.heap_setCell _ _ _ _ hg]
theorem put4_upd {w W : World} {d : Nat} {b0 b1 b2 b3 : Value} {o : Obj} (h : Upd d w W) : Upd d w (put4 W w.heap.size b0 b1 b2 b3 o) := by
  refine ⟨h.os, h.tape, h.output, ?_, fun k h1 h2 => (put4_old (Nat.lt_of_lt_of_le h1 h.size) (by omega)).trans (h.block k h1 h2)⟩
  unfold put4
  rw [World.size_alloc, World.size_setCell, World.size_setCell, World.size_setCell, World.size_setCell]
  exact Nat.le_trans h.size (Nat.le_succ _)
def zHead : Value := .agg #[.int .u64 0, .bool false, .int .u64 0, .bool false]
def hdAgg (s : ByteArray) (p : Nat) : Value := .agg #[.int .u64 (hWin (gOf s p) (hdV s p) (hdZ s p) : Int), .bool (decide (0 < sizeW (gOf s p))), .int .u64 (hSize (gOf s p) (hdZ s p) : Int), .bool (decide (gOf s p / 4 % 2 = 1))]
/-- what readHead answers -/
def HeadP (d : Nat) (s : ByteArray) (p : Nat) (w : World) (x : Ending) (w' : World) : Prop :=
  Upd d w w' ∧ (hdE s p ≠ 0 → x = .returned (.tuple #[zHead, .int .i64 (hdE s p)])) ∧ (hdE s p = 0 → x = .returned (.tuple #[hdAgg s p, .int .i64 0]) ∧ ∃ r, w'.heap[d]? = (w.setCell ⟨d, 0, none⟩ (.string r)).heap[d]? ∧ RestAt s (hdEnd s p) r)
set_option maxRecDepth 100000 in
set_option maxHeartbeats 2000000 in
theorem pReadHead (d p : Nat) (s r : ByteArray) (w : World) (hr : RestAt s p r) (hc : w.cell? ⟨d, 0, none⟩ = some (.string r)) (hz : w.frozen? ⟨d, 0, none⟩ = false) :
    Calls Try.prog 62 #[.pointer (some ⟨d, 0, none⟩)] w fun x w' => HeadP d s p w x w' := by
  have hdl : d < w.heap.size := block_lt_of_cell hc
  have HR : Hid (RestAt s p r) := hr
  clear hr
  have cA : (w.alloc (Obj.cells #[.int .u64 0, .bool false, .int .u64 0, .bool false] 109)).cell? ⟨d, 0, none⟩ = some (.string r) := by
    rw [World.cell?_of_block (w := w) (a := ⟨d, 0, none⟩) (Below.heap_alloc _ _ _ hdl)]; exact hc
  have zA : (w.alloc (Obj.cells #[.int .u64 0, .bool false, .int .u64 0, .bool false] 109)).frozen? ⟨d, 0, none⟩ = false := by
    rw [World.frozen?_of_block (w := w) (a := ⟨d, 0, none⟩) (Below.heap_alloc _ _ _ hdl)]; exact hz
  obtain ⟨H, hH⟩ : ∃ H, H = Obj.cells #[.int .u64 0, .bool false, .int .u64 0, .bool false] 109 := ⟨_, rfl⟩
  have HB : Hid (∀ q, ((w.setCell ⟨d, 0, none⟩ (.string q)).alloc H).cell? ⟨d, 0, none⟩ = some (.string q) ∧ ((w.setCell ⟨d, 0, none⟩ (.string q)).alloc H).frozen? ⟨d, 0, none⟩ = false ∧ ((w.setCell ⟨d, 0, none⟩ (.string q)).alloc H).heap[w.heap.size]? = some H ∧ Upd d w ((w.setCell ⟨d, 0, none⟩ (.string q)).alloc H)) := by
    intro q
    have hl : d < (w.setCell ⟨d, 0, none⟩ (.string q)).heap.size := by rw [World.size_setCell]; exact hdl
    refine ⟨?_, ?_, ?_, ((Upd.refl d w).setCell 0 _).alloc _⟩
    · rw [World.cell?_of_block (w := w.setCell ⟨d, 0, none⟩ (.string q)) (a := ⟨d, 0, none⟩) (Below.heap_alloc _ _ _ hl)]; exact cs_same hc
    · rw [World.frozen?_of_block (w := w.setCell ⟨d, 0, none⟩ (.string q)) (a := ⟨d, 0, none⟩) (Below.heap_alloc _ _ _ hl), World.frozen?_setCell]; exact hz
    · have := heap_alloc_new (w.setCell ⟨d, 0, none⟩ (.string q)) H
      rwa [World.size_setCell] at this
  rw [hH] at HB
  clear hH
  by_cases h1 : s.size < p + 1
  · have HE : Hid (hdE s p = 2) := by show _ = _; unfold hdE; rw [if_pos h1]
    go_enter Try.func62, Try.ntmps62
    go_wp2_with fail
    refine (show Calls _ _ #[.pointer (some ⟨d, 0, none⟩), .int .i64 ((1 : Nat) : Int)] _ _ from numR_no d s r p 1 _ HR.out cA h1).mono ?_
    rintro x w1 ⟨rfl, hw1⟩
    rw [hw1]
    go_wp2_with fail
    refine bodyPost_ret (results_head rfl _ _ w.heap.size #[.int .u64 0, .bool false, .int .u64 0, .bool false] rfl (heap_alloc_new _ _) rfl) rfl ⟨(Upd.refl d w).alloc _, fun _ => by rw [HE.out]; rfl, fun h => by rw [HE.out] at h; cases h⟩
  · obtain ⟨T, hT⟩ : ∃ T, T = gOf s p := ⟨_, rfl⟩
    have hT8 : T < 256 := by rw [hT]; exact gOf_lt s p
    have hn1 : numN (gOf s) p 1 = T := by rw [hT]; simp [numN]
    have HT : Hid (T = gOf s p) := hT
    clear hT
    have h8 := and8 T hT8
    go_enter Try.func62, Try.ntmps62
    go_wp2_with fail
    refine (show Calls _ _ #[.pointer (some ⟨d, 0, none⟩), .int .i64 ((1 : Nat) : Int)] _ _ from numR_ok d s r p 1 _ HR.out cA zA (by omega) (by omega)).mono ?_
    rintro x w1 ⟨rfl, r1, hw1, hr1⟩
    rw [hn1, hw1]
    by_cases h4 : T / 8 % 2 = 1
    · rw [decide_eq_true h4] at h8
      have HE : Hid (hdE s p = 4) := by show _ = _; unfold hdE; rw [if_neg h1, ← HT.out, if_pos h4]
      clear hn1 hw1
      go_wp2_with fail
      exact bodyPost_ret (results_head rfl _ _ w.heap.size #[.int .u64 0, .bool false, .int .u64 0, .bool false] rfl (HB.out r1).2.2.1 rfl) rfl ⟨(HB.out r1).2.2.2, fun _ => by rw [HE.out]; rfl, fun h => by rw [HE.out] at h; cases h⟩
    · rw [decide_eq_false h4] at h8
      clear hn1 hw1
      have HP : Hid (∀ e, (s.size < p + 1 + winW T + dictW T + sizeW T → e = 2) → (¬ s.size < p + 1 + winW T + dictW T + sizeW T → e = if hdD s p ≠ 0 then 5 else if 134217728 < hWin T (hdV s p) (hdZ s p) then 6 else 0) → hdE s p = e) := by
        intro e h2 h3
        unfold hdE hdEnd
        rw [if_neg h1, ← HT.out, if_neg h4]
        by_cases hh : s.size < p + 1 + winW T + dictW T + sizeW T
        · rw [if_pos hh, h2 hh]
        · rw [if_neg hh, h3 hh]
      have HDV : Hid (hdV s p = numN (gOf s) (p + 1) (winW T) ∧ hdD s p = numN (gOf s) (p + 1 + winW T) (dictW T) ∧ hdZ s p = numN (gOf s) (p + 1 + winW T + dictW T) (sizeW T) ∧ hdEnd s p = p + 1 + winW T + dictW T + sizeW T) := by
        unfold hdV hdD hdZ hdEnd
        rw [← HT.out]
        exact ⟨rfl, rfl, rfl, rfl⟩
      have HW1 : Hid (∀ w, Calls Try.prog 71 #[.int .u64 (T : Int)] w fun x w' => x = .returned (.int .i64 (winW T : Int)) ∧ w' = w) := pWinW T hT8
      have HW2 : Hid (∀ w, Calls Try.prog 72 #[.int .u64 (T : Int)] w fun x w' => x = .returned (.int .i64 (dictW T : Int)) ∧ w' = w) := pDictW T hT8
      have HW3 : Hid (∀ w, Calls Try.prog 73 #[.int .u64 (T : Int)] w fun x w' => x = .returned (.int .i64 (sizeW T : Int)) ∧ w' = w) := pSizeW T hT8
      have hwl := winW_le T
      have hdl' := dictW_le T
      have hsl := sizeW_le T hT8
      have HMH : Hid (∀ v sz : Nat, v < 256 → sz < 18446744073709551616 → (sizeW T = 2 → sz < 65536) → ∀ w, Calls Try.prog 74 #[.int .u64 (T : Int), .int .u64 (v : Int), .int .u64 (sz : Int)] w fun x w' => x = .returned (.agg #[.int .u64 (hWin T v sz : Int), .bool (decide (0 < sizeW T)), .int .u64 (hSize T sz : Int), .bool (decide (T / 4 % 2 = 1))]) ∧ Below w.heap.size w w') := fun v sz a1 a2 a3 w => pMakeHead T v sz hT8 a1 a2 a3 w
      obtain ⟨a1, ha1⟩ : ∃ a1, a1 = winW T := ⟨_, rfl⟩
      obtain ⟨a2, ha2⟩ : ∃ a2, a2 = dictW T := ⟨_, rfl⟩
      obtain ⟨a3, ha3⟩ : ∃ a3, a3 = sizeW T := ⟨_, rfl⟩
      have HA3 : Hid (a3 = sizeW T) := ha3
      rw [← ha1] at HP HDV HW1 hwl
      rw [← ha2] at HP HDV HW2 hdl'
      rw [← ha3] at HP HDV HW3 hsl HMH
      clear ha1 ha2 ha3
      go_wp2_with fail
      refine (HW1.out _).mono ?_
      rintro x w2 ⟨rfl, hw2⟩
      rw [hw2]
      clear hw2
      go_wp2_with fail
      by_cases k2 : s.size < p + 1 + a1
      · refine (numR_no d s r1 (p + 1) a1 _ hr1 (HB.out r1).1 k2).mono ?_
        rintro x w3 ⟨rfl, hw3⟩
        rw [hw3]
        have HE : Hid (hdE s p = 2) := HP.out 2 (fun _ => rfl) (fun h => absurd (by omega) h)
        clear hw3
        go_wp2_with fail
        exact bodyPost_ret (results_head rfl _ _ w.heap.size #[.int .u64 0, .bool false, .int .u64 0, .bool false] rfl (HB.out r1).2.2.1 rfl) rfl ⟨(HB.out r1).2.2.2, fun _ => by rw [HE.out]; rfl, fun h => by rw [HE.out] at h; cases h⟩
      · refine (numR_ok d s r1 (p + 1) a1 _ hr1 (HB.out r1).1 (HB.out r1).2.1 (by omega) (by omega)).mono ?_
        rintro x w3 ⟨rfl, r2, hw3, hr2⟩
        rw [hw3, canon _ _ _ _ _ hdl]
        have hv := numN_lt (gOf s) (gOf_lt s) a1 (p + 1)
        obtain ⟨v, hve⟩ : ∃ v, v = numN (gOf s) (p + 1) a1 := ⟨_, rfl⟩
        rw [← hve] at hv ⊢
        have HV : Hid (v = numN (gOf s) (p + 1) a1) := hve
        have hv256 : v < 256 := by
          rcases (show a1 = 0 ∨ a1 = 1 by omega) with e | e <;> rw [e] at hv <;> omega
        clear hw3 hve hv
        go_wp2_with fail
        refine (HW2.out _).mono ?_
        rintro x w4 ⟨rfl, hw4⟩
        rw [hw4]
        clear hw4
        go_wp2_with fail
        by_cases k3 : s.size < p + 1 + a1 + a2
        · refine (numR_no d s r2 (p + 1 + a1) a2 _ hr2 (HB.out r2).1 k3).mono ?_
          rintro x w5 ⟨rfl, hw5⟩
          rw [hw5]
          have HE : Hid (hdE s p = 2) := HP.out 2 (fun _ => rfl) (fun h => absurd (by omega) h)
          clear hw5
          go_wp2_with fail
          exact bodyPost_ret (results_head rfl _ _ w.heap.size #[.int .u64 0, .bool false, .int .u64 0, .bool false] rfl (HB.out r2).2.2.1 rfl) rfl ⟨(HB.out r2).2.2.2, fun _ => by rw [HE.out]; rfl, fun h => by rw [HE.out] at h; cases h⟩
        · refine (numR_ok d s r2 (p + 1 + a1) a2 _ hr2 (HB.out r2).1 (HB.out r2).2.1 (by omega) (by omega)).mono ?_
          rintro x w5 ⟨rfl, r3, hw5, hr3⟩
          rw [hw5, canon _ _ _ _ _ hdl]
          obtain ⟨dc, hdc⟩ : ∃ dc, dc = numN (gOf s) (p + 1 + a1) a2 := ⟨_, rfl⟩
          rw [← hdc]
          have HDC : Hid (dc = numN (gOf s) (p + 1 + a1) a2) := hdc
          clear hw5 hdc
          go_wp2_with fail
          refine (HW3.out _).mono ?_
          rintro x w6 ⟨rfl, hw6⟩
          rw [hw6]
          clear hw6
          go_wp2_with fail
          by_cases k4 : s.size < p + 1 + a1 + a2 + a3
          · refine (numR_no d s r3 (p + 1 + a1 + a2) a3 _ hr3 (HB.out r3).1 k4).mono ?_
            rintro x w7 ⟨rfl, hw7⟩
            rw [hw7]
            have HE : Hid (hdE s p = 2) := HP.out 2 (fun _ => rfl) (fun h => absurd k4 h)
            clear hw7
            go_wp2_with fail
            exact bodyPost_ret (results_head rfl _ _ w.heap.size #[.int .u64 0, .bool false, .int .u64 0, .bool false] rfl (HB.out r3).2.2.1 rfl) rfl ⟨(HB.out r3).2.2.2, fun _ => by rw [HE.out]; rfl, fun h => by rw [HE.out] at h; cases h⟩
          · refine (numR_ok d s r3 (p + 1 + a1 + a2) a3 _ hr3 (HB.out r3).1 (HB.out r3).2.1 (by omega) hsl).mono ?_
            rintro x w7 ⟨rfl, r4, hw7, hr4⟩
            rw [hw7, canon _ _ _ _ _ hdl]
            have hz1 := numN_lt (gOf s) (gOf_lt s) a3 (p + 1 + a1 + a2)
            obtain ⟨sz, hsz⟩ : ∃ sz, sz = numN (gOf s) (p + 1 + a1 + a2) a3 := ⟨_, rfl⟩
            rw [← hsz] at hz1 ⊢
            have HSZ : Hid (sz = numN (gOf s) (p + 1 + a1 + a2) a3) := hsz
            have hzb : sz < 18446744073709551616 := Nat.lt_of_lt_of_le hz1 (Nat.le_trans (Nat.pow_le_pow_right (by omega) hsl) (by decide))
            have hz2 : a3 = 2 → sz < 65536 := fun h => by rw [h] at hz1; omega
            have HZ2 : Hid (a3 = 2 → sz < 65536) := hz2
            have HEq : Hid (hdV s p = v ∧ hdD s p = dc ∧ hdZ s p = sz ∧ hdEnd s p = p + 1 + a1 + a2 + a3) := by
              refine ⟨HDV.out.1.trans HV.out.symm, HDV.out.2.1.trans HDC.out.symm, HDV.out.2.2.1.trans HSZ.out.symm, HDV.out.2.2.2⟩
            have HR4 : Hid (RestAt s (p + 1 + a1 + a2 + a3) r4) := hr4
            clear hw7 hsz hz1 hz2 hr4
            by_cases hd0 : dc = 0
            · have hdb : ((dc : Int) != 0) = false := by rw [bne_eq_false_iff_eq]; omega
              have HD0 : Hid (dc = 0) := hd0
              clear hd0
              go_wp2_with fail
              refine (HMH.out v sz hv256 hzb HZ2.out _).mono ?_
              rintro x w8 ⟨rfl, hb8⟩
              have hsz0 : ((w.setCell ⟨d, 0, none⟩ (.string r4)).alloc (Obj.cells #[.int .u64 0, .bool false, .int .u64 0, .bool false] 109)).heap.size = w.heap.size + 1 := by rw [World.size_alloc, World.size_setCell]
              have row8 : w8.heap[w.heap.size]? = some (Obj.cells #[.int .u64 0, .bool false, .int .u64 0, .bool false] 109) := (hb8.block w.heap.size (by omega)).trans (HB.out r4).2.2.1
              have hs8 : w.heap.size < w8.heap.size := Nat.lt_of_lt_of_le (by omega) hb8.size
              have HU8 : Hid (Upd d w w8 ∧ w8.heap[d]? = (w.setCell ⟨d, 0, none⟩ (.string r4)).heap[d]? ∧ w8.heap[w.heap.size]? = some (Obj.cells #[.int .u64 0, .bool false, .int .u64 0, .bool false] 109)) := by
                refine ⟨(HB.out r4).2.2.2.trans ⟨hb8.os, hb8.tape, hb8.output, hb8.size, fun k h1 _ => hb8.block k h1⟩, ?_, row8⟩
                exact (hb8.block d (by omega)).trans (Below.heap_alloc _ _ _ (by rw [World.size_setCell]; exact hdl))
              have e0 : w8.cell? ⟨w.heap.size, 0, none⟩ = some (.int .u64 0) := by simp [World.cell?, row8]
              have e1 : w8.cell? ⟨w.heap.size, 1, none⟩ = some (.bool false) := by simp [World.cell?, row8]
              have e2 : w8.cell? ⟨w.heap.size, 2, none⟩ = some (.int .u64 0) := by simp [World.cell?, row8]
              have e3 : w8.cell? ⟨w.heap.size, 3, none⟩ = some (.bool false) := by simp [World.cell?, row8]
              have z0 : ∀ i, w8.frozen? ⟨w.heap.size, i, none⟩ = false := fun i => by simp [World.frozen?, row8]
              have z00 := z0 0
              have z01 := z0 1
              have z02 := z0 2
              have z03 := z0 3
              obtain ⟨WN, hWN⟩ : ∃ WN, WN = hWin T v sz := ⟨_, rfl⟩
              rw [← hWN]
              have HWN : Hid (WN = hWin T v sz) := hWN
              clear hWN hb8 hsz0 row8 z0
              obtain ⟨ck, hck⟩ : ∃ ck, ck = decide (T / 4 % 2 = 1) := ⟨_, rfl⟩
              obtain ⟨td, htd⟩ : ∃ td, td = decide (0 < a3) := ⟨_, rfl⟩
              obtain ⟨SZ, hSZ⟩ : ∃ SZ, SZ = hSize T sz := ⟨_, rfl⟩
              rw [← hck, ← htd, ← hSZ]
              have HCK : Hid (ck = decide (T / 4 % 2 = 1) ∧ td = decide (0 < a3) ∧ SZ = hSize T sz) := ⟨hck, htd, hSZ⟩
              clear hck htd hSZ
              by_cases hbig : 134217728 < WN
              · have hbd : decide ((134217728 : Int) < (WN : Int)) = true := decide_eq_true (by omega)
                have HE : Hid (hdE s p = 6) := HP.out 6 (fun h => absurd h k4) (fun _ => by rw [if_neg (by rw [HEq.out.2.1]; exact fun h => h HD0.out), HEq.out.1, HEq.out.2.2.1, ← HWN.out, if_pos hbig])
                clear hbig
                go_wp2_with fail
                exact bodyPost_ret (results_head rfl _ _ w.heap.size #[.int .u64 0, .bool false, .int .u64 0, .bool false] rfl (put4_row HU8.out.2.2 hs8) rfl) rfl ⟨put4_upd HU8.out.1, fun _ => by rw [HE.out]; rfl, fun h => by rw [HE.out] at h; cases h⟩
              · have hbd : decide ((134217728 : Int) < (WN : Int)) = false := decide_eq_false (by omega)
                have HE : Hid (hdE s p = 0) := HP.out 0 (fun h => absurd h k4) (fun _ => by rw [if_neg (by rw [HEq.out.2.1]; exact fun h => h HD0.out), HEq.out.1, HEq.out.2.2.1, ← HWN.out, if_neg hbig])
                clear hbig
                go_wp2_with fail
                refine bodyPost_ret (results_head rfl _ _ w.heap.size #[.int .u64 (WN : Int), .bool td, .int .u64 (SZ : Int), .bool ck] rfl (put4_row HU8.out.2.2 hs8) rfl) rfl ⟨put4_upd HU8.out.1, fun h => absurd HE.out h, fun _ => ⟨?_, r4, ?_, ?_⟩⟩
                · unfold hdAgg
                  rw [← HT.out, HEq.out.1, HEq.out.2.2.1, ← HWN.out, ← HA3.out, ← HCK.out.1, ← HCK.out.2.1, ← HCK.out.2.2]
                  rfl
                · exact (put4_old (g := w.heap.size) (by omega) (show d ≠ w.heap.size by omega)).trans HU8.out.2.1
                · rw [HEq.out.2.2.2]; exact HR4.out
            · have hdb : ((dc : Int) != 0) = true := by rw [bne_iff_ne]; omega
              have HE : Hid (hdE s p = 5) := HP.out 5 (fun h => absurd h k4) (fun _ => by rw [if_pos (by rw [HEq.out.2.1]; exact hd0)])
              clear hd0
              go_wp2_with fail
              exact bodyPost_ret (results_head rfl _ _ w.heap.size #[.int .u64 0, .bool false, .int .u64 0, .bool false] rfl (HB.out r4).2.2.1 rfl) rfl ⟨(HB.out r4).2.2.2, fun _ => by rw [HE.out]; rfl, fun h => by rw [HE.out] at h; cases h⟩
end Go.Proofs.Ytkfilgfcgmohlaa
namespace Go.Proofs.Ytkfilgfcgmohlaa
open Go.RowKit
/-- bytes that are passed over, from place k on: the error -/
def passE (s : ByteArray) (k : Nat) : Int := if s.size < k + 4 then 2 else if s.size < k + 4 + numN (gOf s) k 4 then 2 else 0
/-- what passOver answers -/
def PassP (d : Nat) (s : ByteArray) (k : Nat) (w : World) (x : Ending) (w' : World) : Prop :=
  x = .returned (.int .i64 (passE s k)) ∧ Upd d w w' ∧ (passE s k = 0 → ∃ r, w' = w.setCell ⟨d, 0, none⟩ (.string r) ∧ RestAt s (k + 4 + numN (gOf s) k 4) r)
set_option maxHeartbeats 2000000 in
theorem pPass (d k : Nat) (s r : ByteArray) (w : World) (hr : RestAt s k r) (hc : w.cell? ⟨d, 0, none⟩ = some (.string r)) (hz : w.frozen? ⟨d, 0, none⟩ = false) :
    Calls Try.prog 50 #[.pointer (some ⟨d, 0, none⟩)] w fun x w' => PassP d s k w x w' := by
  by_cases h1 : s.size < k + 4
  · have HE : Hid (passE s k = 2) := by show _ = _; unfold passE; rw [if_pos h1]
    go_enter Try.func50, Try.ntmps50
    go_wp2_with fail
    refine (show Calls _ _ #[.pointer (some ⟨d, 0, none⟩), .int .i64 ((4 : Nat) : Int)] _ _ from numR_no d s r k 4 _ hr hc h1).mono ?_
    rintro x w1 ⟨rfl, hw1⟩
    rw [hw1]
    go_wp2_with fail
    go_ret
    exact ⟨by rw [HE.out]; rfl, Upd.refl _ _, fun h => by rw [HE.out] at h; cases h⟩
  · have hn4 := numN_lt (gOf s) (gOf_lt s) 4 k
    obtain ⟨n, hn⟩ : ∃ n, n = numN (gOf s) k 4 := ⟨_, rfl⟩
    have HN : Hid (n = numN (gOf s) k 4) := hn
    have hwn : IntKind.i64.wrap (n : Int) = (n : Int) := i64_id _ (by omega) (by omega)
    go_enter Try.func50, Try.ntmps50
    go_wp2_with fail
    refine (show Calls _ _ #[.pointer (some ⟨d, 0, none⟩), .int .i64 ((4 : Nat) : Int)] _ _ from numR_ok d s r k 4 _ hr hc hz (by omega) (by omega)).mono ?_
    rintro x w1 ⟨rfl, r1, hw1, hr1⟩
    rw [← hn]
    have c1 : w1.cell? ⟨d, 0, none⟩ = some (.string r1) := by rw [hw1]; exact cs_same hc
    have z1 : w1.frozen? ⟨d, 0, none⟩ = false := by rw [hw1, World.frozen?_setCell]; exact hz
    have HW : Hid (w1 = w.setCell ⟨d, 0, none⟩ (.string r1)) := hw1
    clear hw1 hn
    go_wp2_with fail
    by_cases h2 : s.size < k + 4 + n
    · have HE : Hid (passE s k = 2) := by show _ = _; unfold passE; rw [if_neg h1, ← HN.out, if_pos h2]
      refine (takeR_no d s r1 (k + 4) n _ hr1 c1 h2).mono ?_
      rintro x w2 ⟨rfl, hw2⟩
      rw [hw2]
      clear hw2
      go_wp2_with fail
      go_ret
      exact ⟨by rw [HE.out]; rfl, by rw [HW.out]; exact (Upd.refl d w).setCell 0 _, fun h => by rw [HE.out] at h; cases h⟩
    · have HE : Hid (passE s k = 0) := by show _ = _; unfold passE; rw [if_neg h1, ← HN.out, if_neg h2]
      refine (takeR_ok d s r1 (k + 4) n _ hr1 c1 z1 (by omega)).mono ?_
      rintro x w2 ⟨part, r2, rfl, _, _, hw2, hr2⟩
      have HR2 : Hid (RestAt s (k + 4 + n) r2 ∧ w2 = w.setCell ⟨d, 0, none⟩ (.string r2)) := ⟨hr2, by rw [hw2, HW.out, set_twice]⟩
      clear hw2 hr2
      go_wp2_with fail
      go_ret
      exact ⟨by rw [HE.out]; rfl, by rw [HR2.out.2]; exact (Upd.refl d w).setCell 0 _, fun _ => ⟨r2, HR2.out.2, by rw [← HN.out]; exact HR2.out.1⟩⟩
end Go.Proofs.Ytkfilgfcgmohlaa
