import Derived.Test.YtipdjbkkpjlamaaGreatSD
import Derived.WalkKit
import Derived.WalkSpells
import Derived.WalkLawsBesides
import Derived.Deep.AppendLies
import Derived.Laws.CopyOwn
import Derived.Laws.MakeOwn
namespace Go.Proofs.YtipdjbkkpjlamaaGreat
open Go.RowKit
theorem Tryz.infoInt : (Tryz.prog.info? 3).map (fun i => (i.zero, i.size, i.bytes)) = some (some (.int .i64 0), 1, 8) := by kernel_rfl
theorem Tryz.infoInts : (Tryz.prog.info? 24).map (fun i => (i.zero, i.size, i.bytes)) = some (some (.slice none 0 0), 1, 24) := by kernel_rfl
theorem Tryz.infoStr : (Tryz.prog.info? 9).map (fun i => (i.zero, i.size, i.bytes)) = some (some (.string ⟨#[]⟩), 1, 16) := by kernel_rfl
/-- 'make([]int, n)' -/
theorem mk_ints (n : Nat) (hn : n ≤ 1048576) (w : World) : (Instr.makeSlice 24 (.int .i64 (n : Int)) (.int .i64 (n : Int))).run Tryz.prog w = .ok (.slice (some ⟨w.heap.size, 0, none⟩) n n) (w.alloc (.cells (madeCells #[.int .i64 0] n) 3)) := by
  obtain ⟨i, hi, hz, h1, h2⟩ := info_parts Tryz.infoInt
  have := run_make (P := Tryz.prog) w 24 3 i (.int .i64 0) Tryz.underlying24 hi hz .i64 .i64 n n (by omega) (by omega) (by rw [h2]; omega) (by omega)
  rw [h1, Int.toNat_natCast, Nat.mul_one] at this
  exact this
theorem made_list (n : Nat) : (madeCells #[.int .i64 0] n).toList = nums (List.replicate n 0) := by
  rw [toList_madeCells_one]; simp [nums]
theorem nums_one (l : List Int) : ∀ v ∈ nums l, v.oneCell' = true := by
  intro v hv
  simp [nums] at hv
  obtain ⟨x, _, rfl⟩ := hv
  rfl
/-- one list of numbers more -/
theorem Inv.keep {w0 w w' : World} {b B : Nat} {own : Nat → Nat} {k c : Nat} {T : List ByteArray} {S : List (Nat × ByteArray)} {I J : List Value} {L : List (List Int)} (h : Inv w0 w b B own k c T S I J L)
    (u v : Value) (l : List Int) (own' : Nat → Nat) (hk : l.length ≤ 1048576)
    (hu : Row w' B own' (6 + 3 * L.length) 3 1 u l.length (nums l)) (hv : Row w' B own' (7 + 3 * L.length) 3 1 v l.length (nums l))
    (hi : ∃ x, w'.cell? ⟨b, 5, none⟩ = some x ∧ Row w' B own' 4 24 1 x (I ++ [u]).length (I ++ [u])) (hj : ∃ x, w'.cell? ⟨b, 6, none⟩ = some x ∧ Row w' B own' 5 24 1 x (J ++ [v]).length (J ++ [v]))
    (hold : ∀ i, i < w.heap.size → own i ≠ 1 → own i ≠ 4 → own i ≠ 5 → own i ≠ 0 → w'.heap[i]? = w.heap[i]?) (htag : ∀ i, own i ≠ 0 → own' i = own i) (hlow : ∀ i, i < B → own' i = 0) (hnew : ∀ i, w'.heap.size ≤ i → own' i = 0)
    (hcell : ∀ i, i ≠ 5 → i ≠ 6 → w'.cell? ⟨b, i, none⟩ = w.cell? ⟨b, i, none⟩) (hfz : ∀ i, w'.frozen? ⟨b, i, none⟩ = false) (hbel : Below B w0 w') : Inv w0 w' b B own' (k + 1) c T S (I ++ [u]) (J ++ [v]) (L ++ [l]) := by
  have keepR : ∀ {t e size : Nat} {x : Value} {n : Nat} {xs : List Value}, Row w B own t e size x n xs → t ≠ 0 → t ≠ 1 → t ≠ 4 → t ≠ 5 → Row w' B own' t e size x n xs := fun hr h0 h1 h4 h5 =>
    ⟨ownsRow_same hr.row (fun g hg => hold g (ownsRow_lt hr.row g hg).1 (by rw [hr.tag g hg]; exact h1) (by rw [hr.tag g hg]; exact h4) (by rw [hr.tag g hg]; exact h5) (by rw [hr.tag g hg]; exact h0)), fun g hg => by rw [htag g (by rw [hr.tag g hg]; exact h0)]; exact hr.tag g hg⟩
  refine ⟨by rw [htag b (by rw [h.ob]; omega)]; exact h.ob, hlow, hnew, fun i hi' => ?_, hfz, ?_, ?_, hi, hj, fun i hi' => ?_, ⟨by simp [h.li.1], by simp [h.li.2]⟩, fun i l' hl => ?_, fun j p hp => ?_, ⟨by have := h.bt.1; omega, by have := h.bt.2.1; omega, by have := h.bt.2.2; simp; omega⟩, h.zt, h.zs, fun l' hl => ?_, hbel⟩
  · by_cases e5 : i = 5
    · subst e5; obtain ⟨x, hx, _⟩ := hi; exact ⟨x, hx⟩
    · by_cases e6 : i = 6
      · subst e6; obtain ⟨x, hx, _⟩ := hj; exact ⟨x, hx⟩
      · obtain ⟨x, hx⟩ := h.cells i hi'; exact ⟨x, (hcell i e5 e6).trans hx⟩
  · obtain ⟨x, hx, hr⟩ := h.vt; exact ⟨x, (hcell 3 (by omega) (by omega)).trans hx, keepR hr (by omega) (by omega) (by omega) (by omega)⟩
  · obtain ⟨x, hx, hr⟩ := h.vs; exact ⟨x, (hcell 2 (by omega) (by omega)).trans hx, keepR hr (by omega) (by omega) (by omega) (by omega)⟩
  · obtain ⟨x, hx, hw⟩ := h.nb i hi'; exact ⟨x, (hcell i (by omega) (by omega)).trans hx, hw⟩
  · by_cases e : i < L.length
    · rw [List.getElem?_append_left e] at hl
      obtain ⟨x, y, h1, h2, h3, h4⟩ := h.ll i l' hl
      refine ⟨x, y, ?_, ?_, keepR h3 (by omega) (by omega) (by omega) (by omega), keepR h4 (by omega) (by omega) (by omega) (by omega)⟩
      · rw [List.getElem?_append_left (by rw [h.li.1]; exact e)]; exact h1
      · rw [List.getElem?_append_left (by rw [h.li.2]; exact e)]; exact h2
    · rw [List.getElem?_append_right (by omega)] at hl
      have e0 : i - L.length = 0 := by
        rcases Nat.eq_zero_or_pos (i - L.length) with h0 | h0
        · exact h0
        · rw [List.getElem?_eq_none (by simp; omega)] at hl; cases hl
      rw [e0] at hl
      simp at hl
      subst hl
      obtain rfl : i = L.length := by omega
      refine ⟨u, v, ?_, ?_, hu, hv⟩
      · rw [← h.li.1, List.getElem?_append_right (Nat.le_refl _)]; simp
      · rw [← h.li.2, List.getElem?_append_right (Nat.le_refl _)]; simp
  · obtain ⟨h1, LL, RR, hr⟩ := h.ss j p hp
    exact ⟨by rw [htag p.1 (by rw [h1]; omega)]; exact h1, LL, RR, hr.of_cells (hold p.1 hr.lt (by rw [h1]; omega) (by rw [h1]; omega) (by rw [h1]; omega) (by rw [h1]; omega))⟩
  · rcases List.mem_append.1 hl with h1 | h1
    · exact h.zl l' h1
    · simp at h1; subst h1; exact hk
end Go.Proofs.YtipdjbkkpjlamaaGreat
