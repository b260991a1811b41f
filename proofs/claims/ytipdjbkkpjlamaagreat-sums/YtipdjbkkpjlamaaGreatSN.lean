import Derived.Test.YtipdjbkkpjlamaaGreatSM
import Derived.Test.YtipdjbkkpjlamaaGreatRI
import Derived.Test.YtipdjbkkpjlamaaGreatMD
import Derived.WalkKit
import Derived.WalkSpells
import Derived.WalkLawsBesides
import Derived.Laws.OwnMore
import Derived.OneCell
import Derived.Deep.RegionHeld3
import Derived.Deep.DrawnRows
import Derived.Deep.QuietTactic
import Derived.BigQuiet
namespace Go.Proofs.YtipdjbkkpjlamaaGreat
open Go.RowKit
attribute [local go_sem ↓] Go.wp_at_zero Go.wp_at_succ
theorem flat_at : ∀ (S : List (Nat × ByteArray)) (j : Nat) (p : Nat × ByteArray), S[j]? = some p → (flat S)[j * 2]? = some (.pointer (some ⟨p.1, 0, none⟩)) ∧ (flat S)[j * 2 + 1]? = some (.string p.2) := by
  intro S
  induction S with
  | nil => intro j p h; simp at h
  | cons q S ih =>
    intro j p h
    cases j with
    | zero => simp at h; subst h; simp [flat]
    | succ j =>
      simp at h
      have := ih j p h
      have e : flat (q :: S) = .pointer (some ⟨q.1, 0, none⟩) :: .string q.2 :: flat S := by simp [flat]
      rw [e, show (j + 1) * 2 = j * 2 + 1 + 1 by omega]
      simpa using this
theorem flat_set : ∀ (S : List (Nat × ByteArray)) (j : Nat) (p : Nat × ByteArray) (t : ByteArray), S[j]? = some p → flat (S.set j (p.1, t)) = (flat S).set (j * 2 + 1) (.string t) := by
  intro S
  induction S with
  | nil => intro j p t h; simp at h
  | cons q S ih =>
    intro j p t h
    have e : ∀ q S, flat (q :: S) = .pointer (some ⟨q.1, 0, none⟩) :: .string q.2 :: flat S := by intro q S; simp [flat]
    cases j with
    | zero => simp at h; subst h; simp [e]
    | succ j =>
      simp at h
      rw [List.set_cons_succ, e, e, show (j + 1) * 2 + 1 = j * 2 + 1 + 1 + 1 by omega, List.set_cons_succ, List.set_cons_succ, ih j p t h]
/-- the checksums' row, and one of them -/
theorem Inv.sums {w0 w : World} {b B : Nat} {own : Nat → Nat} {k c : Nat} {T : List ByteArray} {S : List (Nat × ByteArray)} {I J : List Value} {L : List (List Int)} (h : Inv w0 w b B own k c T S I J L) (j : Nat) (hj : j < S.length) :
    ∃ gs cap p LL RR, w.cell? ⟨b, 2, none⟩ = some (.slice (some ⟨gs, 0, none⟩) S.length cap) ∧ gs < w.heap.size ∧ B ≤ gs ∧ own gs = 3 ∧ S[j]? = some p ∧ w.cell? ⟨gs, j * 2, none⟩ = some (.pointer (some ⟨p.1, 0, none⟩)) ∧ w.cell? ⟨gs, j * 2 + 1, none⟩ = some (.string p.2) ∧
      (∀ i, w.frozen? ⟨gs, i, none⟩ = false) ∧ own p.1 = 8 + 3 * j ∧ p.1 < w.heap.size ∧ Rep w p.1 p.2.data.toList LL RR ∧ p.2.size ≤ c ∧ Row w B own 3 49 2 (.slice (some ⟨gs, 0, none⟩) S.length cap) S.length (flat S) := by
  obtain ⟨v, h2, hr⟩ := h.vs
  obtain ⟨gs, cap, rfl, hB, hlt⟩ := hr.row.form (by omega)
  have hS : S[j]? = some S[j] := List.getElem?_eq_getElem hj
  obtain ⟨h1, LL, RR, hrep⟩ := h.ss j _ hS
  have hf := flat_at S j _ hS
  refine ⟨gs, cap, S[j], LL, RR, h2, hlt, hB, hr.tag gs rfl, hS, ?_, ?_, fun i => World.ownsRow.frozenAt hr.row i, h1, hrep.lt, hrep, h.zs _ (List.getElem_mem hj), hr⟩
  · rw [World.ownsRow.cellAt hr.row _ (by omega)]; exact hf.1
  · rw [World.ownsRow.cellAt hr.row _ (by omega)]; exact hf.2
/-- a checksum has taken bytes, or begun anew, and its text is told -/
theorem Inv.setSum {w0 w w1 : World} {b B : Nat} {own : Nat → Nat} {k c : Nat} {T : List ByteArray} {S : List (Nat × ByteArray)} {I J : List Value} {L : List (List Int)} (h : Inv w0 w b B own k c T S I J L) (j : Nat) (p : Nat × ByteArray) (hp : S[j]? = some p)
    (gs cap : Nat) (h2 : w.cell? ⟨b, 2, none⟩ = some (.slice (some ⟨gs, 0, none⟩) S.length cap)) (hu : Upd p.1 w w1) (t : ByteArray) (LL RR : Nat → Int) (hrep : Rep w1 p.1 t.data.toList LL RR) (c' : Nat) (hc : c ≤ c') (ht : t.size ≤ c') :
    Inv w0 (w1.setCell ⟨gs, j * 2 + 1, none⟩ (.string t)) b B own k c' T (S.set j (p.1, t)) I J L := by
  obtain ⟨v, h2', hr⟩ := h.vs
  obtain rfl : v = .slice (some ⟨gs, 0, none⟩) S.length cap := by rw [h2] at h2'; simpa using h2'.symm
  have og : own gs = 3 := hr.tag gs rfl
  have lg := ownsRow_lt hr.row gs rfl
  obtain ⟨op, LL0, RR0, hrep0⟩ := h.ss j p hp
  have hob := h.ob
  have hpB : B ≤ p.1 := by
    rcases Nat.lt_or_ge p.1 B with h' | h'
    · have := h.low _ h'; omega
    · exact h'
  have hsz := hu.size
  have far : ∀ q, q < w.heap.size → own q ≠ 3 → own q ≠ 8 + 3 * j → (w1.setCell ⟨gs, j * 2 + 1, none⟩ (.string t)).heap[q]? = w.heap[q]? := fun q hq h3 h8 =>
    (Below.heap_setCell _ _ _ _ (fun e => h3 (by dsimp only at e; rw [e]; exact og))).trans (hu.block q hq (fun e => h8 (by rw [e]; exact op)))
  have keepR : ∀ {t' e size : Nat} {y : Value} {n : Nat} {xs : List Value}, Row w B own t' e size y n xs → t' ≠ 3 → t' ≠ 8 + 3 * j → Row (w1.setCell ⟨gs, j * 2 + 1, none⟩ (.string t)) B own t' e size y n xs := fun hr n1 n2 =>
    ⟨ownsRow_same hr.row (fun g hg => far g (ownsRow_lt hr.row g hg).1 (by rw [hr.tag g hg]; exact n1) (by rw [hr.tag g hg]; exact n2)), hr.tag⟩
  have hbb := far b h.lt (by omega) (by omega)
  have cell : ∀ q, (w1.setCell ⟨gs, j * 2 + 1, none⟩ (.string t)).cell? ⟨b, q, none⟩ = w.cell? ⟨b, q, none⟩ := fun q => World.cell?_of_block (a := ⟨b, q, none⟩) hbb
  have gp : p.1 ≠ gs := fun e => by rw [e] at op; omega
  have hjl : j < S.length := by
    rcases Nat.lt_or_ge j S.length with h' | h'
    · exact h'
    · rw [List.getElem?_eq_none h'] at hp; cases hp
  refine ⟨hob, h.low, fun q hq => h.new q (by rw [World.size_setCell] at hq; omega), fun q hq => ?_, fun q => ?_, ?_, ?_, ?_, ?_, fun q hq => ?_, h.li, fun i' l' hl' => ?_, fun j' q hq => ?_, ⟨h.bt.1, by rw [List.length_set]; exact h.bt.2.1, h.bt.2.2⟩, h.zt, fun q hq => ?_, h.zl, ?_⟩
  · obtain ⟨y, hy⟩ := h.cells q hq; exact ⟨y, (cell q).trans hy⟩
  · rw [World.frozen?_of_block (a := ⟨b, q, none⟩) hbb]; exact h.fz q
  · obtain ⟨y, hy, hr⟩ := h.vt; exact ⟨y, (cell 3).trans hy, keepR hr (by omega) (by omega)⟩
  · refine ⟨_, (cell 2).trans h2, ?_, hr.tag⟩
    rw [List.length_set, flat_set S j p t hp]
    exact (World.ownsRow.stored (ownsRow_same hr.row (fun g hg => hu.block g (ownsRow_lt hr.row g hg).1 (fun e => by have := hr.tag g hg; rw [e] at this; omega))) _ _).1
  · obtain ⟨y, hy, hr⟩ := h.vi; exact ⟨y, (cell 5).trans hy, keepR hr (by omega) (by omega)⟩
  · obtain ⟨y, hy, hr⟩ := h.vj; exact ⟨y, (cell 6).trans hy, keepR hr (by omega) (by omega)⟩
  · obtain ⟨y, hy, hw⟩ := h.nb q hq; exact ⟨y, (cell q).trans hy, hw⟩
  · obtain ⟨y, z, h3, h4, h5, h6⟩ := h.ll i' l' hl'
    exact ⟨y, z, h3, h4, keepR h5 (by omega) (by omega), keepR h6 (by omega) (by omega)⟩
  · by_cases e : j' = j
    · subst e
      rw [List.getElem?_set_self hjl] at hq
      obtain rfl : (p.1, t) = q := by simpa using hq
      exact ⟨op, LL, RR, hrep.of_cells (Below.heap_setCell _ _ _ _ gp)⟩
    · rw [List.getElem?_set_ne (Ne.symm e)] at hq
      obtain ⟨h1, L1, R1, hr1⟩ := h.ss j' q hq
      exact ⟨h1, L1, R1, hr1.of_cells (far q.1 hr1.lt (by rw [h1]; omega) (by rw [h1]; omega))⟩
  · rcases List.mem_or_eq_of_mem_set hq with h' | h'
    · exact Nat.le_trans (h.zs q h') hc
    · rw [h']; exact ht
  · refine h.bel.trans (Below.setCell ⟨hu.os, hu.tape, hu.output, hu.size, fun q hq => hu.block q ?_ (by omega)⟩ lg.2 _)
    have := h.ge; have := h.lt; omega
end Go.Proofs.YtipdjbkkpjlamaaGreat
