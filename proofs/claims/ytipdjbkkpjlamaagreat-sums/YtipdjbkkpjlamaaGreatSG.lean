import Derived.Test.YtipdjbkkpjlamaaGreatSF
import Derived.WalkKit
import Derived.WalkSpells
import Derived.WalkLawsBesides
import Derived.Deep.AppendLies
import Derived.Deep.RegionHeld3
import Derived.Deep.RegionHeldLaw
namespace Go.Proofs.YtipdjbkkpjlamaaGreat
open Go.RowKit
theorem Inv.more {w0 w : World} {b B : Nat} {own : Nat → Nat} {k c : Nat} {T : List ByteArray} {S : List (Nat × ByteArray)} {I J : List Value} {L : List (List Int)} (h : Inv w0 w b B own k c T S I J L) (k' c' : Nat) (hk : k ≤ k') (hc : c ≤ c') : Inv w0 w b B own k' c' T S I J L :=
  ⟨h.ob, h.low, h.new, h.cells, h.fz, h.vt, h.vs, h.vi, h.vj, h.nb, h.li, h.ll, h.ss, ⟨Nat.le_trans h.bt.1 hk, Nat.le_trans h.bt.2.1 hk, Nat.le_trans h.bt.2.2 hk⟩, h.zt, fun p hp => Nat.le_trans (h.zs p hp) hc, h.zl, h.bel⟩
/-- one of the rows that the world's own block points to is appended to: what of all else -/
theorem row_final {w0 w w2 : World} {b B : Nat} {own : Nat → Nat} {k c : Nat} {T : List ByteArray} {S : List (Nat × ByteArray)} {I J : List Value} {L : List (List Int)} (h : Inv w0 w b B own k c T S I J L)
    {vt : Value} (r t : Nat) (ht : 2 ≤ t) (ht6 : t ≤ 5) (hvt : ∀ g, vt.ownBlock = some g → own g = t) {g1 : Nat} (X : Value) (hg : w.grownBy w2 vt.ownBlock) (hat : vt.ownBlock = some g1 ∨ g1 = w.heap.size) (hlt : g1 < w2.heap.size) (hB : B ≤ g1) :
    ∃ own' : Nat → Nat, (own' g1 = t) ∧ (∀ i, own i ≠ 0 → own' i = own i) ∧ (∀ i, i < B → own' i = 0) ∧ (∀ i, (w2.setCell ⟨b, r, none⟩ X).heap.size ≤ i → own' i = 0) ∧
      (∀ i, i < w.heap.size → own i ≠ 1 → own i ≠ t → (w2.setCell ⟨b, r, none⟩ X).heap[i]? = w.heap[i]?) ∧ (w2.setCell ⟨b, r, none⟩ X).heap[g1]? = w2.heap[g1]? ∧
      (∀ i, i ≠ r → (w2.setCell ⟨b, r, none⟩ X).cell? ⟨b, i, none⟩ = w.cell? ⟨b, i, none⟩) ∧ (∀ i, (w2.setCell ⟨b, r, none⟩ X).frozen? ⟨b, i, none⟩ = false) ∧ (r < 20 → (w2.setCell ⟨b, r, none⟩ X).cell? ⟨b, r, none⟩ = some X) ∧ Below B w0 (w2.setCell ⟨b, r, none⟩ X) := by
  have hob := h.ob
  have hblt := h.lt
  have hbV : some b ≠ vt.ownBlock := fun e => by have := hvt b e.symm; omega
  have b2 : w2.heap[b]? = w.heap[b]? := hg.block b hblt hbV
  have cell2 : ∀ i, w2.cell? ⟨b, i, none⟩ = w.cell? ⟨b, i, none⟩ := fun i => World.cell?_of_block (a := ⟨b, i, none⟩) b2
  have g1b : g1 ≠ b := fun e => by
    rcases hat with h1 | h1
    · rw [e] at h1; exact hbV h1.symm
    · omega
  have t1 : own g1 = t ∨ own g1 = 0 := by
    rcases hat with h1 | h1
    · exact .inl (hvt g1 h1)
    · exact .inr (h.new _ (by omega))
  refine ⟨updO own g1 t, updO_same _ _ _, fun i hi => ?_, fun i hi => ?_, fun i hi => ?_, fun i hi h1 h2 => ?_, Below.heap_setCell _ _ _ _ g1b, fun i hi => ?_, fun i => ?_, fun hr => ?_, ?_⟩
  · by_cases e : i = g1
    · subst e; rw [updO_same]; rcases t1 with h1 | h1 <;> omega
    · exact updO_other _ _ _ _ e
  · rw [updO_other _ _ _ _ (by omega)]; exact h.low i hi
  · rw [World.size_setCell] at hi
    rw [updO_other _ _ _ _ (by omega)]
    have := hg.size
    exact h.new i (by omega)
  · exact (Below.heap_setCell _ _ _ _ (fun e => h1 (by dsimp only at e; rw [e]; exact hob))).trans (hg.block i hi (fun e => h2 (hvt i e.symm)))
  · rw [cs_other (addr_ne (Ne.symm hi))]; exact cell2 i
  · rw [World.frozen?_setCell, World.frozen?_of_block (a := ⟨b, i, none⟩) b2]; exact h.fz i
  · obtain ⟨x, hx⟩ := h.cells r hr
    exact cs_same ((cell2 r).trans hx)
  · refine h.bel.trans ⟨hg.os, hg.tape, hg.output, by rw [World.size_setCell]; exact hg.size, fun i hi => ?_⟩
    have hge := h.ge
    exact (Below.heap_setCell _ _ _ _ (fun e => by dsimp only at e; omega)).trans (hg.block i (by omega) (fun e => by have h1 := hvt i e.symm; have h2 := h.low i hi; omega))
theorem Row.carry {w w' : World} {B : Nat} {own own' : Nat → Nat} {t u e size : Nat} {x : Value} {n : Nat} {xs : List Value} (hr : Row w B own t e size x n xs) (hold : ∀ i, i < w.heap.size → own i ≠ 1 → own i ≠ u → w'.heap[i]? = w.heap[i]?) (htag : ∀ i, own i ≠ 0 → own' i = own i) (h0 : t ≠ 0) (h1 : t ≠ 1) (hu : t ≠ u) : Row w' B own' t e size x n xs :=
  ⟨ownsRow_same hr.row (fun g hg => hold g (ownsRow_lt hr.row g hg).1 (by rw [hr.tag g hg]; exact h1) (by rw [hr.tag g hg]; exact hu)), fun g hg => by rw [htag g (by rw [hr.tag g hg]; exact h0)]; exact hr.tag g hg⟩
/-- one text more -/
theorem text_final {w0 w w2 : World} {b B : Nat} {own : Nat → Nat} {k c : Nat} {T : List ByteArray} {S : List (Nat × ByteArray)} {I J : List Value} {L : List (List Int)} (h : Inv w0 w b B own k c T S I J L) (t : ByteArray) (htz : t.size ≤ 1048576)
    {vt : Value} (hr : Row w B own 2 9 1 vt T.length (T.map Value.string)) {g1 cap1 : Nat} (ho : w2.ownsRow B 9 1 (.slice (some ⟨g1, 0, none⟩) (T.length + 1) cap1) (T.length + 1) (T.map Value.string ++ [.string t]))
    (hg : w.grownBy w2 vt.ownBlock) (hat : vt.ownBlock = some g1 ∨ g1 = w.heap.size) (hlt : g1 < w2.heap.size) :
    ∃ own', Inv w0 (w2.setCell ⟨b, 3, none⟩ (.slice (some ⟨g1, 0, none⟩) (T.length + 1) cap1)) b B own' (k + 1) c (T ++ [t]) S I J L := by
  obtain ⟨own', o1, htag, hlow, hnew, hold, hgb, hcell, hfz, hx, hbel⟩ := row_final h 3 2 (by omega) (by omega) hr.tag (.slice (some ⟨g1, 0, none⟩) (T.length + 1) cap1) hg hat hlt (ownsRow_lt ho g1 rfl).2
  refine ⟨own', by rw [htag b (by rw [h.ob]; omega)]; exact h.ob, hlow, hnew, fun i hi => ?_, hfz, ⟨_, hx (by omega), ?_, fun g hg' => ?_⟩, ?_, ?_, ?_, fun i hi => ?_, h.li, fun i l hl => ?_, fun j p hp => ?_, ⟨by have := h.bt.1; simp; omega, by have := h.bt.2.1; omega, by have := h.bt.2.2; omega⟩, fun x hx' => ?_, h.zs, h.zl, hbel⟩
  · by_cases e : i = 3
    · subst e; exact ⟨_, hx (by omega)⟩
    · obtain ⟨x, hx'⟩ := h.cells i hi; exact ⟨x, (hcell i e).trans hx'⟩
  · rw [show (T ++ [t]).length = T.length + 1 by simp, show (T ++ [t]).map Value.string = T.map Value.string ++ [.string t] by simp]
    exact ownsRow_same ho (fun g hg' => by simp [Value.ownBlock] at hg'; subst hg'; exact hgb)
  · simp [Value.ownBlock] at hg'; subst hg'; exact o1
  · obtain ⟨x, hx', hr'⟩ := h.vs; exact ⟨x, (hcell 2 (by omega)).trans hx', hr'.carry hold htag (by omega) (by omega) (by omega)⟩
  · obtain ⟨x, hx', hr'⟩ := h.vi; exact ⟨x, (hcell 5 (by omega)).trans hx', hr'.carry hold htag (by omega) (by omega) (by omega)⟩
  · obtain ⟨x, hx', hr'⟩ := h.vj; exact ⟨x, (hcell 6 (by omega)).trans hx', hr'.carry hold htag (by omega) (by omega) (by omega)⟩
  · obtain ⟨x, hx', hw⟩ := h.nb i hi; exact ⟨x, (hcell i (by omega)).trans hx', hw⟩
  · obtain ⟨u, v, h1, h2, h3, h4⟩ := h.ll i l hl; exact ⟨u, v, h1, h2, h3.carry hold htag (by omega) (by omega) (by omega), h4.carry hold htag (by omega) (by omega) (by omega)⟩
  · obtain ⟨h1, LL, RR, hr'⟩ := h.ss j p hp
    exact ⟨by rw [htag p.1 (by rw [h1]; omega)]; exact h1, LL, RR, hr'.of_cells (hold p.1 hr'.lt (by rw [h1]; omega) (by rw [h1]; omega))⟩
  · rcases List.mem_append.1 hx' with h1 | h1
    · exact h.zt x h1
    · simp at h1; subst h1; exact htz
end Go.Proofs.YtipdjbkkpjlamaaGreat
