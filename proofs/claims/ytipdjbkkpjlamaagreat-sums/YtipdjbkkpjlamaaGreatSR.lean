import Derived.Test.YtipdjbkkpjlamaaGreatSQ
import Derived.WalkKit
import Derived.WalkSpells
import Derived.WalkLawsBesides
import Derived.Deep.AppendLies
namespace Go.Proofs.YtipdjbkkpjlamaaGreat
open Go.RowKit
/-- a block that had no tag gets one -/
theorem Inv.retag {w0 w : World} {b B : Nat} {own : Nat → Nat} {k c : Nat} {T : List ByteArray} {S : List (Nat × ByteArray)} {I J : List Value} {L : List (List Int)} (h : Inv w0 w b B own k c T S I J L) (g u : Nat) (hg : own g = 0) (hB : B ≤ g) (hlt : g < w.heap.size) : Inv w0 w b B (updO own g u) k c T S I J L := by
  have o : ∀ q, own q ≠ 0 → updO own g u q = own q := fun q hq => updO_other _ _ _ _ (fun e => hq (by rw [e]; exact hg))
  refine ⟨by rw [o b (by rw [h.ob]; omega)]; exact h.ob, fun i hi => by rw [updO_other _ _ _ _ (by omega)]; exact h.low i hi, fun i hi => by rw [updO_other _ _ _ _ (by omega)]; exact h.new i hi, h.cells, h.fz, ?_, ?_, ?_, ?_, h.nb, h.li, fun i l hl => ?_, fun j p hp => ?_, h.bt, h.zt, h.zs, h.zl, h.bel⟩
  · obtain ⟨y, hy, hr⟩ := h.vt; exact ⟨y, hy, hr.retag (by omega) g u hg⟩
  · obtain ⟨y, hy, hr⟩ := h.vs; exact ⟨y, hy, hr.retag (by omega) g u hg⟩
  · obtain ⟨y, hy, hr⟩ := h.vi; exact ⟨y, hy, hr.retag (by omega) g u hg⟩
  · obtain ⟨y, hy, hr⟩ := h.vj; exact ⟨y, hy, hr.retag (by omega) g u hg⟩
  · obtain ⟨x, y, h1, h2, h3, h4⟩ := h.ll i l hl; exact ⟨x, y, h1, h2, h3.retag (by omega) g u hg, h4.retag (by omega) g u hg⟩
  · obtain ⟨h1, h2⟩ := h.ss j p hp; exact ⟨by rw [o p.1 (by rw [h1]; omega)]; exact h1, h2⟩
theorem flat_append (S : List (Nat × ByteArray)) (g : Nat) (t : ByteArray) : flat (S ++ [(g, t)]) = flat S ++ [.pointer (some ⟨g, 0, none⟩), .string t] := by simp [flat]
/-- one checksum more -/
theorem sum_final {w0 w w2 : World} {b B : Nat} {own : Nat → Nat} {k c : Nat} {T : List ByteArray} {S : List (Nat × ByteArray)} {I J : List Value} {L : List (List Int)} (h0 : Inv w0 w b B own k c T S I J L) (g : Nat) (hg : g < w.heap.size) (hBg : B ≤ g) (hog : own g = 0) (LL RR : Nat → Int) (hrep : Rep w g [] LL RR)
    {vt : Value} (hr0 : Row w B own 3 49 2 vt S.length (flat S)) {g1 cap1 : Nat} (ho : w2.ownsRow B 49 2 (.slice (some ⟨g1, 0, none⟩) (S.length + 1) cap1) (S.length + 1) (flat S ++ [.pointer (some ⟨g, 0, none⟩), .string ⟨#[]⟩]))
    (hgr : w.grownBy w2 vt.ownBlock) (hat : vt.ownBlock = some g1 ∨ g1 = w.heap.size) (hlt : g1 < w2.heap.size) :
    ∃ own', Inv w0 (w2.setCell ⟨b, 2, none⟩ (.slice (some ⟨g1, 0, none⟩) (S.length + 1) cap1)) b B own' (k + 1) c T (S ++ [(g, ⟨#[]⟩)]) I J L := by
  have h := h0.retag g (8 + 3 * S.length) hog hBg hg
  have hr := hr0.retag (by omega) g (8 + 3 * S.length) hog
  have hgg : updO own g (8 + 3 * S.length) g = 8 + 3 * S.length := updO_same _ _ _
  generalize updO own g (8 + 3 * S.length) = own1 at h hr hgg
  obtain ⟨own', o1, htag, hlow, hnew, hold, hgb, hcell, hfz, hx, hbel⟩ := row_final h 2 3 (by omega) (by omega) hr.tag (.slice (some ⟨g1, 0, none⟩) (S.length + 1) cap1) hgr hat hlt (ownsRow_lt ho g1 rfl).2
  refine ⟨own', by rw [htag b (by rw [h.ob]; omega)]; exact h.ob, hlow, hnew, fun i hi => ?_, hfz, ?_, ⟨_, hx (by omega), ?_, fun g' hg' => ?_⟩, ?_, ?_, fun i hi => ?_, h.li, fun i l hl => ?_, fun j p hp => ?_, ⟨by have := h.bt.1; omega, by have := h.bt.2.1; simp; omega, by have := h.bt.2.2; omega⟩, h.zt, fun p hp => ?_, h.zl, hbel⟩
  · by_cases e : i = 2
    · subst e; exact ⟨_, hx (by omega)⟩
    · obtain ⟨x, hx'⟩ := h.cells i hi; exact ⟨x, (hcell i e).trans hx'⟩
  · obtain ⟨x, hx', hr'⟩ := h.vt; exact ⟨x, (hcell 3 (by omega)).trans hx', hr'.carry hold htag (by omega) (by omega) (by omega)⟩
  · rw [show (S ++ [(g, (⟨#[]⟩ : ByteArray))]).length = S.length + 1 by simp, flat_append]
    exact ownsRow_same ho (fun g' hg' => by simp [Value.ownBlock] at hg'; subst hg'; exact hgb)
  · simp [Value.ownBlock] at hg'; subst hg'; exact o1
  · obtain ⟨x, hx', hr'⟩ := h.vi; exact ⟨x, (hcell 5 (by omega)).trans hx', hr'.carry hold htag (by omega) (by omega) (by omega)⟩
  · obtain ⟨x, hx', hr'⟩ := h.vj; exact ⟨x, (hcell 6 (by omega)).trans hx', hr'.carry hold htag (by omega) (by omega) (by omega)⟩
  · obtain ⟨x, hx', hw⟩ := h.nb i hi; exact ⟨x, (hcell i (by omega)).trans hx', hw⟩
  · obtain ⟨u, v, h1, h2, h3, h4⟩ := h.ll i l hl; exact ⟨u, v, h1, h2, h3.carry hold htag (by omega) (by omega) (by omega), h4.carry hold htag (by omega) (by omega) (by omega)⟩
  · by_cases e : j < S.length
    · rw [List.getElem?_append_left e] at hp
      obtain ⟨h1, L1, R1, hr'⟩ := h.ss j p hp
      exact ⟨by rw [htag p.1 (by rw [h1]; omega)]; exact h1, L1, R1, hr'.of_cells (hold p.1 hr'.lt (by rw [h1]; omega) (by rw [h1]; omega))⟩
    · rw [List.getElem?_append_right (by omega)] at hp
      have e0 : j - S.length = 0 := by
        rcases Nat.eq_zero_or_pos (j - S.length) with h0 | h0
        · exact h0
        · rw [List.getElem?_eq_none (by simp; omega)] at hp; cases hp
      rw [e0] at hp
      simp at hp
      subst hp
      obtain rfl : j = S.length := by omega
      exact ⟨by dsimp only; rw [htag g (by omega)]; exact hgg, LL, RR, hrep.of_cells (hold g hg (by omega) (by omega))⟩
  · rcases List.mem_append.1 hp with h1 | h1
    · exact h.zs p h1
    · simp at h1; subst h1; exact Nat.zero_le _
theorem Tryz.infoSum : (Tryz.prog.info? 49).map (fun i => (i.zero, i.size, i.bytes)) = some (some (.agg #[.pointer none, .string ⟨#[]⟩]), 2, 24) := by kernel_rfl
/-- 'append(w.ss, sum{x: s})', run -/
theorem sum_run {w0 W : World} {b B : Nat} {own : Nat → Nat} {k c : Nat} {T : List ByteArray} {S : List (Nat × ByteArray)} {I J : List Value} {L : List (List Int)} (h : Inv w0 W b B own k c T S I J L) (hk : k ≤ 1048576)
    {g : Nat} (hg : g < W.heap.size) (hBg : B ≤ g) (hog : own g = 0) {LL RR : Nat → Int} (hrep : Rep W g [] LL RR)
    {vt : Value} (h2 : W.cell? ⟨b, 2, none⟩ = some vt) {gb : Nat} (hn0 : W.cell? ⟨gb, 0, none⟩ = some (.pointer (some ⟨g, 0, none⟩))) (hn1 : W.cell? ⟨gb, 1, none⟩ = some (.string ⟨#[]⟩)) (ty : TypeId) :
    ∃ g1 cap1 w2, (Builtin.append_ #[33, 33] ty #[vt, .slice (some ⟨gb, 0, none⟩) 1 1]).run Tryz.prog W = .ok (.slice (some ⟨g1, 0, none⟩) (S.length + 1) cap1) w2 ∧
      (∃ own', Inv w0 (w2.setCell ⟨b, 2, none⟩ (.slice (some ⟨g1, 0, none⟩) (S.length + 1) cap1)) b B own' (k + 1) c T (S ++ [(g, ⟨#[]⟩)]) I J L) ∧ w2.cell? ⟨b, 2, none⟩ = some vt ∧ w2.frozen? ⟨b, 2, none⟩ = false := by
  obtain ⟨v, h2', hr⟩ := h.vs
  obtain rfl : v = vt := by rw [h2] at h2'; simpa using h2'.symm
  obtain ⟨i0, hi0, hz0, hz1, hz2⟩ := info_parts Tryz.infoSum
  have hSk := h.bt.2.1
  have hBw : B ≤ W.heap.size := Nat.le_of_lt (Nat.lt_of_le_of_lt h.ge h.lt)
  obtain ⟨g1, cap1, w2, hrun, hown, hgrow, hat, hlt⟩ := run_append_lies (P := Tryz.prog) W 33 ty B 49 i0 (.agg #[.pointer none, .string ⟨#[]⟩]) 2 24 Tryz.underlying33 hi0 hz0 hz1 hz2 rfl (by decide) v S.length (flat S) hr.row ⟨gb, 0, none⟩ 1 1 [.pointer (some ⟨g, 0, none⟩), .string ⟨#[]⟩] rfl
    (by
      intro j u hj
      have hj2 : j = 0 ∨ j = 1 := by
        rcases Nat.lt_or_ge j 2 with h0 | h0
        · omega
        · rw [List.getElem?_eq_none (by simp; omega)] at hj; cases hj
      rcases hj2 with rfl | rfl
      · simp at hj; subst hj; exact hn0
      · simp at hj; subst hj; exact hn1) (by intro v hv; simp at hv; rcases hv with rfl | rfl <;> rfl) (by decide) (by unfold maxLen; omega) (by omega) hBw _ rfl
  have hbV : some b ≠ v.ownBlock := fun e => by have h1 := hr.tag b e.symm; have h2 := h.ob; omega
  exact ⟨g1, cap1, w2, hrun, sum_final h g hg hBg hog LL RR hrep hr hown hgrow hat hlt, (hgrow.cell_far ⟨b, 2, none⟩ h.lt hbV).trans h2, (hgrow.frozen_far ⟨b, 2, none⟩ h.lt hbV).trans (h.fz 2)⟩
/-- at a plain region's list -/
theorem sum_list {w0 w W : World} {b B : Nat} {own : Nat → Nat} {k c : Nat} {T : List ByteArray} {S : List (Nat × ByteArray)} {I J : List Value} {L : List (List Int)} {ops : Array Oper} {rest : List Oper} {o : Oper} {a : Act} {Q : Exit → Act → World → Prop} (hgd : o.guard = none) (s x : Operand)
    (ho : o.op = .call { callee := .builtin .append, args := #[s, x], argTypes := #[33, 33] }) {vt : Value} (hs : a.eval s = vt) {gb : Nat} (hx : a.eval x = .slice (some ⟨gb, 0, none⟩) 1 1)
    (hk : k ≤ 1048576) (h : Inv w0 w b B own k c T S I J L) {g : Nat} (hg : g < w.heap.size) (hBg : B ≤ g) (hog : own g = 0) {LL RR : Nat → Int} (hrep : Rep w g [] LL RR) (h2 : w.cell? ⟨b, 2, none⟩ = some vt) (hb : Below w.heap.size w W) (hn0 : W.cell? ⟨gb, 0, none⟩ = some (.pointer (some ⟨g, 0, none⟩))) (hn1 : W.cell? ⟨gb, 1, none⟩ = some (.string ⟨#[]⟩))
    (hK : ∀ g1 cap1 w2, Hid (∃ own' S', Inv w0 (w2.setCell ⟨b, 2, none⟩ (.slice (some ⟨g1, 0, none⟩) (S.length + 1) cap1)) b B own' (k + 1) c T S' I J L) → w2.cell? ⟨b, 2, none⟩ = some vt → w2.frozen? ⟨b, 2, none⟩ = false → wpList Tryz.prog ops Q rest (a.put o.dst (.slice (some ⟨g1, 0, none⟩) (S.length + 1) cap1)) w2) :
    wpList Tryz.prog ops Q (o :: rest) a W := by
  refine wpList_plain hgd fun _ hKK => ?_
  obtain ⟨g1, cap1, w2, hr, ⟨own', h3⟩, h4, h5⟩ := sum_run (h.later hb) hk (Nat.lt_of_lt_of_le hg hb.size) hBg hog (hrep.later' hb) ((hb.cell (p := ⟨b, 2, none⟩) h.lt).trans h2) hn0 hn1 o.type
  unfold Oper.wp execOp
  simp only [ho, resolve, invoke, builtin, Sem.run_bind, Sem.run_pure, Result.andThen_ok, List.map_toArray, List.map_cons, List.map_nil, hs, hx, hr]
  exact hKK _ _ (hK g1 cap1 w2 ⟨own', _, h3⟩ h4 h5)
end Go.Proofs.YtipdjbkkpjlamaaGreat
