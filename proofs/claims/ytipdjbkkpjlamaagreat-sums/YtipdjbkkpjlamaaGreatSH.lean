import Derived.Test.YtipdjbkkpjlamaaGreatSG
import Derived.WalkKit
import Derived.WalkSpells
import Derived.WalkLawsBesides
import Derived.Deep.AppendLies
import Derived.Deep.RegionLaw
import Derived.Deep.RegionHeld3
import Derived.Deep.DrawnRows
namespace Go.Proofs.YtipdjbkkpjlamaaGreat
open Go.RowKit
attribute [local go_sem ↓] Go.wp_at_zero Go.wp_at_succ
theorem Inv.drew {w0 w : World} {b B : Nat} {own : Nat → Nat} {k c : Nat} {T : List ByteArray} {S : List (Nat × ByteArray)} {I J : List Value} {L : List (List Int)} (h : Inv w0 w b B own k c T S I J L) : Inv w0 w.drew b B own k c T S I J L := h.al ((Al.refl _).drew)
theorem Inv.drewN {w0 w : World} {b B : Nat} {own : Nat → Nat} {k c : Nat} {T : List ByteArray} {S : List (Nat × ByteArray)} {I J : List Value} {L : List (List Int)} (h : Inv w0 w b B own k c T S I J L) (n : Nat) : Inv w0 (w.drewN n) b B own k c T S I J L := h.al ((Al.refl _).drewN n)
/-- 'append(w.texts, t)', run -/
theorem text_run {w0 W : World} {b B : Nat} {own : Nat → Nat} {k c : Nat} {T : List ByteArray} {S : List (Nat × ByteArray)} {I J : List Value} {L : List (List Int)} (h : Inv w0 W b B own k c T S I J L) (hk : k ≤ 1048576) {t : ByteArray} (htz : t.size ≤ 1048576)
    {vt : Value} (h3 : W.cell? ⟨b, 3, none⟩ = some vt) {gb : Nat} (hn : W.cell? ⟨gb, 0, none⟩ = some (.string t)) (ty : TypeId) :
    ∃ g1 cap1 w2, (Builtin.append_ #[34, 34] ty #[vt, .slice (some ⟨gb, 0, none⟩) 1 1]).run Tryz.prog W = .ok (.slice (some ⟨g1, 0, none⟩) (T.length + 1) cap1) w2 ∧
      (∃ own', Inv w0 (w2.setCell ⟨b, 3, none⟩ (.slice (some ⟨g1, 0, none⟩) (T.length + 1) cap1)) b B own' (k + 1) c (T ++ [t]) S I J L) ∧ w2.cell? ⟨b, 3, none⟩ = some vt ∧ w2.frozen? ⟨b, 3, none⟩ = false ∧ (∀ i, i ≠ 3 → w2.cell? ⟨b, i, none⟩ = W.cell? ⟨b, i, none⟩) := by
  obtain ⟨v, h3', hr⟩ := h.vt
  obtain rfl : v = vt := by rw [h3] at h3'; simpa using h3'.symm
  obtain ⟨i0, hi0, hz0, hz1, hz2⟩ := info_parts Tryz.infoStr
  have hTk := h.bt.1
  have hBw : B ≤ W.heap.size := Nat.le_of_lt (Nat.lt_of_le_of_lt h.ge h.lt)
  obtain ⟨g1, cap1, w2, hrun, hown, hgrow, hat, hlt⟩ := run_append_lies (P := Tryz.prog) W 34 ty B 9 i0 (.string ⟨#[]⟩) 1 16 Tryz.underlying34 hi0 hz0 hz1 hz2 rfl (by decide) v T.length (T.map Value.string) hr.row ⟨gb, 0, none⟩ 1 1 [.string t] rfl
    (by
      intro j u hj
      have : j = 0 := by
        rcases Nat.eq_zero_or_pos j with h0 | h0
        · exact h0
        · rw [List.getElem?_eq_none (by simp; omega)] at hj; cases hj
      subst this
      simp at hj
      subst hj
      exact hn) (by intro v hv; simp at hv; subst hv; rfl) (by decide) (by unfold maxLen; omega) (by omega) hBw _ rfl
  have hbV : some b ≠ v.ownBlock := fun e => by have h1 := hr.tag b e.symm; have h2 := h.ob; omega
  refine ⟨g1, cap1, w2, hrun, text_final h t htz hr hown hgrow hat hlt, (hgrow.cell_far ⟨b, 3, none⟩ h.lt hbV).trans h3, (hgrow.frozen_far ⟨b, 3, none⟩ h.lt hbV).trans (h.fz 3), fun i _ => hgrow.cell_far ⟨b, i, none⟩ h.lt hbV⟩
/-- at a region that draws -/
theorem text_step {w0 w W : World} {b B : Nat} {own : Nat → Nat} {k c : Nat} {T : List ByteArray} {S : List (Nat × ByteArray)} {I J : List Value} {L : List (List Int)} {ops : Array Oper} {o : Oper} {a : Act} {K : Act → World → Prop} {Q : Exit → Act → World → Prop} {E : Prop} (hgd : o.guard = none) (s x : Operand)
    (ho : o.op = .call { callee := .builtin .append, args := #[s, x], argTypes := #[34, 34] }) {vt : Value} (hs : a.eval s = vt) {gb : Nat} (hx : a.eval x = .slice (some ⟨gb, 0, none⟩) 1 1)
    {t : ByteArray} (htz : t.size ≤ 1048576) (hk : k ≤ 1048576) (h : Inv w0 w b B own k c T S I J L) (h3 : w.cell? ⟨b, 3, none⟩ = some vt) (hb : Below w.heap.size w W) (hn : W.cell? ⟨gb, 0, none⟩ = some (.string t))
    (hK : ∀ g1 cap1 w2, (∃ own', Inv w0 (w2.setCell ⟨b, 3, none⟩ (.slice (some ⟨g1, 0, none⟩) (T.length + 1) cap1)) b B own' (k + 1) c (T ++ [t]) S I J L) → w2.cell? ⟨b, 3, none⟩ = some vt → w2.frozen? ⟨b, 3, none⟩ = false → K (a.put o.dst (.slice (some ⟨g1, 0, none⟩) (T.length + 1) cap1)) w2) :
    if Region.wanted o (yielded ops a.tmps) = true then Oper.wp Tryz.prog o a W K Q else E := by
  have hw : Region.wanted o (yielded ops a.tmps) = true := by simp [Region.wanted, hgd]
  rw [if_pos hw]
  obtain ⟨g1, cap1, w2, hr, h2, h4, h5, _⟩ := text_run (h.later hb) hk htz ((hb.cell (p := ⟨b, 3, none⟩) h.lt).trans h3) hn o.type
  unfold Oper.wp execOp
  simp only [ho, resolve, invoke, builtin, Sem.run_bind, Sem.run_pure, Result.andThen_ok, List.map_toArray, List.map_cons, List.map_nil, hs, hx, hr]
  exact hK g1 cap1 w2 h2 h4 h5
set_option maxRecDepth 100000 in
set_option maxHeartbeats 2000000 in
theorem owner_text {w0 w : World} {b B : Nat} {own : Nat → Nat} {k c : Nat} {T : List ByteArray} {S : List (Nat × ByteArray)} {I J : List Value} {L : List (List Int)} (h : Inv w0 w b B own k c T S I J L) (hk : k ≤ 1048576)
    (a0 b0 c0 : Int) (s0 : ByteArray) (hs : s0.size ≤ 1048576) :
    Calls Tryz.prog 10 #[.pointer (some ⟨b, 0, none⟩), .agg #[.int .i64 4, .int .i64 a0, .int .i64 b0, .int .i64 c0, .string s0]] w fun e w' => e = .returned (.bool true) ∧ ∃ own' T', Inv w0 w' b B own' (k + 1) c T' S I J L := by
  have HI : Hid (Inv w0 w b B own k c T S I J L) := h
  have hblt := h.lt
  obtain ⟨vt, h3, hr⟩ := h.vt
  have f3 := h.fz 3
  clear h hr
  go_enter Tryz.func10, Tryz.ntmps10
  go_wp2_with fail
  go_region_law ((refine text_step (by rfl) (.tmp 17) (.tmp 20) (by rfl) (by first | rfl | simp) (gb := w.heap.size + 1) (by simp [Act.eval]) hs hk HI.out h3 (by repeat (first | exact Below.refl _ _ | refine Below.drew ?_ | refine Below.alloc ?_ (by simp <;> omega) _)) (by simp) ?_; intro g1 cap1 w2 hfin c3 e3))
  all_goals
    go_wp2_with fail
    go_ret
    obtain ⟨own', hh⟩ := hfin
    exact ⟨rfl, own', _, hh⟩
end Go.Proofs.YtipdjbkkpjlamaaGreat
