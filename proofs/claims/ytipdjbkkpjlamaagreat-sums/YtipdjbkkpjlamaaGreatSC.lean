import Derived.Test.YtipdjbkkpjlamaaGreatSB
import Derived.WalkKit
import Derived.WalkSpells
import Derived.WalkLawsBesides
import Derived.Deep.RegionHeld3
import Derived.Deep.QuietTactic
import Derived.BigQuiet
namespace Go.Proofs.YtipdjbkkpjlamaaGreat
open Go.RowKit
/-- a step, as a value -/
def opAgg (o : OpV) : Value := .agg #[.int .i64 o.kind, .int .i64 o.a, .int .i64 o.b, .int .i64 o.c, .string o.s]
theorem Inv.ch {w0 w : World} {b B : Nat} {own : Nat → Nat} {k c : Nat} {T : List ByteArray} {S : List (Nat × ByteArray)} {I J : List Value} {L : List (List Int)} (h : Inv w0 w b B own k c T S I J L) (i : Nat) (v : Value) (hi : 10 ≤ i) : Inv w0 (w.setCell ⟨b, i, none⟩ v) b B own k c T S I J L :=
  h.setPlain i v (by omega) (by intro h; omega)
set_option maxRecDepth 100000 in
set_option maxHeartbeats 2000000 in
theorem flags_any {w0 w : World} {b B : Nat} {own : Nat → Nat} {k c : Nat} {T : List ByteArray} {S : List (Nat × ByteArray)} {I J : List Value} {L : List (List Int)} (h : Inv w0 w b B own k c T S I J L) (k0 a0 b0 c0 : Int) (s0 : ByteArray) :
    Calls Tryz.prog 22 #[.pointer (some ⟨b, 0, none⟩), .agg #[.int .i64 k0, .int .i64 a0, .int .i64 b0, .int .i64 c0, .string s0]] w fun e w' => e = .returned (.tuple #[]) ∧ Inv w0 w' b B own k c T S I J L := by
  have HI : Hid (Inv w0 w b B own k c T S I J L) := h
  have hlt := h.lt
  obtain ⟨v15, h15⟩ := h.cells 15 (by omega)
  obtain ⟨v16, h16⟩ := h.cells 16 (by omega)
  obtain ⟨v17, h17⟩ := h.cells 17 (by omega)
  obtain ⟨v18, h18⟩ := h.cells 18 (by omega)
  have f15 := h.fz 15
  have f16 := h.fz 16
  have f17 := h.fz 17
  have f18 := h.fz 18
  clear h
  by_cases hb : b0.tmod 2 = 0
  · have hb' : (b0.tmod 2 != 0) = false := by simp [hb]
    have HBB : Hid (b0.tmod 2 = 0) := hb
    clear hb
    go_enter Tryz.func22, Tryz.ntmps22
    go_wp2
    go_end0
    exact ⟨rfl, ((((HI.out.ch 15 _ (by decide)).ch 16 _ (by decide)).ch 17 _ (by decide)).ch 18 _ (by decide)).alloc _⟩
  · have hb' : (b0.tmod 2 != 0) = true := by simp [hb]
    have HBB : Hid (¬ b0.tmod 2 = 0) := hb
    clear hb
    go_enter Tryz.func22, Tryz.ntmps22
    go_wp2
    go_end0
    exact ⟨rfl, ((((((((HI.out.ch 15 _ (by decide)).ch 16 _ (by decide)).ch 17 _ (by decide)).ch 18 _ (by decide)).ch 15 _ (by decide)).ch 16 _ (by decide)).ch 17 _ (by decide)).ch 18 _ (by decide)).alloc _⟩
/-- where a row's elements lie -/
theorem Row.at {w : World} {B : Nat} {own : Nat → Nat} {t e : Nat} {v : Value} {n : Nat} {xs : List Value} (h : Row w B own t e 1 v n xs) (hn : 0 < n) :
    ∃ g cap, v = .slice (some ⟨g, 0, none⟩) n cap ∧ g < w.heap.size ∧ B ≤ g ∧ own g = t ∧ (∀ i, i < n → w.cell? ⟨g, i, none⟩ = xs[i]?) ∧ (∀ i, w.frozen? ⟨g, i, none⟩ = false) ∧ n ≤ cap := by
  rcases h.row.2 with ⟨_, h0⟩ | ⟨g, cap, cur, rfl, hb, hg, hcap, hr⟩
  · omega
  · have hl := ownsRow_lt h.row g rfl
    refine ⟨g, cap, rfl, hl.1, hb, h.tag g rfl, fun i hi => ?_, fun i => ?_, hcap⟩
    · exact World.ownsRow.cellAt h.row i (by omega)
    · exact World.ownsRow.frozenAt h.row i
theorem Row.form {w : World} {B : Nat} {own : Nat → Nat} {t e size : Nat} {v : Value} {n : Nat} {xs : List Value} (h : Row w B own t e size v n xs) : ∃ pa cap, v = .slice pa n cap := by
  rcases h.row.2 with ⟨rfl, rfl⟩ | ⟨g, cap, cur, rfl, _⟩
  · exact ⟨none, 0, rfl⟩
  · exact ⟨_, cap, rfl⟩
theorem Row.cap {w : World} {B : Nat} {own : Nat → Nat} {t e size n c : Nat} {pa : Option Addr} {xs : List Value} (h : Row w B own t e size (.slice pa n c) n xs) : n ≤ c ∧ c ≤ 9223372036854775807 := by
  rcases h.row.2 with ⟨h1, rfl⟩ | ⟨g, cap, cur, h1, _, _, hcap, hm, _⟩
  · simp at h1; omega
  · simp at h1
    obtain ⟨_, rfl⟩ := h1
    unfold maxLen at hm
    omega
theorem Inv.ints {w0 w : World} {b B : Nat} {own : Nat → Nat} {k c : Nat} {T : List ByteArray} {S : List (Nat × ByteArray)} {I J : List Value} {L : List (List Int)} (h : Inv w0 w b B own k c T S I J L) (i : Nat) (hi : i < L.length) :
    ∃ u v l, I[i]? = some u ∧ J[i]? = some v ∧ L[i]? = some l ∧ l.length ≤ 1048576 ∧ Row w B own (6 + 3 * i) 3 1 u l.length (nums l) ∧ Row w B own (7 + 3 * i) 3 1 v l.length (nums l) := by
  have hl : L[i]? = some L[i] := List.getElem?_eq_getElem hi
  obtain ⟨u, v, h1, h2, h3, h4⟩ := h.ll i _ hl
  exact ⟨u, v, L[i], h1, h2, hl, h.zl _ (List.getElem_mem hi), h3, h4⟩
set_option maxRecDepth 100000 in
set_option maxHeartbeats 2000000 in
theorem list_any {w0 w : World} {b B : Nat} {own : Nat → Nat} {k c : Nat} {T : List ByteArray} {S : List (Nat × ByteArray)} {I J : List Value} {L : List (List Int)} (h : Inv w0 w b B own k c T S I J L) (hk : k ≤ 1048576) (o : OpV) (ho : OpOk o) :
    Calls Tryz.prog 21 #[.pointer (some ⟨b, 0, none⟩), .agg #[.int .i64 o.kind, .int .i64 o.a, .int .i64 o.b, .int .i64 o.c, .string o.s]] w fun e w' => e = .returned (.tuple #[]) ∧ Inv w0 w' b B own k c T S I J L := by
  have HI : Hid (Inv w0 w b B own k c T S I J L) := h
  have hlt := h.lt
  have hLk := h.bt.2.2
  have hIL := h.li.1
  obtain ⟨vi, h5, hri⟩ := h.vi
  by_cases hz : L.length = 0
  · obtain ⟨pa, cap, rfl⟩ := hri.form
    rw [show I.length = 0 by omega] at h5
    clear hri h hIL hz hLk
    go_enter Tryz.func21, Tryz.ntmps21
    go_wp2
    exact bodyPost_ret (v := .tuple #[]) (by simp [results, Tryz.results21]) rfl ⟨rfl, HI.out.alloc _⟩
  · have hIz : ((I.length : Int) == 0) = false := beq_eq_false_iff_ne.2 (by omega)
    obtain ⟨g, cap, rfl, hg1, hg2, hg3, hgc, hgf, hcap⟩ := hri.at (by omega)
    obtain ⟨v11, h11⟩ := h.cells 11 (by omega)
    obtain ⟨v12, h12⟩ := h.cells 12 (by omega)
    obtain ⟨v13, h13⟩ := h.cells 13 (by omega)
    have f11 := h.fz 11
    have f12 := h.fz 12
    have f13 := h.fz 13
    obtain ⟨x7, h7, w7⟩ := h.nb 7 (by omega)
    obtain ⟨x8, h8, w8⟩ := h.nb 8 (by omega)
    obtain ⟨x9, h9, w9⟩ := h.nb 9 (by omega)
    have HO : Hid (OpOk o) := ho
    have HW : Hid ((Lit.int .i64 x7).wf = true ∧ (Lit.int .i64 x8).wf = true ∧ (Lit.int .i64 x9).wf = true) := ⟨w7, w8, w9⟩
    have HG : Hid (∀ i, i < I.length → w.cell? ⟨g, i, none⟩ = I[i]?) := hgc
    obtain ⟨nI, hnI⟩ : ∃ nI, nI = I.length := ⟨_, rfl⟩
    have HNI : Hid (nI = I.length) := hnI
    rw [← hnI] at hIz h5
    have hnk : 0 < nI ∧ nI ≤ 1048576 := by omega
    have hnk1 := hnk.1
    have hnk2 := hnk.2
    obtain ⟨i, hi, hin⟩ := pickI_nat o.b nI (by omega)
    obtain ⟨u, v, l, hu, hv, hl, hll, hru, hrv⟩ := h.ints i (by omega)
    obtain ⟨pu, cu, rfl⟩ := hru.form
    have hgi : w.cell? ⟨g, i, none⟩ = some (.slice pu l.length cu) := (hgc i (by omega)).trans hu
    have HPI : Hid (pickI o.b nI = (i : Int)) := hi
    obtain ⟨n, hn⟩ : ∃ n, n = l.length := ⟨_, rfl⟩
    rw [← hn] at hgi hll
    have HR : Hid (Row w B own (6 + 3 * i) 3 1 (.slice pu n cu) n (nums l)) := by rw [hn]; exact hru
    have hcu : n ≤ cu ∧ cu ≤ 9223372036854775807 := Row.cap HR.out
    clear hri h hgc hgf hcap w7 w8 w9 hnI hnk hIL hLk ho hz hi hu hv hl hru hrv hn
    go_enter Tryz.func21, Tryz.ntmps21
    go_wp2_with fail
    have hii : (i : Int) < (nI : Int) := by omega
    go_quiet ((go_at_call 14; exact Calls.quiet_of_same (lpick_at _ _ _ _ HO.out.wb (by omega) (by omega) HPI.out)))
    go_wp2_with fail
    obtain ⟨a1, ha1, ha2⟩ := pickI_nat x7 ((n : Int) + 1) (by omega)
    refine (lpick_at _ _ a1 _ HW.out.1 (by omega) (by omega) ha1).mono ?_
    rintro e w1 ⟨rfl, rfl⟩
    clear ha1
    go_wp2_with fail
    obtain ⟨a2, hb1, hb2⟩ := pickI_nat x8 ((n : Int) - (a1 : Int) + 1) (by omega)
    refine (lpick_at _ _ a2 _ HW.out.2.1 (by omega) (by omega) hb1).mono ?_
    rintro e w1 ⟨rfl, rfl⟩
    clear hb1
    go_wp2_with fail
    obtain ⟨a3, hc1, hc2⟩ := pickI_nat x9 ((n : Int) - (a1 : Int) - (a2 : Int) + 1) (by omega)
    refine (lpick_at _ _ a3 _ HW.out.2.2 (by omega) (by omega) hc1).mono ?_
    rintro e w1 ⟨rfl, rfl⟩
    clear hc1
    go_wp2_with fail
    all_goals
      obtain ⟨a4, hd1, hd2⟩ := pickI_nat o.a 3 (by omega)
      refine (lpick_at _ _ a4 _ HO.out.wa (by omega) (by omega) hd1).mono ?_
      rintro e w1 ⟨rfl, rfl⟩
      clear hd1
      have ha4 : a4 = 0 ∨ a4 = 1 ∨ a4 = 2 := by omega
      rcases ha4 with rfl | rfl | rfl
      · go_wp2
        go_end0
        exact ⟨rfl, ((HI.out.alloc _).al ((Al.refl _).drewN _)).ch 11 _ (by decide)⟩
      · go_wp2
        go_end0
        exact ⟨rfl, ((HI.out.alloc _).al ((Al.refl _).drewN _)).ch 12 _ (by decide)⟩
      · go_wp2
        go_end0
        exact ⟨rfl, ((HI.out.alloc _).al ((Al.refl _).drewN _)).ch 13 _ (by decide)⟩
end Go.Proofs.YtipdjbkkpjlamaaGreat
