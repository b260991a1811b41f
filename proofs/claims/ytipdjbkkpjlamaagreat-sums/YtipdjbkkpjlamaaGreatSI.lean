import Derived.Test.YtipdjbkkpjlamaaGreatSH
import Derived.WalkKit
import Derived.WalkSpells
import Derived.WalkLawsBesides
import Derived.Deep.RegionLaw
import Derived.Deep.RegionHeld3
import Derived.Deep.DrawnRows
import Derived.Deep.QuietTactic
import Derived.BigQuiet
import Derived.Lib.ConvBytes
import Derived.Laws.BytesArg
namespace Go.Proofs.YtipdjbkkpjlamaaGreat
open Go.RowKit
attribute [local go_sem ↓] Go.wp_at_zero Go.wp_at_succ
theorem bel_alloc {w W : World} (h : Below w.heap.size w W) (o : Obj) : Below w.heap.size w (W.alloc o) := h.alloc h.size o
theorem size_drewN (w : World) (n : Nat) : (w.drewN n).heap.size = w.heap.size := rfl
theorem new_cell {W : World} {x : Value} {t : TypeId} {g : Nat} (hg : g = W.heap.size) : (W.alloc (.cells #[x] t)).cell? ⟨g, 0, none⟩ = some x := by subst hg; simp
theorem new_cell_drew {W : World} {x : Value} {t : TypeId} {g : Nat} (hg : g = W.heap.size) : (W.alloc (.cells #[x] t)).drew.cell? ⟨g, 0, none⟩ = some x := by subst hg; simp
/-- at a plain region's list -/
theorem text_list {w0 w W : World} {b B : Nat} {own : Nat → Nat} {k c : Nat} {T : List ByteArray} {S : List (Nat × ByteArray)} {I J : List Value} {L : List (List Int)} {ops : Array Oper} {rest : List Oper} {o : Oper} {a : Act} {Q : Exit → Act → World → Prop} (hgd : o.guard = none) (s x : Operand)
    (ho : o.op = .call { callee := .builtin .append, args := #[s, x], argTypes := #[34, 34] }) {vt : Value} (hs : a.eval s = vt) {gb : Nat} (hx : a.eval x = .slice (some ⟨gb, 0, none⟩) 1 1)
    {t : ByteArray} (htz : t.size ≤ 1048576) (hk : k ≤ 1048576) (h : Inv w0 w b B own k c T S I J L) (h3 : w.cell? ⟨b, 3, none⟩ = some vt) (hb : Below w.heap.size w W) (hn : W.cell? ⟨gb, 0, none⟩ = some (.string t))
    (hK : ∀ g1 cap1 w2, (∃ own', Inv w0 (w2.setCell ⟨b, 3, none⟩ (.slice (some ⟨g1, 0, none⟩) (T.length + 1) cap1)) b B own' (k + 1) c (T ++ [t]) S I J L) → w2.cell? ⟨b, 3, none⟩ = some vt → w2.frozen? ⟨b, 3, none⟩ = false → wpList Tryz.prog ops Q rest (a.put o.dst (.slice (some ⟨g1, 0, none⟩) (T.length + 1) cap1)) w2) :
    wpList Tryz.prog ops Q (o :: rest) a W := by
  refine wpList_plain hgd fun _ hKK => ?_
  obtain ⟨g1, cap1, w2, hr, h2, h4, h5, _⟩ := text_run (h.later hb) hk htz ((hb.cell (p := ⟨b, 3, none⟩) h.lt).trans h3) hn o.type
  unfold Oper.wp execOp
  simp only [ho, resolve, invoke, builtin, Sem.run_bind, Sem.run_pure, Result.andThen_ok, List.map_toArray, List.map_cons, List.map_nil, hs, hx, hr]
  exact hKK _ _ (hK g1 cap1 w2 h2 h4 h5)
/-- the texts' row, where there are some -/
theorem Inv.txt {w0 w : World} {b B : Nat} {own : Nat → Nat} {k c : Nat} {T : List ByteArray} {S : List (Nat × ByteArray)} {I J : List Value} {L : List (List Int)} (h : Inv w0 w b B own k c T S I J L) (hz : 0 < T.length) :
    ∃ g cap, w.cell? ⟨b, 3, none⟩ = some (.slice (some ⟨g, 0, none⟩) T.length cap) ∧ g < w.heap.size ∧ ∀ i, i < T.length → ∃ t, T[i]? = some t ∧ t.size ≤ 1048576 ∧ w.cell? ⟨g, i, none⟩ = some (.string t) := by
  obtain ⟨vt, h3, hr⟩ := h.vt
  obtain ⟨g, cap, rfl, hg1, _, _, hc, _⟩ := hr.at hz
  refine ⟨g, cap, h3, hg1, fun i hi => ⟨T[i], List.getElem?_eq_getElem hi, h.zt _ (List.getElem_mem hi), ?_⟩⟩
  rw [hc i hi, List.getElem?_map, List.getElem?_eq_getElem hi]; rfl
set_option maxRecDepth 100000 in
set_option maxHeartbeats 2000000 in
theorem text_join {w0 w : World} {b B : Nat} {own : Nat → Nat} {k c : Nat} {T : List ByteArray} {S : List (Nat × ByteArray)} {I J : List Value} {L : List (List Int)} (h : Inv w0 w b B own k c T S I J L) (hk : k ≤ 1048576) (hz : 0 < T.length)
    (a0 b0 c0 : Int) (s0 : ByteArray) (ha : (Lit.int .i64 a0).wf = true) (hb : (Lit.int .i64 b0).wf = true) :
    Calls Tryz.prog 19 #[.pointer (some ⟨b, 0, none⟩), .agg #[.int .i64 6, .int .i64 a0, .int .i64 b0, .int .i64 c0, .string s0]] w fun e w' => e = .returned (.tuple #[]) ∧ ∃ own' T', Inv w0 w' b B own' (k + 1) c T' S I J L := by
  have HI : Hid (Inv w0 w b B own k c T S I J L) := h
  have hblt := h.lt
  have f3 := h.fz 3
  have hTk := h.bt.1
  obtain ⟨g, cap, h3, hgl, ht⟩ := h.txt hz
  obtain ⟨n, hn⟩ : ∃ n, n = T.length := ⟨_, rfl⟩
  have HN : Hid (n = T.length) := hn
  rw [← hn] at h3 ht hz hTk
  obtain ⟨i, hi, hin⟩ := pickI_nat a0 n (by omega)
  obtain ⟨j, hj, hjn⟩ := pickI_nat b0 n (by omega)
  have HPI : Hid (pickI a0 n = (i : Int)) := hi
  have HPJ : Hid (pickI b0 n = (j : Int)) := hj
  have HW : Hid ((Lit.int .i64 a0).wf = true ∧ (Lit.int .i64 b0).wf = true) := ⟨ha, hb⟩
  obtain ⟨t, _, hts, hti⟩ := ht i (by omega)
  obtain ⟨u, _, hus, huj⟩ := ht j (by omega)
  clear h ht hn hi hj ha hb
  go_enter Tryz.func19, Tryz.ntmps19
  go_wp2_with fail
  go_quiet ((go_at_call 14; exact Calls.quiet_of_same (lpick_at _ _ _ _ HW.out.1 (by omega) (by omega) HPI.out)))
  go_wp2_with fail
  generalize hW : (w.alloc (Obj.cells #[.int .i64 6, .int .i64 a0, .int .i64 b0, .int .i64 c0, .string s0] 28)).drewN nq = W
  have hBl : Below w.heap.size w W := by rw [← hW]; exact below_drewN ((Below.refl _ _).alloc (Nat.le_refl _) _) _
  have HB : Hid (Below w.heap.size w W) := hBl
  have hWs : w.heap.size + 1 = W.heap.size := by rw [← hW]; simp
  have k3 := (hBl.cell (p := ⟨b, 3, none⟩) hblt).trans h3
  have kf := (hBl.frozen (p := ⟨b, 3, none⟩) hblt).trans f3
  have kj := (hBl.cell (p := ⟨g, j, none⟩) hgl).trans huj
  have kb : W.cell? ⟨w.heap.size, 2, none⟩ = some (.int .i64 b0) := by rw [← hW]; simp
  have HT : Hid (w.cell? ⟨b, 3, none⟩ = some (.slice (some ⟨g, 0, none⟩) n cap)) := h3
  clear hW hBl h3 hti huj f3
  go_quiet ((go_at_call 14; exact Calls.quiet_of_same (lpick_at _ _ _ _ HW.out.2 (by omega) (by omega) HPJ.out)))
  by_cases hsz : (t.size : Int) + (u.size : Int) ≤ 1048576
  · go_wp2_with (at_builtin; go_loud (refine text_list (by rfl) (.tmp 81) (.tmp 85) (by rfl) (by rfl) (gb := W.heap.size) (by simp [Act.eval]) (t := t ++ u) (by rw [ByteArray.size_append]; omega) hk HI.out HT.out (by repeat (first | exact HB.out | refine Below.drew ?_ | refine below_drewN ?_ _ | refine bel_alloc ?_ _)) (new_cell rfl) ?_))
    intro g1 cap1 w2 own' hh c3 e3
    go_wp2
    go_end0
    exact ⟨rfl, own', _, hh⟩
  · go_wp2
    go_end0
    exact ⟨rfl, own, _, ((HI.out.later HB.out).drewN _).more _ _ (by omega) (by omega)⟩
set_option maxRecDepth 100000 in
set_option maxHeartbeats 2000000 in
theorem text_cut {w0 w : World} {b B : Nat} {own : Nat → Nat} {k c : Nat} {T : List ByteArray} {S : List (Nat × ByteArray)} {I J : List Value} {L : List (List Int)} (h : Inv w0 w b B own k c T S I J L) (hk : k ≤ 1048576) (hz : 0 < T.length)
    (a0 b0 c0 : Int) (s0 : ByteArray) (ha : (Lit.int .i64 a0).wf = true) (hb : (Lit.int .i64 b0).wf = true) (hc : (Lit.int .i64 c0).wf = true) :
    Calls Tryz.prog 19 #[.pointer (some ⟨b, 0, none⟩), .agg #[.int .i64 7, .int .i64 a0, .int .i64 b0, .int .i64 c0, .string s0]] w fun e w' => e = .returned (.tuple #[]) ∧ ∃ own' T', Inv w0 w' b B own' (k + 1) c T' S I J L := by
  have HI : Hid (Inv w0 w b B own k c T S I J L) := h
  have hblt := h.lt
  have f3 := h.fz 3
  have hTk := h.bt.1
  obtain ⟨g, cap, h3, hgl, ht⟩ := h.txt hz
  obtain ⟨n, hn⟩ : ∃ n, n = T.length := ⟨_, rfl⟩
  have HN : Hid (n = T.length) := hn
  rw [← hn] at h3 ht hz hTk
  obtain ⟨i, hi, hin⟩ := pickI_nat a0 n (by omega)
  have HPI : Hid (pickI a0 n = (i : Int)) := hi
  have HW : Hid ((Lit.int .i64 a0).wf = true ∧ (Lit.int .i64 b0).wf = true ∧ (Lit.int .i64 c0).wf = true) := ⟨ha, hb, hc⟩
  obtain ⟨t, _, hts, hti⟩ := ht i (by omega)
  clear h ht hn hi ha hb hc
  go_enter Tryz.func19, Tryz.ntmps19
  go_wp2_with fail
  go_quiet ((go_at_call 14; exact Calls.quiet_of_same (lpick_at _ _ _ _ HW.out.1 (by omega) (by omega) HPI.out)))
  go_wp2_with fail
  obtain ⟨a1, ha1, ha2⟩ := pickI_nat b0 ((t.size : Int) + 1) (by omega)
  refine (lpick_at _ _ a1 _ HW.out.2.1 (by omega) (by omega) ha1).mono ?_
  rintro e w1 ⟨rfl, rfl⟩
  clear ha1
  go_wp2_with fail
  obtain ⟨a2, hb1, hb2⟩ := pickI_nat c0 ((t.size : Int) - (a1 : Int) + 1) (by omega)
  refine (lpick_at _ _ a2 _ HW.out.2.2 (by omega) (by omega) hb1).mono ?_
  rintro e w1 ⟨rfl, rfl⟩
  clear hb1
  have q0 : (0 : Int) ≤ (a1 : Int) := by omega
  have q1 : (a1 : Int) ≤ (a1 : Int) + (a2 : Int) := by omega
  have q2 : (a1 : Int) + (a2 : Int) ≤ (t.size : Int) := by omega
  have q3 : IntKind.i64.wrap ((a1 : Int) + (a2 : Int)) = (a1 : Int) + (a2 : Int) := by rw [IntKind.wrap_i64]; omega
  have q4 : ((a1 : Int) + (a2 : Int)).toNat = a1 + a2 := by omega
  go_wp2_with fail
  go_region_law ((refine text_step (by rfl) (.tmp 109) (.tmp 116) (by rfl) (by first | rfl | simp) (gb := w.heap.size + 1) (by simp [Act.eval]) (t := t.extract a1 (a1 + a2)) (by rw [ByteArray.size_extract]; omega) hk HI.out h3 (by repeat (first | exact Below.refl _ _ | refine Below.drew ?_ | refine below_drewN ?_ _ | refine bel_alloc ?_ _)) (new_cell_drew (by rw [size_drewN]; simp)) ?_; intro g1 cap1 w2 hfin c3 e3))
  all_goals
    go_wp2
    go_end0
    obtain ⟨own', hh⟩ := hfin
    exact ⟨rfl, own', _, hh⟩
end Go.Proofs.YtipdjbkkpjlamaaGreat
