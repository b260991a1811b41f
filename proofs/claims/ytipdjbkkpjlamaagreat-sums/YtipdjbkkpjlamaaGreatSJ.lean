import Derived.Test.YtipdjbkkpjlamaaGreatSI
import Derived.WalkKit
import Derived.WalkSpells
import Derived.WalkLawsBesides
import Derived.Deep.RegionLaw
import Derived.Deep.RegionHeld3
import Derived.Deep.DrawnRows
import Derived.Deep.QuietTactic
import Derived.BigQuiet
import Derived.Lib.ConvBytes
import Derived.Laws.BytesArg
namespace Go.Proofs.YtipdjbkkpjlamaaGreat
open Go.RowKit
attribute [local go_sem ↓] Go.wp_at_zero Go.wp_at_succ
theorem bw_frozen (W : World) (e : TypeId) (t : ByteArray) (j : Nat) (hj : j < t.size) : (Lib.bytesWorld W e t).frozen? ⟨W.heap.size, j, none⟩ = false := by
  simp [World.frozen?, Lib.bytesWorld_at_new, Lib.bytesCells]
  omega
theorem bw_below (W : World) (t : ByteArray) (j : Nat) (x : Int) : Below W.heap.size W ((Lib.bytesWorld W 5 t).setCell ⟨W.heap.size, j, none⟩ (.int .u8 x)) :=
  (⟨rfl, rfl, rfl, by rw [Lib.bytesWorld_size]; omega, fun k hk => Lib.bytesWorld_at_old W _ t k hk⟩ : Below W.heap.size W (Lib.bytesWorld W 5 t)).setCell (Nat.le_refl _) _
/-- 'string(b)' of the bytes of t, one of them turned -/
theorem bw_back (W : World) (t : ByteArray) (j : Nat) (x : Int) (cap : Nat) (hj : j < t.size) :
    ∃ X : ByteArray, X.size = t.size ∧ (convert 74 9 (.slice (some ⟨W.heap.size, 0, none⟩) t.size cap)).run Tryz.prog ((Lib.bytesWorld W 5 t).setCell ⟨W.heap.size, j, none⟩ (.int .u8 x)).drew = .ok (.string X) ((Lib.bytesWorld W 5 t).setCell ⟨W.heap.size, j, none⟩ (.int .u8 x)).drew := by
  have hl : t.data.toList.length = t.size := by rw [Array.length_toList]; rfl
  refine ⟨_, ?_, run_convert_bytes_arg (P := Tryz.prog) _ 74 5 Tryz.underlying74 Tryz.underlying5 W.heap.size 0 t.size cap ((t.data.toList.map (fun b => (b.toNat : Int))).set j x) (by simp) (fun i hi => ?_) 9 Tryz.underlying9⟩
  · rw [strOfNums_size]; simp
  · show ((Lib.bytesWorld W 5 t).setCell ⟨W.heap.size, j, none⟩ (.int .u8 x)).cell? ⟨W.heap.size, 0 + i, none⟩ = _
    rw [Nat.zero_add]
    by_cases e : i = j
    · subst e
      rw [cs_same (Lib.bytesWorld_cell W _ t i hi), List.getD_eq_getElem?_getD, List.getElem?_set_self (by simp; omega)]
      rfl
    · rw [cs_other (addr_ne (Ne.symm e)), Lib.bytesWorld_cell W _ t i hi, List.getD_eq_getElem?_getD, List.getD_eq_getElem?_getD, List.getElem?_set_ne (Ne.symm e), List.getElem?_map, List.getElem?_eq_getElem (by omega)]
      rfl
set_option maxRecDepth 100000 in
set_option maxHeartbeats 2000000 in
theorem text_turn {w0 w : World} {b B : Nat} {own : Nat → Nat} {k c : Nat} {T : List ByteArray} {S : List (Nat × ByteArray)} {I J : List Value} {L : List (List Int)} (h : Inv w0 w b B own k c T S I J L) (hk : k ≤ 1048576) (hz : 0 < T.length)
    (a0 b0 c0 : Int) (s0 : ByteArray) (ha : (Lit.int .i64 a0).wf = true) (hb : (Lit.int .i64 b0).wf = true) :
    Calls Tryz.prog 19 #[.pointer (some ⟨b, 0, none⟩), .agg #[.int .i64 5, .int .i64 a0, .int .i64 b0, .int .i64 c0, .string s0]] w fun e w' => e = .returned (.tuple #[]) ∧ ∃ own' T', Inv w0 w' b B own' (k + 1) c T' S I J L := by
  have HI : Hid (Inv w0 w b B own k c T S I J L) := h
  have hblt := h.lt
  have f3 := h.fz 3
  have hTk := h.bt.1
  obtain ⟨g, cap, h3, hgl, ht⟩ := h.txt hz
  obtain ⟨n, hn⟩ : ∃ n, n = T.length := ⟨_, rfl⟩
  have HN : Hid (n = T.length) := hn
  rw [← hn] at h3 ht hz hTk
  obtain ⟨i, hi, hin⟩ := pickI_nat a0 n (by omega)
  have HPI : Hid (pickI a0 n = (i : Int)) := hi
  have HW : Hid ((Lit.int .i64 a0).wf = true ∧ (Lit.int .i64 b0).wf = true) := ⟨ha, hb⟩
  obtain ⟨t, _, hts, hti⟩ := ht i (by omega)
  have kc := fun (w : World) (s : ByteArray) => Lib.run_convert_string_bytes (P := Tryz.prog) w 9 74 5 s Tryz.underlying9 Tryz.underlying74 Tryz.underlying5
  clear h ht hn hi ha hb
  go_enter Tryz.func19, Tryz.ntmps19
  go_wp2_with fail
  go_quiet ((go_at_call 14; exact Calls.quiet_of_same (lpick_at _ _ _ _ HW.out.1 (by omega) (by omega) HPI.out)))
  by_cases hz : (0 : Int) < (t.size : Int)
  · generalize hW : (w.alloc (Obj.cells #[.int .i64 5, .int .i64 a0, .int .i64 b0, .int .i64 c0, .string s0] 28)).drewN nq = W
    have hBl : Below w.heap.size w W := by rw [← hW]; exact below_drewN ((Below.refl _ _).alloc (Nat.le_refl _) _) _
    have HB : Hid (Below w.heap.size w W) := hBl
    have hWs : W.heap.size = w.heap.size + 1 := by rw [← hW]; simp
    have k0 : W.cell? ⟨w.heap.size, 0, none⟩ = some (.int .i64 5) := by rw [← hW]; simp
    have kb : (Lib.bytesWorld W 5 t).cell? ⟨w.heap.size, 2, none⟩ = some (.int .i64 b0) := by rw [Lib.bytesWorld_old _ _ _ _ (by show w.heap.size < _; omega), ← hW]; simp
    have kd : (Lib.bytesWorld W 5 t).cell? ⟨w.heap.size, 3, none⟩ = some (.int .i64 c0) := by rw [Lib.bytesWorld_old _ _ _ _ (by show w.heap.size < _; omega), ← hW]; simp
    have k3 : (Lib.bytesWorld W 5 t).cell? ⟨b, 3, none⟩ = some (.slice (some ⟨g, 0, none⟩) n cap) := (Lib.bytesWorld_old _ _ _ _ (by show b < _; omega)).trans ((hBl.cell (p := ⟨b, 3, none⟩) hblt).trans h3)
    have kf : (Lib.bytesWorld W 5 t).frozen? ⟨b, 3, none⟩ = false := (World.frozen?_of_block (w := W) (a := ⟨b, 3, none⟩) (Lib.bytesWorld_at_old W _ t b (by omega))).trans ((hBl.frozen (p := ⟨b, 3, none⟩) hblt).trans f3)
    clear hW hBl
    go_wp2_with fail
    obtain ⟨a1, ha1, ha2⟩ := pickI_nat b0 (t.size : Int) (by omega)
    refine (lpick_at _ _ a1 _ HW.out.2 (by omega) (by omega) ha1).mono ?_
    rintro e w1 ⟨rfl, rfl⟩
    clear ha1
    have q0 : (0 : Int) ≤ (a1 : Int) := by omega
    have kx := Lib.bytesWorld_cell W 5 t a1 (by omega)
    have kz : (Lib.bytesWorld W 5 t).frozen? ⟨W.heap.size, a1, none⟩ = false := bw_frozen W _ t a1 (by omega)
    rw [hWs] at kx kz
    go_wp2_with fail
    generalize hX : c0 % 256 = x
    obtain ⟨X, hXs, hconv⟩ := bw_back W t a1 x (grownCap W t.size 0 5) (by omega)
    have hbb := HB.out.trans ((bw_below W t a1 x).mono (by omega))
    rw [hWs] at hconv hbb
    have HC : Hid (Below w.heap.size w ((Lib.bytesWorld W 5 t).setCell ⟨w.heap.size + 1, a1, none⟩ (.int .u8 x))) := hbb
    have d3 : ((Lib.bytesWorld W 5 t).setCell ⟨w.heap.size + 1, a1, none⟩ (.int .u8 x)).cell? ⟨b, 3, none⟩ = some (.slice (some ⟨g, 0, none⟩) n cap) := (HC.out.cell (p := ⟨b, 3, none⟩) hblt).trans h3
    have df : ((Lib.bytesWorld W 5 t).setCell ⟨w.heap.size + 1, a1, none⟩ (.int .u8 x)).frozen? ⟨b, 3, none⟩ = false := (HC.out.frozen (p := ⟨b, 3, none⟩) hblt).trans f3
    have ds : ((Lib.bytesWorld W 5 t).setCell ⟨w.heap.size + 1, a1, none⟩ (.int .u8 x)).heap.size = w.heap.size + 2 := by rw [World.size_setCell, Lib.bytesWorld_size]; omega
    generalize ((Lib.bytesWorld W 5 t).setCell ⟨w.heap.size + 1, a1, none⟩ (.int .u8 x)) = V at *
    have dlt : b < V.heap.size := by omega
    clear kb kd k3 kf kx kz k0 hX hWs hbb ds
    go_region_law ((refine text_step (by rfl) (.tmp 48) (.tmp 51) (by rfl) (by first | rfl | simp) (gb := V.heap.size) (by simp [Act.eval]) (t := X) (by omega) hk HI.out h3 (by repeat (first | exact HC.out | refine Below.drew ?_ | refine below_drewN ?_ _ | refine bel_alloc ?_ _)) (new_cell_drew rfl) ?_; intro g1 cap1 w2 hfin c3 e3))
    all_goals
      go_wp2
      go_end0
      obtain ⟨own', hh⟩ := hfin
      exact ⟨rfl, own', _, hh⟩
  · go_wp2
    go_end0
    exact ⟨rfl, own, _, (((HI.out.alloc _).drewN _)).more _ _ (by omega) (by omega)⟩
end Go.Proofs.YtipdjbkkpjlamaaGreat
