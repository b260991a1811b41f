import Derived.Test.YtipdjbkkpjlamaaGreatSK
import Derived.WalkKit
import Derived.WalkSpells
import Derived.WalkLawsBesides
import Derived.Laws.OwnMore
import Derived.Deep.RegionHeld3
import Derived.Deep.DrawnRows
import Derived.Deep.QuietTactic
import Derived.BigQuiet
namespace Go.Proofs.YtipdjbkkpjlamaaGreat
open Go.RowKit
attribute [local go_sem ↓] Go.wp_at_zero Go.wp_at_succ
theorem Made.set {w W : World} {n : Nat} {l : List Int} (h : Made w W n l) (i : Nat) (x : Int) : Made w (W.setCell ⟨w.heap.size, i, none⟩ (.int .i64 x)) n (l.set i x) := by
  refine ⟨?_, by rw [World.size_setCell]; exact h.size, fun k hk => (Below.heap_setCell _ _ _ _ (by show k ≠ w.heap.size; omega)).trans (h.old k hk), h.os, h.tape, h.output⟩
  rw [heap_setCell_same _ _ _ _ _ _ h.row]
  simp [nums, List.map_set]
theorem Made.new (w : World) (n : Nat) : Made w (w.alloc (.cells (madeCells #[.int .i64 0] n) 3)) n (List.replicate n 0) := by
  have e : madeCells #[Value.int .i64 0] n = (nums (List.replicate n 0)).toArray := by rw [← made_list]
  rw [e]
  exact ⟨heap_alloc_new w _, by simp, fun i hi => Below.heap_alloc _ _ _ hi, rfl, rfl, rfl⟩
theorem Made.at {w W : World} {n : Nat} {l : List Int} (h : Made w W n l) (hn : n = l.length) (i : Nat) (hi : i < n) : ∃ v, W.cell? ⟨w.heap.size, i, none⟩ = some v := by
  refine ⟨.int .i64 (l.getD i 0), ?_⟩
  simp [World.cell?, h.row, nums, List.getD_eq_getElem?_getD, List.getElem?_eq_getElem (show i < l.length by omega)]
theorem Made.frozen {w W : World} {n : Nat} {l : List Int} (h : Made w W n l) (i : Nat) : W.frozen? ⟨w.heap.size, i, none⟩ = false := by
  simp [World.frozen?, h.row]
theorem Made.set' {w W : World} {n : Nat} {l : List Int} (h : Made w W n l) {g : Nat} (hg : w.heap.size = g) (i : Nat) (x : Int) : Made w (W.setCell ⟨g, i, none⟩ (.int .i64 x)) n (l.set i x) := by subst hg; exact h.set i x
set_option maxRecDepth 100000 in
set_option maxHeartbeats 2000000 in
theorem owner_nums {w0 w : World} {b B : Nat} {own : Nat → Nat} {k c : Nat} {T : List ByteArray} {S : List (Nat × ByteArray)} {I J : List Value} {L : List (List Int)} (h : Inv w0 w b B own k c T S I J L) (hk : k ≤ 1048576)
    (a0 b0 c0 : Int) (s0 : ByteArray) (hs : s0.size ≤ 1048576) :
    Calls Tryz.prog 10 #[.pointer (some ⟨b, 0, none⟩), .agg #[.int .i64 11, .int .i64 a0, .int .i64 b0, .int .i64 c0, .string s0]] w fun e w' => e = .returned (.bool true) ∧ St w0 w' b B (k + 1) c := by
  have HI : Hid (Inv w0 w b B own k c T S I J L) := h
  have hblt := h.lt
  have hmk := mk_ints s0.size hs
  clear h
  go_enter Tryz.func10, Tryz.ntmps10
  go_wp2_with fail
  obtain ⟨W, hW⟩ : ∃ W, W = w.alloc (Obj.cells #[.int .i64 11, .int .i64 a0, .int .i64 b0, .int .i64 c0, .string s0] 28) := ⟨_, rfl⟩
  have hWs : W.heap.size = w.heap.size + 1 := by rw [hW]; simp
  have hWc : W.cell? ⟨w.heap.size, 4, none⟩ = some (.string s0) := by rw [hW]; simp
  have HIW : Hid (Inv w0 W b B own k c T S I J L) := by rw [hW]; exact HI.out.alloc _
  have hM0 : Made W ((w.alloc (Obj.cells #[.int .i64 11, .int .i64 a0, .int .i64 b0, .int .i64 c0, .string s0] 28)).alloc (Obj.cells (madeCells #[Value.int IntKind.i64 0] s0.size) 3)) s0.size (List.replicate s0.size 0) := by rw [← hW]; exact Made.new W _
  obtain ⟨n, hn⟩ : ∃ n, n = s0.size := ⟨_, rfl⟩
  have HN : Hid (n = s0.size) := hn
  have hb1 : b < w.heap.size + 1 := by omega
  clear hW hmk
  go_loopw [6] (fun iv wr => ∃ (i : Nat) (l : List Int), i ≤ s0.size ∧ iv = .int .i64 i ∧ s0.size = l.length ∧ Made W wr s0.size l) (fun iv _ => (s0.size - intOf iv).toNat)
  case atStart => exact ⟨0, _, by omega, rfl, by simp, hM0⟩
  case round =>
    clear hM0
    obtain ⟨i, l, hi, rfl, hl, hm⟩ := hrel
    have HM : Hid (Made W wr s0.size l) := hm
    have HL : Hid (s0.size = l.length) := hl
    have c4 : wr.cell? ⟨w.heap.size, 4, none⟩ = some (.string s0) := (hm.below.cell (p := ⟨w.heap.size, 4, none⟩) (by show w.heap.size < _; omega)).trans hWc
    by_cases hlt : i < s0.size
    · obtain ⟨v, hv⟩ := hm.at hl i hlt
      have hf := hm.frozen i
      rw [hWs] at hv hf
      have hi2 : (i : Int) < (s0.size : Int) := by omega
      have hi0 : (0 : Int) ≤ (i : Int) := by omega
      clear hm hl
      go_wp2
      exact ⟨⟨i + 1, _, by omega, by go_num, by rw [List.length_set]; exact HL.out, HM.out.set' hWs i _⟩, by simp [intOf]; omega⟩
    · clear hm hl
      go_wp2_with fail
      have hII := HIW.out.later HM.out.below
      refine (keep_some hII hk _ _ _ l HL.out hs ?_ ?_).mono ?_
      · rw [← hWs]; exact HM.out.owns HL.out hs B (Nat.le_of_lt (Nat.lt_of_le_of_lt HIW.out.ge HIW.out.lt))
      · exact HIW.out.new _ (by omega)
      rintro e w1 ⟨rfl, hh⟩
      have HH : Hid (St w0 w1 b B (k + 1) c) := by obtain ⟨o', v', hh⟩ := hh; exact hh.st
      clear hh hII
      go_wp2
      go_ret
      exact ⟨rfl, HH.out⟩
end Go.Proofs.YtipdjbkkpjlamaaGreat
