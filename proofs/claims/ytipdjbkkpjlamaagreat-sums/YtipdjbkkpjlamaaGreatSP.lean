import Derived.Test.YtipdjbkkpjlamaaGreatSO
import Derived.WalkKit
import Derived.WalkSpells
import Derived.WalkLawsBesides
import Derived.Lib.BufferWrite
import Derived.Laws.MakeOwn
namespace Go.Proofs.YtipdjbkkpjlamaaGreat
open Go.RowKit
/-- the bytes that 'summing' lays out: W is w but for the block H; its cells from lo on and ahead of hi are X's -/
structure Bk (w W : World) (H m : Nat) (X : Nat → Int) (lo hi : Nat) : Prop where
  upd : Upd H w W
  lt : H < W.heap.size
  val : ∀ k, lo ≤ k → k < hi → W.cell? ⟨H, k, none⟩ = some (.int .u8 (X k))
  any : ∀ k, k < m → ∃ v, W.cell? ⟨H, k, none⟩ = some v
  fz : ∀ k, W.frozen? ⟨H, k, none⟩ = false
theorem Bk.set {w W : World} {H m : Nat} {X : Nat → Int} {lo hi : Nat} (h : Bk w W H m X lo hi) (i : Nat) (x : Int) (lo' hi' : Nat) (hi0 : i < m) (hv : ∀ k, lo' ≤ k → k < hi' → k = i ∧ x = X k ∨ k ≠ i ∧ lo ≤ k ∧ k < hi) : Bk w (W.setCell ⟨H, i, none⟩ (.int .u8 x)) H m X lo' hi' := by
  refine ⟨⟨h.upd.os, h.upd.tape, h.upd.output, by rw [World.size_setCell]; exact h.upd.size, fun k hk hne => (Below.heap_setCell _ _ _ _ hne).trans (h.upd.block k hk hne)⟩, by rw [World.size_setCell]; exact h.lt, fun k h1 h2 => ?_, fun k hk => ?_, fun k => by rw [World.frozen?_setCell]; exact h.fz k⟩
  · obtain ⟨v, hv'⟩ := h.any i hi0
    rcases hv k h1 h2 with ⟨rfl, rfl⟩ | ⟨hne, h3, h4⟩
    · exact cs_same hv'
    · rw [cs_other (addr_ne (Ne.symm hne))]; exact h.val k h3 h4
  · obtain ⟨v, hv'⟩ := h.any k hk
    by_cases e : k = i
    · subst e; exact ⟨_, cs_same hv'⟩
    · exact ⟨v, by rw [cs_other (addr_ne (Ne.symm e))]; exact hv'⟩
theorem Bk.al {w W W' : World} {H m : Nat} {X : Nat → Int} {lo hi : Nat} (h : Bk w W H m X lo hi) (ha : Al W W') : Bk w W' H m X lo hi :=
  ⟨⟨ha.os.trans h.upd.os, ha.tape.trans h.upd.tape, ha.output.trans h.upd.output, by rw [ha.heap]; exact h.upd.size, fun k hk hne => by rw [ha.heap]; exact h.upd.block k hk hne⟩, by rw [ha.heap]; exact h.lt, fun k h1 h2 => (ha.cell _).trans (h.val k h1 h2), fun k hk => by obtain ⟨v, hv⟩ := h.any k hk; exact ⟨v, (ha.cell _).trans hv⟩, fun k => (ha.frozen _).trans (h.fz k)⟩
theorem Bk.block {w W w' : World} {H m : Nat} {X : Nat → Int} {lo hi : Nat} (h : Bk w W H m X lo hi) (hb : w'.heap[H]? = W.heap[H]?) (hlt : H < w'.heap.size) : Bk w' w' H m X lo hi :=
  ⟨Upd.refl _ _, hlt, fun k h1 h2 => (World.cell?_of_block (a := ⟨H, k, none⟩) hb).trans (h.val k h1 h2), fun k hk => by obtain ⟨v, hv⟩ := h.any k hk; exact ⟨v, (World.cell?_of_block (a := ⟨H, k, none⟩) hb).trans hv⟩, fun k => (World.frozen?_of_block (a := ⟨H, k, none⟩) hb).trans (h.fz k)⟩
theorem Inv.bk {w0 w W : World} {b B : Nat} {own : Nat → Nat} {k c : Nat} {T : List ByteArray} {S : List (Nat × ByteArray)} {I J : List Value} {L : List (List Int)} {H m : Nat} {X : Nat → Int} {lo hi : Nat} (h : Inv w0 w b B own k c T S I J L) (hB : B ≤ H) (hH : own H = 0) (hk : Bk w W H m X lo hi) : Inv w0 W b B own k c T S I J L := by
  refine h.quiet ((Chg.refl own 0 w).upd hk.upd (.inl hH)) (h.bel.trans ⟨hk.upd.os, hk.upd.tape, hk.upd.output, hk.upd.size, fun q hq => hk.upd.block q ?_ (by omega)⟩) (fun i hi => h.new i (by have := hk.upd.size; omega))
  have := h.ge; have := h.lt; omega
theorem Rep.bk {w W : World} {b : Nat} {l : List UInt8} {L R : Nat → Int} {H m : Nat} {X : Nat → Int} {lo hi : Nat} (h : Rep w b l L R) (hne : b ≠ H) (hk : Bk w W H m X lo hi) : Rep W b l L R := h.of_cells (hk.upd.block b h.lt hne)
/-- the bytes of s, and then x's -/
def padX (s : ByteArray) (k : Nat) : Int := if k < s.size then (gOf s k : Int) else 120
theorem Tryz.infoByte : (Tryz.prog.info? 5).map (fun i => (i.zero, i.size, i.bytes)) = some (some (.int .u8 0), 1, 1) := by kernel_rfl
theorem Tryz.sizeByte : (Tryz.prog.info? 5).map (·.size) = some 1 := by kernel_rfl
/-- 'make([]byte, n)' -/
theorem mk_bytes (n : Nat) (z : Int) (hz : z = (n : Int)) (hn : n ≤ 2097152) (w : World) : (Instr.makeSlice 74 (.int .i64 z) (.int .i64 z)).run Tryz.prog w = .ok (.slice (some ⟨w.heap.size, 0, none⟩) n n) (w.alloc (.cells (madeCells #[.int .u8 0] n) 5)) := by
  subst hz
  obtain ⟨i, hi, hz, h1, h2⟩ := info_parts Tryz.infoByte
  have := run_make (P := Tryz.prog) w 74 5 i (.int .u8 0) Tryz.underlying74 hi hz .i64 .i64 n n (by omega) (by omega) (by rw [h2]; omega) (by omega)
  rw [h1, Int.toNat_natCast, Nat.mul_one] at this
  exact this
/-- 'copy(b, s)' into a new row -/
theorem cp_bytes (W : World) (s : ByteArray) (m : Nat) (hm : s.size ≤ m) :
    ∃ V, (Builtin.copy_ #[74, 9] 3 #[.slice (some ⟨W.heap.size, 0, none⟩) m m, .string s]).run Tryz.prog (W.alloc (.cells (madeCells #[.int .u8 0] m) 5)) = .ok (.int .i64 (s.size : Int)) V ∧ Bk W V W.heap.size m (padX s) 0 s.size := by
  have hl : s.data.toList.length = s.size := by rw [Array.length_toList]; rfl
  have hr := Lib.run_copy_row_string (P := Tryz.prog) (W.alloc (.cells (madeCells #[.int .u8 0] m) 5)) 74 9 3 5 W.heap.size 0 m m s (madeCells #[.int .u8 0] m) 5 Tryz.underlying74 Tryz.sizeByte (heap_alloc_new W _) hm (by rw [size_madeCells]; omega)
  refine ⟨_, hr, ?_⟩
  have hrow := setRow_heap _ _ _ (((madeCells #[.int .u8 0] m).toList.take 0 ++ Lib.byteCells s.data.toList ++ (madeCells #[.int .u8 0] m).toList.drop (0 + s.size)).toArray) _ _ (heap_alloc_new W (.cells (madeCells #[Value.int .u8 0] m) 5))
  have hbl : (Lib.byteCells s.data.toList).length = s.size := by rw [Lib.byteCells_length]; exact hl
  refine ⟨⟨rfl, rfl, rfl, by rw [size_setRow]; simp, fun k hk hne => by rw [setRow_other _ _ _ _ hne]; exact Below.heap_alloc _ _ _ hk⟩, by rw [size_setRow]; simp, fun k _ hk => ?_, fun k hk => ?_, fun k => frozen_of_row _ _ _ _ _ hrow⟩
  · rw [cell_of_row _ _ _ _ _ _ hrow, List.take_zero, List.nil_append, List.getElem?_toArray, List.getElem?_append_left (by omega)]
    unfold padX gOf
    rw [if_pos hk]
    simp [Lib.byteCells, List.getD_eq_getElem?_getD, List.getElem?_eq_getElem (show k < s.data.toList.length by omega)]
  · rw [cell_of_row _ _ _ _ _ _ hrow, List.getElem?_toArray]
    exact ⟨_, List.getElem?_eq_getElem (by rw [List.take_zero, List.nil_append, List.length_append, hbl, List.length_drop, Array.length_toList, size_madeCells]; omega)⟩
end Go.Proofs.YtipdjbkkpjlamaaGreat
