import Derived.Test.YtkfilgfcgmohlaaJ05
import Derived.Test.YtkfilgfcgmohlaaJ06
import Derived.WalkKit
import Derived.WalkSpells
import Derived.WalkLawsBesides
import Derived.Laws.MakeOwn
import Derived.Deep.CutRange
namespace Go.Proofs.Ytkfilgfcgmohlaa
open Go.RowKit
/-- a row of numbers at block g -/
structure ArrF (w : World) (g size : Nat) (F : Nat → Nat) : Prop where
  c : ∀ x, x < size → w.cell? ⟨g, x, none⟩ = some (.int .i64 (F x : Int))
  f : ∀ x, w.frozen? ⟨g, x, none⟩ = false
theorem ArrF.keep {w w' : World} {g size : Nat} {F : Nat → Nat} (h : ArrF w g size F) (hg : w'.heap[g]? = w.heap[g]?) : ArrF w' g size F :=
  ⟨fun x hx => (World.cell?_of_block (w := w) (a := ⟨g, x, none⟩) hg).trans (h.c x hx), fun x => (World.frozen?_of_block (w := w) (a := ⟨g, x, none⟩) hg).trans (h.f x)⟩
theorem ArrF.set {w : World} {g size : Nat} {F : Nat → Nat} (h : ArrF w g size F) (x v : Nat) (hx : x < size) (y : Int) (hy : y = (v : Int)) : ArrF (w.setCell ⟨g, x, none⟩ (.int .i64 y)) g size (updN F x v) := by
  refine ⟨fun i hi => ?_, fun i => by rw [World.frozen?_setCell]; exact h.f i⟩
  by_cases e : i = x
  · subst e; rw [updN_same, cs_same (h.c i hi), hy]
  · rw [updN_other _ _ _ _ e, cs_other (addr_ne (by omega))]; exact h.c i hi
theorem ArrF.ext {w : World} {g size : Nat} {F G : Nat → Nat} (h : ArrF w g size F) (he : ∀ x, x < size → F x = G x) : ArrF w g size G := ⟨fun x hx => by rw [← he x hx]; exact h.c x hx, h.f⟩
theorem ArrF.lt {w : World} {g size : Nat} {F : Nat → Nat} (h : ArrF w g size F) (h0 : 0 < size) : g < w.heap.size := block_lt_of_cell (h.c 0 h0)
theorem mk_i (n : Nat) (hn : n ≤ 1048576) (w : World) : (Instr.makeSlice 83 (.int .i64 (n : Int)) (.int .i64 (n : Int))).run Try.prog w = .ok (.slice (some ⟨w.heap.size, 0, none⟩) n n) (w.alloc (.cells (madeCells #[.int .i64 0] n) 3)) := by
  obtain ⟨i, hi, hz, h1, h2⟩ := fInfo fInt
  have := run_make (P := Try.prog) w 83 3 i (.int .i64 0) Try.underlying83 hi hz .i64 .i64 n n (by omega) (by omega) (by rw [h2]; omega) (by omega)
  rw [h1, Int.toNat_natCast, Nat.mul_one] at this
  exact this
theorem made_l (n : Nat) : (madeCells #[Value.int .i64 0] n).toList = List.replicate n (.int .i64 0) := toList_madeCells_one _ _
theorem made_arr (w : World) (n : Nat) : ArrF (w.alloc (.cells (madeCells #[.int .i64 0] n) 3)) w.heap.size n (fun _ => 0) := by
  refine ⟨fun x hx => ?_, fun x => by simp⟩
  rw [World.cell?_alloc_new, ← Array.getElem?_toList, made_l]
  simp [hx]
/-- a table in the making -/
structure OfW (w wr : World) (t gs gb gl size log : Nat) (F B L : Nat → Nat) : Prop where
  c0 : wr.cell? ⟨t, 0, none⟩ = some (.int .i64 (log : Int))
  c1 : wr.cell? ⟨t, 1, none⟩ = some (.slice (some ⟨gs, 0, none⟩) size size)
  c2 : wr.cell? ⟨t, 1 + 1, none⟩ = some (.slice (some ⟨gb, 0, none⟩) size size)
  c3 : wr.cell? ⟨t, 1 + 1 + 1, none⟩ = some (.slice (some ⟨gl, 0, none⟩) size size)
  s : ArrF wr gs size F
  b : ArrF wr gb size B
  l : ArrF wr gl size L
  bel : Below w.heap.size w wr
  dt : w.heap.size ≤ t ∧ w.heap.size ≤ gs ∧ w.heap.size ≤ gb ∧ w.heap.size ≤ gl
  ne : t ≠ gs ∧ t ≠ gb ∧ t ≠ gl ∧ gs ≠ gb ∧ gs ≠ gl ∧ gb ≠ gl
theorem OfW.sm {w wr w1 : World} {t gs gb gl size log : Nat} {F B L : Nat → Nat} (h : OfW w wr t gs gb gl size log F B L) (hs : Sm wr w1) : OfW w w1 t gs gb gl size log F B L :=
  ⟨(hs.cell _).trans h.c0, (hs.cell _).trans h.c1, (hs.cell _).trans h.c2, (hs.cell _).trans h.c3, h.s.keep (by rw [hs.heap]), h.b.keep (by rw [hs.heap]), h.l.keep (by rw [hs.heap]), h.bel.trans (hs.below _), h.dt, h.ne⟩
theorem OfW.setS {w wr : World} {t gs gb gl size log : Nat} {F B L : Nat → Nat} (h : OfW w wr t gs gb gl size log F B L) (x v : Nat) (hx : x < size) (y : Int) (hy : y = (v : Int)) : OfW w (wr.setCell ⟨gs, x, none⟩ (.int .i64 y)) t gs gb gl size log (updN F x v) B L :=
  ⟨by rw [cs_other (blk_ne (Ne.symm h.ne.1))]; exact h.c0, by rw [cs_other (blk_ne (Ne.symm h.ne.1))]; exact h.c1, by rw [cs_other (blk_ne (Ne.symm h.ne.1))]; exact h.c2, by rw [cs_other (blk_ne (Ne.symm h.ne.1))]; exact h.c3,
   h.s.set x v hx y hy, h.b.keep (Below.heap_setCell _ _ _ _ (Ne.symm h.ne.2.2.2.1)), h.l.keep (Below.heap_setCell _ _ _ _ (Ne.symm h.ne.2.2.2.2.1)), h.bel.setCell h.dt.2.1 _, h.dt, h.ne⟩
theorem OfW.setB {w wr : World} {t gs gb gl size log : Nat} {F B L : Nat → Nat} (h : OfW w wr t gs gb gl size log F B L) (x v : Nat) (hx : x < size) (y : Int) (hy : y = (v : Int)) : OfW w (wr.setCell ⟨gb, x, none⟩ (.int .i64 y)) t gs gb gl size log F (updN B x v) L :=
  ⟨by rw [cs_other (blk_ne (Ne.symm h.ne.2.1))]; exact h.c0, by rw [cs_other (blk_ne (Ne.symm h.ne.2.1))]; exact h.c1, by rw [cs_other (blk_ne (Ne.symm h.ne.2.1))]; exact h.c2, by rw [cs_other (blk_ne (Ne.symm h.ne.2.1))]; exact h.c3,
   h.s.keep (Below.heap_setCell _ _ _ _ h.ne.2.2.2.1), h.b.set x v hx y hy, h.l.keep (Below.heap_setCell _ _ _ _ (Ne.symm h.ne.2.2.2.2.2)), h.bel.setCell h.dt.2.2.1 _, h.dt, h.ne⟩
theorem OfW.setL {w wr : World} {t gs gb gl size log : Nat} {F B L : Nat → Nat} (h : OfW w wr t gs gb gl size log F B L) (x v : Nat) (hx : x < size) (y : Int) (hy : y = (v : Int)) : OfW w (wr.setCell ⟨gl, x, none⟩ (.int .i64 y)) t gs gb gl size log F B (updN L x v) :=
  ⟨by rw [cs_other (blk_ne (Ne.symm h.ne.2.2.1))]; exact h.c0, by rw [cs_other (blk_ne (Ne.symm h.ne.2.2.1))]; exact h.c1, by rw [cs_other (blk_ne (Ne.symm h.ne.2.2.1))]; exact h.c2, by rw [cs_other (blk_ne (Ne.symm h.ne.2.2.1))]; exact h.c3,
   h.s.keep (Below.heap_setCell _ _ _ _ h.ne.2.2.2.2.1), h.b.keep (Below.heap_setCell _ _ _ _ h.ne.2.2.2.2.2), h.l.set x v hx y hy, h.bel.setCell h.dt.2.2.2 _, h.dt, h.ne⟩
theorem OfW.extB {w wr : World} {t gs gb gl size log : Nat} {F B L B' L' : Nat → Nat} (h : OfW w wr t gs gb gl size log F B L) (hb : ∀ x, x < size → B x = B' x) (hl : ∀ x, x < size → L x = L' x) : OfW w wr t gs gb gl size log F B' L' :=
  ⟨h.c0, h.c1, h.c2, h.c3, h.s, h.b.ext hb, h.l.ext hl, h.bel, h.dt, h.ne⟩
set_option maxHeartbeats 1000000 in
theorem step_any (x size : Nat) (w : World) (hx : x ≤ 65536) (h0 : 0 < size) (hs : size ≤ 65536) :
    Calls Try.prog 96 #[.int .i64 (x : Int), .int .i64 (size : Int)] w fun e w' => e = .returned (.int .i64 (((x + size / 2 + size / 8 + 3) % size : Nat) : Int)) ∧ w' = w := by
  go_enter Try.func96, Try.ntmps96
  go_wp2
  go_ret
  exact ⟨ret_int (by push_cast; rfl), rfl⟩
theorem skipT_lt {size : Nat} (h0 : 0 < size) (free : Nat) : ∀ k x, x < size → skipT size free k x < size
  | 0, _, h => h
  | k + 1, x, h => by
    rw [skipT]
    split
    · exact skipT_lt h0 free k _ (Nat.mod_lt _ h0)
    · exact h
theorem nextT_lt {size : Nat} (h0 : 0 < size) (free x : Nat) : nextT size free x < size := skipT_lt h0 free _ _ (Nat.mod_lt _ h0)
theorem plcT_lt {size : Nat} (h0 : 0 < size) (free s : Nat) : ∀ k st, st.1 < size → (plcT size free s k st).1 < size
  | 0, _, h => h
  | k + 1, _, _ => plcT_lt h0 free s k _ (nextT_lt h0 free _)
theorem ph2_lt (o : List Int) {size : Nat} (h0 : 0 < size) : ∀ s, (ph2 o size s).1 < size
  | 0 => h0
  | s + 1 => plcT_lt h0 _ _ _ _ (ph2_lt o h0 s)
theorem OfW.start {w : World} {size log a b c : Nat} (ha : a = w.heap.size ∨ a = w.heap.size + 1 ∨ a = w.heap.size + 1 + 1) (hb : b = w.heap.size ∨ b = w.heap.size + 1 ∨ b = w.heap.size + 1 + 1) (hc : c = w.heap.size ∨ c = w.heap.size + 1 ∨ c = w.heap.size + 1 + 1) (h1 : a ≠ b) (h2 : a ≠ c) (h3 : b ≠ c) :
    OfW w ((((w.alloc (Obj.cells (madeCells #[Value.int IntKind.i64 0] size) 3)).alloc (Obj.cells (madeCells #[Value.int IntKind.i64 0] size) 3)).alloc (Obj.cells (madeCells #[Value.int IntKind.i64 0] size) 3)).alloc
      (Obj.cells #[Value.int IntKind.i64 (log : Int), Value.slice (some ⟨a, 0, none⟩) size size, Value.slice (some ⟨b, 0, none⟩) size size, Value.slice (some ⟨c, 0, none⟩) size size] 137)).drew
      (w.heap.size + 1 + 1 + 1) a b c size log (fun _ => 0) (fun _ => 0) (fun _ => 0) := by
  have key : ∀ o : Obj, ∀ x, (x = w.heap.size ∨ x = w.heap.size + 1 ∨ x = w.heap.size + 1 + 1) → ArrF ((((w.alloc (Obj.cells (madeCells #[Value.int IntKind.i64 0] size) 3)).alloc (Obj.cells (madeCells #[Value.int IntKind.i64 0] size) 3)).alloc (Obj.cells (madeCells #[Value.int IntKind.i64 0] size) 3)).alloc o).drew x size (fun _ => 0) := by
    intro o x hx
    rcases hx with rfl | rfl | rfl
    · refine (made_arr w size).keep ?_
      show ((((w.alloc _).alloc _).alloc _).alloc o).heap[w.heap.size]? = _
      rw [Below.heap_alloc _ _ _ (by simp <;> omega), Below.heap_alloc _ _ _ (by simp <;> omega), Below.heap_alloc _ _ _ (by simp)]
    · have := made_arr (w.alloc (Obj.cells (madeCells #[Value.int IntKind.i64 0] size) 3)) size
      rw [show (w.alloc (Obj.cells (madeCells #[Value.int IntKind.i64 0] size) 3)).heap.size = w.heap.size + 1 by simp] at this
      refine this.keep ?_
      show ((((w.alloc _).alloc _).alloc _).alloc o).heap[w.heap.size + 1]? = _
      rw [Below.heap_alloc _ _ _ (by simp <;> omega), Below.heap_alloc _ _ _ (by simp)]
    · have := made_arr ((w.alloc (Obj.cells (madeCells #[Value.int IntKind.i64 0] size) 3)).alloc (Obj.cells (madeCells #[Value.int IntKind.i64 0] size) 3)) size
      rw [show ((w.alloc (Obj.cells (madeCells #[Value.int IntKind.i64 0] size) 3)).alloc (Obj.cells (madeCells #[Value.int IntKind.i64 0] size) 3)).heap.size = w.heap.size + 1 + 1 by simp] at this
      refine this.keep ?_
      show ((((w.alloc _).alloc _).alloc _).alloc o).heap[w.heap.size + 1 + 1]? = _
      rw [Below.heap_alloc _ _ _ (by simp)]
  exact ⟨by rw [World.cell?_drew, World.cell?_alloc_at _ _ _ _ (by simp)]; rfl, by rw [World.cell?_drew, World.cell?_alloc_at _ _ _ _ (by simp)]; rfl, by rw [World.cell?_drew, World.cell?_alloc_at _ _ _ _ (by simp)]; rfl, by rw [World.cell?_drew, World.cell?_alloc_at _ _ _ _ (by simp)]; rfl, key _ a ha, key _ b hb, key _ c hc, (((((Below.refl _ _).alloc (Nat.le_refl _) _).alloc (by simp) _).alloc (by simp <;> omega) _).alloc (by simp <;> omega) _).drew, by omega, by omega⟩
/-- the number in a cell -/
def cellN (w : World) (a : Addr) : Nat := match w.cell? a with
  | some (.int _ v) => v.toNat
  | _ => 0
theorem cellN_of {w : World} {a : Addr} {v : Nat} (h : w.cell? a = some (.int .i64 (v : Int))) : cellN w a = v := by unfold cellN; rw [h]; simp
/-- what Of answers -/
def OfQ (o : List Int) (log : Nat) (w : World) (e : Ending) (w' : World) : Prop :=
  ∃ t gs gb gl, e = .returned (.pointer (some ⟨t, 0, none⟩)) ∧ OfW w w' t gs gb gl (2 ^ log) log (symT o (2 ^ log)) (bitT o log) (lowT o log)
set_option maxRecDepth 100000 in
set_option maxHeartbeats 4000000 in
theorem of_any (o : List Int) (log go cap top : Nat) (w : World) (ho : ∀ i, i < o.length → w.cell? ⟨go, i, none⟩ = some (.int .i64 (oAt o i))) (hd : Dist top o (2 ^ log)) (hsz : isSize (2 ^ log)) (htop : top ≤ 255) (hlog : log ≤ 9) :
    Calls Try.prog 80 #[.slice (some ⟨go, 0, none⟩) o.length cap, .int .i64 (log : Int)] w fun e w' => OfQ o log w e w' := by
  obtain ⟨size, hsize⟩ : ∃ size, size = 2 ^ log := ⟨_, rfl⟩
  have hp := pow_int log size hsize
  have HS : Hid (size = 2 ^ log) := hsize
  rw [← hsize] at hsz hd
  have h512 := hsz.le
  have h32 := hsz.ge
  have hlen : o.length ≤ 256 := by have := hd.len; omega
  have HD : Hid (Dist top o size ∧ isSize size) := ⟨hd, hsz⟩
  have HO : Hid (∀ i, i < o.length → w.cell? ⟨go, i, none⟩ = some (.int .i64 (oAt o i))) := ho
  have hgo : 0 < o.length → go < w.heap.size := fun h => block_lt_of_cell (ho 0 h)
  have hmk := mk_i size (by omega)
  clear hsz hd hsize ho
  go_enter Try.func80, Try.ntmps80
  go_upto_region 2 with fail
  go_cut [6] from 17 to 25 (fun tv wx => ∃ t gs gb gl, tv = .pointer (some ⟨t, 0, none⟩) ∧ OfW w wx t gs gb gl size log (fun _ => 0) (fun _ => 0) (fun _ => 0))
  case first =>
    go_region
    all_goals
      go_wp2_with fail
      go_meet
    all_goals exact ⟨_, _, _, _, rfl, OfW.start (by omega) (by omega) (by omega) (by omega) (by omega) (by omega)⟩
  case rest =>
    obtain ⟨t, gs, gb, gl, rfl, hW⟩ := hcut
    have HW : Hid (OfW w wc t gs gb gl size log (fun _ => 0) (fun _ => 0) (fun _ => 0)) := hW
    clear hW hmk
    go_wp2_with fail
    go_loopw [7, 8] (fun fv sv wr => ∃ s : Nat, s ≤ o.length ∧ sv = .int .i64 s ∧ fv = .int .i64 ((ph1 o size s).1 : Int) ∧ OfW w wr t gs gb gl size log (ph1 o size s).2 (fun _ => 0) (fun _ => 0)) (fun _ sv _ => (o.length - intOf sv).toNat)
    case atStart => exact ⟨0, by omega, rfl, rfl, HW.out⟩
    case round =>
      clear HW
      obtain ⟨s, hs, rfl, rfl, hW⟩ := hrel
      have HW : Hid (OfW w wr t gs gb gl size log (ph1 o size s).2 (fun _ => 0) (fun _ => 0)) := hW
      have c1 := hW.c1
      have hbel := hW.bel
      have hra := parts o HD.out.1
      have hrm := rareS_mono o hs
      have hfr := ph1_free o (size := size) s (by omega)
      by_cases hlt : s < o.length
      · have co : wr.cell? ⟨go, s, none⟩ = some (.int .i64 (oAt o s)) := (hbel.cell (p := ⟨go, s, none⟩) (hgo (by omega))).trans (HO.out s hlt)
        have hrm1 := rareS_mono o (show s + 1 ≤ o.length from hlt)
        have hfr1 := ph1_free o (size := size) (s + 1) (by omega)
        have hlI : (s : Int) < (o.length : Int) := by omega
        have h0I : (0 : Int) ≤ (s : Int) := by omega
        obtain ⟨fr, hfe⟩ : ∃ fr, fr = (ph1 o size s).1 := ⟨_, rfl⟩
        have HFE : Hid (fr = (ph1 o size s).1) := hfe
        rw [← hfe] at hfr ⊢
        by_cases hrare : oAt o s = -1
        · have hph : ph1 o size (s + 1) = (fr - 1, updN (ph1 o size s).2 (fr - 1) s) := by rw [ph1, if_pos hrare, ← hfe]
          have HPH : Hid (ph1 o size (s + 1) = (fr - 1, updN (ph1 o size s).2 (fr - 1) s)) := hph
          have hfr0 : 1 ≤ fr := by
            simp only [rareS] at hfr1 hrm1
            rw [if_pos hrare] at hfr1 hrm1
            omega
          rw [hrare] at co
          have hcs : wr.cell? ⟨gs, fr - 1, none⟩ = some (.int .i64 (((ph1 o size s).2 (fr - 1) : Nat) : Int)) := hW.s.c (fr - 1) (by omega)
          have hfs := hW.s.f (fr - 1)
          obtain ⟨f1, hf1⟩ : ∃ f1, f1 = fr - 1 := ⟨_, rfl⟩
          have hf1' : (fr : Int) = (f1 : Int) + 1 := by omega
          rw [← hf1] at hcs hfs HPH
          have hfz : (f1 : Int) < (size : Int) := by omega
          rw [hf1']
          have hfs512 : (f1 : Int) ≤ 512 := by omega
          clear hW hfe hph hbel hra hrm hrm1 hfr1 hf1 hf1' hfr
          go_wp2_with fail
          refine ⟨⟨s + 1, by omega, by go_num, by rw [HPH.out], ?_⟩, by simp [intOf]; omega⟩
          rw [HPH.out]
          exact HW.out.setS f1 s (by omega) _ rfl
        · have HPH : Hid (ph1 o size (s + 1) = ph1 o size s) := by show _ = _; rw [ph1, if_neg hrare]
          have hb : (oAt o s == -1) = false := by simp [hrare]
          clear hW hbel hra hrm hrm1 hfr1 hfr
          go_wp2_with fail
          refine ⟨⟨s + 1, by omega, by go_num, by rw [HPH.out, HFE.out], ?_⟩, by simp [intOf]; omega⟩
          rw [HPH.out]
          exact HW.out
      · obtain rfl : s = o.length := by omega
        clear hW c1 hbel hra hrm hfr
        have HF : Hid ((ph1 o size o.length).1 = freeT o size) := rfl
        rw [HF.out]
        have hfree : freeT o size ≤ size := by
          have := free_pos o HD.out.1
          have := parts o HD.out.1
          omega
        obtain ⟨free, hfree0⟩ : ∃ free, free = freeT o size := ⟨_, rfl⟩
        have HFR : Hid (free = freeT o size) := hfree0
        rw [← hfree0] at hfree ⊢
        clear hfree0 HF
        go_wp2_with fail
        go_loopw [9, 10] (fun av sv wr => ∃ s : Nat, s ≤ o.length ∧ sv = .int .i64 s ∧ av = .int .i64 ((ph2 o size s).1 : Int) ∧ OfW w wr t gs gb gl size log (ph2 o size s).2 (fun _ => 0) (fun _ => 0)) (fun _ sv _ => (o.length - intOf sv).toNat)
        case atStart => exact ⟨0, by omega, rfl, rfl, HW.out⟩
        case round =>
          clear HW
          obtain ⟨s, hs, rfl, rfl, hW⟩ := hrel
          have HW : Hid (OfW w wr t gs gb gl size log (ph2 o size s).2 (fun _ => 0) (fun _ => 0)) := hW
          have hbel := hW.bel
          by_cases hlt : s < o.length
          · have co : wr.cell? ⟨go, s, none⟩ = some (.int .i64 (oAt o s)) := (hbel.cell (p := ⟨go, s, none⟩) (hgo (by omega))).trans (HO.out s hlt)
            have hlI : (s : Int) < (o.length : Int) := by omega
            have h0I : (0 : Int) ≤ (s : Int) := by omega
            have hpm := posS_mono o (show s + 1 ≤ o.length from hlt)
            have hpa := parts o HD.out.1
            simp only [posS] at hpm
            obtain ⟨m, hm⟩ : ∃ m, m = oAt o s := ⟨_, rfl⟩
            have HM : Hid (m = oAt o s) := hm
            have hm512 : m ≤ 512 := by omega
            have hmlo : -1 ≤ m := by
              have hx : o[s]? = some o[s] := List.getElem?_eq_getElem hlt
              have e : oAt o s = o[s] := by unfold oAt; rw [List.getD_eq_getElem?_getD, hx]; rfl
              rw [hm, e]; exact HD.out.1.low _ (List.getElem_mem _)
            rw [← hm] at co
            clear hW hbel hpm hpa hm
            go_wp2_with fail
            go_loopw [9, 11] (fun av kv wr => ∃ q : Nat, q ≤ m.toNat ∧ kv = .int .i64 (m - q) ∧ av = .int .i64 ((plcT size free s q (ph2 o size s)).1 : Int) ∧ OfW w wr t gs gb gl size log (plcT size free s q (ph2 o size s)).2 (fun _ => 0) (fun _ => 0)) (fun _ kv _ => (intOf kv).toNat)
            case atStart => exact ⟨0, by omega, by simp, rfl, HW.out⟩
            case round =>
              clear HW
              obtain ⟨q, hq, rfl, rfl, hW⟩ := hrel
              have HW : Hid (OfW w wr t gs gb gl size log (plcT size free s q (ph2 o size s)).2 (fun _ => 0) (fun _ => 0)) := hW
              have c1 := hW.c1
              have hatl := plcT_lt (by omega) free s q (ph2 o size s) (ph2_lt o (by omega) s)
              by_cases hqm : (q : Int) < m
              · obtain ⟨x, hx⟩ : ∃ x, x = (plcT size free s q (ph2 o size s)).1 := ⟨_, rfl⟩
                have HX : Hid (x = (plcT size free s q (ph2 o size s)).1) := hx
                rw [← hx] at hatl ⊢
                have hcs := hW.s.c x hatl
                have hfs := hW.s.f x
                have hxI : (x : Int) < (size : Int) := by omega
                have hx0 : (0 : Int) ≤ (x : Int) := by omega
                have hpos : (0 : Int) < m - q := by omega
                clear hW hx
                go_wp2_with fail
                refine (step_any x size _ (by omega) (by omega) (by omega)).mono ?_
                rintro e wy ⟨rfl, hwy⟩
                rw [hwy]
                clear hwy
                have HV : Hid (OfW w (wr.setCell ⟨gs, x, none⟩ (.int .i64 (s : Int))) t gs gb gl size log (updN (plcT size free s q (ph2 o size s)).2 x s) (fun _ => 0) (fun _ => 0)) := HW.out.setS x s hatl _ rfl
                generalize (wr.setCell ⟨gs, x, none⟩ (.int .i64 (s : Int))) = V at HV ⊢
                obtain ⟨y, hy⟩ : ∃ y, y = (x + size / 2 + size / 8 + 3) % size := ⟨_, rfl⟩
                have hyl : y < size := by rw [hy]; exact Nat.mod_lt _ (by omega)
                have HN : Hid (skipT size free size y = nextT size free x) := by show _ = _; rw [hy]; rfl
                rw [← hy]
                clear hy hcs hfs
                go_wp2_with fail
                go_loop [9] (fun av => ∃ z fuel, av = .int .i64 ((z : Nat) : Int) ∧ z < size ∧ toZero size z ≤ fuel ∧ skipT size free fuel z = nextT size free x) (fun av => toZero size (intOf av).toNat)
                case atStart => exact ⟨y, size, rfl, hyl, Nat.le_of_lt (toZero_lt HD.out.2 y), HN.out⟩
                case round =>
                  clear HN hyl
                  obtain ⟨z, fuel, rfl, hzl, hzf, hzs⟩ := hrel
                  have HZ : Hid (toZero size z ≤ fuel ∧ skipT size free fuel z = nextT size free x) := ⟨hzf, hzs⟩
                  clear hzf hzs
                  by_cases hgo2 : free ≤ z ∧ 0 < free
                  · have hb1 : decide ((free : Int) ≤ (z : Int)) = true := decide_eq_true (by omega)
                    have hb2 : decide ((0 : Int) < (free : Int)) = true := decide_eq_true (by omega)
                    go_wp2_with fail
                    refine (step_any z size _ (by omega) (by omega) (by omega)).mono ?_
                    rintro e wy ⟨rfl, hwy⟩
                    rw [hwy]
                    clear hwy
                    have hts := toZero_step HD.out.2 z hzl (by omega)
                    obtain ⟨z', hz'⟩ : ∃ z', z' = (z + size / 2 + size / 8 + 3) % size := ⟨_, rfl⟩
                    have HT : Hid (toZero size z' < toZero size z ∧ z' = (z + size / 2 + size / 8 + 3) % size) := ⟨by rw [hz']; exact hts, hz'⟩
                    rw [← hz']
                    clear hz' hts
                    go_wp2_with fail
                    go_round
                    case rel =>
                      refine ⟨z', fuel - 1, rfl, by rw [HT.out.2]; exact Nat.mod_lt _ (by omega), ?_, ?_⟩
                      · have := HT.out.1; have := HZ.out.1; omega
                      · rw [← HZ.out.2]
                        have h1 := HT.out.1
                        have h2 := HZ.out.1
                        cases fuel with
                        | zero => omega
                        | succ f => rw [Nat.add_sub_cancel, skipT, if_pos hgo2, ← HT.out.2]
                    case measure => exact HT.out.1
                  · have HE : Hid (nextT size free x = z) := by
                      show _ = _
                      rw [← HZ.out.2]
                      cases fuel with
                      | zero => rfl
                      | succ f => rw [skipT, if_neg hgo2]
                    have HR : Hid (∃ q' : Nat, q' ≤ m.toNat ∧ (.int .i64 (m - q - 1) : Value) = .int .i64 (m - q') ∧ (.int .i64 (z : Int) : Value) = .int .i64 ((plcT size free s q' (ph2 o size s)).1 : Int) ∧ OfW w V t gs gb gl size log (plcT size free s q' (ph2 o size s)).2 (fun _ => 0) (fun _ => 0)) := by
                      refine ⟨q + 1, by omega, by rw [show m - (q : Int) - 1 = m - ((q + 1 : Nat) : Int) by omega], ?_, ?_⟩
                      · rw [plcT_succ, ← HX.out]; show _ = Value.int .i64 ((nextT size free x : Nat) : Int); rw [HE.out]
                      · rw [plcT_succ, ← HX.out]; exact HV.out
                    by_cases hfz : free ≤ z
                    · have hb1 : decide ((free : Int) ≤ (z : Int)) = true := decide_eq_true (by omega)
                      have hb2 : decide ((0 : Int) < (free : Int)) = false := decide_eq_false (by omega)
                      go_wp2_with fail
                      exact ⟨HR.out, by simp [intOf]; omega⟩
                    · have hb1 : decide ((free : Int) ≤ (z : Int)) = false := decide_eq_false (by omega)
                      go_wp2_with fail
                      exact ⟨HR.out, by simp [intOf]; omega⟩
              · have HE : Hid (ph2 o size (s + 1) = plcT size free s q (ph2 o size s)) := by
                  show _ = _
                  rw [ph2, ← HFR.out, ← HM.out, show m.toNat = q by omega]
                clear hW c1 hatl
                go_wp2_with fail
                refine ⟨⟨s + 1, by omega, by go_num, by rw [HE.out], by rw [HE.out]; exact HW.out⟩, by simp [intOf]; omega⟩
          · obtain rfl : s = o.length := by omega
            have HW2 : Hid (OfW w wr t gs gb gl size log (symT o size) (fun _ => 0) (fun _ => 0)) := hW
            clear hW HW hbel
            go_wp2_with fail
            go_loopw [12] (fun xv wr => ∃ x : Nat, x ≤ size ∧ xv = .int .i64 x ∧ OfW w wr t gs gb gl size log (symT o size) (fun y => if y < x then bitT o log y else 0) (fun y => if y < x then lowT o log y else 0)) (fun xv _ => (size - intOf xv).toNat)
            case atStart => exact ⟨0, by omega, rfl, HW2.out.extB (fun x _ => by simp) (fun x _ => by simp)⟩
            case round =>
              clear HW2
              obtain ⟨x, hx, rfl, hW⟩ := hrel
              have HW : Hid (OfW w wr t gs gb gl size log (symT o size) (fun y => if y < x then bitT o log y else 0) (fun y => if y < x then lowT o log y else 0)) := hW
              by_cases hlt : x < size
              · have hsy := sym_ok o HD.out.2 HD.out.1 x hlt
                have c1 := hW.c1
                have cs := hW.s.c x hlt
                have co : wr.cell? ⟨go, symT o size x, none⟩ = some (.int .i64 (oAt o (symT o size x))) := (hW.bel.cell (p := ⟨go, symT o size x, none⟩) (hgo (by omega))).trans (HO.out _ hsy.1)
                have hnum : 1 ≤ numT o size x ∧ numT o size x < 2 * size := num_ok o HD.out.2 HD.out.1 x hlt
                have HL : Hid (bitT o log x ≤ log ∧ size ≤ numT o size x * 2 ^ bitT o log x ∧ lowT o log x = numT o size x * 2 ^ bitT o log x - size ∧ bitT o log x = log + 1 - wid (numT o size x)) := by
                  have := low_ok o (top := top) (log := log) (by rw [← HS.out]; exact HD.out.2) (by rw [← HS.out]; exact HD.out.1) x (by rw [← HS.out]; exact hlt)
                  rw [← HS.out] at this
                  exact ⟨this.1, this.2.1, by unfold lowT; rw [← HS.out], by unfold bitT; rw [← HS.out]⟩
                have hxI : (x : Int) < (size : Int) := by omega
                have hx0 : (0 : Int) ≤ (x : Int) := by omega
                have HNT : Hid (numT o size x = (if oAt o (symT o size x) < 0 then 1 else (oAt o (symT o size x)).toNat) + cntP (fun y => symT o size y == symT o size x) x) := rfl
                obtain ⟨sy, hsye⟩ : ∃ sy, sy = symT o size x := ⟨_, rfl⟩
                have HSY : Hid (sy = symT o size x) := hsye
                obtain ⟨m, hm⟩ : ∃ m, m = oAt o sy := ⟨_, rfl⟩
                rw [← hsye] at cs co hsy HNT
                rw [← hm] at co hsy HNT
                obtain ⟨n0, hn0⟩ : ∃ n0 : Nat, n0 = if m < 0 then 1 else m.toNat := ⟨_, rfl⟩
                have hn0b : 1 ≤ n0 ∧ n0 ≤ 512 := by rw [hn0]; split <;> omega
                rw [← hn0] at HNT
                have hsl : (sy : Int) < (o.length : Int) := by omega
                have hs0 : (0 : Int) ≤ (sy : Int) := by omega
                obtain ⟨B0, hB0⟩ : ∃ B0 : Nat → Nat, B0 = fun y => if y < x then bitT o log y else 0 := ⟨_, rfl⟩
                obtain ⟨L0, hL0⟩ : ∃ L0 : Nat → Nat, L0 = fun y => if y < x then lowT o log y else 0 := ⟨_, rfl⟩
                have HBL : Hid (B0 = (fun y => if y < x then bitT o log y else 0) ∧ L0 = (fun y => if y < x then lowT o log y else 0)) := ⟨hB0, hL0⟩
                rw [← hB0, ← hL0] at HW
                have hm01 : (m < 0 ∧ n0 = 1) ∨ (¬ m < 0 ∧ m = (n0 : Int)) := by
                  by_cases h : m < 0
                  · exact .inl ⟨h, by rw [hn0, if_pos h]⟩
                  · exact .inr ⟨h, by rw [hn0, if_neg h]; omega⟩
                clear hW hsye hm hn0 hB0 hL0
                rcases hm01 with ⟨hm0, hn0⟩ | ⟨hm0, hn0⟩
                · have hdb : decide (m < 0) = true := decide_eq_true hm0
                  subst hn0
                  go_wp2_with fail
                  go_loopw [13, 14] (fun nv yv wr => ∃ y : Nat, y ≤ x ∧ yv = .int .i64 y ∧ nv = .int .i64 ((1 + cntP (fun y => symT o size y == sy) y : Nat) : Int) ∧ OfW w wr t gs gb gl size log (symT o size) B0 L0) (fun _ yv _ => (x - intOf yv).toNat)
                  case atStart => exact ⟨0, by omega, rfl, by simp [cntP], HW.out⟩
                  case round =>
                    clear HW c1 cs co
                    obtain ⟨y, hy, rfl, rfl, hW⟩ := hrel
                    have HW : Hid (OfW w wr t gs gb gl size log (symT o size) B0 L0) := hW
                    have hcl := cntP_le (fun y => symT o size y == sy) y
                    have HC : Hid (cntP (fun y => symT o size y == sy) (y + 1) = cntP (fun y => symT o size y == sy) y + if symT o size y == sy then 1 else 0) := rfl
                    by_cases hyx : y < x
                    · have c1 := hW.c1
                      have cs := hW.s.c x hlt
                      rw [← HSY.out] at cs
                      have cy := hW.s.c y (by omega)
                      have hyI : (y : Int) < (size : Int) := by omega
                      have hy0 : (0 : Int) ≤ (y : Int) := by omega
                      obtain ⟨sv, hsv⟩ : ∃ sv, sv = symT o size y := ⟨_, rfl⟩
                      rw [← hsv] at cy HC
                      obtain ⟨cn, hcn⟩ : ∃ cn, cn = cntP (fun y => symT o size y == sy) y := ⟨_, rfl⟩
                      rw [← hcn] at HC hcl ⊢
                      clear hW hsv hcn
                      by_cases he : sv = sy
                      · subst he
                        have hbb : ((sv : Int) == (sv : Int)) = true := by simp
                        go_wp2_with fail
                        go_region
                        go_wp2_with fail
                        refine ⟨⟨y + 1, by omega, by go_num, ?_, HW.out.sm ((Sm.refl _).drew)⟩, by simp [intOf]; omega⟩
                        rw [HC.out]; simp; omega
                      · have hbb : ((sv : Int) == (sy : Int)) = false := by simp; omega
                        go_wp2_with fail
                        go_region
                        go_wp2_with fail
                        refine ⟨⟨y + 1, by omega, by go_num, ?_, HW.out.sm ((Sm.refl _).drew)⟩, by simp [intOf]; omega⟩
                        rw [HC.out]; simp [he]
                    · obtain rfl : y = x := by omega
                      obtain ⟨n, hn⟩ : ∃ n, n = numT o size y := ⟨_, rfl⟩
                      have hne : 1 + cntP (fun y => symT o size y == sy) y = n := by rw [hn, HNT.out]
                      rw [hne]
                      rw [← hn] at hnum HL
                      have HBX : Hid (OfW w wr t gs gb gl size log (symT o size) (updN B0 y 0) L0) := HW.out.extB (fun x' _ => by
                        by_cases e : x' = y
                        · subst e; rw [updN_same, HBL.out.1]; simp
                        · rw [updN_other _ _ _ _ e]) (fun _ _ => rfl)
                      clear hW HW hn hne hcl HC HNT
                      go_wp2_with fail
                      go_loopw [] (fun wr => ∃ b : Nat, b ≤ bitT o log y ∧ OfW w wr t gs gb gl size log (symT o size) (updN B0 y b) L0) (fun wr => bitT o log y - cellN wr ⟨gb, y, none⟩)
                      case atStart => exact ⟨0, by omega, HBX.out⟩
                      case round =>
                        clear HBX
                        obtain ⟨b, hb, hW⟩ := hrel
                        have HW : Hid (OfW w wr t gs gb gl size log (symT o size) (updN B0 y b) L0) := hW
                        have c2 := hW.c2
                        have c3 := hW.c3
                        have cb := hW.b.c y hlt
                        rw [updN_same] at cb
                        have fb := hW.b.f y
                        have cl := hW.l.c y hlt
                        have fl := hW.l.f y
                        have hbl : b ≤ log := Nat.le_trans hb HL.out.1
                        have hsh := shl_lt n b log hnum.1
                        rw [← HS.out] at hsh
                        obtain ⟨p, hpe⟩ : ∃ p, p = n * 2 ^ b := ⟨_, rfl⟩
                        rw [← hpe] at hsh
                        have hpi : (n : Int) * 2 ^ b = (p : Int) := by rw [hpe]; norm_cast
                        have hpb : p ≤ 524288 := by
                          have h1 : 2 ^ b ≤ 2 ^ 9 := Nat.pow_le_pow_right (by omega) (by omega)
                          have h2 : n * 2 ^ b ≤ 1024 * 2 ^ 9 := Nat.mul_le_mul (by omega) h1
                          omega
                        have HP : Hid (p = n * 2 ^ b) := hpe
                        have hgbl : gb ≠ gl := hW.ne.2.2.2.2.2
                        clear hW hpe
                        by_cases hpl : p < size
                        · have hb1 : b < bitT o log y := by
                            have := hsh.1 hpl
                            have := HL.out.2.2.2
                            omega
                          have HCN : Hid (cellN wr ⟨gb, y, none⟩ = b) := cellN_of cb
                          clear hsh
                          go_wp2_with fail
                          refine ⟨⟨b + 1, by omega, ?_⟩, ?_⟩
                          · exact (HW.out.setB y (b + 1) hlt _ (by omega)).extB (fun x' _ => by
                              by_cases e : x' = y
                              · subst e; rw [updN_same, updN_same]
                              · rw [updN_other _ _ _ _ e, updN_other _ _ _ _ e, updN_other _ _ _ _ e]) (fun _ _ => rfl)
                          · rw [HCN.out, cellN_of (v := b + 1) (by rw [cs_same cb, Int.natCast_add]; rfl)]; omega
                        · have hbe : b = bitT o log y := by
                            have h1 : ¬ (b + wid n ≤ log) := fun h => hpl (hsh.2 h)
                            have := HL.out.2.2.2
                            omega
                          have HBE : Hid (b = bitT o log y) := hbe
                          have hpge : (size : Int) ≤ (p : Int) := by omega
                          clear hsh hbe
                          go_wp2_with fail
                          go_region
                          go_wp2_with fail
                          refine ⟨⟨y + 1, by omega, by go_num, ?_⟩, by simp [intOf]; omega⟩
                          refine ((HW.out.setL y (lowT o log y) hlt _ ?_).sm ((Sm.refl _).drew)).extB (fun x' _ => ?_) (fun x' _ => ?_)
                          · have h1 := HL.out.2.2.1
                            have h2 := HL.out.2.1
                            have h3 := HP.out
                            rw [← HBE.out] at h1 h2
                            rw [← h3] at h1 h2
                            omega
                          · by_cases e : x' = y
                            · subst e; rw [updN_same, if_pos (by omega)]; exact HBE.out
                            · rw [updN_other _ _ _ _ e, HBL.out.1]
                              by_cases e2 : x' < y
                              · simp [e2, show x' < y + 1 by omega]
                              · simp [e2, show ¬ x' < y + 1 by omega]
                          · by_cases e : x' = y
                            · subst e; rw [updN_same, if_pos (by omega)]
                            · rw [updN_other _ _ _ _ e, HBL.out.2]
                              by_cases e2 : x' < y
                              · simp [e2, show x' < y + 1 by omega]
                              · simp [e2, show ¬ x' < y + 1 by omega]
                · subst hn0
                  have hdb : decide ((n0 : Int) < 0) = false := decide_eq_false hm0
                  go_wp2_with fail
                  go_loopw [13, 14] (fun nv yv wr => ∃ y : Nat, y ≤ x ∧ yv = .int .i64 y ∧ nv = .int .i64 ((n0 + cntP (fun y => symT o size y == sy) y : Nat) : Int) ∧ OfW w wr t gs gb gl size log (symT o size) B0 L0) (fun _ yv _ => (x - intOf yv).toNat)
                  case atStart => exact ⟨0, by omega, rfl, by simp [cntP], HW.out⟩
                  case round =>
                    clear HW c1 cs co
                    obtain ⟨y, hy, rfl, rfl, hW⟩ := hrel
                    have HW : Hid (OfW w wr t gs gb gl size log (symT o size) B0 L0) := hW
                    have hcl := cntP_le (fun y => symT o size y == sy) y
                    have HC : Hid (cntP (fun y => symT o size y == sy) (y + 1) = cntP (fun y => symT o size y == sy) y + if symT o size y == sy then 1 else 0) := rfl
                    by_cases hyx : y < x
                    · have c1 := hW.c1
                      have cs := hW.s.c x hlt
                      rw [← HSY.out] at cs
                      have cy := hW.s.c y (by omega)
                      have hyI : (y : Int) < (size : Int) := by omega
                      have hy0 : (0 : Int) ≤ (y : Int) := by omega
                      obtain ⟨sv, hsv⟩ : ∃ sv, sv = symT o size y := ⟨_, rfl⟩
                      rw [← hsv] at cy HC
                      obtain ⟨cn, hcn⟩ : ∃ cn, cn = cntP (fun y => symT o size y == sy) y := ⟨_, rfl⟩
                      rw [← hcn] at HC hcl ⊢
                      clear hW hsv hcn
                      by_cases he : sv = sy
                      · subst he
                        have hbb : ((sv : Int) == (sv : Int)) = true := by simp
                        go_wp2_with fail
                        go_region
                        go_wp2_with fail
                        refine ⟨⟨y + 1, by omega, by go_num, ?_, HW.out.sm ((Sm.refl _).drew)⟩, by simp [intOf]; omega⟩
                        rw [HC.out]; simp; omega
                      · have hbb : ((sv : Int) == (sy : Int)) = false := by simp; omega
                        go_wp2_with fail
                        go_region
                        go_wp2_with fail
                        refine ⟨⟨y + 1, by omega, by go_num, ?_, HW.out.sm ((Sm.refl _).drew)⟩, by simp [intOf]; omega⟩
                        rw [HC.out]; simp [he]
                    · obtain rfl : y = x := by omega
                      obtain ⟨n, hn⟩ : ∃ n, n = numT o size y := ⟨_, rfl⟩
                      have hne : n0 + cntP (fun y => symT o size y == sy) y = n := by rw [hn, HNT.out]
                      rw [hne]
                      rw [← hn] at hnum HL
                      have HBX : Hid (OfW w wr t gs gb gl size log (symT o size) (updN B0 y 0) L0) := HW.out.extB (fun x' _ => by
                        by_cases e : x' = y
                        · subst e; rw [updN_same, HBL.out.1]; simp
                        · rw [updN_other _ _ _ _ e]) (fun _ _ => rfl)
                      clear hW HW hn hne hcl HC HNT
                      go_wp2_with fail
                      go_loopw [] (fun wr => ∃ b : Nat, b ≤ bitT o log y ∧ OfW w wr t gs gb gl size log (symT o size) (updN B0 y b) L0) (fun wr => bitT o log y - cellN wr ⟨gb, y, none⟩)
                      case atStart => exact ⟨0, by omega, HBX.out⟩
                      case round =>
                        clear HBX
                        obtain ⟨b, hb, hW⟩ := hrel
                        have HW : Hid (OfW w wr t gs gb gl size log (symT o size) (updN B0 y b) L0) := hW
                        have c2 := hW.c2
                        have c3 := hW.c3
                        have cb := hW.b.c y hlt
                        rw [updN_same] at cb
                        have fb := hW.b.f y
                        have cl := hW.l.c y hlt
                        have fl := hW.l.f y
                        have hbl : b ≤ log := Nat.le_trans hb HL.out.1
                        have hsh := shl_lt n b log hnum.1
                        rw [← HS.out] at hsh
                        obtain ⟨p, hpe⟩ : ∃ p, p = n * 2 ^ b := ⟨_, rfl⟩
                        rw [← hpe] at hsh
                        have hpi : (n : Int) * 2 ^ b = (p : Int) := by rw [hpe]; norm_cast
                        have hpb : p ≤ 524288 := by
                          have h1 : 2 ^ b ≤ 2 ^ 9 := Nat.pow_le_pow_right (by omega) (by omega)
                          have h2 : n * 2 ^ b ≤ 1024 * 2 ^ 9 := Nat.mul_le_mul (by omega) h1
                          omega
                        have HP : Hid (p = n * 2 ^ b) := hpe
                        have hgbl : gb ≠ gl := hW.ne.2.2.2.2.2
                        clear hW hpe
                        by_cases hpl : p < size
                        · have hb1 : b < bitT o log y := by
                            have := hsh.1 hpl
                            have := HL.out.2.2.2
                            omega
                          have HCN : Hid (cellN wr ⟨gb, y, none⟩ = b) := cellN_of cb
                          clear hsh
                          go_wp2_with fail
                          refine ⟨⟨b + 1, by omega, ?_⟩, ?_⟩
                          · exact (HW.out.setB y (b + 1) hlt _ (by omega)).extB (fun x' _ => by
                              by_cases e : x' = y
                              · subst e; rw [updN_same, updN_same]
                              · rw [updN_other _ _ _ _ e, updN_other _ _ _ _ e, updN_other _ _ _ _ e]) (fun _ _ => rfl)
                          · rw [HCN.out, cellN_of (v := b + 1) (by rw [cs_same cb, Int.natCast_add]; rfl)]; omega
                        · have hbe : b = bitT o log y := by
                            have h1 : ¬ (b + wid n ≤ log) := fun h => hpl (hsh.2 h)
                            have := HL.out.2.2.2
                            omega
                          have HBE : Hid (b = bitT o log y) := hbe
                          have hpge : (size : Int) ≤ (p : Int) := by omega
                          clear hsh hbe
                          go_wp2_with fail
                          go_region
                          go_wp2_with fail
                          refine ⟨⟨y + 1, by omega, by go_num, ?_⟩, by simp [intOf]; omega⟩
                          refine ((HW.out.setL y (lowT o log y) hlt _ ?_).sm ((Sm.refl _).drew)).extB (fun x' _ => ?_) (fun x' _ => ?_)
                          · have h1 := HL.out.2.2.1
                            have h2 := HL.out.2.1
                            have h3 := HP.out
                            rw [← HBE.out] at h1 h2
                            rw [← h3] at h1 h2
                            omega
                          · by_cases e : x' = y
                            · subst e; rw [updN_same, if_pos (by omega)]; exact HBE.out
                            · rw [updN_other _ _ _ _ e, HBL.out.1]
                              by_cases e2 : x' < y
                              · simp [e2, show x' < y + 1 by omega]
                              · simp [e2, show ¬ x' < y + 1 by omega]
                          · by_cases e : x' = y
                            · subst e; rw [updN_same, if_pos (by omega)]
                            · rw [updN_other _ _ _ _ e, HBL.out.2]
                              by_cases e2 : x' < y
                              · simp [e2, show x' < y + 1 by omega]
                              · simp [e2, show ¬ x' < y + 1 by omega]
              · obtain rfl : x = size := by omega
                clear hW
                go_wp2_with fail
                go_ret
                have h := HW.out.extB (B' := bitT o log) (L' := lowT o log) (fun x hx => by simp [hx]) (fun x hx => by simp [hx])
                rw [HS.out] at h
                exact ⟨t, gs, gb, gl, rfl, h⟩
end Go.Proofs.Ytkfilgfcgmohlaa
