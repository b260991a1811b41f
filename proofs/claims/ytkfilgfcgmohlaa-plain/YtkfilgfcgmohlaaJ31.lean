import Derived.Test.YtkfilgfcgmohlaaJ03
import Derived.Test.YtkfilgfcgmohlaaJ28
import Derived.Test.YtkfilgfcgmohlaaJ30
import Derived.WalkKit
import Derived.WalkSpells
import Derived.WalkLawsBesides
import Derived.Deep.AppendLies
import Derived.Laws.OwnMore
import Derived.Deep.RegionLaw
import Derived.Deep.CutRange
import Derived.Deep.QuietTactic
import Derived.BigQuiet
namespace Go.Proofs.Ytkfilgfcgmohlaa
open Go.RowKit
theorem RdMk.made2 {w wr : World} {r : Nat} {f : Nat → Nat} {m : Nat} (h : RdMk w wr r f m) (hm : m ≤ 1099511627776) : ∃ g, RdAt wr r g m f 0 ∧ r < g := by
  obtain ⟨v, h1, h2⟩ := h.v
  by_cases h0 : 0 < m
  · obtain ⟨g, cap, rfl, hB, hlt⟩ := h2.form h0
    exact ⟨g, ⟨⟨_, _, h1, fun _ => rfl⟩, fun i hi => by rw [World.ownsRow.cellAt h2 i (by omega)]; exact bitsV_at f m i hi, by rw [Nat.zero_min]; exact h.c1, by rw [show decide (m < 0) = false by simp]; exact h.c2, h.fz, by omega, h.two, hm⟩, by omega⟩
  · obtain rfl : m = 0 := by omega
    have hv : ∃ pa cap, v = .slice pa 0 cap := by
      rcases h2.2 with ⟨hv, _⟩ | ⟨g, cap, cur, hv, _⟩
      · exact ⟨Option.none, 0, hv⟩
      · exact ⟨_, cap, hv⟩
    obtain ⟨pa, cap, rfl⟩ := hv
    exact ⟨r + 1, ⟨⟨_, _, h1, fun h => absurd h (by omega)⟩, fun i hi => absurd hi (by omega), h.c1, h.c2, h.fz, by omega, h.two, hm⟩, by omega⟩
/-- what Backward answers, and that the bits lie in a new block -/
def BackN (s : ByteArray) (w : World) (e : Ending) (w' : World) : Prop :=
  ∃ r ok, e = .returned (.tuple #[.pointer (some ⟨r, 0, none⟩), .bool ok]) ∧ Below w.heap.size w w' ∧ w.heap.size ≤ r ∧
    ((ok = false ∧ NoLead s) ∨ (ok = true ∧ ∃ z g, Lead s z ∧ RdAt w' r g (bkN s z) (bkF s z) 0 ∧ r < g))
set_option maxRecDepth 100000 in
set_option maxHeartbeats 2000000 in
theorem backward_new (s : ByteArray) (w : World) (hs : s.size ≤ 1073741824) :
    Calls Try.prog 84 #[.string s] w fun e w' => BackN s w e w' := by
  go_enter Try.func84, Try.ntmps84
  go_wp2
  go_loopw [5, 6] (fun bv iv wr => ∃ (a : Nat) (bg : Bool), a ≤ s.size ∧ iv = .int .i64 ((s.size : Int) - 1 - a) ∧ bv = .bool bg ∧ BkAt w wr s (8 * a) bg ∧ (bg = false → a = 0)) (fun _ iv _ => (intOf iv + 1).toNat)
  case atStart => exact ⟨0, false, by omega, by simp, rfl, ⟨by omega, fun j hj => absurd hj (by omega), ⟨⟨_, by simp, World.ownsRow_nil _ _ _ _⟩, by simp, by simp, by simp, (Below.refl _ _).alloc (Nat.le_refl _) _, fun _ => by omega⟩⟩, fun _ => rfl⟩
  case round =>
    obtain ⟨a, bg, ha, rfl, rfl, hm, hbg⟩ := hrel
    have HM : Hid (BkAt w wr s (8 * a) bg ∧ (bg = false → a = 0)) := ⟨hm, hbg⟩
    clear hm hbg
    by_cases hlt : a < s.size
    · obtain ⟨i, hi⟩ : ∃ i : Nat, i = s.size - 1 - a := ⟨_, rfl⟩
      have HI : Hid (i + a + 1 = s.size) := by show _ = _; omega
      have hil : i < s.size := by omega
      rw [show ((s.size : Int) - 1 - a) = (i : Int) by omega]
      have hix : ∀ wz, (Instr.index 9 (.string s) (.int .i64 (i : Int))).run Try.prog wz = .ok (.int .u8 ((gOf s i : Nat) : Int)) wz := run_at s _ i rfl hil
      have hgl := gOf_lt s i
      have hw8 : IntKind.i64.wrap (gOf s i : Int) = (gOf s i : Int) := i64_id _ (by omega) (by omega)
      clear hi
      go_wp2_with fail
      go_loopw [5, 7] (fun bv kv wr => ∃ (b : Nat) (bg : Bool), b ≤ 8 ∧ kv = .int .i64 (7 - b) ∧ bv = .bool bg ∧ BkAt w wr s (8 * a + b) bg ∧ (bg = false → a = 0)) (fun _ kv _ => (intOf kv + 1).toNat)
      case atStart => exact ⟨0, bg, by omega, rfl, rfl, HM.out.1, HM.out.2⟩
      case round =>
        clear HM
        obtain ⟨b, bg, hb, rfl, rfl, hm, hbg⟩ := hrel
        by_cases hb8 : b < 8
        · obtain ⟨k, hk⟩ : ∃ k : Nat, k = 7 - b := ⟨_, rfl⟩
          have hk7 : k ≤ 7 := by omega
          have hE : bits .and .i64 ((gOf s i : Int) / 2 ^ k) 1 = (bbit s (8 * a + b) : Int) := by
            rw [shr_bit _ k hgl]; unfold bbit
            have := HI.out
            rw [show s.size - 1 - (8 * a + b) / 8 = i by omega, show 7 - (8 * a + b) % 8 = k by omega]
          rw [show ((7 : Int) - b) = (k : Int) by omega]
          have HK : Hid (k = 7 - b) := hk
          have hx2 := bbit_lt s (8 * a + b)
          obtain ⟨x, hx⟩ : ∃ x, x = bbit s (8 * a + b) := ⟨_, rfl⟩
          have HX : Hid (x = bbit s (8 * a + b)) := hx
          rw [← hx] at hE hx2
          clear hx hk
          cases bg with
          | true =>
            obtain ⟨z, hz, hL, hM⟩ := hm
            have HM : Hid (RdMk w wr w.heap.size (bkF s z) (8 * a + b - (z + 1))) := hM
            have HL : Hid (Lead s z) := hL
            have HY : Hid ((x : Int) = (bkF s z (8 * a + b - (z + 1)) : Int)) := by
              show _ = _
              unfold bkF
              rw [HX.out, show z + 1 + (8 * a + b - (z + 1)) = 8 * a + b by omega]
            obtain ⟨vt, h0, _⟩ := hM.v
            have f0 := hM.fz 0
            have hwl := hM.lt
            clear hM hL hbg
            go_wp2_with (at_builtin; refine rd_list (by rfl) (.tmp 34) (.tmp 36) (by rfl) (by first | rfl | simp) (gb := wr.heap.size) (by simp [Act.eval]) HY.out (by omega) HM.out h0 (by repeat (first | exact Below.refl _ _ | refine Below.drew ?_ | refine Below.alloc ?_ (by simp <;> omega) _)) (by simp) ?_; intro g1 cap1 w2 hfin c3 e3)
            refine ⟨⟨b + 1, true, by omega, ?_, rfl, ⟨z, by omega, HL.out, ?_⟩, fun h => by cases h⟩, ?_⟩
            · have := HK.out; go_num
            · rw [show 8 * a + (b + 1) - (z + 1) = 8 * a + b - (z + 1) + 1 by omega]
              exact hfin.out
            · simp [intOf]
          | false =>
            obtain ⟨hJ, hn, hM⟩ := hm
            obtain rfl : a = 0 := hbg rfl
            have HM : Hid (RdMk w wr w.heap.size (fun _ => 0) 0) := hM
            have HN : Hid (∀ j, j < 8 * 0 + b → bbit s j = 0) := hn
            clear hM hn hbg hJ
            by_cases hx1 : x = 1
            · subst hx1
              have hb1 : (((1 : Nat) : Int) == 1) = true := rfl
              go_wp2_with fail
              refine ⟨⟨b + 1, true, by omega, ?_, rfl, ⟨b, by omega, ⟨by omega, by omega, ?_, fun j hj => HN.out j (by omega)⟩, ?_⟩, fun h => by cases h⟩, ?_⟩
              · have := HK.out; go_num
              · rw [show b = 8 * 0 + b by omega]; exact HX.out.symm
              · rw [show 8 * 0 + (b + 1) - (b + 1) = 0 by omega]
                exact HM.out.none _ (fun i => bbit_lt s _)
              · simp [intOf]
            · obtain rfl : x = 0 := by omega
              have hb1 : (((0 : Nat) : Int) == 1) = false := rfl
              go_wp2_with fail
              refine ⟨⟨b + 1, false, by omega, ?_, rfl, ⟨by omega, fun j hj => ?_, HM.out⟩, fun _ => trivial⟩, ?_⟩
              · have := HK.out; go_num
              · rcases Nat.lt_or_ge j (8 * 0 + b) with h' | h'
                · exact HN.out j h'
                · obtain rfl : j = 8 * 0 + b := by omega
                  exact HX.out.symm
              · simp [intOf]
        · obtain rfl : b = 8 := by omega
          have HM : Hid (BkAt w wr s (8 * a + 8) bg ∧ (bg = false → a = 0)) := ⟨hm, hbg⟩
          clear hm hbg
          cases bg with
          | true =>
            go_wp2_with fail
            refine ⟨⟨a + 1, true, by omega, ?_, rfl, HM.out.1, fun h => by cases h⟩, ?_⟩
            · have := HI.out; go_num
            · simp [intOf]
          | false =>
            go_wp2_with fail
            go_ret2
            obtain ⟨⟨_, hn, hM⟩, ha0⟩ := HM.out
            obtain rfl : a = 0 := ha0 trivial
            exact ⟨w.heap.size, false, rfl, hM.bel, Nat.le_refl _, .inl ⟨rfl, .inr (fun j hj => hn j (by omega))⟩⟩
    · obtain rfl : a = s.size := by omega
      cases bg with
      | true =>
        go_wp2_with fail
        go_ret2
        obtain ⟨⟨z, hz, hL, hM⟩, _⟩ := HM.out
        obtain ⟨g, hg, hgr⟩ := hM.made2 (by omega)
        exact ⟨w.heap.size, true, rfl, hM.bel, Nat.le_refl _, .inr ⟨rfl, z, g, hL, hg, hgr⟩⟩
      | false =>
        go_wp2_with fail
        go_ret2
        obtain ⟨⟨_, hn, hM⟩, ha0⟩ := HM.out
        exact ⟨w.heap.size, false, rfl, hM.bel, Nat.le_refl _, .inl ⟨rfl, .inl (ha0 trivial)⟩⟩
end Go.Proofs.Ytkfilgfcgmohlaa
namespace Go.Proofs.Ytkfilgfcgmohlaa
open Go.RowKit
theorem offC_other (C : Nat → Value) (q : Nat) (back : Int) (i : Nat) (h0 : i ≠ 10) (h1 : i ≠ 11) (h2 : i ≠ 12) : offC C q back i = C i := by
  unfold offC; rw [upV_other _ _ _ _ h0, repD_c _ _ _ h1 h2]
theorem offC_10 (C : Nat → Value) (q : Nat) (back : Int) : offC C q back 10 = .int .i64 back := upV_same _ _ _
theorem offC_11 (C : Nat → Value) (q : Nat) (back : Int) : offC C q back 11 = C 10 ∨ offC C q back 11 = C 11 := by
  unfold offC
  rw [upV_other _ _ _ _ (by omega)]
  unfold repD
  rw [if_neg (by omega), if_neg (by omega)]
  split
  · exact .inl (upV_same _ _ _)
  · exact .inr rfl
theorem offC_12 (C : Nat → Value) (q : Nat) (back : Int) : offC C q back 12 = C 11 ∨ offC C q back 12 = C 12 := by
  unfold offC
  rw [upV_other _ _ _ _ (by omega)]
  unfold repD
  rw [if_neg (by omega), if_neg (by omega)]
  split
  · rw [upV_other _ _ _ _ (by omega)]
    split
    · exact .inl (upV_same _ _ _)
    · exact .inr rfl
  · exact .inr rfl
/-- the last three distances are distances, while there is no error -/
def RepOk (C : Nat → Value) : Prop := C 15 = .int .i64 0 → ∃ R0 R1 R2 : Int, C 10 = .int .i64 R0 ∧ C 11 = .int .i64 R1 ∧ C 12 = .int .i64 R2 ∧ 1 ≤ R0 ∧ 1 ≤ R1 ∧ 1 ≤ R2
theorem RepOk.same {C C' : Nat → Value} (h : RepOk C) (h15 : C' 15 = C 15 ∨ ∃ e : Int, C' 15 = .int .i64 e ∧ e ≠ 0) (h10 : C' 10 = C 10) (h11 : C' 11 = C 11) (h12 : C' 12 = C 12) : RepOk C' := by
  intro h0
  rcases h15 with e | ⟨e, h1, h2⟩
  · obtain ⟨R0, R1, R2, h⟩ := h (e ▸ h0)
    exact ⟨R0, R1, R2, by rw [h10]; exact h.1, by rw [h11]; exact h.2.1, by rw [h12]; exact h.2.2.1, h.2.2.2⟩
  · rw [h1] at h0; injection h0 with _ h0; exact absurd h0 h2
/-- an offset is told -/
theorem CSt.off {w w' : World} {b : Nat} {Y : Nat → Prop} {s : ByteArray} {limit : Int} {a : Nat} {C : Nat → Value} {q : Nat} {back : Int} (h : CSt w b Y s limit a C) (hW : Wc w' b (offC C q back)) (hU : Upd b w w') (h0 : 0 ≤ back) (h1 : back ≤ 1099511627776) : CSt w' b Y s limit a (offC C q back) ∧ CStep w w' b Z0 C (offC C q back) := by
  have hX : UpdS (Xs b (C 3) Y) w w' := hU.updS (.inl rfl)
  have key : ∀ i, i ≠ 10 → i ≠ 11 → i ≠ 12 → offC C q back i = C i := offC_other C q back
  have e3 := key 3 (by omega) (by omega) (by omega)
  refine ⟨⟨hW, (key 0 (by omega) (by omega) (by omega)).trans h.c0, (key 2 (by omega) (by omega) (by omega)).trans h.c2, (key 6 (by omega) (by omega) (by omega)).trans h.c6, ?_, ?_, ?_, h.nb, fun j hj => Nat.lt_of_lt_of_le (h.yb j hj) hU.size, fun t ht => ?_, ?_, ?_, ?_⟩, ⟨hU.updS (.inl rfl), .inl (by rw [e3]), key 1 (by omega) (by omega) (by omega), key 4 (by omega) (by omega) (by omega), key 5 (by omega) (by omega) (by omega)⟩⟩
  · obtain ⟨out, h1, h2⟩ := h.out
    rw [e3]
    exact ⟨out, ⟨row_same h1.row (fun g hg => hU.block g (row_lt h1.row g hg).2 (h.ob g hg).1)⟩, h2⟩
  · rw [key 5 (by omega) (by omega) (by omega)]; exact h.fr
  · rw [e3]; exact h.ob
  · rw [e3]; exact (h.tabs t ht).upd hX (key _ (by omega) (by omega) (by omega)) (fun _ _ e => e)
  · rw [e3]; exact h.tree.upd hX (key _ (by omega) (by omega) (by omega)) (key _ (by omega) (by omega) (by omega)) (fun _ _ e => e)
  · obtain ⟨R0, R1, R2, g0, g1, g2, g3, g4, g5⟩ := h.reps
    rcases offC_11 C q back with e1 | e1 <;> rcases offC_12 C q back with e2 | e2
    · exact ⟨back, R0, R1, offC_10 _ _ _, e1.trans g0, e2.trans g1, ⟨h0, h1⟩, g3, g4⟩
    · exact ⟨back, R0, R2, offC_10 _ _ _, e1.trans g0, e2.trans g2, ⟨h0, h1⟩, g3, g5⟩
    · exact ⟨back, R1, R1, offC_10 _ _ _, e1.trans g1, e2.trans g1, ⟨h0, h1⟩, g4, g4⟩
    · exact ⟨back, R1, R2, offC_10 _ _ _, e1.trans g1, e2.trans g2, ⟨h0, h1⟩, g4, g5⟩
  · rw [key 15 (by omega) (by omega) (by omega)]; exact h.err
/-- where it was one of distances, it is no less than nought -/
theorem backN_ge {v l : Nat} {R0 R1 R2 : Int} (h0 : 1 ≤ R0) (h1 : 1 ≤ R1) (h2 : 1 ≤ R2) : 0 ≤ backN v l R0 R1 R2 := by
  unfold backN
  split
  · omega
  · split
    · omega
    · split
      · omega
      · split <;> omega
theorem backN_le {v l : Nat} {R0 R1 R2 : Int} (hv : v ≤ 1099511627776) (h0 : R0 ≤ 1099511627776) (h1 : R1 ≤ 1099511627776) (h2 : R2 ≤ 1099511627776) : backN v l R0 R1 R2 ≤ 1099511627776 := by
  unfold backN
  split
  · omega
  · split
    · omega
    · split
      · omega
      · split <;> omega
/-- behind a copy all are distances again -/
theorem RepOk.off {C C' : Nat → Value} {q : Nat} {back : Int} (h : RepOk C) (h0 : C 15 = .int .i64 0) (hC : ∀ i, i ≠ 3 → i ≠ 15 → C' i = offC C q back i) (hb : C' 15 = .int .i64 0 → 0 < back) : RepOk C' := by
  intro h15
  obtain ⟨R0, R1, R2, g0, g1, g2, g3, g4, g5⟩ := h h0
  have hb' := hb h15
  have e0 := (hC 10 (by omega) (by omega)).trans (offC_10 C q back)
  have e1 := hC 11 (by omega) (by omega)
  have e2 := hC 12 (by omega) (by omega)
  rcases offC_11 C q back with k1 | k1 <;> rcases offC_12 C q back with k2 | k2
  · exact ⟨back, R0, R1, e0, (e1.trans k1).trans g0, (e2.trans k2).trans g1, by omega, g3, g4⟩
  · exact ⟨back, R0, R2, e0, (e1.trans k1).trans g0, (e2.trans k2).trans g2, by omega, g3, g5⟩
  · exact ⟨back, R1, R1, e0, (e1.trans k1).trans g1, (e2.trans k2).trans g1, by omega, g4, g4⟩
  · exact ⟨back, R1, R2, e0, (e1.trans k1).trans g1, (e2.trans k2).trans g2, by omega, g4, g5⟩
end Go.Proofs.Ytkfilgfcgmohlaa
namespace Go.Proofs.Ytkfilgfcgmohlaa
open Go.RowKit
/-- three states in memory -/
structure At3 (w : World) (ab : Nat) (x : Nat → Nat) : Prop where
  c : ∀ i, i < 3 → w.cell? ⟨ab, i, none⟩ = some (.int .i64 (x i : Int))
  fz : ∀ i, w.frozen? ⟨ab, i, none⟩ = false
theorem At3.keep {w w' : World} {ab : Nat} {x : Nat → Nat} (h : At3 w ab x) (hb : w'.heap[ab]? = w.heap[ab]?) : At3 w' ab x :=
  ⟨fun i hi => (World.cell?_of_block (w := w) (a := ⟨ab, i, none⟩) hb).trans (h.c i hi), fun i => (World.frozen?_of_block (w := w) (a := ⟨ab, i, none⟩) hb).trans (h.fz i)⟩
theorem At3.lt {w : World} {ab : Nat} {x : Nat → Nat} (h : At3 w ab x) : ab < w.heap.size := block_lt_of_cell (h.c 0 (by omega))
def upN (x : Nat → Nat) (t v : Nat) : Nat → Nat := fun i => if i = t then v else x i
theorem At3.set {w : World} {ab : Nat} {x : Nat → Nat} (h : At3 w ab x) (t v : Nat) (ht : t < 3) : At3 (w.setCell ⟨ab, t, none⟩ (.int .i64 (v : Int))) ab (upN x t v) := by
  refine ⟨fun i hi => ?_, fun i => by rw [World.frozen?_setCell]; exact h.fz i⟩
  unfold upN
  by_cases e : i = t
  · subst e; rw [if_pos rfl]; exact cs_same (h.c i hi)
  · rw [if_neg e, cs_other (addr_ne (by omega))]; exact h.c i hi
/-- seven numbers in memory: a sequence -/
structure Sq7 (w : World) (qb : Nat) (Q : Nat → Int) : Prop where
  c : ∀ i, i < 7 → w.cell? ⟨qb, i, none⟩ = some (.int .i64 (Q i))
  fz : ∀ i, w.frozen? ⟨qb, i, none⟩ = false
theorem Sq7.keep {w w' : World} {qb : Nat} {Q : Nat → Int} (h : Sq7 w qb Q) (hb : w'.heap[qb]? = w.heap[qb]?) : Sq7 w' qb Q :=
  ⟨fun i hi => (World.cell?_of_block (w := w) (a := ⟨qb, i, none⟩) hb).trans (h.c i hi), fun i => (World.frozen?_of_block (w := w) (a := ⟨qb, i, none⟩) hb).trans (h.fz i)⟩
theorem Sq7.lt {w : World} {qb : Nat} {Q : Nat → Int} (h : Sq7 w qb Q) : qb < w.heap.size := block_lt_of_cell (h.c 0 (by omega))
def upI (Q : Nat → Int) (t : Nat) (v : Int) : Nat → Int := fun i => if i = t then v else Q i
theorem Sq7.set {w : World} {qb : Nat} {Q : Nat → Int} (h : Sq7 w qb Q) (t : Nat) (v : Int) (ht : t < 7) : Sq7 (w.setCell ⟨qb, t, none⟩ (.int .i64 v)) qb (upI Q t v) := by
  refine ⟨fun i hi => ?_, fun i => by rw [World.frozen?_setCell]; exact h.fz i⟩
  unfold upI
  by_cases e : i = t
  · subst e; rw [if_pos rfl]; exact cs_same (h.c i hi)
  · rw [if_neg e, cs_other (addr_ne (by omega))]; exact h.c i hi
/-- the three tables, each with its data -/
structure TbS (w : World) (C : Nat → Value) (X : Nat → Prop) (tb lo hi : Nat → Nat) (T : Nat → Tb) : Prop where
  p : ∀ t, t < 3 → C (7 + t) = .pointer (some ⟨tb t, 0, none⟩)
  at_ : ∀ t, t < 3 → TbAt w (lo t) (hi t) (tb t) (T t)
  top : ∀ t, t < 3 → hi t ≤ w.heap.size
  out : ∀ t, t < 3 → ∀ k, lo t ≤ k → k < hi t → ¬ X k
  good : ∀ t, t < 3 → GoodTb t (T t)
theorem tbs_of {w : World} {C : Nat → Value} {X : Nat → Prop} (h : ∀ t, t < 3 → TabOk w C X t) (hn : ∀ t, t < 3 → C (7 + t) ≠ .pointer none) : ∃ tb lo hi T, TbS w C X tb lo hi T := by
  rcases h 0 (by omega) with e | ⟨tb0, lo0, hi0, T0, a1, a2, a3, a4, a5⟩
  · exact absurd e (hn 0 (by omega))
  rcases h 1 (by omega) with e | ⟨tb1, lo1, hi1, T1, b1, b2, b3, b4, b5⟩
  · exact absurd e (hn 1 (by omega))
  rcases h 2 (by omega) with e | ⟨tb2, lo2, hi2, T2, c1, c2, c3, c4, c5⟩
  · exact absurd e (hn 2 (by omega))
  refine ⟨fun t => if t = 0 then tb0 else if t = 1 then tb1 else tb2, fun t => if t = 0 then lo0 else if t = 1 then lo1 else lo2, fun t => if t = 0 then hi0 else if t = 1 then hi1 else hi2, fun t => if t = 0 then T0 else if t = 1 then T1 else T2, ?_, ?_, ?_, ?_, ?_⟩ <;> intro t ht <;> rcases (show t = 0 ∨ t = 1 ∨ t = 2 by omega) with rfl | rfl | rfl
  · exact a1
  · exact b1
  · exact c1
  · exact a2
  · exact b2
  · exact c2
  · exact a3
  · exact b3
  · exact c3
  · exact a4
  · exact b4
  · exact c4
  · exact a5
  · exact b5
  · exact c5
theorem TbS.keep {w w' : World} {C C' : Nat → Value} {X : Nat → Prop} {tb lo hi : Nat → Nat} {T : Nat → Tb} (h : TbS w C X tb lo hi T) (hk : ∀ j, j < w.heap.size → ¬ X j → w'.heap[j]? = w.heap[j]?) (hs : w.heap.size ≤ w'.heap.size) (hC : ∀ t, t < 3 → C' (7 + t) = C (7 + t)) : TbS w' C' X tb lo hi T :=
  ⟨fun t ht => (hC t ht).trans (h.p t ht), fun t ht => (h.at_ t ht).keep (fun j h1 h2 => hk j (Nat.lt_of_lt_of_le h2 (h.top t ht)) (h.out t ht j h1 h2)), fun t ht => Nat.le_trans (h.top t ht) hs, h.out, h.good⟩
theorem part_small0 : ∀ c, c ≤ 35 → leastN 0 c + 2 ^ extraN 0 c ≤ 131072 := by decide +kernel
theorem part_small2 : ∀ c, c ≤ 52 → leastN 2 c + 2 ^ extraN 2 c ≤ 131075 := by decide +kernel
theorem part_small1 : ∀ c, c ≤ 31 → leastN 1 c + 2 ^ extraN 1 c ≤ 8589934592 ∧ 1 ≤ leastN 1 c := by decide +kernel
/-- the row of sequences is to be spared, too -/
def Ys (Y : Nat → Prop) (r ab : Nat) (v : Value) : Nat → Prop := fun j => Y j ∨ j = r ∨ j = ab ∨ v.ownBlock = some j
/-- what a compressed block's sequences leave -/
def CompQ (b k : Nat) (Y : Nat → Prop) (s : ByteArray) (limit : Int) (a : Nat) (C D : Nat → Value) (w : World) (x : Ending) (w' : World) : Prop :=
  ∃ C' D', x = .returned (.tuple #[]) ∧ CSt w' b Y s limit a C' ∧ RepOk C' ∧ CStep w w' b (fun j => j = k) C C' ∧ Bc w' k D' ∧ D' 0 = D 0
end Go.Proofs.Ytkfilgfcgmohlaa
namespace Go.Proofs.Ytkfilgfcgmohlaa
open Go.RowKit
/-- what is fixed while sequences are read: the world w as it came in, w2 when the reader and the states were made -/
structure SBase (w w2 : World) (b k r g ab gl m : Nat) (Y : Nat → Prop) (C : Nat → Value) (tb lo hi : Nat → Nat) (T : Nat → Tb) (ll : List Nat) : Prop where
  tabs : TbS w C (Xs b (C 3) Y) tb lo hi T
  below : Below w.heap.size w w2
  hr : w.heap.size ≤ r
  hr2 : r < w2.heap.size
  hg : r < g
  hg2 : 0 < m → g < w2.heap.size
  hab : w.heap.size ≤ ab
  hab2 : ab < w2.heap.size
  rab : r ≠ ab
  gab : 0 < m → g ≠ ab
  bw : b < w.heap.size
  kw : k < w.heap.size
  bk : b ≠ k
  yk : Y k
  own : ∀ j, (C 3).ownBlock = some j → j < w.heap.size
  hgl : 0 < ll.length → gl < w.heap.size ∧ gl ≠ b ∧ gl ≠ k ∧ (C 3).ownBlock ≠ some gl
/-- between two sequences -/
structure StI (w w2 wr : World) (b k r g ab gl m : Nat) (fb : Nat → Nat) (Y : Nat → Prop) (s : ByteArray) (limit : Int) (a : Nat) (C C' D D' : Nat → Value) (T : Nat → Tb) (pos : Nat) (x : Nat → Nat) (nq : Nat) (vl : Value) (ll : List Nat) : Prop where
  st : CSt wr b (Ys Y r ab (D' 11)) s limit a C'
  rep : RepOk C'
  step : CStep w2 wr b (fun j => j = k ∨ j = r ∨ j = ab) C C'
  tabs : ∀ t, t < 3 → C' (7 + t) = C (7 + t)
  rd : RdAt wr r g m fb pos
  at3 : At3 wr ab x
  xs : ∀ t, t < 3 → x t < (T t).size
  bc : Bc wr k D'
  d0 : D' 0 = D 0
  sq : ∃ ys, wr.ownsRow 0 139 7 (D' 11) nq ys
  sqn : ∀ j, (D' 11).ownBlock = some j → w2.heap.size ≤ j
  lits : ByA wr vl gl ll
/-- old blocks that are not written to -/
theorem CStep.old {w w2 wr : World} {b k r ab : Nat} {C C' : Nat → Value} (h : CStep w2 wr b (fun j => j = k ∨ j = r ∨ j = ab) C C') (hb : Below w.heap.size w w2) (hr : w.heap.size ≤ r) (hab : w.heap.size ≤ ab) (j : Nat) (hj : j < w.heap.size) (h1 : j ≠ b) (h2 : (C 3).ownBlock ≠ some j) (h3 : j ≠ k) : wr.heap[j]? = w.heap[j]? := by
  rw [h.upd.block j (Nat.lt_of_lt_of_le hj hb.size) (fun e => by
    rcases e with e | e | e
    · exact h1 e
    · exact h2 e
    · rcases e with e | e | e
      · exact h3 e
      · omega
      · omega), hb.block j hj]
theorem SBase.tb {w w2 wr wx : World} {b k r g ab gl m : Nat} {Y : Nat → Prop} {C C' : Nat → Value} {tb lo hi : Nat → Nat} {T : Nat → Tb} {ll : List Nat} (h : SBase w w2 b k r g ab gl m Y C tb lo hi T ll) (hs : CStep w2 wr b (fun j => j = k ∨ j = r ∨ j = ab) C C') (hC : ∀ t, t < 3 → C' (7 + t) = C (7 + t)) (hx : ∀ j, j < w.heap.size → j ≠ b → wx.heap[j]? = wr.heap[j]?) (hz : w.heap.size ≤ wx.heap.size) : TbS wx C' (Xs b (C 3) Y) tb lo hi T :=
  h.tabs.keep (fun j hj hn => by
    have n1 : j ≠ b := fun e => hn (.inl e)
    have n2 : (C 3).ownBlock ≠ some j := fun e => hn (.inr (.inl e))
    have n3 : j ≠ k := fun e => hn (.inr (.inr (e ▸ h.yk)))
    rw [hx j hj n1, hs.old h.below h.hr h.hab j hj n1 n2 n3]) hz hC
/-- within a sequence -/
structure MidI (wr wx : World) (r g ab qb m : Nat) (fb : Nat → Nat) (T : Nat → Tb) (pos : Nat) (x : Nat → Nat) (Q : Nat → Int) : Prop where
  upd : UpdS (fun j => j = r ∨ j = ab) wr wx
  rd : RdAt wx r g m fb pos
  at3 : At3 wx ab x
  xs : ∀ t, t < 3 → x t < (T t).size
  q : Sq7 wx qb Q
theorem MidI.read {wr wx w' : World} {r g ab qb m : Nat} {fb : Nat → Nat} {T : Nat → Tb} {pos pos' : Nat} {x : Nat → Nat} {Q : Nat → Int} (h : MidI wr wx r g ab qb m fb T pos x Q) (hR : RdAt w' r g m fb pos') (hU : Upd r wx w') (h1 : ab ≠ r) (h2 : qb ≠ r) : MidI wr w' r g ab qb m fb T pos' x Q :=
  ⟨h.upd.same (hU.updS (.inl rfl)), hR, h.at3.keep (hU.block ab h.at3.lt h1), h.xs, h.q.keep (hU.block qb h.q.lt h2)⟩
theorem MidI.sm {wr wx w' : World} {r g ab qb m : Nat} {fb : Nat → Nat} {T : Nat → Tb} {pos : Nat} {x : Nat → Nat} {Q : Nat → Int} (h : MidI wr wx r g ab qb m fb T pos x Q) (hs : Sm wx w') : MidI wr w' r g ab qb m fb T pos x Q :=
  ⟨h.upd.same (sm_updS hs _), h.rd.sm hs, h.at3.keep (by rw [hs.heap]), h.xs, h.q.keep (by rw [hs.heap])⟩
theorem MidI.put {wr wx : World} {r g ab qb m : Nat} {fb : Nat → Nat} {T : Nat → Tb} {pos : Nat} {x : Nat → Nat} {Q : Nat → Int} (h : MidI wr wx r g ab qb m fb T pos x Q) (i : Nat) (v : Int) (hi : i < 7) (hq : wr.heap.size ≤ qb) (h1 : r ≠ qb) (h2 : 0 < m → g ≠ qb) (h3 : ab ≠ qb) : MidI wr (wx.setCell ⟨qb, i, none⟩ (.int .i64 v)) r g ab qb m fb T pos x (upI Q i v) :=
  ⟨h.upd.setCell _ _ (fun e => by have : qb < wr.heap.size := e; omega), h.rd.keep (Below.heap_setCell _ _ _ _ h1) (fun hm => Below.heap_setCell _ _ _ _ (h2 hm)), h.at3.keep (Below.heap_setCell _ _ _ _ h3), h.xs, h.q.set i v hi⟩
theorem MidI.on {wr wx w' : World} {r g ab qb m : Nat} {fb : Nat → Nat} {T : Nat → Tb} {pos pos' t y : Nat} {x : Nat → Nat} {Q : Nat → Int} (h : MidI wr wx r g ab qb m fb T pos x Q) (hO : OnQ wx w' r g m fb pos' ab t y) (ht : t < 3) (hy : y < (T t).size) (h2 : qb ≠ r) (h3 : qb ≠ ab) : MidI wr w' r g ab qb m fb T pos' (upN x t y) Q := by
  refine ⟨h.upd.same (hO.upd.updS (.inl rfl) (fun j e => by injection e with e; exact .inr e.symm)), hO.rd, ⟨fun i hi => ?_, hO.fz⟩, fun i hi => ?_, h.q.keep (hO.upd.block qb h.q.lt h2 (fun e => by injection e with e; exact h3 e))⟩
  · unfold upN
    by_cases e : i = t
    · subst e; rw [if_pos rfl]; exact hO.here
    · rw [if_neg e, hO.others i e]; exact h.at3.c i hi
  · unfold upN
    by_cases e : i = t
    · subst e; rw [if_pos rfl]; exact hy
    · rw [if_neg e]; exact h.xs i hi
/-- and the sequence at hand -/
def Yq (Y : Nat → Prop) (r ab qb : Nat) (v : Value) : Nat → Prop := fun j => Ys Y r ab v j ∨ j = qb
theorem StI.mid {w w2 wA wx : World} {b k r g ab gl m : Nat} {fb : Nat → Nat} {Y : Nat → Prop} {s : ByteArray} {limit : Int} {a : Nat} {C C' D D' : Nat → Value} {T : Nat → Tb} {pos pos' : Nat} {x x' : Nat → Nat} {nq : Nat} {vl : Value} {l : List Nat} {qb : Nat} {Q : Nat → Int} (h : StI w w2 wA b k r g ab gl m fb Y s limit a C C' D D' T pos x nq vl l) (hM : MidI wA wx r g ab qb m fb T pos' x' Q) (hq : wA.heap.size ≤ qb) : CSt wx b (Yq Y r ab qb (D' 11)) s limit a C' :=
  h.st.re (hM.upd.sub (fun j _ e => by rcases e with e | e; exact .inr (.inl e); exact .inr (.inr (.inl e)))) (fun j e => by
    rcases e with e | e
    · exact .inl e
    · exact .inr (by omega)) (fun j e => by
    rcases e with e | e
    · exact Nat.lt_of_lt_of_le (h.st.yb j e) hM.upd.size
    · rw [e]; exact hM.q.lt)
theorem on_mid {w w2 wA wx : World} {b k r g ab gl m : Nat} {fb : Nat → Nat} {Y : Nat → Prop} {s : ByteArray} {limit : Int} {a : Nat} {C C' D D' : Nat → Value} {tb lo hi : Nat → Nat} {T : Nat → Tb} {pos pos' : Nat} {x x' : Nat → Nat} {nq : Nat} {vl : Value} {l ll : List Nat} {qb : Nat} {Q : Nat → Int} (hb : SBase w w2 b k r g ab gl m Y C tb lo hi T ll) (h : StI w w2 wA b k r g ab gl m fb Y s limit a C C' D D' T pos x nq vl l) (hM : MidI wA wx r g ab qb m fb T pos' x' Q) (hq : wA.heap.size ≤ qb) (hqr : qb ≠ r) (hqa : qb ≠ ab) (t : Nat) (ht : t < 3) :
    Calls Try.prog 87 #[.pointer (some ⟨b, 0, none⟩), .pointer (some ⟨r, 0, none⟩), .pointer (some ⟨ab, 0, none⟩), .int .i64 (t : Int)] wx fun e w' => e = .returned (.tuple #[]) ∧ ∃ pos'' x'', MidI wA w' r g ab qb m fb T pos'' x'' Q := by
  have hbw := hb.bw
  have hr := hb.hr
  have hab := hb.hab
  have hs2 := hb.below.size
  have hsA := h.step.upd.size
  have hsx := hM.upd.size
  have hTb : TbS wx C' (Xs b (C 3) Y) tb lo hi T := hb.tb h.step h.tabs (fun j hj _ => hM.upd.block j (by omega) (by omega)) (by omega)
  have hgood := hTb.good t ht
  have hx := hM.xs t ht
  have hlow := hgood.low (x' t) hx
  have hsz := hgood.sz
  have hl9 : 2 ^ (T t).log ≤ 2 ^ 9 := Nat.pow_le_pow_right (by omega) hgood.lg
  have hhi := hb.tabs.top t ht
  have hp2 : 0 < 2 ^ (T t).B (x' t) := Nat.pow_pos (by omega)
  refine (on_any b r g m ab (tb t) t (lo t) (hi t) (T t).size (T t).log (x' t) pos' fb (T t).F (T t).B (T t).L C' wx ht (h.mid hM hq).wc (hTb.p t ht) (hTb.at_ t ht) hM.rd (hM.at3.c t ht) hM.at3.fz hx (hgood.bit _ hx) (by omega) (by omega) (Ne.symm hb.rab) hb.gab (by omega) (.inr (by omega))).mono ?_
  rintro e w' ⟨rfl, hO⟩
  have hh := highN_lt m fb hM.rd.two pos' ((T t).B (x' t))
  exact ⟨rfl, _, _, hM.on hO ht (by omega) hqr hqa⟩
theorem CStep.fin {w w2 wr : World} {b k r ab : Nat} {C C' : Nat → Value} (h : CStep w2 wr b (fun j => j = k ∨ j = r ∨ j = ab) C C') (hb : Below w.heap.size w w2) (hr : w.heap.size ≤ r) (hab : w.heap.size ≤ ab) : CStep w wr b (fun j => j = k) C C' := by
  refine ⟨⟨h.upd.os.trans hb.os, h.upd.tape.trans hb.tape, h.upd.output.trans hb.output, Nat.le_trans hb.size h.upd.size, fun j hj hn => ?_⟩, ?_, h.c1, h.c4, h.c5⟩
  · exact h.old hb hr hab j hj (fun e => hn (.inl e)) (fun e => hn (.inr (.inl e))) (fun e => hn (.inr (.inr e)))
  · rcases h.moved with e | ⟨q, e, hq⟩
    · exact .inl e
    · exact .inr ⟨q, e, Nat.le_trans hb.size hq⟩
theorem MidI.step {wA wx : World} {r g ab qb m : Nat} {fb : Nat → Nat} {T : Nat → Tb} {pos : Nat} {x : Nat → Nat} {Q : Nat → Int} (hM : MidI wA wx r g ab qb m fb T pos x Q) (b k : Nat) (C : Nat → Value) : CStep wA wx b (fun j => j = k ∨ j = r ∨ j = ab) C C :=
  ⟨hM.upd.sub (fun _ _ e => .inr (.inr (.inr e))), .inl rfl, rfl, rfl, rfl⟩
/-- an error within a sequence ends all -/
theorem fin_bad {w w2 wA wx w' : World} {b k r g ab gl m : Nat} {fb : Nat → Nat} {Y : Nat → Prop} {s : ByteArray} {limit : Int} {a : Nat} {C C' D D' : Nat → Value} {tb lo hi : Nat → Nat} {T : Nat → Tb} {pos pos' : Nat} {x x' : Nat → Nat} {nq : Nat} {vl : Value} {l ll : List Nat} {qb : Nat} {Q : Nat → Int} {e : Int} (hb : SBase w w2 b k r g ab gl m Y C tb lo hi T ll) (h : StI w w2 wA b k r g ab gl m fb Y s limit a C C' D D' T pos x nq vl l) (hM : MidI wA wx r g ab qb m fb T pos' x' Q) (hW : Wc w' b (upV C' 15 (.int .i64 e))) (hU : Upd b wx w') (he : e ≠ 0) (hq : wA.heap.size ≤ qb) : CompQ b k Y s limit a C D w (.returned (.tuple #[])) w' := by
  obtain ⟨g1, g2⟩ := (h.mid hM hq).bad hW hU
  have hbw := hb.bw
  have hkw := hb.kw
  have hr := hb.hr
  have hab := hb.hab
  have hs2 := hb.below.size
  have hsA := h.step.upd.size
  refine ⟨_, D', rfl, g1.less (fun j hj => .inl (.inl hj)), fun h0 => ?_, ((h.step.trans (hM.step b k C')).trans g2.wide).fin hb.below hb.hr hb.hab, (h.bc.keep (hM.upd.block k (by omega) (by omega))).keep (hU.block k ?_ (Ne.symm hb.bk)), h.d0⟩
  · rw [upV_same] at h0; injection h0 with _ h0; exact absurd h0 he
  · have := hM.upd.size; omega
theorem ByA.take {w : World} {pv : Option Addr} {l : List Nat} {cv gl L : Nat} (h : ByA w (.slice pv l.length cv) gl l) (hL : L ≤ l.length) : ByA w (.slice pv L cv) gl (l.take L) := by
  obtain ⟨pa, cap, off, h1, h2, h3, h4⟩ := h.ex
  cases h1
  have hl : (l.take L).length = L := by rw [List.length_take]; omega
  refine ⟨pv, cv, off, by rw [hl], by rw [hl]; omega, fun h => h3 (by omega), fun i hi => ?_⟩
  rw [hl] at hi
  rw [h4 i (by omega)]
  have : wAt (l.take L) i = wAt l i := by simp [wAt, hi]
  rw [this]
theorem ByA.drop {w : World} {pv : Option Addr} {l : List Nat} {cv gl L : Nat} (h : ByA w (.slice pv l.length cv) gl l) (hL : L ≤ l.length) : ByA w (.slice (if cv = L then pv else Option.map (fun x => x.add L) pv) (l.length - L) (cv - L)) gl (l.drop L) := by
  obtain ⟨pa, cap, off, h1, h2, h3, h4⟩ := h.ex
  cases h1
  have hl : (l.drop L).length = l.length - L := by rw [List.length_drop]
  refine ⟨_, cv - L, off + L, by rw [hl], by rw [hl]; omega, fun h => ?_, fun i hi => ?_⟩
  · rw [hl] at h
    rw [if_neg (by omega), h3 (by omega)]
    show some ((⟨gl, off, none⟩ : Addr).add L) = _
    congr 1
    unfold Addr.add
    split <;> simp_all
  · rw [hl] at hi
    rw [Nat.add_assoc, h4 (L + i) (by omega)]
    have : wAt (l.drop L) i = wAt l (L + i) := by simp [wAt]
    rw [this]
theorem fSeq : (Try.prog.info? 139).map (fun i => (i.zero, i.size, i.bytes)) = some (some (.agg #[.int .i64 0, .int .i64 0, .int .i64 0, .int .i64 0, .int .i64 0, .int .i64 0, .int .i64 0]), 7, 56) := by kernel_rfl
theorem news_at {W : World} {gb : Nat} {vs : List Value} (h : ∀ j, j < vs.length → W.cell? ⟨gb, j, none⟩ = vs[j]?) : ∀ j u, vs[j]? = some u → W.cell? ((⟨gb, 0, none⟩ : Addr).add j) = some u := by
  intro j u hj
  have hl : j < vs.length := by
    rcases Nat.lt_or_ge j vs.length with h' | h'
    · exact h'
    · rw [List.getElem?_eq_none h'] at hj; cases hj
  have hadd : (⟨gb, 0, none⟩ : Addr).add j = ⟨gb, j, none⟩ := by unfold Addr.add; split <;> simp_all
  rw [hadd, h j hl, hj]
/-- one sequence more -/
theorem StI.next {w w2 wA wc w7 w8 w9 w5 : World} {b k r g ab gl m : Nat} {fb : Nat → Nat} {Y : Nat → Prop} {s : ByteArray} {limit : Int} {a : Nat} {C C' C7 C8 D D' : Nat → Value} {tb lo hi : Nat → Nat} {T : Nat → Tb} {pos pos4 : Nat} {x x4 : Nat → Nat} {nq : Nat} {vl vl' v' q : Value} {l l' ll : List Nat} {qb wh : Nat} {Q : Nat → Int} {back : Int} {ys' : List Value} (hb : SBase w w2 b k r g ab gl m Y C tb lo hi T ll) (h : StI w w2 wA b k r g ab gl m fb Y s limit a C C' D D' T pos x nq vl l) (h0 : C' 15 = .int .i64 0) (hM : MidI wA wc r g ab qb m fb T pos4 x4 Q) (hq : wA.heap.size ≤ qb) (hC7 : C7 = offC C' wh back) (hU7 : Upd b wc w7) (hS7 : CStep wc w7 b Z0 C' (offC C' wh back)) (hw8 : w8 = w7.setCell ⟨qb, 2, none⟩ q) (hS8 : CSt w8 b (Yq Y r ab qb (D' 11)) s limit a C7) (g1 : CSt w9 b (Yq Y r ab qb (D' 11)) s limit a C8) (g2 : CStep w8 w9 b Z0 C7 C8) (g3 : ∀ i, i ≠ 3 → i ≠ 15 → C8 i = C7 i) (g4 : C8 15 = .int .i64 0 → 0 < back) (hO : w5.ownsRow 0 139 7 v' (nq + 1) ys') (hU5 : UpdS (fun q => (D' 11).ownBlock = some q) w9 w5) (hM5 : Moved w9 (D' 11) v') (hlit : ByA w8 vl' gl l') (hl' : 0 < l'.length → 0 < ll.length) : StI w w2 (w5.setCell ⟨k, 11, none⟩ v') b k r g ab gl m fb Y s limit a C C8 D (upV D' 11 v') T pos4 x4 (nq + 1) vl' l' := by
  have hr := hb.hr
  have hab := hb.hab
  have hr2 := hb.hr2
  have hab2 := hb.hab2
  have hkw := hb.kw
  have hbw := hb.bw
  have hs2 := hb.below.size
  have hsA := h.step.upd.size
  have hsx := hM.upd.size
  have hs7 := hU7.size
  have hs8 : w8.heap.size = w7.heap.size := by rw [hw8, World.size_setCell]
  have hs9 := g2.upd.size
  have hs5 := hU5.size
  have e7 : C7 3 = C' 3 := by rw [hC7]; exact offC_other _ _ _ _ (by omega) (by omega) (by omega)
  have hYk : Yq Y r ab qb (D' 11) k := .inl (.inl hb.yk)
  have hsn := h.sqn
  -- the way from w2 to w9
  have t8 : CStep wA w8 b (fun j => j = k ∨ j = r ∨ j = ab) C' C7 := by
    have t7 := (hM.step b k C').trans hS7.wide
    rw [hC7, hw8]
    exact ⟨t7.upd.setCell _ _ (fun e => by have : qb < wA.heap.size := e; omega), t7.moved, t7.c1, t7.c4, t7.c5⟩
  have t9 : CStep w2 w9 b (fun j => j = k ∨ j = r ∨ j = ab) C C8 := (h.step.trans t8).trans g2.wide
  have t28 : CStep w2 w8 b (fun j => j = k ∨ j = r ∨ j = ab) C C7 := h.step.trans t8
  have hown : ∀ j, (C7 3).ownBlock = some j → (C 3).ownBlock = some j ∨ w2.heap.size ≤ j := by
    intro j hj
    rcases t28.moved with e | ⟨i, e, hi⟩
    · exact .inl (by rw [← e]; exact hj)
    · rw [e] at hj; injection hj with hj; exact .inr (by omega)
  have k9 : ∀ j, j < w8.heap.size → j ≠ b → (C7 3).ownBlock ≠ some j → w9.heap[j]? = w8.heap[j]? := fun j h1 h2 h3 => g2.upd.block j h1 (fun e => by
    rcases e with e | e | e
    · exact h2 e
    · exact h3 e
    · exact e)
  have kY : ∀ j, Yq Y r ab qb (D' 11) j → w9.heap[j]? = w8.heap[j]? := fun j hj => k9 j (hS8.yb j hj) (fun e => hS8.nb (e ▸ hj)) (fun e => (hS8.ob j e).2 hj)
  have hUk : UpdS (fun q => q = k ∨ (D' 11).ownBlock = some q) w9 (w5.setCell ⟨k, 11, none⟩ v') := (hU5.sub (fun _ _ e => .inr e)).setCell _ _ (fun _ => .inl rfl)
  have k10 : ∀ j, j < w9.heap.size → j ≠ k → (D' 11).ownBlock ≠ some j → (w5.setCell ⟨k, 11, none⟩ v').heap[j]? = w9.heap[j]? := fun j h1 h2 h3 => hUk.block j h1 (fun e => by
    rcases e with e | e
    · exact h2 e
    · exact h3 e)
  have hv' : ∀ j, v'.ownBlock = some j → (D' 11).ownBlock = some j ∨ w9.heap.size ≤ j := by
    intro j hj
    rcases hM5 with e | ⟨i, e, hi⟩
    · exact .inl (by rw [← e]; exact hj)
    · rw [e] at hj; injection hj with hj; exact .inr (by omega)
  have hv2 : ∀ j, v'.ownBlock = some j → w2.heap.size ≤ j := by
    intro j hj
    rcases hv' j hj with e | e
    · exact hsn j e
    · omega
  have k7 : ∀ j, j < wc.heap.size → j ≠ b → j ≠ qb → w8.heap[j]? = wc.heap[j]? := fun j h1 h2 h3 => by
    rw [hw8, Below.heap_setCell _ _ _ _ (show j ≠ qb from h3), hU7.block j h1 h2]
  have hgm : 0 < m → g < w2.heap.size ∧ r < g ∧ g ≠ ab := fun hm => ⟨hb.hg2 hm, hb.hg, hb.gab hm⟩
  refine ⟨?_, ?_, ?_, ?_, ?_, ?_, hM.xs, ?_, ?_, ⟨ys', ?_⟩, fun j hj => by rw [upV_same] at hj; exact hv2 j hj, ?_⟩
  · rw [upV_same]
    refine g1.re (hUk.sub (fun j _ e => by
      rcases e with e | e
      · rw [e]; exact hYk
      · exact .inl (.inr (.inr (.inr e))))) (fun j hj => ?_) (fun j hj => ?_)
    · rcases hj with e | e | e | e
      · exact .inl (.inl (.inl e))
      · exact .inl (.inl (.inr (.inl e)))
      · exact .inl (.inl (.inr (.inr (.inl e))))
      · rcases hv' j e with e | e
        · exact .inl (.inl (.inr (.inr (.inr e))))
        · exact .inr e
    · rw [World.size_setCell]
      rcases hj with e | e | e | e
      · exact Nat.lt_of_lt_of_le (g1.yb j (.inl (.inl e))) hs5
      · omega
      · omega
      · exact (row_lt hO j e).2
  · exact h.rep.off h0 (fun i h3 h15 => (g3 i h3 h15).trans (by rw [hC7])) g4
  · refine ⟨t9.upd.trans hUk (fun i hi e => ?_), t9.moved, t9.c1, t9.c4, t9.c5⟩
    rcases e with e | e
    · exact .inr (.inr (.inl e))
    · have := hsn i e; omega
  · intro t ht
    rw [g3 _ (by omega) (by omega), hC7, offC_other _ _ _ _ (by omega) (by omega) (by omega), h.tabs t ht]
  · have hrl := hM.rd.lt
    refine hM.rd.keep ?_ (fun hm => ?_)
    · rw [k10 r (by omega) (by omega) (fun e => by have := hsn r e; omega), kY r (.inl (.inr (.inl rfl))), k7 r hrl (by omega) (by omega)]
    · have h1 := hgm hm
      have hgl := hM.rd.glt hm
      have ho : (C7 3).ownBlock ≠ some g := fun e => by
        rcases hown g e with e | e
        · have := hb.own g e; omega
        · omega
      rw [k10 g (by omega) (by omega) (fun e => by have := hsn g e; omega), k9 g (by omega) (by omega) ho, k7 g hgl (by omega) (by omega)]
  · have hal := hM.at3.lt
    refine hM.at3.keep ?_
    rw [k10 ab (by omega) (by omega) (fun e => by have := hsn ab e; omega), kY ab (.inl (.inr (.inr (.inl rfl)))), k7 ab hal (by omega) (by omega)]
  · have hkk : w5.heap[k]? = wA.heap[k]? := by
      rw [hU5.block k (by omega) (fun e => by have := hsn k e; omega), kY k hYk, k7 k (by omega) (Ne.symm hb.bk) (by omega), hM.upd.block k (by omega) (by omega)]
    exact (h.bc.keep hkk).set 11 (by omega) v' (row_one hO)
  · rw [upV_other _ _ _ _ (by omega)]; exact h.d0
  · rw [upV_same]
    exact row_same hO (fun j hj => Below.heap_setCell _ _ _ _ (by have := hv2 j hj; show j ≠ k; omega))
  · refine hlit.keep (fun hl => ?_)
    have h1 := hb.hgl (hl' hl)
    have ho : (C7 3).ownBlock ≠ some gl := fun e => by
      rcases hown gl e with e | e
      · exact h1.2.2.2 e
      · omega
    rw [k10 gl (by omega) (by omega) (fun e => by have := hsn gl e; omega), k9 gl (by omega) h1.2.1 ho]
end Go.Proofs.Ytkfilgfcgmohlaa
namespace Go.Proofs.Ytkfilgfcgmohlaa
open Go.RowKit
theorem ByA.any {w : World} {v : Value} {g g' : Nat} {l : List Nat} (h : ByA w v g l) (h0 : l.length = 0) : ByA w v g' l := by
  obtain ⟨pa, cap, off, h1, h2, _, _⟩ := h.ex
  exact ⟨pa, cap, off, h1, h2, fun h => by omega, fun i hi => by omega⟩
theorem roomE_e0 {L a n : Nat} {W limit e0 : Int} (h : roomE L a n W limit e0 = 0) : e0 = 0 := by
  by_cases he : e0 = 0
  · exact he
  · have h1 : ∀ e, errN e0 e = e0 := fun e => by unfold errN; rw [if_neg he]
    have h2 : roomE1 L a n W e0 = e0 := by unfold roomE1; split <;> simp [h1]
    unfold roomE at h
    rw [h2] at h
    split at h
    · rw [h1] at h; exact h
    · exact h
/-- bytes came out, or may not -/
theorem CSt.give {w w' : World} {b : Nat} {Y : Nat → Prop} {s : ByteArray} {limit : Int} {a : Nat} {C : Nat → Value} {x : Ending} {out l : List Nat} {W e0 : Int} (h : CSt w b Y s limit a C) (hR : RepOk C) (h15 : C 15 = .int .i64 e0) (ho2 : out.length ≤ a + 131072) (ha : a ≤ out.length) (hq : GiveQ b C (C 3) out l a W limit e0 w x w') : x = .returned (.tuple #[]) ∧ ∃ C', CSt w' b Y s limit a C' ∧ RepOk C' ∧ CStep w w' b Z0 C C' ∧ (∀ i, i ≠ 3 → i ≠ 15 → C' i = C i) ∧ C' 15 = .int .i64 (roomE out.length a l.length W limit e0) ∧ OutAt w' (C' 3) (giveO (roomE out.length a l.length W limit e0) out l) := by
  obtain ⟨vo', hx, hW, hO, hM, hU⟩ := hq
  obtain ⟨e1, he1⟩ : ∃ e1, e1 = roomE out.length a l.length W limit e0 := ⟨_, rfl⟩
  rw [← he1] at hW hO
  obtain ⟨C', hC'⟩ : ∃ C', C' = upV (upV C 15 (.int .i64 e1)) 3 vo' := ⟨_, rfl⟩
  rw [← hC'] at hW
  have key : ∀ i, i ≠ 3 → i ≠ 15 → C' i = C i := fun i h1 h2 => by rw [hC', upV_other _ _ _ _ h1, upV_other _ _ _ _ h2]
  have e3 : C' 3 = vo' := by rw [hC', upV_same]
  have e15 : C' 15 = .int .i64 e1 := by rw [hC', upV_other _ _ _ _ (by omega), upV_same]
  have hX : UpdS (Xs b (C 3) Y) w w' := hU.updS (.inl rfl) (fun j e => .inr (.inl e))
  have hX0 : UpdS (Xs b (C 3) Z0) w w' := hU.updS (.inl rfl) (fun j e => .inr (.inl e))
  have hx' : ∀ k, k < w.heap.size → Xs b (C' 3) Y k → Xs b (C 3) Y k := by rw [e3]; exact Xs_moved hM
  have hbl := h.wc.lt
  refine ⟨hx, C', ⟨hW, (key 0 (by omega) (by omega)).trans h.c0, (key 2 (by omega) (by omega)).trans h.c2, (key 6 (by omega) (by omega)).trans h.c6, ⟨_, by rw [e3]; exact hO, ?_, ?_⟩, ?_, ?_, h.nb, fun j hj => Nat.lt_of_lt_of_le (h.yb j hj) hU.size, fun t ht => (h.tabs t ht).upd hX (key _ (by omega) (by omega)) hx', h.tree.upd hX (key _ (by omega) (by omega)) (key _ (by omega) (by omega)) hx', ?_, ⟨e1, e15⟩⟩, ?_, ⟨hX0, by rw [e3]; exact hM, key 1 (by omega) (by omega), key 4 (by omega) (by omega), key 5 (by omega) (by omega)⟩, key, by rw [← he1]; exact e15, by rw [← he1, e3]; exact hO⟩
  · unfold giveO; split
    · rw [List.length_append]; omega
    · exact ha
  · unfold giveO; split
    · rename_i hz
      have := roomE_ok (he1.symm.trans hz)
      rw [List.length_append]; omega
    · exact ho2
  · rw [key 5 (by omega) (by omega)]; exact h.fr
  · intro j hj
    rw [e3] at hj
    rcases hM with e | ⟨q, e, hq⟩
    · exact h.ob j (by rw [← e]; exact hj)
    · rw [e] at hj
      injection hj with hj
      exact ⟨by omega, fun hy => by have := h.yb j hy; omega⟩
  · rw [key 10 (by omega) (by omega), key 11 (by omega) (by omega), key 12 (by omega) (by omega)]; exact h.reps
  · intro h0
    rw [e15] at h0
    injection h0 with _ h0
    have h00 := roomE_e0 (he1.symm.trans h0)
    obtain ⟨R0, R1, R2, r⟩ := hR (by rw [h15, h00])
    exact ⟨R0, R1, R2, by rw [key 10 (by omega) (by omega)]; exact r.1, by rw [key 11 (by omega) (by omega)]; exact r.2.1, by rw [key 12 (by omega) (by omega)]; exact r.2.2.1, r.2.2.2⟩
/-- 'give' within a compressed block -/
theorem give_w (b f gl : Nat) (Y : Nat → Prop) (s : ByteArray) (limit : Int) (a : Nat) (C : Nat → Value) (vb : Value) (l : List Nat) (W e0 : Int) (w : World) (h : CSt w b Y s limit a C) (hR : RepOk C) (h15 : C 15 = .int .i64 e0) (hf : w.cell? ⟨f, 0, none⟩ = some (.int .i64 W)) (hB : ByA w vb gl l) (hgb : 0 < l.length → gl ≠ b) (ha : a ≤ 1000000000) (hn : l.length ≤ 4194304) :
    Calls Try.prog 38 #[.pointer (some ⟨b, 0, none⟩), vb, .pointer (some ⟨f, 0, none⟩)] w fun x w' => x = .returned (.tuple #[]) ∧ ∃ C', CSt w' b Y s limit a C' ∧ RepOk C' ∧ CStep w w' b Z0 C C' ∧ (∀ i, i ≠ 3 → i ≠ 15 → C' i = C i) := by
  obtain ⟨out, hO, ho1, ho2⟩ := h.out
  obtain ⟨g', hB', hg'⟩ : ∃ g', ByA w vb g' l ∧ g' ≠ b := by
    by_cases h0 : 0 < l.length
    · exact ⟨gl, hB, hgb h0⟩
    · exact ⟨b + 1, hB.any (by omega), by omega⟩
  refine (give_any b f g' C (C 3) vb out l a W limit e0 w h.wc rfl h.c6 h.c2 h15 hf hO hB' (fun e => (h.ob b e).1 rfl) hg' (by omega) ho1 (by omega)).mono ?_
  intro x w' hq
  obtain ⟨hx, C', h1, h2, h3, h4, _⟩ := h.give hR h15 ho2 ho1 hq
  exact ⟨hx, C', h1, h2, h3, h4⟩
/-- behind the last sequence -/
theorem fin_give {w w2 wA wx w' : World} {b k r g ab gl m : Nat} {fb : Nat → Nat} {Y : Nat → Prop} {s : ByteArray} {limit : Int} {a : Nat} {C C' C1 C2 D D' : Nat → Value} {tb lo hi : Nat → Nat} {T : Nat → Tb} {pos : Nat} {x : Nat → Nat} {nq : Nat} {vl : Value} {l ll : List Nat} (hb : SBase w w2 b k r g ab gl m Y C tb lo hi T ll) (h : StI w w2 wA b k r g ab gl m fb Y s limit a C C' D D' T pos x nq vl l) (h1 : CStep wA wx b Z0 C' C1) (h2 : CSt w' b (Ys Y r ab (D' 11)) s limit a C2) (h3 : RepOk C2) (h4 : CStep wx w' b Z0 C1 C2) (hs1 : CSt wx b (Ys Y r ab (D' 11)) s limit a C1) : CompQ b k Y s limit a C D w (.returned (.tuple #[])) w' := by
  have hY : Ys Y r ab (D' 11) k := .inl hb.yk
  have key : ∀ {u u' : World} {E E' : Nat → Value}, CSt u b (Ys Y r ab (D' 11)) s limit a E → CStep u u' b Z0 E E' → u'.heap[k]? = u.heap[k]? := fun hc hs => hs.upd.block k (hc.yb k hY) (fun e => by
    rcases e with e | e | e
    · exact hb.bk e.symm
    · exact (hc.ob k e).2 hY
    · exact e)
  exact ⟨C2, D', rfl, h2.less (fun j hj => .inl hj), h3, ((h.step.trans h1.wide).trans h4.wide).fin hb.below hb.hr hb.hab, h.bc.keep ((key hs1 h4).trans (key h.st h1)), h.d0⟩
end Go.Proofs.Ytkfilgfcgmohlaa
