import Derived.Test.YtkfilgfcgmohlaaJ20
import Derived.WalkKit
import Derived.WalkSpells
import Derived.WalkLawsBesides
import Derived.Deep.AppendLies
import Derived.Laws.OwnMore
import Derived.Deep.QuietTactic
import Derived.BigQuiet
namespace Go.Proofs.Ytkfilgfcgmohlaa
open Go.RowKit
/-- the distributions that are not written: runs: how often, and for how many symbols -/
def runsU (t : Nat) : List Int := if t = 1 then [1, 6, 2, 3, 1, 15, -1, 5] else if t = 0 then [4, 1, 3, 1, 2, 11, 1, 3, 2, 9, 3, 1, 2, 1, 1, 5, -1, 4] else [1, 1, 4, 1, 3, 1, 2, 6, 1, 37, -1, 7]
def logU (t : Nat) : Nat := if t = 1 then 5 else 6
/-- the first j runs, written out -/
def exN (R : List Int) : Nat → List Int
  | 0 => []
  | j + 1 => exN R j ++ List.replicate (R.getD (2 * j + 1) 0).toNat (R.getD (2 * j) 0)
def usualO (t : Nat) : List Int := exN (runsU t) ((runsU t).length / 2)
theorem usual_dist (t : Nat) (ht : t < 3) : Dist (topN t) (usualO t) (2 ^ logU t) := by
  rcases (show t = 0 ∨ t = 1 ∨ t = 2 by omega) with rfl | rfl | rfl
  all_goals exact ⟨by decide, by decide, by decide⟩
theorem usual_size (t : Nat) : isSize (2 ^ logU t) := by unfold logU; split <;> simp [isSize]
/-- runs in memory -/
structure RunsAt (w : World) (g : Nat) (R : List Int) : Prop where
  c : ∀ i, i < R.length → w.cell? ⟨g, i, none⟩ = some (.int .i64 (R.getD i 0))
  lt : g < w.heap.size
theorem runs_new (W : World) (R : List Int) : RunsAt (W.alloc (Obj.cells (ivs R).toArray 3)) W.heap.size R := by
  refine ⟨fun i hi => ?_, by simp⟩
  rw [World.cell?_alloc_new, List.getElem?_toArray, ivs_at R i hi]
theorem exN_len (R : List Int) (c : Nat) (hc : ∀ i, (R.getD i 0).toNat ≤ c) : ∀ j, (exN R j).length ≤ j * c
  | 0 => by simp [exN]
  | j + 1 => by
    have := exN_len R c hc j
    have := hc (2 * j + 1)
    rw [exN, List.length_append, List.length_replicate, Nat.add_mul]; omega
def UsualQ (t : Nat) (w : World) (e : Ending) (w' : World) : Prop := ∃ v, e = .returned (.tuple #[v, .int .i64 (logU t : Int)]) ∧ Below w.heap.size w w' ∧ w'.ownsRow w.heap.size 3 1 v (usualO t).length (ivs (usualO t))
theorem runs_small (t : Nat) (i : Nat) : ((runsU t).getD i 0).toNat ≤ 37 ∧ -1 ≤ (runsU t).getD i 0 ∧ (runsU t).getD i 0 ≤ 37 := by
  have key : ∀ l : List Int, (∀ x ∈ l, -1 ≤ x ∧ x ≤ 37) → -1 ≤ l.getD i 0 ∧ l.getD i 0 ≤ 37 := by
    intro l h
    by_cases hi : i < l.length
    · rw [List.getD_eq_getElem?_getD, List.getElem?_eq_getElem hi]; exact h _ (List.getElem_mem _)
    · rw [List.getD_eq_getElem?_getD, List.getElem?_eq_none (by omega)]; simp
  have := key (runsU t) (by unfold runsU; split <;> (try split) <;> decide)
  omega
set_option maxRecDepth 100000 in
set_option maxHeartbeats 2000000 in
theorem usual_0 (w : World) : Calls Try.prog 79 #[.int .i64 0] w fun e w' => UsualQ 0 w e w' := by
  obtain ⟨R, hRe⟩ : ∃ R, R = runsU 0 := ⟨_, rfl⟩
  have hRl : R.length = 18 := by rw [hRe]; rfl
  have HRe : Hid (R = runsU 0) := hRe
  have hsm : ∀ i, (R.getD i 0).toNat ≤ 37 ∧ -1 ≤ R.getD i 0 ∧ R.getD i 0 ≤ 37 := by rw [hRe]; exact runs_small 0
  have HSM : Hid (∀ i, (R.getD i 0).toNat ≤ 37 ∧ -1 ≤ R.getD i 0 ∧ R.getD i 0 ≤ 37) := hsm
  have HN : Hid (∀ W : World, RunsAt (W.alloc (Obj.cells #[Value.int .i64 4, Value.int .i64 1, Value.int .i64 3, Value.int .i64 1, Value.int .i64 2, Value.int .i64 11, Value.int .i64 1, Value.int .i64 3, Value.int .i64 2, Value.int .i64 9, Value.int .i64 3, Value.int .i64 1, Value.int .i64 2, Value.int .i64 1, Value.int .i64 1, Value.int .i64 5, Value.int .i64 (-1), Value.int .i64 4] 3)) W.heap.size R) := fun W => by
    have := runs_new W R
    rw [hRe] at this ⊢
    exact this
  have HRL : Hid (R.length = 18) := hRl
  clear hRe hsm hRl
  go_enter Try.func79, Try.ntmps79
  go_wp2_with fail
  have HW := HN.out (w.alloc (Obj.cells #[Value.int .i64 1, Value.int .i64 6, Value.int .i64 2, Value.int .i64 3, Value.int .i64 1, Value.int .i64 15, Value.int .i64 (-1), Value.int .i64 5] 3))
  have HBL : Hid (Below w.heap.size w ((w.alloc (Obj.cells #[Value.int .i64 1, Value.int .i64 6, Value.int .i64 2, Value.int .i64 3, Value.int .i64 1, Value.int .i64 15, Value.int .i64 (-1), Value.int .i64 5] 3)).alloc (Obj.cells #[Value.int .i64 4, Value.int .i64 1, Value.int .i64 3, Value.int .i64 1, Value.int .i64 2, Value.int .i64 11, Value.int .i64 1, Value.int .i64 3, Value.int .i64 2, Value.int .i64 9, Value.int .i64 3, Value.int .i64 1, Value.int .i64 2, Value.int .i64 1, Value.int .i64 1, Value.int .i64 5, Value.int .i64 (-1), Value.int .i64 4] 3))) := ((Below.refl w.heap.size w).alloc (Nat.le_refl _) _).alloc (by simp) _
  rw [show (w.alloc (Obj.cells #[Value.int .i64 1, Value.int .i64 6, Value.int .i64 2, Value.int .i64 3, Value.int .i64 1, Value.int .i64 15, Value.int .i64 (-1), Value.int .i64 5] 3)).heap.size = w.heap.size + 1 by simp] at HW
  generalize (w.alloc (Obj.cells #[Value.int .i64 1, Value.int .i64 6, Value.int .i64 2, Value.int .i64 3, Value.int .i64 1, Value.int .i64 15, Value.int .i64 (-1), Value.int .i64 5] 3)).alloc (Obj.cells #[Value.int .i64 4, Value.int .i64 1, Value.int .i64 3, Value.int .i64 1, Value.int .i64 2, Value.int .i64 11, Value.int .i64 1, Value.int .i64 3, Value.int .i64 2, Value.int .i64 9, Value.int .i64 3, Value.int .i64 1, Value.int .i64 2, Value.int .i64 1, Value.int .i64 1, Value.int .i64 5, Value.int .i64 (-1), Value.int .i64 4] 3) = W0 at HW HBL ⊢
  obtain ⟨gR, hgR⟩ : ∃ gR, gR = w.heap.size + 1 := ⟨_, rfl⟩
  rw [← hgR] at HW
  rw [← hgR]
  have HRA : Hid (RunsAt W0 gR R) := HW
  have hgl : gR < W0.heap.size := HW.lt
  clear HW HN hgR
  go_loopw [6, 7] (fun ov iv wr => ∃ j : Nat, 2 * j ≤ 18 ∧ iv = .int .i64 (2 * (j : Int)) ∧ wr.ownsRow W0.heap.size 3 1 ov (exN R j).length (ivs (exN R j)) ∧ Below W0.heap.size W0 wr) (fun _ iv _ => (18 - intOf iv).toNat)
  case atStart => exact ⟨0, by omega, rfl, World.ownsRow_nil _ _ _ _, Below.refl _ _⟩
  case round =>
    obtain ⟨j, hj, rfl, hrow, hbw⟩ := hrel
    have HRW : Hid (wr.ownsRow W0.heap.size 3 1 u6 (exN R j).length (ivs (exN R j)) ∧ Below W0.heap.size W0 wr) := ⟨hrow, hbw⟩
    clear hrow hbw
    by_cases hlt : 2 * j < 18
    · obtain ⟨c, hc⟩ : ∃ c : Nat, c = (R.getD (2 * j + 1) 0).toNat := ⟨_, rfl⟩
      obtain ⟨x, hx⟩ : ∃ x, x = R.getD (2 * j + 1) 0 := ⟨_, rfl⟩
      obtain ⟨a, ha⟩ : ∃ a, a = R.getD (2 * j) 0 := ⟨_, rfl⟩
      have hcx : c = x.toNat := by rw [hc, hx]
      have hxb : -1 ≤ x ∧ x ≤ 37 := by rw [hx]; exact (HSM.out _).2
      have hab : -1 ≤ a ∧ a ≤ 37 := by rw [ha]; exact (HSM.out _).2
      have HEX : Hid (exN R (j + 1) = exN R j ++ List.replicate c a) := by show _ = _; rw [exN, ← hc, ← ha]
      have HX : Hid (x = R.getD (2 * j + 1) 0 ∧ a = R.getD (2 * j) 0) := ⟨hx, ha⟩
      have hle := exN_len R 37 (fun i => (HSM.out i).1) j
      have hle2 : (exN R j).length ≤ 400 := by omega
      have h2j : (2 : Int) * (j : Int) = ((2 * j : Nat) : Int) := by omega
      obtain ⟨p, hp⟩ : ∃ p, p = 2 * j := ⟨_, rfl⟩
      rw [h2j, ← hp]
      rw [← hp] at HX hlt
      have HP : Hid (p = 2 * j) := hp
      have hd8 : decide ((p : Int) < 18) = true := decide_eq_true (by omega)
      clear hc hx ha hle h2j hp hj
      go_wp2_with fail
      go_loopw [6, 8] (fun ov kv wr => ∃ k : Nat, k ≤ c ∧ kv = .int .i64 k ∧ wr.ownsRow W0.heap.size 3 1 ov (exN R j ++ List.replicate k a).length (ivs (exN R j ++ List.replicate k a)) ∧ Below W0.heap.size W0 wr) (fun _ kv _ => (c - intOf kv).toNat)
      case atStart => exact ⟨0, by omega, rfl, by simpa using HRW.out.1, HRW.out.2⟩
      case round =>
        clear HRW
        obtain ⟨k, hk, rfl, hrow, hbw⟩ := hrel
        have HRW : Hid (wr.ownsRow W0.heap.size 3 1 u6 (exN R j ++ List.replicate k a).length (ivs (exN R j ++ List.replicate k a)) ∧ Below W0.heap.size W0 wr) := ⟨hrow, hbw⟩
        have hbig := hbw.size
        have c1 : wr.cell? ⟨gR, p + 1, none⟩ = some (.int .i64 x) := by
          rw [hbw.cell (p := ⟨gR, p + 1, none⟩) hgl, HRA.out.c (p + 1) (by rw [HRL.out]; have := HP.out; omega), HX.out.1, HP.out]
        have c0 : wr.cell? ⟨gR, p, none⟩ = some (.int .i64 a) := by
          rw [hbw.cell (p := ⟨gR, p, none⟩) hgl, HRA.out.c p (by rw [HRL.out]; exact hlt), HX.out.2]
        have hlk : (exN R j ++ List.replicate k a).length = (exN R j).length + k := by simp
        have hgw : gR < wr.heap.size := by omega
        have hpI : (p : Int) + 1 < 18 := by have := HP.out; omega
        clear hbw
        by_cases hkc : k < c
        · rw [hlk] at hrow
          clear hlk
          go_wp2_with (at_builtin; refine ia_list (by rfl) (.tmp 32) (.tmp 37) (by rfl) (by first | rfl | simp) (gb := wr.heap.size) (y := a) (by simp [Act.eval]) (by omega) hrow hbig (by repeat (first | exact Below.refl _ _ | refine Below.drew ?_ | refine Below.alloc ?_ (by simp <;> omega) _)) (by simp) ?_; intro g1 cap1 w4 hfin)
          refine ⟨⟨k + 1, by omega, by go_num, ?_, HRW.out.2.trans hfin.out.2⟩, by simp [intOf]; omega⟩
          rw [List.replicate_succ', ← List.append_assoc, ivs_append, show (exN R j ++ List.replicate k a ++ [a]).length = (exN R j).length + k + 1 by simp; omega]
          exact hfin.out.1
        · obtain rfl : k = c := by omega
          clear hrow hlk
          go_wp2_with fail
          refine ⟨⟨j + 1, by have := HP.out; omega, ?_, by rw [HEX.out]; exact HRW.out.1, HRW.out.2⟩, ?_⟩
          · have := HP.out; go_num
          · have := HP.out; simp [intOf]; omega
    · have HE : Hid (exN R j = usualO 0) := by
        show _ = _
        unfold usualO
        rw [← HRe.out, HRL.out, show j = 18 / 2 by omega]
      have h2j : (2 : Int) * (j : Int) = 18 := by omega
      rw [h2j]
      go_wp2_with fail
      go_ret2
      refine ⟨_, rfl, HBL.out.trans (HRW.out.2.mono HBL.out.size), ?_⟩
      rw [← HE.out]
      exact row_mono HRW.out.1 HBL.out.size
set_option maxRecDepth 100000 in
set_option maxHeartbeats 2000000 in
theorem usual_1 (w : World) : Calls Try.prog 79 #[.int .i64 1] w fun e w' => UsualQ 1 w e w' := by
  obtain ⟨R, hRe⟩ : ∃ R, R = runsU 1 := ⟨_, rfl⟩
  have hRl : R.length = 8 := by rw [hRe]; rfl
  have HRe : Hid (R = runsU 1) := hRe
  have hsm : ∀ i, (R.getD i 0).toNat ≤ 37 ∧ -1 ≤ R.getD i 0 ∧ R.getD i 0 ≤ 37 := by rw [hRe]; exact runs_small 1
  have HSM : Hid (∀ i, (R.getD i 0).toNat ≤ 37 ∧ -1 ≤ R.getD i 0 ∧ R.getD i 0 ≤ 37) := hsm
  have HN : Hid (∀ W : World, RunsAt (W.alloc (Obj.cells #[Value.int .i64 1, Value.int .i64 6, Value.int .i64 2, Value.int .i64 3, Value.int .i64 1, Value.int .i64 15, Value.int .i64 (-1), Value.int .i64 5] 3)) W.heap.size R) := fun W => by
    have := runs_new W R
    rw [hRe] at this ⊢
    exact this
  have HRL : Hid (R.length = 8) := hRl
  clear hRe hsm hRl
  go_enter Try.func79, Try.ntmps79
  go_wp2_with fail
  have HW := HN.out w
  have HBL : Hid (Below w.heap.size w (w.alloc (Obj.cells #[Value.int .i64 1, Value.int .i64 6, Value.int .i64 2, Value.int .i64 3, Value.int .i64 1, Value.int .i64 15, Value.int .i64 (-1), Value.int .i64 5] 3))) := (Below.refl w.heap.size w).alloc (Nat.le_refl _) _
  skip
  generalize w.alloc (Obj.cells #[Value.int .i64 1, Value.int .i64 6, Value.int .i64 2, Value.int .i64 3, Value.int .i64 1, Value.int .i64 15, Value.int .i64 (-1), Value.int .i64 5] 3) = W0 at HW HBL ⊢
  obtain ⟨gR, hgR⟩ : ∃ gR, gR = w.heap.size := ⟨_, rfl⟩
  rw [← hgR] at HW
  rw [← hgR]
  have HRA : Hid (RunsAt W0 gR R) := HW
  have hgl : gR < W0.heap.size := HW.lt
  clear HW HN hgR
  go_loopw [6, 7] (fun ov iv wr => ∃ j : Nat, 2 * j ≤ 8 ∧ iv = .int .i64 (2 * (j : Int)) ∧ wr.ownsRow W0.heap.size 3 1 ov (exN R j).length (ivs (exN R j)) ∧ Below W0.heap.size W0 wr) (fun _ iv _ => (8 - intOf iv).toNat)
  case atStart => exact ⟨0, by omega, rfl, World.ownsRow_nil _ _ _ _, Below.refl _ _⟩
  case round =>
    obtain ⟨j, hj, rfl, hrow, hbw⟩ := hrel
    have HRW : Hid (wr.ownsRow W0.heap.size 3 1 u6 (exN R j).length (ivs (exN R j)) ∧ Below W0.heap.size W0 wr) := ⟨hrow, hbw⟩
    clear hrow hbw
    by_cases hlt : 2 * j < 8
    · obtain ⟨c, hc⟩ : ∃ c : Nat, c = (R.getD (2 * j + 1) 0).toNat := ⟨_, rfl⟩
      obtain ⟨x, hx⟩ : ∃ x, x = R.getD (2 * j + 1) 0 := ⟨_, rfl⟩
      obtain ⟨a, ha⟩ : ∃ a, a = R.getD (2 * j) 0 := ⟨_, rfl⟩
      have hcx : c = x.toNat := by rw [hc, hx]
      have hxb : -1 ≤ x ∧ x ≤ 37 := by rw [hx]; exact (HSM.out _).2
      have hab : -1 ≤ a ∧ a ≤ 37 := by rw [ha]; exact (HSM.out _).2
      have HEX : Hid (exN R (j + 1) = exN R j ++ List.replicate c a) := by show _ = _; rw [exN, ← hc, ← ha]
      have HX : Hid (x = R.getD (2 * j + 1) 0 ∧ a = R.getD (2 * j) 0) := ⟨hx, ha⟩
      have hle := exN_len R 37 (fun i => (HSM.out i).1) j
      have hle2 : (exN R j).length ≤ 400 := by omega
      have h2j : (2 : Int) * (j : Int) = ((2 * j : Nat) : Int) := by omega
      obtain ⟨p, hp⟩ : ∃ p, p = 2 * j := ⟨_, rfl⟩
      rw [h2j, ← hp]
      rw [← hp] at HX hlt
      have HP : Hid (p = 2 * j) := hp
      have hd8 : decide ((p : Int) < 8) = true := decide_eq_true (by omega)
      clear hc hx ha hle h2j hp hj
      go_wp2_with fail
      go_loopw [6, 8] (fun ov kv wr => ∃ k : Nat, k ≤ c ∧ kv = .int .i64 k ∧ wr.ownsRow W0.heap.size 3 1 ov (exN R j ++ List.replicate k a).length (ivs (exN R j ++ List.replicate k a)) ∧ Below W0.heap.size W0 wr) (fun _ kv _ => (c - intOf kv).toNat)
      case atStart => exact ⟨0, by omega, rfl, by simpa using HRW.out.1, HRW.out.2⟩
      case round =>
        clear HRW
        obtain ⟨k, hk, rfl, hrow, hbw⟩ := hrel
        have HRW : Hid (wr.ownsRow W0.heap.size 3 1 u6 (exN R j ++ List.replicate k a).length (ivs (exN R j ++ List.replicate k a)) ∧ Below W0.heap.size W0 wr) := ⟨hrow, hbw⟩
        have hbig := hbw.size
        have c1 : wr.cell? ⟨gR, p + 1, none⟩ = some (.int .i64 x) := by
          rw [hbw.cell (p := ⟨gR, p + 1, none⟩) hgl, HRA.out.c (p + 1) (by rw [HRL.out]; have := HP.out; omega), HX.out.1, HP.out]
        have c0 : wr.cell? ⟨gR, p, none⟩ = some (.int .i64 a) := by
          rw [hbw.cell (p := ⟨gR, p, none⟩) hgl, HRA.out.c p (by rw [HRL.out]; exact hlt), HX.out.2]
        have hlk : (exN R j ++ List.replicate k a).length = (exN R j).length + k := by simp
        have hgw : gR < wr.heap.size := by omega
        have hpI : (p : Int) + 1 < 8 := by have := HP.out; omega
        clear hbw
        by_cases hkc : k < c
        · rw [hlk] at hrow
          clear hlk
          go_wp2_with (at_builtin; refine ia_list (by rfl) (.tmp 32) (.tmp 37) (by rfl) (by first | rfl | simp) (gb := wr.heap.size) (y := a) (by simp [Act.eval]) (by omega) hrow hbig (by repeat (first | exact Below.refl _ _ | refine Below.drew ?_ | refine Below.alloc ?_ (by simp <;> omega) _)) (by simp) ?_; intro g1 cap1 w4 hfin)
          refine ⟨⟨k + 1, by omega, by go_num, ?_, HRW.out.2.trans hfin.out.2⟩, by simp [intOf]; omega⟩
          rw [List.replicate_succ', ← List.append_assoc, ivs_append, show (exN R j ++ List.replicate k a ++ [a]).length = (exN R j).length + k + 1 by simp; omega]
          exact hfin.out.1
        · obtain rfl : k = c := by omega
          clear hrow hlk
          go_wp2_with fail
          refine ⟨⟨j + 1, by have := HP.out; omega, ?_, by rw [HEX.out]; exact HRW.out.1, HRW.out.2⟩, ?_⟩
          · have := HP.out; go_num
          · have := HP.out; simp [intOf]; omega
    · have HE : Hid (exN R j = usualO 1) := by
        show _ = _
        unfold usualO
        rw [← HRe.out, HRL.out, show j = 8 / 2 by omega]
      have h2j : (2 : Int) * (j : Int) = 8 := by omega
      rw [h2j]
      go_wp2_with fail
      go_ret2
      refine ⟨_, rfl, HBL.out.trans (HRW.out.2.mono HBL.out.size), ?_⟩
      rw [← HE.out]
      exact row_mono HRW.out.1 HBL.out.size
set_option maxRecDepth 100000 in
set_option maxHeartbeats 2000000 in
theorem usual_2 (w : World) : Calls Try.prog 79 #[.int .i64 2] w fun e w' => UsualQ 2 w e w' := by
  obtain ⟨R, hRe⟩ : ∃ R, R = runsU 2 := ⟨_, rfl⟩
  have hRl : R.length = 12 := by rw [hRe]; rfl
  have HRe : Hid (R = runsU 2) := hRe
  have hsm : ∀ i, (R.getD i 0).toNat ≤ 37 ∧ -1 ≤ R.getD i 0 ∧ R.getD i 0 ≤ 37 := by rw [hRe]; exact runs_small 2
  have HSM : Hid (∀ i, (R.getD i 0).toNat ≤ 37 ∧ -1 ≤ R.getD i 0 ∧ R.getD i 0 ≤ 37) := hsm
  have HN : Hid (∀ W : World, RunsAt (W.alloc (Obj.cells #[Value.int .i64 1, Value.int .i64 1, Value.int .i64 4, Value.int .i64 1, Value.int .i64 3, Value.int .i64 1, Value.int .i64 2, Value.int .i64 6, Value.int .i64 1, Value.int .i64 37, Value.int .i64 (-1), Value.int .i64 7] 3)) W.heap.size R) := fun W => by
    have := runs_new W R
    rw [hRe] at this ⊢
    exact this
  have HRL : Hid (R.length = 12) := hRl
  clear hRe hsm hRl
  go_enter Try.func79, Try.ntmps79
  go_wp2_with fail
  have HW := HN.out (w.alloc (Obj.cells #[Value.int .i64 1, Value.int .i64 6, Value.int .i64 2, Value.int .i64 3, Value.int .i64 1, Value.int .i64 15, Value.int .i64 (-1), Value.int .i64 5] 3))
  have HBL : Hid (Below w.heap.size w ((w.alloc (Obj.cells #[Value.int .i64 1, Value.int .i64 6, Value.int .i64 2, Value.int .i64 3, Value.int .i64 1, Value.int .i64 15, Value.int .i64 (-1), Value.int .i64 5] 3)).alloc (Obj.cells #[Value.int .i64 1, Value.int .i64 1, Value.int .i64 4, Value.int .i64 1, Value.int .i64 3, Value.int .i64 1, Value.int .i64 2, Value.int .i64 6, Value.int .i64 1, Value.int .i64 37, Value.int .i64 (-1), Value.int .i64 7] 3))) := ((Below.refl w.heap.size w).alloc (Nat.le_refl _) _).alloc (by simp) _
  rw [show (w.alloc (Obj.cells #[Value.int .i64 1, Value.int .i64 6, Value.int .i64 2, Value.int .i64 3, Value.int .i64 1, Value.int .i64 15, Value.int .i64 (-1), Value.int .i64 5] 3)).heap.size = w.heap.size + 1 by simp] at HW
  generalize (w.alloc (Obj.cells #[Value.int .i64 1, Value.int .i64 6, Value.int .i64 2, Value.int .i64 3, Value.int .i64 1, Value.int .i64 15, Value.int .i64 (-1), Value.int .i64 5] 3)).alloc (Obj.cells #[Value.int .i64 1, Value.int .i64 1, Value.int .i64 4, Value.int .i64 1, Value.int .i64 3, Value.int .i64 1, Value.int .i64 2, Value.int .i64 6, Value.int .i64 1, Value.int .i64 37, Value.int .i64 (-1), Value.int .i64 7] 3) = W0 at HW HBL ⊢
  obtain ⟨gR, hgR⟩ : ∃ gR, gR = w.heap.size + 1 := ⟨_, rfl⟩
  rw [← hgR] at HW
  rw [← hgR]
  have HRA : Hid (RunsAt W0 gR R) := HW
  have hgl : gR < W0.heap.size := HW.lt
  clear HW HN hgR
  go_loopw [6, 7] (fun ov iv wr => ∃ j : Nat, 2 * j ≤ 12 ∧ iv = .int .i64 (2 * (j : Int)) ∧ wr.ownsRow W0.heap.size 3 1 ov (exN R j).length (ivs (exN R j)) ∧ Below W0.heap.size W0 wr) (fun _ iv _ => (12 - intOf iv).toNat)
  case atStart => exact ⟨0, by omega, rfl, World.ownsRow_nil _ _ _ _, Below.refl _ _⟩
  case round =>
    obtain ⟨j, hj, rfl, hrow, hbw⟩ := hrel
    have HRW : Hid (wr.ownsRow W0.heap.size 3 1 u6 (exN R j).length (ivs (exN R j)) ∧ Below W0.heap.size W0 wr) := ⟨hrow, hbw⟩
    clear hrow hbw
    by_cases hlt : 2 * j < 12
    · obtain ⟨c, hc⟩ : ∃ c : Nat, c = (R.getD (2 * j + 1) 0).toNat := ⟨_, rfl⟩
      obtain ⟨x, hx⟩ : ∃ x, x = R.getD (2 * j + 1) 0 := ⟨_, rfl⟩
      obtain ⟨a, ha⟩ : ∃ a, a = R.getD (2 * j) 0 := ⟨_, rfl⟩
      have hcx : c = x.toNat := by rw [hc, hx]
      have hxb : -1 ≤ x ∧ x ≤ 37 := by rw [hx]; exact (HSM.out _).2
      have hab : -1 ≤ a ∧ a ≤ 37 := by rw [ha]; exact (HSM.out _).2
      have HEX : Hid (exN R (j + 1) = exN R j ++ List.replicate c a) := by show _ = _; rw [exN, ← hc, ← ha]
      have HX : Hid (x = R.getD (2 * j + 1) 0 ∧ a = R.getD (2 * j) 0) := ⟨hx, ha⟩
      have hle := exN_len R 37 (fun i => (HSM.out i).1) j
      have hle2 : (exN R j).length ≤ 400 := by omega
      have h2j : (2 : Int) * (j : Int) = ((2 * j : Nat) : Int) := by omega
      obtain ⟨p, hp⟩ : ∃ p, p = 2 * j := ⟨_, rfl⟩
      rw [h2j, ← hp]
      rw [← hp] at HX hlt
      have HP : Hid (p = 2 * j) := hp
      have hd8 : decide ((p : Int) < 12) = true := decide_eq_true (by omega)
      clear hc hx ha hle h2j hp hj
      go_wp2_with fail
      go_loopw [6, 8] (fun ov kv wr => ∃ k : Nat, k ≤ c ∧ kv = .int .i64 k ∧ wr.ownsRow W0.heap.size 3 1 ov (exN R j ++ List.replicate k a).length (ivs (exN R j ++ List.replicate k a)) ∧ Below W0.heap.size W0 wr) (fun _ kv _ => (c - intOf kv).toNat)
      case atStart => exact ⟨0, by omega, rfl, by simpa using HRW.out.1, HRW.out.2⟩
      case round =>
        clear HRW
        obtain ⟨k, hk, rfl, hrow, hbw⟩ := hrel
        have HRW : Hid (wr.ownsRow W0.heap.size 3 1 u6 (exN R j ++ List.replicate k a).length (ivs (exN R j ++ List.replicate k a)) ∧ Below W0.heap.size W0 wr) := ⟨hrow, hbw⟩
        have hbig := hbw.size
        have c1 : wr.cell? ⟨gR, p + 1, none⟩ = some (.int .i64 x) := by
          rw [hbw.cell (p := ⟨gR, p + 1, none⟩) hgl, HRA.out.c (p + 1) (by rw [HRL.out]; have := HP.out; omega), HX.out.1, HP.out]
        have c0 : wr.cell? ⟨gR, p, none⟩ = some (.int .i64 a) := by
          rw [hbw.cell (p := ⟨gR, p, none⟩) hgl, HRA.out.c p (by rw [HRL.out]; exact hlt), HX.out.2]
        have hlk : (exN R j ++ List.replicate k a).length = (exN R j).length + k := by simp
        have hgw : gR < wr.heap.size := by omega
        have hpI : (p : Int) + 1 < 12 := by have := HP.out; omega
        clear hbw
        by_cases hkc : k < c
        · rw [hlk] at hrow
          clear hlk
          go_wp2_with (at_builtin; refine ia_list (by rfl) (.tmp 32) (.tmp 37) (by rfl) (by first | rfl | simp) (gb := wr.heap.size) (y := a) (by simp [Act.eval]) (by omega) hrow hbig (by repeat (first | exact Below.refl _ _ | refine Below.drew ?_ | refine Below.alloc ?_ (by simp <;> omega) _)) (by simp) ?_; intro g1 cap1 w4 hfin)
          refine ⟨⟨k + 1, by omega, by go_num, ?_, HRW.out.2.trans hfin.out.2⟩, by simp [intOf]; omega⟩
          rw [List.replicate_succ', ← List.append_assoc, ivs_append, show (exN R j ++ List.replicate k a ++ [a]).length = (exN R j).length + k + 1 by simp; omega]
          exact hfin.out.1
        · obtain rfl : k = c := by omega
          clear hrow hlk
          go_wp2_with fail
          refine ⟨⟨j + 1, by have := HP.out; omega, ?_, by rw [HEX.out]; exact HRW.out.1, HRW.out.2⟩, ?_⟩
          · have := HP.out; go_num
          · have := HP.out; simp [intOf]; omega
    · have HE : Hid (exN R j = usualO 2) := by
        show _ = _
        unfold usualO
        rw [← HRe.out, HRL.out, show j = 12 / 2 by omega]
      have h2j : (2 : Int) * (j : Int) = 12 := by omega
      rw [h2j]
      go_wp2_with fail
      go_ret2
      refine ⟨_, rfl, HBL.out.trans (HRW.out.2.mono HBL.out.size), ?_⟩
      rw [← HE.out]
      exact row_mono HRW.out.1 HBL.out.size
theorem usual_any (t : Nat) (w : World) (ht : t < 3) : Calls Try.prog 79 #[.int .i64 (t : Int)] w fun e w' => UsualQ t w e w' := by
  rcases (show t = 0 ∨ t = 1 ∨ t = 2 by omega) with rfl | rfl | rfl
  · exact usual_0 w
  · exact usual_1 w
  · exact usual_2 w
end Go.Proofs.Ytkfilgfcgmohlaa
namespace Go.Proofs.Ytkfilgfcgmohlaa
open Go.RowKit
def upV (C : Nat → Value) (k : Nat) (v : Value) : Nat → Value := fun i => if i = k then v else C i
theorem upV_same (C : Nat → Value) (k : Nat) (v : Value) : upV C k v k = v := by simp [upV]
theorem upV_other (C : Nat → Value) (k i : Nat) (v : Value) (h : i ≠ k) : upV C k v i = C i := by simp [upV, h]
/-- the reference's world at block b: its sixteen cells -/
structure Wc (w : World) (b : Nat) (C : Nat → Value) : Prop where
  c : ∀ i, i < 16 → w.cell? ⟨b, i, none⟩ = some (C i)
  fz : ∀ i, w.frozen? ⟨b, i, none⟩ = false
theorem Wc.lt {w : World} {b : Nat} {C : Nat → Value} (h : Wc w b C) : b < w.heap.size := block_lt_of_cell (h.c 0 (by omega))
theorem Wc.keep {w w' : World} {b : Nat} {C : Nat → Value} (h : Wc w b C) (hb : w'.heap[b]? = w.heap[b]?) : Wc w' b C :=
  ⟨fun i hi => (World.cell?_of_block (w := w) (a := ⟨b, i, none⟩) hb).trans (h.c i hi), fun i => (World.frozen?_of_block (w := w) (a := ⟨b, i, none⟩) hb).trans (h.fz i)⟩
theorem Wc.sm {w w' : World} {b : Nat} {C : Nat → Value} (h : Wc w b C) (hs : Sm w w') : Wc w' b C := h.keep (by rw [hs.heap])
theorem Wc.below {w w' : World} {b B : Nat} {C : Nat → Value} (h : Wc w b C) (hb : Below B w w') (hB : b < B) : Wc w' b C := h.keep (hb.block b hB)
theorem Wc.set {w : World} {b : Nat} {C : Nat → Value} (h : Wc w b C) (k : Nat) (hk : k < 16) (v : Value) : Wc (w.setCell ⟨b, k, none⟩ v) b (upV C k v) := by
  refine ⟨fun i hi => ?_, fun i => by rw [World.frozen?_setCell]; exact h.fz i⟩
  by_cases e : i = k
  · subst e; rw [upV_same]; exact cs_same (h.c i hi)
  · rw [upV_other _ _ _ _ e, cs_other (addr_ne (by omega))]; exact h.c i hi
theorem Wc.ext {w : World} {b : Nat} {C D : Nat → Value} (h : Wc w b C) (he : ∀ i, i < 16 → C i = D i) : Wc w b D := ⟨fun i hi => by rw [← he i hi]; exact h.c i hi, h.fz⟩
/-- the first error stays -/
def errN (e0 e : Int) : Int := if e0 = 0 then e else e0
set_option maxHeartbeats 1000000 in
theorem bad_any (b : Nat) (C : Nat → Value) (e0 e : Int) (w : World) (h : Wc w b C) (h15 : C 15 = .int .i64 e0) :
    Calls Try.prog 23 #[.pointer (some ⟨b, 0, none⟩), .int .i64 e] w fun x w' => x = .returned (.tuple #[]) ∧ Wc w' b (upV C 15 (.int .i64 (errN e0 e))) ∧ Upd b w w' := by
  have c15 := h.c 15 (by omega)
  rw [h15] at c15
  have f15 := h.fz 15
  have HW : Hid (Wc w b C) := h
  have HC : Hid (C 15 = .int .i64 e0) := h15
  clear h h15
  by_cases he : e0 = 0
  · subst he
    have HE : Hid (errN 0 e = e) := by show _ = _; unfold errN; rw [if_pos rfl]
    go_enter Try.func23, Try.ntmps23
    go_wp2_with fail
    exact bodyPost_end (results_none rfl _ _ _) rfl ⟨rfl, by rw [HE.out]; exact HW.out.set 15 (by omega) _, (Upd.refl b w).setCell 15 _⟩
  · have HE : Hid (errN e0 e = e0) := by show _ = _; unfold errN; rw [if_neg he]
    have hb : (e0 == 0) = false := by rw [beq_eq_false_iff_ne]; exact he
    go_enter Try.func23, Try.ntmps23
    go_wp2_with fail
    refine bodyPost_end (results_none rfl _ _ _) rfl ⟨rfl, ?_, Upd.refl b w⟩
    rw [HE.out]
    refine HW.out.ext (fun i hi => ?_)
    by_cases e1 : i = 15
    · subst e1; rw [upV_same]; exact HC.out
    · rw [upV_other _ _ _ _ e1]
theorem wrap_or (v g : Nat) (hv : v < 72057594037927936) (hg : g < 256) : bits .or .i64 (wrap64 ((v : Int) * 256)) (g : Int) = wrap64 ((g + 256 * v : Nat) : Int) := by
  show IntKind.i64.wrap ((BitVec.ofInt 64 (wrap64 ((v : Int) * 256)) ||| BitVec.ofInt 64 (g : Int)).toNat : Int) = _
  have h1 : (BitVec.ofInt 64 (wrap64 ((v : Int) * 256))).toNat = v * 256 := by
    rw [BitVec.toNat_ofInt]; unfold wrap64; omega
  rw [BitVec.toNat_or, h1, ofInt_i64 g (by omega), nat_join 8 (v * 256) g (by omega) (by omega)]
  rw [IntKind.wrap_i64]
  unfold wrap64
  omega
end Go.Proofs.Ytkfilgfcgmohlaa
namespace Go.Proofs.Ytkfilgfcgmohlaa
open Go.RowKit
/-- n bytes are not there -/
def takeCut (s : ByteArray) (p : Nat) (n : Nat) : Bool := decide ((s.size : Int) - (p : Int) < (n : Int))
def takeE (s : ByteArray) (p : Nat) (e0 : Int) (n : Nat) : Int := if takeCut s p n then errN e0 2 else e0
def takeV (s : ByteArray) (p : Nat) (e0 : Int) (n : Nat) : Int := if takeCut s p n = true ∨ e0 ≠ 0 then 0 else wrap64 (numN (gOf s) p n : Int)
def takeP (s : ByteArray) (p : Nat) (e0 : Int) (n : Nat) : Nat := if takeCut s p n = true ∨ e0 ≠ 0 then p else p + n
theorem errN_ne {e0 e : Int} (h : e ≠ 0) : errN e0 e ≠ 0 := by unfold errN; split <;> assumption
set_option maxRecDepth 100000 in
set_option maxHeartbeats 2000000 in
theorem take_any (b : Nat) (C : Nat → Value) (s : ByteArray) (p : Nat) (e0 : Int) (n : Nat) (w : World) (h : Wc w b C) (h0 : C 0 = .string s) (h1 : C 1 = .int .i64 (p : Int)) (h15 : C 15 = .int .i64 e0) (hs : s.size ≤ 1048576) (hp : p ≤ 17179869184) (hn : n ≤ 8) :
    Calls Try.prog 21 #[.pointer (some ⟨b, 0, none⟩), .int .i64 (n : Int)] w fun x w' => x = .returned (.int .i64 (takeV s p e0 n)) ∧ Wc w' b (upV (upV C 15 (.int .i64 (takeE s p e0 n))) 1 (.int .i64 (takeP s p e0 n : Int))) ∧ Upd b w w' := by
  have c0 := h.c 0 (by omega)
  have c1 := h.c 1 (by omega)
  have c15 := h.c 15 (by omega)
  rw [h0] at c0
  rw [h1] at c1
  rw [h15] at c15
  have f1 := h.fz 1
  have HW : Hid (Wc w b C) := h
  have HC : Hid (C 15 = .int .i64 e0 ∧ C 1 = .int .i64 (p : Int)) := ⟨h15, h1⟩
  clear h h0 h1 h15
  by_cases hcut : (s.size : Int) - (p : Int) < (n : Int)
  · have hd : decide ((s.size : Int) - (p : Int) < (n : Int)) = true := decide_eq_true hcut
    have hT : takeCut s p n = true := hd
    have HT : Hid (takeV s p e0 n = 0 ∧ takeE s p e0 n = errN e0 2 ∧ takeP s p e0 n = p) := by
      show _ ∧ _ ∧ _
      unfold takeV takeE takeP
      rw [hT]; simp
    have hne := errN_ne (e0 := e0) (e := 2) (by omega)
    clear hT c15
    go_enter Try.func21, Try.ntmps21
    go_wp2_with fail
    go_region
    go_wp2_with fail
    refine (bad_any b C e0 2 _ (HW.out.sm ((Sm.refl w).drew)) HC.out.1).mono ?_
    rintro x w1 ⟨rfl, hW1, hU1⟩
    have d15 := hW1.c 15 (by omega)
    rw [upV_same] at d15
    have HW1 : Hid (Wc w1 b (upV C 15 (.int .i64 (errN e0 2)))) := hW1
    have HU1 : Hid (Upd b w w1) := (((Upd.refl b w).drew).trans hU1)
    obtain ⟨e1, he1⟩ : ∃ e1, e1 = errN e0 2 := ⟨_, rfl⟩
    rw [← he1] at d15 hne
    have hnb : (e1 != 0) = true := by simp [hne]
    clear hW1 hU1 he1
    go_wp2_with fail
    go_ret
    refine ⟨by rw [HT.out.1]; rfl, ?_, HU1.out⟩
    rw [HT.out.2.1, HT.out.2.2]
    refine HW1.out.ext (fun i hi => ?_)
    by_cases e1 : i = 1
    · subst e1; rw [upV_same, upV_other _ _ _ _ (by omega)]; exact HC.out.2
    · rw [upV_other (upV C 15 _) _ _ _ e1]
  · have hd : decide ((s.size : Int) - (p : Int) < (n : Int)) = false := decide_eq_false hcut
    have hT : takeCut s p n = false := hd
    by_cases he : e0 = 0
    · subst he
      have HT : Hid (takeV s p 0 n = wrap64 (numN (gOf s) p n : Int) ∧ takeE s p 0 n = 0 ∧ takeP s p 0 n = p + n) := by
        show _ ∧ _ ∧ _
        unfold takeV takeE takeP
        rw [hT]; simp
      have hpn : p + n ≤ s.size := by omega
      clear hT
      go_enter Try.func21, Try.ntmps21
      go_wp2_with fail
      go_region
      go_wp2_with fail
      go_loopw [5, 6] (fun vv iv wr => ∃ k : Nat, k ≤ n ∧ iv = .int .i64 ((k : Int) - 1) ∧ vv = .int .i64 (wrap64 (numN (gOf s) (p + k) (n - k) : Int)) ∧ Sm w wr) (fun _ iv _ => (intOf iv + 1).toNat)
      case atStart => exact ⟨n, Nat.le_refl _, rfl, by rw [Nat.sub_self, numN]; unfold wrap64; rfl, (Sm.refl w).drew⟩
      case round =>
        obtain ⟨k, hk, rfl, rfl, hsm⟩ := hrel
        have HSM : Hid (Sm w wr) := hsm
        cases k with
        | zero =>
          have d1 := (hsm.cell ⟨b, 1, none⟩).trans c1
          have g1 := (hsm.frozen ⟨b, 1, none⟩).trans f1
          have HN : Hid (numN (gOf s) (p + 0) (n - 0) = numN (gOf s) p n) := rfl
          obtain ⟨V, hV⟩ : ∃ V, V = wrap64 (numN (gOf s) (p + 0) (n - 0) : Int) := ⟨_, rfl⟩
          have HV : Hid (V = wrap64 (numN (gOf s) p n : Int)) := hV
          rw [← hV]
          clear hV c0 c1 c15 f1 hsm
          go_wp2_with fail
          go_ret
          refine ⟨by rw [HT.out.1, ← HV.out]; rfl, ?_, (HSM.out.upd b).setCell 1 _⟩
          rw [HT.out.2.1, HT.out.2.2]
          refine ((HW.out.sm HSM.out).set 1 (by omega) _).ext (fun i hi => ?_)
          by_cases e1 : i = 1
          · subst e1; rw [upV_same, upV_same]; congr 1
          · rw [upV_other _ _ _ _ e1, upV_other (upV C 15 _) _ _ _ e1]
            by_cases e2 : i = 15
            · subst e2; rw [upV_same]; exact HC.out.1
            · rw [upV_other _ _ _ _ e2]
        | succ k =>
          rw [show ((k + 1 : Nat) : Int) - 1 = (k : Int) by omega]
          have d0 := (hsm.cell ⟨b, 0, none⟩).trans c0
          have d1 := (hsm.cell ⟨b, 1, none⟩).trans c1
          have hv := numN_lt (gOf s) (gOf_lt s) (n - (k + 1)) (p + (k + 1))
          have h7 : 256 ^ (n - (k + 1)) ≤ 256 ^ 7 := Nat.pow_le_pow_right (n := 256) (by omega) (by omega)
          have HE : Hid (numN (gOf s) (p + k) (n - k) = gOf s (p + k) + 256 * numN (gOf s) (p + (k + 1)) (n - (k + 1))) := by
            show _ = _
            rw [show n - k = (n - (k + 1)) + 1 by omega, numN]; rfl
          obtain ⟨v, hve⟩ : ∃ v, v = numN (gOf s) (p + (k + 1)) (n - (k + 1)) := ⟨_, rfl⟩
          rw [← hve] at hv HE ⊢
          have hv56 : v < 72057594037927936 := by omega
          rw [show wrap64 (v : Int) = (v : Int) by unfold wrap64; omega]
          have hix : ∀ wz, (Instr.index 9 (.string s) (.int .i64 ((p : Int) + (k : Int)))).run Try.prog wz = .ok (.int .u8 ((gOf s (p + k) : Nat) : Int)) wz := run_at s _ (p + k) (by omega) (by omega)
          have hix2 : ∀ wz, (Instr.index 9 (.string s) (.int .i64 (IntKind.i64.wrap ((p : Int) + (k : Int))))).run Try.prog wz = .ok (.int .u8 ((gOf s (p + k) : Nat) : Int)) wz := run_at s _ (p + k) (by rw [i64_id _ (by omega) (by omega)]; omega) (by omega)
          have hgl := gOf_lt s (p + k)
          have hw8 : IntKind.i64.wrap (gOf s (p + k) : Int) = (gOf s (p + k) : Int) := i64_id _ (by omega) (by omega)
          obtain ⟨g, hg⟩ : ∃ g, g = gOf s (p + k) := ⟨_, rfl⟩
          rw [← hg] at hix hix2 hgl hw8 HE
          have HOR : Hid (bits .or .i64 (wrap64 ((v : Int) * 256)) (g : Int) = wrap64 ((g + 256 * v : Nat) : Int)) := wrap_or v g hv56 hgl
          clear hve hv h7 hg c0 c1 c15 f1 hsm
          go_wp2_with fail
          go_region
          go_wp2_with fail
          exact ⟨⟨k, by omega, rfl, by rw [HE.out, HOR.out], HSM.out.drew⟩, by simp [intOf]⟩
    · have HT : Hid (takeV s p e0 n = 0 ∧ takeE s p e0 n = e0 ∧ takeP s p e0 n = p) := by
        show _ ∧ _ ∧ _
        unfold takeV takeE takeP
        rw [hT]; simp [he]
      have hnb : (e0 != 0) = true := by simp [he]
      clear hT
      go_enter Try.func21, Try.ntmps21
      go_wp2_with fail
      go_region
      go_wp2_with fail
      go_ret
      refine ⟨by rw [HT.out.1]; rfl, ?_, (Upd.refl b w).drew⟩
      rw [HT.out.2.1, HT.out.2.2]
      refine (HW.out.sm ((Sm.refl w).drew)).ext (fun i hi => ?_)
      by_cases e1 : i = 1
      · subst e1; rw [upV_same]; exact HC.out.2
      · rw [upV_other _ _ _ _ e1]
        by_cases e2 : i = 15
        · subst e2; rw [upV_same]; exact HC.out.1
        · rw [upV_other _ _ _ _ e2]
end Go.Proofs.Ytkfilgfcgmohlaa
