import Derived.Test.YtipdjbkkpjlamaaGreatST
import Derived.WalkKit
import Derived.WalkSpells
import Derived.WalkLawsBesides
import Derived.Deep.AppendLies
import Derived.Deep.QuietTactic
import Derived.BigQuiet
namespace Go.Proofs.YtipdjbkkpjlamaaGreat
open Go.RowKit
def opCells (o : OpV) : List Value := [.int .i64 o.kind, .int .i64 o.a, .int .i64 o.b, .int .i64 o.c, .string o.s]
def flatOps (l : List OpV) : List Value := l.flatMap opCells
theorem flatOps_cons (o : OpV) (l : List OpV) : flatOps (o :: l) = .int .i64 o.kind :: .int .i64 o.a :: .int .i64 o.b :: .int .i64 o.c :: .string o.s :: flatOps l := by simp [flatOps, opCells]
theorem flatOps_append (l : List OpV) (o : OpV) : flatOps (l ++ [o]) = flatOps l ++ [.int .i64 o.kind, .int .i64 o.a, .int .i64 o.b, .int .i64 o.c, .string o.s] := by simp [flatOps, opCells]
theorem flatOps_at : ∀ (l : List OpV) (i : Nat) (o : OpV), l[i]? = some o → (flatOps l)[i * 5]? = some (.int .i64 o.kind) ∧ (flatOps l)[i * 5 + 1]? = some (.int .i64 o.a) ∧ (flatOps l)[i * 5 + 2]? = some (.int .i64 o.b) ∧ (flatOps l)[i * 5 + 3]? = some (.int .i64 o.c) ∧ (flatOps l)[i * 5 + 4]? = some (.string o.s) := by
  intro l
  induction l with
  | nil => intro i o h; simp at h
  | cons q l ih =>
    intro i o h
    rw [flatOps_cons]
    cases i with
    | zero => simp at h; subst h; simp
    | succ i =>
      simp at h
      have := ih i o h
      rw [show (i + 1) * 5 = i * 5 + 1 + 1 + 1 + 1 + 1 by omega, show i * 5 + 1 + 1 + 1 + 1 + 1 + 1 = i * 5 + 1 + 1 + 1 + 1 + 1 + 1 by omega, show i * 5 + 1 + 1 + 1 + 1 + 1 + 2 = i * 5 + 2 + 1 + 1 + 1 + 1 + 1 by omega, show i * 5 + 1 + 1 + 1 + 1 + 1 + 3 = i * 5 + 3 + 1 + 1 + 1 + 1 + 1 by omega, show i * 5 + 1 + 1 + 1 + 1 + 1 + 4 = i * 5 + 4 + 1 + 1 + 1 + 1 + 1 by omega]
      simpa using this
theorem Steps.of_row {w : World} {B g cap : Nat} {l : List OpV} (h : w.ownsRow B 28 5 (.slice (some ⟨g, 0, none⟩) l.length cap) l.length (flatOps l)) (hok : ∀ o ∈ l, OpOk o) : Steps w g 0 l := by
  have lt : ∀ i o, l[i]? = some o → i < l.length := fun i o ho => by
    rcases Nat.lt_or_ge i l.length with h' | h'
    · exact h'
    · rw [List.getElem?_eq_none h'] at ho; cases ho
  refine ⟨fun i o ho => ?_, fun i o ho => ?_, fun i o ho => ?_, fun i o ho => ?_, fun i o ho => ?_, hok⟩
  all_goals
    have hlt := lt i o ho
    have hf := flatOps_at l i o ho
    rw [Nat.zero_add, World.ownsRow.cellAt h _ (by omega)]
  · exact hf.1
  · exact hf.2.1
  · exact hf.2.2.1
  · exact hf.2.2.2.1
  · exact hf.2.2.2.2
/-- the kinds that 'Sums' names -/
def ks : List Int := [3, 19, 20, 21]
def inB (kd : Int) (j : Nat) : Bool := ownB kd || (ks.take j).any (fun x => kd == x)
theorem inB_zero (kd : Int) : inB kd 0 = ownB kd := by simp [inB]
theorem inB_succ (kd : Int) (j : Nat) (hj : j < 4) : inB kd (j + 1) = (inB kd j || (kd == ks.getD j 0)) := by
  have : j = 0 ∨ j = 1 ∨ j = 2 ∨ j = 3 := by omega
  rcases this with rfl | rfl | rfl | rfl <;> simp [inB, ks, Bool.or_assoc]
theorem inB_all (kd : Int) (h : inB kd 4 = true) : ownB kd = true ∨ kd = 3 ∨ kd = 19 ∨ kd = 20 ∨ kd = 21 := by
  simp [inB, ks] at h
  omega
def keepsO (l : List OpV) : List OpV := l.filter (fun o => inB o.kind 4)
theorem keepsO_total (l : List OpV) : (keepsO l).length + total (keepsO l) ≤ l.length + total l := by
  induction l with
  | nil => simp [keepsO, total]
  | cons o l ih =>
    unfold keepsO at ih ⊢
    by_cases h : inB o.kind 4 = true
    · rw [List.filter_cons_of_pos (p := fun o : OpV => inB o.kind 4) h]; simp [total]; omega
    · rw [List.filter_cons_of_neg (p := fun o : OpV => inB o.kind 4) h]; simp [total]; omega
theorem keepsO_snoc (l : List OpV) (o : OpV) : keepsO (l ++ [o]) = if inB o.kind 4 = true then keepsO l ++ [o] else keepsO l := by
  unfold keepsO
  rw [List.filter_append]
  by_cases h : inB o.kind 4 = true
  · rw [if_pos h, List.filter_cons_of_pos (p := fun o : OpV => inB o.kind 4) h]; rfl
  · rw [if_neg h, List.filter_cons_of_neg (p := fun o : OpV => inB o.kind 4) h]; simp
theorem Tryz.infoOp : (Tryz.prog.info? 28).map (fun i => (i.zero, i.size, i.bytes)) = some (some (.agg #[.int .i64 0, .int .i64 0, .int .i64 0, .int .i64 0, .string ⟨#[]⟩]), 5, 48) := by kernel_rfl
set_option maxRecDepth 100000 in
set_option maxHeartbeats 2000000 in
theorem plays_any (sb off cap kb : Nat) (l : List OpV) (pa : Option Addr) (w : World) (hp : l ≠ [] → pa = some ⟨sb, off, none⟩) (hs : Steps w sb off l) (hl : l.length ≤ 140737488355328) (hkb : kb < w.heap.size)
    (hk : ∀ j, j < 4 → w.cell? ⟨kb, j, none⟩ = some (.int .i64 (ks.getD j 0))) :
    Calls Tryz.prog 4 #[.slice pa l.length cap, .slice (some ⟨kb, 0, none⟩) 4 4] w fun e w' => e = .returned (.bool true) ∧ Below w.heap.size w w' := by
  have HX : Hid ((l ≠ [] → pa = some ⟨sb, off, none⟩) ∧ Steps w sb off l ∧ (∀ j, j < 4 → w.cell? ⟨kb, j, none⟩ = some (.int .i64 (ks.getD j 0)))) := ⟨hp, hs, hk⟩
  clear hp hs hk
  have hsm := small_any sb off cap l pa w HX.out.1 HX.out.2.1 hl
  by_cases hz : l.length + total l ≤ 1048576
  · have HZ : Hid (l.length + total l ≤ 1048576) := hz
    have hln : l.length ≤ 1048576 := by omega
    rw [show decide (l.length + total l ≤ 1048576) = true by simp [hz]] at hsm
    have HSM : Hid (Calls Tryz.prog 5 #[.slice pa l.length cap] w fun e w' => e = .returned (.bool true) ∧ w' = w) := hsm
    clear hl hz hsm
    go_enter Tryz.func4, Tryz.ntmps4
    go_wp2_with fail
    refine HSM.out.mono ?_
    rintro e w1 ⟨rfl, hw1⟩
    rw [hw1]
    clear hw1 w1 HSM
    go_wp2_with fail
    go_loopw [6, 7] (fun lv iv wr => ∃ i : Nat, i ≤ l.length ∧ iv = .int .i64 i ∧ Below w.heap.size w wr ∧ wr.ownsRow w.heap.size 28 5 lv (keepsO (l.take i)).length (flatOps (keepsO (l.take i)))) (fun _ iv _ => (l.length - intOf iv).toNat)
    case atStart => exact ⟨0, by omega, rfl, Below.refl _ _, World.ownsRow_nil _ _ _ _⟩
    case round =>
      obtain ⟨i, hi, rfl, hbl, hown⟩ := hrel
      have HB : Hid (Below w.heap.size w wr) := hbl
      obtain ⟨out, hout⟩ : ∃ out, out = keepsO (l.take i) := ⟨_, rfl⟩
      have HOUT : Hid (out = keepsO (l.take i)) := hout
      rw [← hout] at hown
      have HOW : Hid (wr.ownsRow w.heap.size 28 5 u6 out.length (flatOps out)) := hown
      have hout2 : out.length + total out ≤ 1048576 := by
        have e := total_append (l.take i) (l.drop i)
        rw [List.take_append_drop] at e
        have h1 := keepsO_total (l.take i)
        have h2 : (l.take i).length ≤ l.length := by rw [List.length_take]; omega
        have h3 := HZ.out
        rw [hout]; omega
      have HO2 : Hid (out.length + total out ≤ 1048576) := hout2
      have hol : out.length ≤ 1048576 := by omega
      clear hown hout hout2
      by_cases hlt : i < l.length
      · obtain rfl := HX.out.1 (by intro e; rw [e] at hlt; simp at hlt)
        obtain ⟨o, ho⟩ : ∃ o, l[i]? = some o := ⟨l[i], List.getElem?_eq_getElem hlt⟩
        have s0 := HX.out.2.1.c0 i o ho
        have hsb : sb < w.heap.size := block_lt_of_cell s0
        have e0 : wr.cell? ⟨sb, off + i * 5, none⟩ = some (.int .i64 o.kind) := (hbl.cell (p := ⟨sb, off + i * 5, none⟩) hsb).trans s0
        have e1 : wr.cell? ⟨sb, off + i * 5 + 1, none⟩ = some (.int .i64 o.a) := (hbl.cell (p := ⟨sb, off + i * 5 + 1, none⟩) hsb).trans (HX.out.2.1.c1 i o ho)
        have e2 : wr.cell? ⟨sb, off + i * 5 + 2, none⟩ = some (.int .i64 o.b) := (hbl.cell (p := ⟨sb, off + i * 5 + 2, none⟩) hsb).trans (HX.out.2.1.c2 i o ho)
        have e3 : wr.cell? ⟨sb, off + i * 5 + 3, none⟩ = some (.int .i64 o.c) := (hbl.cell (p := ⟨sb, off + i * 5 + 3, none⟩) hsb).trans (HX.out.2.1.c3 i o ho)
        have e4 : wr.cell? ⟨sb, off + i * 5 + 4, none⟩ = some (.string o.s) := (hbl.cell (p := ⟨sb, off + i * 5 + 4, none⟩) hsb).trans (HX.out.2.1.c4 i o ho)
        have HKS : Hid (∀ j, j < 4 → wr.cell? ⟨kb, j, none⟩ = some (.int .i64 (ks.getD j 0))) := fun j hj => (hbl.cell (p := ⟨kb, j, none⟩) hkb).trans (HX.out.2.2 j hj)
        have hlt2 : (i : Int) < (l.length : Int) := by omega
        have hi0 : (0 : Int) ≤ (i : Int) := by omega
        have HL1 : Hid (keepsO (l.take (i + 1)) = if inB o.kind 4 = true then out ++ [o] else out) := by
          show _ = _
          rw [List.take_add_one, ho, HOUT.out]
          exact keepsO_snoc _ _
        have hsw : sb < wr.heap.size := Nat.lt_of_lt_of_le hsb hbl.size
        have hww : w.heap.size ≤ wr.heap.size := hbl.size
        clear hbl s0
        obtain ⟨wv, hwv⟩ : ∃ wv, wv = wr := ⟨_, rfl⟩
        subst hwv
        go_wp2_with fail
        refine (owned_any _ _).mono ?_
        rintro e w1 ⟨rfl, hw1⟩
        rw [hw1]
        clear hw1 w1
        go_wp2_with fail
        go_loopw [8, 9] (fun bv jv wq => ∃ j : Nat, j ≤ 4 ∧ jv = .int .i64 j ∧ bv = .bool (inB o.kind j) ∧ Al wv wq) (fun _ jv _ => (4 - intOf jv).toNat)
        case atStart => exact ⟨0, by omega, rfl, by rw [inB_zero], Al.refl _⟩
        case round =>
          obtain ⟨j, hj, rfl, rfl, hal⟩ := hrel
          have HAL : Hid (Al wv wr) := hal
          have g0 := (hal.cell ⟨sb, off + i * 5, none⟩).trans e0
          by_cases hj4 : j < 4
          · have gk := (hal.cell ⟨kb, j, none⟩).trans (HKS.out j hj4)
            have hj0 : (0 : Int) ≤ (j : Int) := by omega
            have hj5 : (j : Int) < 4 := by omega
            have hsc := inB_succ o.kind j hj4
            obtain ⟨x, hx⟩ : ∃ x, x = ks.getD j 0 := ⟨_, rfl⟩
            rw [← hx] at gk hsc
            obtain ⟨y, hy⟩ : ∃ y, y = inB o.kind j := ⟨_, rfl⟩
            rw [← hy] at hsc ⊢
            have HSC : Hid (inB o.kind (j + 1) = (y || o.kind == x)) := hsc
            clear hx hy hsc hal e0 e1 e2 e3 e4
            cases y with
            | true =>
              go_wp2_with fail
              go_quiet (fail)
              go_wp2
              exact ⟨⟨j + 1, by omega, by go_num, by rw [HSC.out]; rfl, HAL.out.drewN _⟩, by simp [intOf]; omega⟩
            | false =>
              go_wp2_with fail
              go_quiet (fail)
              go_wp2
              refine ⟨⟨j + 1, by omega, by go_num, ?_, HAL.out.drewN _⟩, by simp [intOf]; omega⟩
              rw [HSC.out]
              rfl
          · obtain rfl : j = 4 := by omega
            have g1 := (hal.cell ⟨sb, off + i * 5 + 1, none⟩).trans e1
            have g2 := (hal.cell ⟨sb, off + i * 5 + 2, none⟩).trans e2
            have g3 := (hal.cell ⟨sb, off + i * 5 + 3, none⟩).trans e3
            have g4 := (hal.cell ⟨sb, off + i * 5 + 4, none⟩).trans e4
            have HOR : Hid (wr.ownsRow w.heap.size 28 5 u6 out.length (flatOps out)) := ownsRow_same HOW.out (fun g _ => by rw [hal.heap])
            have HBR : Hid (Below w.heap.size w wr) := HB.out.trans (hal.below _)
            have hwr : w.heap.size ≤ wr.heap.size := HBR.out.size
            obtain ⟨y, hy⟩ : ∃ y, y = inB o.kind 4 := ⟨_, rfl⟩
            rw [← hy] at HL1 ⊢
            obtain ⟨i0, hi0', hz0, hz1, hz2⟩ := info_parts Tryz.infoOp
            clear hy hal e0 e1 e2 e3 e4
            cases y with
            | false =>
              go_wp2
              refine ⟨⟨i + 1, by omega, by go_num, HBR.out, ?_⟩, by simp [intOf]; omega⟩
              rw [HL1.out]
              exact HOR.out
            | true =>
              go_wp2_with (at_builtin; refine wpList_append_lies _ rfl (.tmp 46) (.tmp 51) 22 rfl w.heap.size 28 i0 (.agg #[.int .i64 0, .int .i64 0, .int .i64 0, .int .i64 0, .string ⟨#[]⟩]) 5 48 Tryz.underlying22 hi0' hz0 hz1 hz2 rfl (by decide) u6 out.length (flatOps out) rfl (HOR.out.alloc _) ⟨wr.heap.size, 0, none⟩ 1 1 [.int .i64 o.kind, .int .i64 o.a, .int .i64 o.b, .int .i64 o.c, .string o.s] rfl rfl (World.news_of_block (heap_alloc_new _ _)) (by intro v hv; simp at hv; rcases hv with rfl | rfl | rfl | rfl | rfl <;> rfl) (by decide) (by unfold maxLen; omega) (by omega) (by simp; omega) (wr.heap.size + 1) (by simp) ?_)
              intro q1 cap1 w2 hown1 hgrow1 hat1 hlt1
              have HW2 : Hid (w2.ownsRow w.heap.size 28 5 (.slice (some ⟨q1, 0, none⟩) (out.length + 1) cap1) (out.length + 1) (flatOps out ++ [.int .i64 o.kind, .int .i64 o.a, .int .i64 o.b, .int .i64 o.c, .string o.s])) := hown1
              have HB2 : Hid (Below w.heap.size w w2) := (HBR.out.alloc hwr _).grown hgrow1 (by simp; omega) (fun q hq => (ownsRow_lt HOR.out q hq).2)
              clear hown1 hgrow1 hat1 g0 g1 g2 g3 g4
              go_wp2
              refine ⟨⟨i + 1, by omega, by go_num, HB2.out, ?_⟩, by simp [intOf]; omega⟩
              rw [HL1.out, if_pos trivial, List.length_append, flatOps_append]
              exact HW2.out
      · have hil : i = l.length := by omega
        have hok : ∀ o ∈ out, OpOk o := fun o ho => by
          rw [HOUT.out] at ho
          exact HX.out.2.1.ok o (List.mem_of_mem_take (List.mem_filter.1 ho).1)
        have hkd : ∀ o ∈ out, ownB o.kind = true ∨ o.kind = 3 ∨ o.kind = 19 ∨ o.kind = 20 ∨ o.kind = 21 := fun o ho => by
          rw [HOUT.out] at ho
          exact inB_all _ (List.mem_filter.1 ho).2
        have hup : Calls Tryz.prog 7 #[u6] wr fun e w' => e = .returned (.int .i64 (-1)) ∧ Below wr.heap.size wr w' := by
          rcases HOW.out.2 with ⟨h1, h2⟩ | ⟨g, cap', cur, h1, h2, h3, h4⟩
          · obtain rfl : out = [] := List.length_eq_zero_iff.1 h2
            rw [h1]
            exact upTo_any kb 0 [] none wr (fun h => absurd rfl h) (Nat.lt_of_lt_of_le hkb hbl.size) ⟨by intro i o h; simp at h, by intro i o h; simp at h, by intro i o h; simp at h, by intro i o h; simp at h, by intro i o h; simp at h, by intro o h; simp at h⟩ (by intro o h; simp at h) (by simp [total])
          · have hr := HOW.out
            rw [h1] at hr ⊢
            exact upTo_any g cap' out _ wr (fun _ => rfl) (ownsRow_lt hr g rfl).1 (Steps.of_row hr hok) hkd HO2.out
        have HUP : Hid (Calls Tryz.prog 7 #[u6] wr fun e w' => e = .returned (.int .i64 (-1)) ∧ Below wr.heap.size wr w') := hup
        clear hup hok hkd hbl
        go_wp2_with fail
        refine HUP.out.mono ?_
        rintro e w1 ⟨rfl, hb1⟩
        have HF : Hid (Below w.heap.size w w1) := HB.out.trans (hb1.mono HB.out.size)
        clear hb1 HUP
        go_wp2
        go_ret
        exact ⟨rfl, HF.out⟩
  · rw [show decide (l.length + total l ≤ 1048576) = false by simp; omega] at hsm
    have HSM : Hid (Calls Tryz.prog 5 #[.slice pa l.length cap] w fun e w' => e = .returned (.bool false) ∧ w' = w) := hsm
    clear hl hz hsm
    go_enter Tryz.func4, Tryz.ntmps4
    go_wp2_with fail
    refine HSM.out.mono ?_
    rintro e w1 ⟨rfl, hw1⟩
    rw [hw1]
    clear hw1 w1 HSM
    go_wp2
    go_ret
    exact ⟨rfl, Below.refl _ _⟩
end Go.Proofs.YtipdjbkkpjlamaaGreat
