import Derived.Test.YtkfilgfcgmohlaaJ01
import Derived.Test.YtkfilgfcgmohlaaJ02
import Derived.Test.YtkfilgfcgmohlaaJ10
import Derived.WalkKit
import Derived.WalkSpells
import Derived.WalkLawsBesides
import Derived.Deep.AppendLies
import Derived.Laws.OwnMore
import Derived.Deep.QuietTactic
import Derived.BigQuiet
namespace Go.Proofs.Ytkfilgfcgmohlaa
open Go.RowKit
/-- weights told outright -/
def rawW (s : ByteArray) (i : Nat) : Nat := (if i % 2 = 0 then gOf s (1 + i / 2) / 16 else gOf s (1 + i / 2)) % 16
def rawL (s : ByteArray) (n : Nat) : List Nat := (List.range n).map (rawW s)
theorem rawL_succ (s : ByteArray) (n : Nat) : rawL s (n + 1) = rawL s n ++ [rawW s n] := by simp [rawL, List.range_succ]
theorem rawL_len (s : ByteArray) (n : Nat) : (rawL s n).length = n := by simp [rawL]
/-- the weights that a tree's description tells, and its bytes -/
def takenT (s : ByteArray) : Nat := if 127 < gOf s 0 then 1 + (gOf s 0 - 126) / 2 else 1 + gOf s 0
def WeightR (s : ByteArray) (r : Option (List Nat)) : Prop :=
  if s.size = 0 ∨ s.size < takenT s then r = none
  else if 127 < gOf s 0 then r = some (rawL s (gOf s 0 - 127))
  else PairR (s.extract 1 (takenT s)) r
/-- what a tree's description says: the weights of all symbols, the greatest number of bits -/
def TreeR (s : ByteArray) (r : Option (List Nat × Nat)) : Prop := ∃ l, WeightR s l ∧ r = l.bind codesR
def TreeQ (s : ByteArray) (w : World) (e : Ending) (w' : World) : Prop :=
  ∃ r, TreeR s r ∧ Below w.heap.size w w' ∧ match r with
    | none => ∃ i, e = .returned (.tuple #[.slice none 0 0, .int .i64 i, .bool false])
    | some (all, log) => takenT s ≤ s.size ∧ ∃ g cap, e = .returned (.tuple #[.slice (some ⟨g, 0, none⟩) all.length cap, .int .i64 (takenT s : Int), .bool true]) ∧ w.heap.size ≤ g ∧ CdAt w' g all.length (wAt all) log ∧ Whole (wAt all) all.length log ∧ 0 < all.length ∧ all.length ≤ 256
theorem wrow_cells {l : List Nat} {w : World} {B cap g : Nat} (h : w.ownsRow B 3 1 (.slice (some ⟨g, 0, none⟩) l.length cap) l.length (ivs (l.map fun (x : Nat) => (x : Int)))) : ∀ i, i < l.length → w.cell? ⟨g, i, none⟩ = some (.int .i64 (wAt l i : Int)) := fun i hi => by
  rw [World.ownsRow.cellAt h i (by omega), ivs_at _ i (by simpa using hi)]
  simp [wAt, hi]
/-- a row's slice, written out -/
theorem row_open {w : World} {B e size : Nat} {v : Value} {n : Nat} {xs : List Value} (h : w.ownsRow B e size v n xs) : ∃ pa g cap, v = .slice pa n cap ∧ (0 < n → pa = some ⟨g, 0, none⟩ ∧ B ≤ g ∧ g < w.heap.size) := by
  by_cases h0 : 0 < n
  · obtain ⟨g, cap, rfl, h1, h2⟩ := h.form h0
    exact ⟨_, g, cap, rfl, fun _ => ⟨rfl, h1, h2⟩⟩
  · rcases h.2 with ⟨rfl, rfl⟩ | ⟨g, cap, cur, rfl, _⟩
    · exact ⟨none, 0, 0, rfl, fun h => absurd h h0⟩
    · exact ⟨_, 0, cap, rfl, fun h => absurd h h0⟩
theorem wrow_pa {l : List Nat} {w : World} {B cap g : Nat} {pa : Option Addr} (h : w.ownsRow B 3 1 (.slice pa l.length cap) l.length (ivs (l.map fun (x : Nat) => (x : Int)))) (hp : 0 < l.length → pa = some ⟨g, 0, none⟩) : ∀ i, i < l.length → w.cell? ⟨g, i, none⟩ = some (.int .i64 (wAt l i : Int)) := fun i hi => by
  obtain rfl := hp (by omega)
  exact wrow_cells h i hi
theorem weightR_pair {s : ByteArray} {h : Nat} {r : Option (List Nat)} (_h0 : ¬ s.size = 0) (hh : h = gOf s 0) (h127 : ¬ 127 < h) (hsh : ¬ s.size < 1 + h) (hr : PairR (s.extract 1 (1 + h)) r) : WeightR s r := by
  have ht : takenT s = 1 + h := by unfold takenT; rw [← hh, if_neg h127]
  have e : WeightR s r = PairR (s.extract 1 (takenT s)) r := by
    unfold WeightR
    rw [if_neg (by rw [ht]; omega), if_neg (by rw [← hh]; exact h127)]
  rw [e, ht]
  exact hr
set_option maxRecDepth 100000 in
set_option maxHeartbeats 4000000 in
theorem tree_any (s : ByteArray) (w : World) (hs : s.size ≤ 1048576) :
    Calls Try.prog 76 #[.string s] w fun e w' => TreeQ s w e w' := by
  by_cases h0 : s.size = 0
  · have hse : s = ⟨#[]⟩ := by
      cases s with
      | mk d => simp [ByteArray.size] at h0; rw [h0]
    have HT : Hid (TreeR s none) := ⟨none, by unfold WeightR; rw [if_pos (Or.inl h0)], rfl⟩
    subst hse
    go_enter Try.func76, Try.ntmps76
    go_wp2_with fail
    go_ret3
    exact ⟨none, HT.out, Below.refl _ _, _, rfl⟩
  · have hsb : s.toList.isEmpty = false := by
      rw [ByteArray.toList_eq]
      cases e : s.data.toList with
      | nil => exact absurd (show s.data.size = 0 by rw [← Array.length_toList, e]; rfl) h0
      | cons _ _ => rfl
    have hix : ∀ wz, (Instr.index 9 (.string s) (.int .i64 0)).run Try.prog wz = .ok (.int .u8 ((gOf s 0 : Nat) : Int)) wz := run_at s _ 0 rfl (by omega)
    have hgl := gOf_lt s 0
    have hw8 : IntKind.i64.wrap (gOf s 0 : Int) = (gOf s 0 : Int) := i64_id _ (by omega) (by omega)
    obtain ⟨h, hh⟩ : ∃ h, h = gOf s 0 := ⟨_, rfl⟩
    have HH : Hid (h = gOf s 0) := hh
    rw [← hh] at hix hgl hw8
    clear hh
    go_enter Try.func76, Try.ntmps76
    by_cases h127 : 127 < h
    · have hd1 : decide ((127 : Int) < (h : Int)) = true := decide_eq_true (by omega)
      have HTK : Hid (takenT s = 1 + (h - 126) / 2) := by show _ = _; unfold takenT; rw [← HH.out, if_pos h127]
      by_cases hsh : s.size < 1 + (h - 126) / 2
      · have hd2 : decide ((s.size : Int) < 1 + ((h : Int) - 126) / 2) = true := decide_eq_true (by omega)
        have HT : Hid (TreeR s none) := ⟨none, by unfold WeightR; rw [HTK.out, if_pos (Or.inr hsh)], rfl⟩
        go_wp2_with fail
        go_ret3
        exact ⟨none, HT.out, Below.refl _ _, _, rfl⟩
      · have hd2 : decide ((s.size : Int) < 1 + ((h : Int) - 126) / 2) = false := decide_eq_false (by omega)
        have HWR : Hid (WeightR s (some (rawL s (h - 127)))) := by
          show WeightR s _
          unfold WeightR
          rw [HTK.out, if_neg (by omega), ← HH.out, if_pos h127]
        have hhe : (h : Int) - 127 = ((h - 127 : Nat) : Int) := by omega
        go_wp2_with fail
        go_loopw [6, 8] (fun ov iv wr => ∃ i : Nat, i ≤ h - 127 ∧ iv = .int .i64 i ∧ wr.ownsRow w.heap.size 3 1 ov (rawL s i).length (ivs ((rawL s i).map fun (x : Nat) => (x : Int))) ∧ Below w.heap.size w wr) (fun _ iv _ => (h - intOf iv).toNat)
        case atStart => exact ⟨0, by omega, rfl, World.ownsRow_nil _ _ _ _, Below.refl _ _⟩
        case round =>
          obtain ⟨i, hi, rfl, hrow, hbw⟩ := hrel
          have HRW : Hid (wr.ownsRow w.heap.size 3 1 u6 (rawL s i).length (ivs ((rawL s i).map fun (x : Nat) => (x : Int))) ∧ Below w.heap.size w wr) := ⟨hrow, hbw⟩
          have hbig := hbw.size
          have hlr : (rawL s i).length = i := rawL_len s i
          clear hbw
          by_cases hi2 : i < h - 127
          · have hpI : 1 + i / 2 < s.size := by omega
            have hix2 : ∀ wz, (Instr.index 9 (.string s) (.int .i64 (1 + (i : Int) / 2))).run Try.prog wz = .ok (.int .u8 ((gOf s (1 + i / 2) : Nat) : Int)) wz := run_at s _ (1 + i / 2) (by omega) hpI
            have hgl2 := gOf_lt s (1 + i / 2)
            have hw82 : IntKind.i64.wrap (gOf s (1 + i / 2) : Int) = (gOf s (1 + i / 2) : Int) := i64_id _ (by omega) (by omega)
            have HRWW : Hid (rawW s i = (if i % 2 = 0 then gOf s (1 + i / 2) / 16 else gOf s (1 + i / 2)) % 16) := rfl
            obtain ⟨v, hv⟩ : ∃ v, v = gOf s (1 + i / 2) := ⟨_, rfl⟩
            rw [← hv] at hix2 hgl2 hw82 HRWW
            have hil : i ≤ 255 := by omega
            rw [hlr] at hrow
            clear hv hlr
            rcases (show i % 2 = 0 ∨ i % 2 = 1 by omega) with hp | hp
            · have hpe : ((i : Int) % 2 == 0) = true := by rw [beq_iff_eq]; omega
              have hpt : (i : Int).tmod 2 = 0 := by rw [Int.tmod_eq_emod_of_nonneg (by omega)]; omega
              have hpm : (i : Int) % 2 = 0 := by omega
              rw [if_pos hp] at HRWW
              go_wp2_with (at_builtin; refine ia_list (by rfl) (.tmp 50) (.tmp 53) (by rfl) (by first | rfl | simp) (gb := wr.heap.size) (y := ((v : Int) / 16) % 16) (by simp [Act.eval]) (by omega) hrow hbig (by repeat (first | exact Below.refl _ _ | refine Below.drew ?_ | refine Below.alloc ?_ (by simp <;> omega) _)) (by simp) ?_; intro g1 cap1 w4 hfin)
              refine ⟨⟨i + 1, by omega, by go_num, ?_, HRW.out.2.trans hfin.out.2⟩, by simp [intOf]; omega⟩
              rw [rawL_succ, ← ivs_map, HRWW.out, show (rawL s i ++ [v / 16 % 16]).length = i + 1 by rw [List.length_append, rawL_len]; rfl, show ((v / 16 % 16 : Nat) : Int) = ((v : Int) / 16) % 16 by omega]
              exact hfin.out.1
            · have hpe : ((i : Int) % 2 == 0) = false := by rw [beq_eq_false_iff_ne]; omega
              have hpt : (i : Int).tmod 2 = 1 := by rw [Int.tmod_eq_emod_of_nonneg (by omega)]; omega
              have hpm : (i : Int) % 2 = 1 := by omega
              rw [if_neg (by omega)] at HRWW
              go_wp2_with (at_builtin; refine ia_list (by rfl) (.tmp 50) (.tmp 53) (by rfl) (by first | rfl | simp) (gb := wr.heap.size) (y := (v : Int) % 16) (by simp [Act.eval]) (by omega) hrow hbig (by repeat (first | exact Below.refl _ _ | refine Below.drew ?_ | refine Below.alloc ?_ (by simp <;> omega) _)) (by simp) ?_; intro g1 cap1 w4 hfin)
              refine ⟨⟨i + 1, by omega, by go_num, ?_, HRW.out.2.trans hfin.out.2⟩, by simp [intOf]; omega⟩
              rw [rawL_succ, ← ivs_map, HRWW.out, show (rawL s i ++ [v % 16]).length = i + 1 by rw [List.length_append, rawL_len]; rfl, show ((v % 16 : Nat) : Int) = (v : Int) % 16 by omega]
              exact hfin.out.1
          · obtain rfl : i = h - 127 := by omega
            obtain ⟨pa, gw, cpw, hse, hpa⟩ := row_open hrow
            subst hse
            have HLR : Hid ((rawL s (h - 127)).length = h - 127) := hlr
            clear hrow hlr
            generalize hLL : rawL s (h - 127) = LL at *
            clear hLL
            go_wp2_with fail
            refine (codes_any LL gw cpw pa _ (wrow_pa HRW.out.1 (fun h => (hpa h).1)) (fun h => (hpa h).1) (by have := HLR.out; omega)).mono ?_
            rintro e w5 ⟨hb5, hq5⟩
            have HB5 : Hid (Below w.heap.size w w5) := HRW.out.2.trans (hb5.mono HRW.out.2.size)
            cases hC : codesR LL with
            | none =>
              rw [hC] at hq5
              subst hq5
              have HT : Hid (TreeR s none) := ⟨some LL, HWR.out, by rw [Option.bind_some, hC]⟩
              clear hb5 hC
              go_wp2_with fail
              go_ret3
              exact ⟨none, HT.out, HB5.out, _, rfl⟩
            | some x =>
              obtain ⟨all, log⟩ := x
              rw [hC] at hq5
              obtain ⟨gc, cc, rfl, hgc, hcd⟩ := hq5
              have HT : Hid (TreeR s (some (all, log)) ∧ Whole (wAt all) all.length log ∧ 0 < all.length ∧ all.length ≤ 256) := ⟨⟨some LL, HWR.out, by rw [Option.bind_some, hC]⟩, (codesR_ok hC).1, by have := (codesR_ok hC).2.1; omega, (codesR_ok hC).2.2⟩
              have HCD : Hid (CdAt w5 gc all.length (wAt all) log ∧ w.heap.size ≤ gc) := ⟨hcd, Nat.le_trans HRW.out.2.size hgc⟩
              clear hb5 hC hcd hgc
              go_wp2_with fail
              go_ret3
              refine ⟨some (all, log), HT.out.1, HB5.out, ?_, gc, cc, ?_, HCD.out.2, HCD.out.1, HT.out.2⟩
              · rw [HTK.out]; omega
              · rw [HTK.out, show ((1 + (h - 126) / 2 : Nat) : Int) = 1 + ((h : Int) - 126) / 2 by omega]; rfl
    · have hd1 : decide ((127 : Int) < (h : Int)) = false := decide_eq_false (by omega)
      have HTK : Hid (takenT s = 1 + h) := by show _ = _; unfold takenT; rw [← HH.out, if_neg h127]
      by_cases hsh : s.size < 1 + h
      · have hd2 : decide ((s.size : Int) < 1 + (h : Int)) = true := decide_eq_true (by omega)
        have HT : Hid (TreeR s none) := ⟨none, by unfold WeightR; rw [HTK.out, if_pos (Or.inr hsh)], rfl⟩
        go_wp2_with fail
        go_ret3
        exact ⟨none, HT.out, Below.refl _ _, _, rfl⟩
      · have hd2 : decide ((s.size : Int) < 1 + (h : Int)) = false := decide_eq_false (by omega)
        have HWP : Hid (∀ r, PairR (s.extract 1 (1 + h)) r → WeightR s r) := fun r hr => weightR_pair h0 HH.out h127 hsh hr
        have hslI : (1 : Int) + (h : Int) ≤ (s.size : Int) := by omega
        have hslt : ((1 : Int) + (h : Int)).toNat = 1 + h := by omega
        go_wp2_with fail
        refine Calls.mono (show Calls _ _ #[.string (s.extract 1 (1 + h))] _ _ from pair_any (s.extract 1 (1 + h)) _ (by rw [ByteArray.size_extract]; omega)) ?_
        rintro e w3 ⟨r, hr, hb3, hq3⟩
        cases r with
        | none =>
          obtain ⟨v, rfl⟩ := hq3
          have HT : Hid (TreeR s none ∧ Below w.heap.size w w3) := ⟨⟨none, HWP.out _ hr, rfl⟩, hb3⟩
          clear hr hb3
          go_wp2_with fail
          go_ret3
          exact ⟨none, HT.out.1, HT.out.2, _, rfl⟩
        | some LL =>
          obtain ⟨v, rfl, hrow, hl257, h11⟩ := hq3
          have HWR : Hid (WeightR s (some LL)) := HWP.out _ hr
          have HRW : Hid (w3.ownsRow w.heap.size 3 1 v LL.length (ivs (LL.map fun (x : Nat) => (x : Int))) ∧ Below w.heap.size w w3) := ⟨hrow, hb3⟩
          obtain ⟨pa, gw, cpw, hse, hpa⟩ := row_open hrow
          subst hse
          clear hr hb3 hrow h11
          go_wp2_with fail
          refine (codes_any LL gw cpw pa _ (wrow_pa HRW.out.1 (fun h => (hpa h).1)) (fun h => (hpa h).1) (by omega)).mono ?_
          rintro e w5 ⟨hb5, hq5⟩
          have HB5 : Hid (Below w.heap.size w w5) := HRW.out.2.trans (hb5.mono HRW.out.2.size)
          cases hC : codesR LL with
          | none =>
            rw [hC] at hq5
            subst hq5
            have HT : Hid (TreeR s none) := ⟨some LL, HWR.out, by rw [Option.bind_some, hC]⟩
            clear hb5 hC
            go_wp2_with fail
            go_ret3
            exact ⟨none, HT.out, HB5.out, _, rfl⟩
          | some x =>
            obtain ⟨all, log⟩ := x
            rw [hC] at hq5
            obtain ⟨gc, cc, rfl, hgc, hcd⟩ := hq5
            have HT : Hid (TreeR s (some (all, log)) ∧ Whole (wAt all) all.length log ∧ 0 < all.length ∧ all.length ≤ 256) := ⟨⟨some LL, HWR.out, by rw [Option.bind_some, hC]⟩, (codesR_ok hC).1, by have := (codesR_ok hC).2.1; omega, (codesR_ok hC).2.2⟩
            have HCD : Hid (CdAt w5 gc all.length (wAt all) log ∧ w.heap.size ≤ gc) := ⟨hcd, Nat.le_trans HRW.out.2.size hgc⟩
            clear hb5 hC hcd hgc
            go_wp2_with fail
            go_ret3
            refine ⟨some (all, log), HT.out.1, HB5.out, ?_, gc, cc, ?_, HCD.out.2, HCD.out.1, HT.out.2⟩
            · rw [HTK.out]; omega
            · rw [HTK.out, show ((1 + h : Nat) : Int) = 1 + (h : Int) by omega]; rfl
end Go.Proofs.Ytkfilgfcgmohlaa
namespace Go.Proofs.Ytkfilgfcgmohlaa
open Go.RowKit
set_option maxHeartbeats 1000000 in
/-- bytes that are not there -/
theorem ptake_no (d : Nat) (rest : ByteArray) (n : Int) (w : World) (hc : w.cell? ⟨d, 0, none⟩ = some (.string rest)) (hn : n < 0 ∨ (rest.size : Int) < n) :
    Calls Try.prog 61 #[.pointer (some ⟨d, 0, none⟩), .int .i64 n] w fun x w' => x = .returned (.tuple #[.string ⟨#[]⟩, .bool false]) ∧ w' = w := by
  by_cases h0 : n < 0
  · have hb : decide (n < 0) = true := decide_eq_true h0
    go_enter Try.func61, Try.ntmps61
    go_wp2_with fail
    go_ret2
    exact ⟨rfl, rfl⟩
  · have hb : decide (n < 0) = false := decide_eq_false h0
    have hb2 : decide ((rest.size : Int) < n) = true := decide_eq_true (by omega)
    go_enter Try.func61, Try.ntmps61
    go_wp2_with fail
    go_ret2
    exact ⟨rfl, rfl⟩
set_option maxHeartbeats 1000000 in
theorem ptake_ok (d : Nat) (rest : ByteArray) (n : Nat) (w : World) (hc : w.cell? ⟨d, 0, none⟩ = some (.string rest)) (hz : w.frozen? ⟨d, 0, none⟩ = false) (hn : n ≤ rest.size) :
    Calls Try.prog 61 #[.pointer (some ⟨d, 0, none⟩), .int .i64 (n : Int)] w fun x w' => x = .returned (.tuple #[.string (rest.extract 0 n), .bool true]) ∧ w' = w.setCell ⟨d, 0, none⟩ (.string (rest.extract n rest.size)) := by
  have hb : decide ((n : Int) < 0) = false := decide_eq_false (by omega)
  have hb2 : decide ((rest.size : Int) < (n : Int)) = false := decide_eq_false (by omega)
  have hI : (n : Int) ≤ (rest.size : Int) := by omega
  go_enter Try.func61, Try.ntmps61
  go_wp2_with fail
  go_ret2
  exact ⟨rfl, rfl⟩
end Go.Proofs.Ytkfilgfcgmohlaa
namespace Go.Proofs.Ytkfilgfcgmohlaa
def dig (a i : Nat) : Nat := a / 65536 ^ i % 65536
theorem dig_lt (a i : Nat) : dig a i < 65536 := Nat.mod_lt _ (by omega)
def val (z : Nat → Nat) : Nat := z 0 + z 1 * 65536 + z 2 * 4294967296 + z 3 * 281474976710656
def updM (f : Nat → Nat) (k v : Nat) : Nat → Nat := fun i => if i = k then v else f i
theorem updM_same (f : Nat → Nat) (k v : Nat) : updM f k v k = v := by simp [updM]
theorem updM_other (f : Nat → Nat) (k v i : Nat) (h : i ≠ k) : updM f k v i = f i := by simp [updM, h]
theorem val_upd (z : Nat → Nat) (j v : Nat) (hj : j < 4) : val (updM z j (v % 65536)) + v / 65536 * 65536 ^ (j + 1) + z j * 65536 ^ j = val z + v * 65536 ^ j := by
  unfold val
  match j, hj with
  | 0, _ => rw [updM_same, updM_other _ _ _ 1 (by omega), updM_other _ _ _ 2 (by omega), updM_other _ _ _ 3 (by omega)]; omega
  | 1, _ => rw [updM_same, updM_other _ _ _ 0 (by omega), updM_other _ _ _ 2 (by omega), updM_other _ _ _ 3 (by omega)]; omega
  | 2, _ => rw [updM_same, updM_other _ _ _ 1 (by omega), updM_other _ _ _ 0 (by omega), updM_other _ _ _ 3 (by omega)]; omega
  | 3, _ => rw [updM_same, updM_other _ _ _ 1 (by omega), updM_other _ _ _ 2 (by omega), updM_other _ _ _ 0 (by omega)]; omega
theorem mod_succ (a i : Nat) : a % 65536 ^ (i + 1) = a % 65536 ^ i + dig a i * 65536 ^ i := by
  unfold dig
  rw [Nat.pow_succ, Nat.mod_mul, Nat.mul_comm (65536 ^ i)]
theorem val_lt (z : Nat → Nat) (hz : ∀ i, z i < 65536) : val z < 18446744073709551616 := by
  have := hz 0; have := hz 1; have := hz 2; have := hz 3
  unfold val; omega
/-- one digit of a row -/
theorem row_step (z z0 : Nat → Nat) (a b i k c v : Nat) (hik : i + k < 4) (hv : v = z (i + k) + dig a i * dig b k + c)
    (h : val z + c * 65536 ^ (i + k) = val z0 + dig b k * 65536 ^ k * (a % 65536 ^ i)) :
    val (updM z (i + k) (v % 65536)) + v / 65536 * 65536 ^ (i + 1 + k) = val z0 + dig b k * 65536 ^ k * (a % 65536 ^ (i + 1)) := by
  have e := val_upd z (i + k) v hik
  rw [mod_succ, Nat.mul_add, ← Nat.add_assoc, ← h]
  have e2 : dig b k * 65536 ^ k * (dig a i * 65536 ^ i) = dig a i * dig b k * 65536 ^ (i + k) := by
    rw [Nat.pow_add]
    simp only [Nat.mul_comm, Nat.mul_left_comm, Nat.mul_assoc]
  rw [e2, show i + 1 + k = i + k + 1 by omega]
  rw [hv, Nat.add_mul, Nat.add_mul, ← hv] at e
  omega
/-- one row -/
theorem row_end (z z0 : Nat → Nat) (a b k c : Nat) (hk : k < 4) (hz : ∀ i, z i < 65536)
    (h : val z + c * 65536 ^ (4 - k + k) = val z0 + dig b k * 65536 ^ k * (a % 65536 ^ (4 - k))) (h0 : val z0 = a * (b % 65536 ^ k) % 18446744073709551616) :
    val z = a * (b % 65536 ^ (k + 1)) % 18446744073709551616 := by
  have hlt := val_lt z hz
  have e4 : (18446744073709551616 : Nat) = 65536 ^ k * 65536 ^ (4 - k) := by
    rw [← Nat.pow_add, show k + (4 - k) = 4 by omega]
  have e5 : 65536 ^ (4 - k + k) = 18446744073709551616 := by rw [show 4 - k + k = 4 by omega]
  rw [e5] at h
  have e6 : val z % 18446744073709551616 = (val z0 + dig b k * 65536 ^ k * (a % 65536 ^ (4 - k))) % 18446744073709551616 := by
    rw [← h, Nat.add_mul_mod_self_right]
  rw [Nat.mod_eq_of_lt hlt] at e6
  rw [e6, mod_succ, Nat.mul_add, h0]
  have e7 : (dig b k * 65536 ^ k * (a % 65536 ^ (4 - k))) % 18446744073709551616 = (a * (dig b k * 65536 ^ k)) % 18446744073709551616 := by
    rw [Nat.mul_assoc, ← Nat.mul_mod_mul_left, ← e4, Nat.mul_mod_mod, ← Nat.mul_assoc, Nat.mul_comm]
  rw [Nat.add_mod, Nat.mod_mod, e7, ← Nat.add_mod]
theorem all_mod (b : Nat) (hb : b < 18446744073709551616) : b % 65536 ^ 4 = b := Nat.mod_eq_of_lt hb
theorem i64_join (a b : Nat) (ha : a < 65536) (hb : b < 65536) : bits .or .i64 ((a : Int) * 65536) (b : Int) = ((a * 65536 + b : Nat) : Int) := by
  rw [show ((a : Int) * 65536) = ((a * 65536 : Nat) : Int) by omega, i64_or _ _ (by omega) (by omega), nat_join 16 (a * 65536) b (by omega) (by omega)]
theorem isH_val (z : Nat → Nat) (hz : ∀ i, z i < 65536) : IsH (bits .or .i64 ((z 3 : Int) * 65536) (z 2 : Int)) (bits .or .i64 ((z 1 : Int) * 65536) (z 0 : Int)) (val z) := by
  rw [i64_join _ _ (hz 3) (hz 2), i64_join _ _ (hz 1) (hz 0)]
  have := hz 0; have := hz 1; have := hz 2; have := hz 3
  exact IsH.mk2 _ _ rfl rfl (by unfold val; omega) (by omega) (by omega)
theorem dig_cells {h l : Int} {n : Nat} (k : IsH h l n) : bits .and .i64 l 65535 = (dig n 0 : Int) ∧ l / 65536 = (dig n 1 : Int) ∧ bits .and .i64 h 65535 = (dig n 2 : Int) ∧ h / 65536 = (dig n 3 : Int) := by
  have hb := k.bds
  rw [i64_mask16 _ (by omega) (by omega), i64_mask16 _ (by omega) (by omega)]
  have h1 := k.hi; have h2 := k.lo; have h3 := k.lt
  unfold dig
  refine ⟨?_, ?_, ?_, ?_⟩
  · show _ = ((n / 1 % 65536 : Nat) : Int); omega
  · show _ = ((n / 65536 % 65536 : Nat) : Int); omega
  · show _ = ((n / 4294967296 % 65536 : Nat) : Int); omega
  · show _ = ((n / 281474976710656 % 65536 : Nat) : Int); omega
/-- behind k rows -/
def OutInv (a b k : Nat) (z : Nat → Nat) : Prop := val z = a * (b % 65536 ^ k) % 18446744073709551616
/-- behind i digits of row k -/
def RowInv (a b k i c : Nat) (z y : Nat → Nat) : Prop := val y + c * 65536 ^ (i + k) = val z + dig b k * 65536 ^ k * (a % 65536 ^ i)
theorem OutInv.zero (a b : Nat) : OutInv a b 0 (fun _ => 0) := by
  unfold OutInv val
  rw [Nat.pow_zero, Nat.mod_one, Nat.mul_zero, Nat.zero_mod, Nat.zero_mul, Nat.zero_mul, Nat.zero_mul]
theorem RowInv.zero (a b k : Nat) (z : Nat → Nat) : RowInv a b k 0 0 z z := by
  unfold RowInv
  rw [Nat.pow_zero, Nat.mod_one, Nat.mul_zero, Nat.zero_mul]
theorem RowInv.step {a b k i c : Nat} {z y : Nat → Nat} (h : RowInv a b k i c z y) (hik : i + k < 4) (v : Nat) (hv : v = y (i + k) + dig a i * dig b k + c) :
    RowInv a b k (i + 1) (v / 65536) z (updM y (i + k) (v % 65536)) := row_step y z a b i k c v hik hv h
theorem RowInv.fin {a b k i c : Nat} {z y : Nat → Nat} (h : RowInv a b k i c z y) (hk : k < 4) (hi : i + k = 4) (hy : ∀ i, y i < 65536) (h0 : OutInv a b k z) : OutInv a b (k + 1) y := by
  obtain rfl : i = 4 - k := by omega
  exact row_end y z a b k c hk hy h h0
theorem OutInv.fin {a b : Nat} {z : Nat → Nat} (h : OutInv a b 4 z) (hb : b < 18446744073709551616) : val z = a * b % 18446744073709551616 := by
  unfold OutInv at h
  rwa [all_mod b hb] at h
theorem carry_lt (y d c v : Nat) (hv : v = y + d + c) (hy : y < 65536) (hd : d ≤ 65535 * 65535) (hc : c < 65536) : v / 65536 < 65536 := by omega
theorem mask_val (v : Nat) (h : v < 4294967296 * 65536) : bits .and .i64 (v : Int) 65535 = ((v % 65536 : Nat) : Int) := by
  rw [i64_mask16 _ (by omega) (by omega)]; omega
end Go.Proofs.Ytkfilgfcgmohlaa
namespace Go.Proofs.Ytkfilgfcgmohlaa
open Go.RowKit
def mulM (a b : Nat) : Nat := a * b % 18446744073709551616
/-- what 'times' holds in memory -/
structure TmAt (B : Nat) (w wr : World) (a b : Nat) (z : Nat → Nat) : Prop where
  xc : ∀ i, i < 4 → wr.cell? ⟨B + 1 + 1 + 1, i, none⟩ = some (.int .i64 (dig a i : Nat))
  yc : ∀ i, i < 4 → wr.cell? ⟨B + 1 + 1 + 1 + 1, i, none⟩ = some (.int .i64 (dig b i : Nat))
  zc : ∀ i, i < 4 → wr.cell? ⟨B + 1 + 1 + 1 + 1 + 1, i, none⟩ = some (.int .i64 (z i : Nat))
  zf : ∀ i, wr.frozen? ⟨B + 1 + 1 + 1 + 1 + 1, i, none⟩ = false
  r0 : wr.cell? ⟨B + 1 + 1, 0, none⟩ = some (.int .i64 0)
  r1 : wr.cell? ⟨B + 1 + 1, 1, none⟩ = some (.int .i64 0)
  rf : ∀ i, wr.frozen? ⟨B + 1 + 1, i, none⟩ = false
  small : ∀ i, z i < 65536
  bel : Below B w wr
theorem TmAt.set {B : Nat} {w wr : World} {a b : Nat} {z : Nat → Nat} (h : TmAt B w wr a b z) (j v : Nat) (hj : j < 4) (hv : v < 65536) :
    TmAt B w (wr.setCell ⟨B + 1 + 1 + 1 + 1 + 1, j, none⟩ (.int .i64 (v : Nat))) a b (updM z j v) where
  xc i hi := by rw [cs_other (blk_ne (by omega))]; exact h.xc i hi
  yc i hi := by rw [cs_other (blk_ne (by omega))]; exact h.yc i hi
  zc i hi := by
    by_cases e : i = j
    · subst e; rw [updM_same]; exact cs_same (h.zc i hi)
    · rw [updM_other _ _ _ _ e, cs_other (addr_ne (by omega))]; exact h.zc i hi
  zf i := by rw [World.frozen?_setCell]; exact h.zf i
  r0 := by rw [cs_other (blk_ne (by omega))]; exact h.r0
  r1 := by rw [cs_other (blk_ne (by omega))]; exact h.r1
  rf i := by rw [World.frozen?_setCell]; exact h.rf i
  small i := by
    by_cases e : i = j
    · subst e; rw [updM_same]; exact hv
    · rw [updM_other _ _ _ _ e]; exact h.small i
  bel := h.bel.setCell (by dsimp only; omega) _
theorem TmAt.drewN {B : Nat} {w wr : World} {a b : Nat} {z : Nat → Nat} (h : TmAt B w wr a b z) (n : Nat) : TmAt B w (wr.drewN n) a b z :=
  ⟨h.xc, h.yc, h.zc, h.zf, h.r0, h.r1, h.rf, h.small, ⟨h.bel.os, h.bel.tape, h.bel.output, h.bel.size, h.bel.block⟩⟩
theorem TmAt.start (w : World) (o1 o2 : Obj) (a b : Nat) (t u v : TypeId) :
    TmAt w.heap.size w ((((((w.alloc o1).alloc o2).alloc (.cells #[.int .i64 0, .int .i64 0] t)).alloc (.cells #[.int .i64 (dig a 0 : Nat), .int .i64 (dig a 1 : Nat), .int .i64 (dig a 2 : Nat), .int .i64 (dig a 3 : Nat)] u)).alloc
      (.cells #[.int .i64 (dig b 0 : Nat), .int .i64 (dig b 1 : Nat), .int .i64 (dig b 2 : Nat), .int .i64 (dig b 3 : Nat)] u)).alloc (.cells #[.int .i64 0, .int .i64 0, .int .i64 0, .int .i64 0] v)) a b (fun _ => 0) where
  xc i hi := by
    rw [World.cell?_alloc_past _ _ _ (by simp), World.cell?_alloc_past _ _ _ (by simp), World.cell?_alloc_at _ _ _ _ (by simp)]
    match i, hi with
    | 0, _ => rfl
    | 1, _ => rfl
    | 2, _ => rfl
    | 3, _ => rfl
  yc i hi := by
    rw [World.cell?_alloc_past _ _ _ (by simp), World.cell?_alloc_at _ _ _ _ (by simp)]
    match i, hi with
    | 0, _ => rfl
    | 1, _ => rfl
    | 2, _ => rfl
    | 3, _ => rfl
  zc i hi := by
    rw [World.cell?_alloc_at _ _ _ _ (by simp)]
    match i, hi with
    | 0, _ => rfl
    | 1, _ => rfl
    | 2, _ => rfl
    | 3, _ => rfl
  zf i := by rw [World.frozen?_alloc_at _ _ _ _ (by simp)]
  r0 := by rw [World.cell?_alloc_past _ _ _ (by simp), World.cell?_alloc_past _ _ _ (by simp), World.cell?_alloc_past _ _ _ (by simp), World.cell?_alloc_at _ _ _ _ (by simp)]; rfl
  r1 := by rw [World.cell?_alloc_past _ _ _ (by simp), World.cell?_alloc_past _ _ _ (by simp), World.cell?_alloc_past _ _ _ (by simp), World.cell?_alloc_at _ _ _ _ (by simp)]; rfl
  rf i := by rw [World.frozen?_alloc_past _ _ _ (by simp), World.frozen?_alloc_past _ _ _ (by simp), World.frozen?_alloc_past _ _ _ (by simp), World.frozen?_alloc_at _ _ _ _ (by simp)]
  small i := by show 0 < 65536; omega
  bel := ((((((Below.refl _ _).alloc (Nat.le_refl _) _).alloc (by simp) _).alloc (by simp; omega) _).alloc (by simp; omega) _).alloc (by simp; omega) _).alloc (by simp; omega) _
set_option maxRecDepth 100000 in
set_option maxHeartbeats 2000000 in
theorem times_any (ah al bh bl : Int) (a b : Nat) (w : World) (ha : IsH ah al a) (hb : IsH bh bl b) :
    Calls Try.prog 46 #[.agg #[.int .i64 ah, .int .i64 al], .agg #[.int .i64 bh, .int .i64 bl]] w fun e w' =>
      ∃ h l, e = .returned (.agg #[.int .i64 h, .int .i64 l]) ∧ IsH h l (mulM a b) ∧ Below w.heap.size w w' := by
  obtain ⟨a0, a1, a2, a3⟩ := dig_cells ha
  obtain ⟨b0, b1, b2, b3⟩ := dig_cells hb
  have HA : Hid (IsH bh bl b) := hb
  clear ha hb
  go_enter Try.func46, Try.ntmps46
  go_wp2
  clear a0 a1 a2 a3 b0 b1 b2 b3
  go_loopw [8] (fun kv wr => ∃ k : Nat, k ≤ 4 ∧ kv = .int .i64 k ∧ ∃ z, TmAt w.heap.size w wr a b z ∧ OutInv a b k z) (fun kv _ => (4 - intOf kv).toNat)
  case atStart => exact ⟨0, by omega, rfl, _, TmAt.start w _ _ a b _ _ _, OutInv.zero a b⟩
  case round =>
    obtain ⟨k, hk, rfl, z, hz, hval⟩ := hrel
    have HV : Hid (OutInv a b k z) := hval
    clear hval
    by_cases hlt : k < 4
    · obtain ⟨wo, hwo⟩ : ∃ wo : World, wo = wr := ⟨_, rfl⟩
      have HZ : Hid (TmAt w.heap.size w wr a b z) := hz
      clear hz
      go_wp2
      go_loopw [9, 10] (fun cv iv wi => ∃ i c : Nat, i + k ≤ 4 ∧ iv = .int .i64 i ∧ cv = .int .i64 c ∧ c < 65536 ∧ ∃ y, TmAt w.heap.size w wi a b y ∧ RowInv a b k i c z y) (fun _ iv _ => (4 - intOf iv).toNat)
      case atStart => exact ⟨0, 0, by omega, rfl, rfl, by omega, z, HZ.out, RowInv.zero a b k z⟩
      case round =>
        obtain ⟨i, c, hik, rfl, rfl, hc, y, hy, he⟩ := hrel
        have HE : Hid (RowInv a b k i c z y) := he
        clear he
        by_cases hin : i + k < 4
        · have cx := hy.xc i (by omega)
          have cy := hy.yc k hlt
          have cz := hy.zc (i + k) hin
          have fz := hy.zf (i + k)
          have HY : Hid (TmAt w.heap.size w wr a b y) := hy
          have sy := hy.small (i + k)
          have sx := dig_lt a i
          have sb := dig_lt b k
          have sm : dig a i * dig b k ≤ 65535 * 65535 := Nat.mul_le_mul (by omega) (by omega)
          have hi1 : (0 : Int) ≤ (i : Int) + (k : Int) := by omega
          have hi2 : (i : Int) + (k : Int) < 4 := by omega
          have hi3 : (i : Int) < 4 := by omega
          have hi4 : (k : Int) < 4 := by omega
          clear hy
          go_wp2
          go_quiet (fail)
          go_wp2
          obtain ⟨v, hv⟩ : ∃ v, v = y (i + k) + dig a i * dig b k + c := ⟨_, rfl⟩
          have ev : ((y (i + k) : Nat) : Int) + ((dig a i : Nat) : Int) * ((dig b k : Nat) : Int) + (c : Int) = (v : Int) := by rw [hv]; push_cast; rfl
          have hvl : v < 4294967296 * 65536 := by rw [hv]; omega
          rw [ev, mask_val v hvl]
          refine ⟨⟨i + 1, v / 65536, by omega, by go_num, by go_num, carry_lt _ _ _ v hv sy sm hc, _, (HY.out.drewN nq).set (i + k) (v % 65536) hin (Nat.mod_lt _ (by omega)), HE.out.step hin v hv⟩, by simp [intOf]; omega⟩
        · have HO : Hid (OutInv a b (k + 1) y) := HE.out.fin hlt (by omega) hy.small HV.out
          go_wp2
          exact ⟨⟨k + 1, by omega, by go_num, y, hy, HO.out⟩, by simp [intOf]; omega⟩
    · obtain rfl : k = 4 := by omega
      have HF : Hid (IsH (bits .or .i64 ((z 3 : Int) * 65536) (z 2 : Int)) (bits .or .i64 ((z 1 : Int) * 65536) (z 0 : Int)) (mulM a b)) := by
        have := isH_val z hz.small
        rwa [HV.out.fin HA.out.lt] at this
      have z0 := hz.zc 0 (by omega)
      have z1 := hz.zc 1 (by omega)
      have z2 := hz.zc 2 (by omega)
      have z3 := hz.zc 3 (by omega)
      have s0 := hz.small 0
      have s1 := hz.small 1
      have s2 := hz.small 2
      have s3 := hz.small 3
      have r0 := hz.r0
      have r1 := hz.r1
      have f0 := hz.rf 0
      have f1 := hz.rf 1
      have HB : Hid (Below w.heap.size w wr) := hz.bel
      clear hz HV HA
      go_wp2
      obtain ⟨h, hh⟩ : ∃ h, h = bits .or .i64 ((z 3 : Int) * 65536) (z 2 : Int) := ⟨_, rfl⟩
      obtain ⟨l, hl⟩ : ∃ l, l = bits .or .i64 ((z 1 : Int) * 65536) (z 0 : Int) := ⟨_, rfl⟩
      rw [← hh, ← hl]
      rw [← hh, ← hl] at HF
      have q0 : ((wr.setCell ⟨w.heap.size + 1 + 1, 0, none⟩ (.int .i64 h)).setCell ⟨w.heap.size + 1 + 1, 1, none⟩ (.int .i64 l)).cell? ⟨w.heap.size + 1 + 1, 0, none⟩ = some (.int .i64 h) := by
        rw [cs_other (addr_ne (by omega))]; exact cs_same r0
      have q1 : ((wr.setCell ⟨w.heap.size + 1 + 1, 0, none⟩ (.int .i64 h)).setCell ⟨w.heap.size + 1 + 1, 1, none⟩ (.int .i64 l)).cell? ⟨w.heap.size + 1 + 1, 1, none⟩ = some (.int .i64 l) := by
        exact cs_same (by rw [cs_other (addr_ne (by omega))]; exact r1)
      exact bodyPost_ret (v := .agg #[.int .i64 h, .int .i64 l]) (by simp [results, Try.results46, go_sem, q0, q1]) rfl ⟨h, l, rfl, HF.out, (HB.out.setCell (by dsimp only; omega) _).setCell (by dsimp only; omega) _⟩
end Go.Proofs.Ytkfilgfcgmohlaa
namespace Go.Proofs.Ytkfilgfcgmohlaa
open Go.RowKit
/-- a variable that holds a Half -/
structure Half2 (w : World) (b : Nat) (h l : Int) : Prop where
  c0 : w.cell? ⟨b, 0, none⟩ = some (.int .i64 h)
  c1 : w.cell? ⟨b, 1, none⟩ = some (.int .i64 l)
  f : ∀ i, w.frozen? ⟨b, i, none⟩ = false
theorem Half2.lt {w : World} {b : Nat} {h l : Int} (k : Half2 w b h l) : b < w.heap.size := block_lt_of_cell k.c0
theorem Half2.same {w w' : World} {b : Nat} {h l : Int} (k : Half2 w b h l) (hb : w'.heap[b]? = w.heap[b]?) : Half2 w' b h l :=
  ⟨(World.cell?_of_block (w := w) (a := ⟨b, 0, none⟩) hb).trans k.c0, (World.cell?_of_block (w := w) (a := ⟨b, 1, none⟩) hb).trans k.c1, fun i => (World.frozen?_of_block (w := w) (a := ⟨b, i, none⟩) hb).trans (k.f i)⟩
theorem Half2.later {w w' : World} {b : Nat} {h l : Int} (k : Half2 w b h l) (hb : Below w.heap.size w w') : Half2 w' b h l := k.same (hb.block b k.lt)
theorem Half2.alloc {w : World} {b : Nat} {h l : Int} (k : Half2 w b h l) (o : Obj) : Half2 (w.alloc o) b h l := k.same (Below.heap_alloc _ _ _ k.lt)
theorem Half2.other {w : World} {b : Nat} {h l : Int} (k : Half2 w b h l) (c i : Nat) (v : Value) (hc : b ≠ c) : Half2 (w.setCell ⟨c, i, none⟩ v) b h l := k.same (Below.heap_setCell _ _ _ _ hc)
theorem Half2.drew {w : World} {b : Nat} {h l : Int} (k : Half2 w b h l) : Half2 w.drew b h l := k.same rfl
theorem Half2.put {w : World} {b : Nat} {h l : Int} (k : Half2 w b h l) (h' l' : Int) : Half2 ((w.setCell ⟨b, 0, none⟩ (.int .i64 h')).setCell ⟨b, 1, none⟩ (.int .i64 l')) b h' l' :=
  ⟨by rw [cs_other (addr_ne (by omega))]; exact cs_same k.c0, cs_same (by rw [cs_other (addr_ne (by omega))]; exact k.c1), fun i => by rw [World.frozen?_setCell, World.frozen?_setCell]; exact k.f i⟩
theorem Half2.new (w : World) (h l : Int) (t : TypeId) (b : Nat) (hb : b = w.heap.size) : Half2 (w.alloc (.cells #[.int .i64 h, .int .i64 l] t)) b h l := by
  subst hb
  exact ⟨by rw [World.cell?_alloc_new]; rfl, by rw [World.cell?_alloc_new]; rfl, fun i => by rw [World.frozen?_alloc_new]⟩
def addM (a b : Nat) : Nat := (a + b) % 18446744073709551616
def lapN (v x : Nat) : Nat := mulM (rolN (addM v (mulM x (primeN 2))) 31) (primeN 1)
set_option maxRecDepth 100000 in
set_option maxHeartbeats 2000000 in
theorem rlap_any (vh vl xh xl : Int) (v x : Nat) (w : World) (hv : IsH vh vl v) (hx : IsH xh xl x) :
    Calls Try.prog 44 #[.agg #[.int .i64 vh, .int .i64 vl], .agg #[.int .i64 xh, .int .i64 xl]] w fun e w' =>
      ∃ h l, e = .returned (.agg #[.int .i64 h, .int .i64 l]) ∧ IsH h l (lapN v x) ∧ Below w.heap.size w w' := by
  have HV : Hid (IsH vh vl v) := hv
  have HX : Hid (IsH xh xl x) := hx
  clear hv hx
  go_enter Try.func44, Try.ntmps44
  go_wp2_with fail
  refine (prime_any 2 _ (by omega) (by omega)).mono ?_
  rintro e w1 ⟨ph, pl, rfl, hres, hb⟩
  have Hp : Hid (IsH ph pl (primeN 2)) := hres
  have Fv1 : Hid (Half2 w1 (w.heap.size) vh vl) := Half2.later (((Half2.new w vh vl _ _ rfl).alloc _).alloc _) hb
  have Fx1 : Hid (Half2 w1 (w.heap.size + 1) xh xl) := Half2.later ((Half2.new _ xh xl _ _ (by simp)).alloc _) hb
  have Fr1 : Hid (Half2 w1 (w.heap.size + 1 + 1) 0 0) := Half2.later (Half2.new _ 0 0 _ _ (by simp)) hb
  have B1 : Hid (Below w.heap.size w w1) := ((((Below.refl _ _).alloc (Nat.le_refl _) _).alloc (by simp) _).alloc (by simp; omega) _).trans (hb.mono (by simp; omega))
  clear hres hb
  obtain ⟨qv0, qv1, qvf⟩ := Fv1.out
  have qvf0 := qvf 0
  have qvf1 := qvf 1
  have qvl := Fv1.out.lt
  clear qvf
  obtain ⟨qx0, qx1, qxf⟩ := Fx1.out
  have qxf0 := qxf 0
  have qxf1 := qxf 1
  have qxl := Fx1.out.lt
  clear qxf
  obtain ⟨qr0, qr1, qrf⟩ := Fr1.out
  have qrf0 := qrf 0
  have qrf1 := qrf 1
  have qrl := Fr1.out.lt
  clear qrf
  go_wp2_with fail
  refine (times_any _ _ _ _ x (primeN 2) _ HX.out Hp.out).mono ?_
  rintro e w2 ⟨yh, yl, rfl, hres, hb⟩
  have Hy : Hid (IsH yh yl (mulM x (primeN 2))) := hres
  have Fv2 : Hid (Half2 w2 (w.heap.size) vh vl) := Half2.later (Fv1.out.alloc _) hb
  have Fr2 : Hid (Half2 w2 (w.heap.size + 1 + 1) 0 0) := Half2.later (Fr1.out.alloc _) hb
  have B2 : Hid (Below w.heap.size w w2) := (B1.out.alloc (by omega) _).trans (hb.mono (by simp; omega))
  clear hres hb Fv1 Fx1 Fr1 qv0 qv1 qvf0 qvf1 qvl qx0 qx1 qxf0 qxf1 qxl qr0 qr1 qrf0 qrf1 qrl B1
  obtain ⟨qv0, qv1, qvf⟩ := Fv2.out
  have qvf0 := qvf 0
  have qvf1 := qvf 1
  have qvl := Fv2.out.lt
  clear qvf
  obtain ⟨qr0, qr1, qrf⟩ := Fr2.out
  have qrf0 := qrf 0
  have qrf1 := qrf 1
  have qrl := Fr2.out.lt
  clear qrf
  go_wp2_with fail
  refine (plus_any _ _ _ _ v _ _ HV.out Hy.out).mono ?_
  rintro e w3 ⟨sh, sl, rfl, hres, hb⟩
  have Hs : Hid (IsH sh sl (addM v (mulM x (primeN 2)))) := hres
  have Fv3 : Hid (Half2 w3 (w.heap.size) vh vl) := Half2.later (Fv2.out.alloc _) hb
  have Fr3 : Hid (Half2 w3 (w.heap.size + 1 + 1) 0 0) := Half2.later (Fr2.out.alloc _) hb
  have B3 : Hid (Below w.heap.size w w3) := (B2.out.alloc (by omega) _).trans (hb.mono (by simp; omega))
  clear hres hb Fv2 Fr2 qv0 qv1 qvf0 qvf1 qvl qr0 qr1 qrf0 qrf1 qrl B2
  obtain ⟨qv0, qv1, qvf⟩ := Fv3.out
  have qvf0 := qvf 0
  have qvf1 := qvf 1
  have qvl := Fv3.out.lt
  clear qvf
  obtain ⟨qr0, qr1, qrf⟩ := Fr3.out
  have qrf0 := qrf 0
  have qrf1 := qrf 1
  have qrl := Fr3.out.lt
  clear qrf
  go_wp2_with fail
  refine (left_any _ _ _ 31 _ Hs.out (by omega) (by omega)).mono ?_
  rintro e w4 ⟨th, tl, rfl, hres, hb⟩
  have Ht : Hid (IsH th tl (rolN (addM v (mulM x (primeN 2))) 31)) := hres
  have Fv4 : Hid (Half2 w4 (w.heap.size) sh sl) := Half2.later (Fv3.out.put sh sl) hb
  have Fr4 : Hid (Half2 w4 (w.heap.size + 1 + 1) 0 0) := Half2.later ((Fr3.out.other _ _ _ (by omega)).other _ _ _ (by omega)) hb
  have B4 : Hid (Below w.heap.size w w4) := ((B3.out.setCell (by dsimp only; omega) _).setCell (by dsimp only; omega) _).trans (hb.mono (by simp; omega))
  clear hres hb Fv3 Fr3 qv0 qv1 qvf0 qvf1 qvl qr0 qr1 qrf0 qrf1 qrl B3
  obtain ⟨qv0, qv1, qvf⟩ := Fv4.out
  have qvf0 := qvf 0
  have qvf1 := qvf 1
  have qvl := Fv4.out.lt
  clear qvf
  obtain ⟨qr0, qr1, qrf⟩ := Fr4.out
  have qrf0 := qrf 0
  have qrf1 := qrf 1
  have qrl := Fr4.out.lt
  clear qrf
  go_wp2_with fail
  refine (prime_any 1 _ (by omega) (by omega)).mono ?_
  rintro e w5 ⟨qh, ql, rfl, hres, hb⟩
  have Hq : Hid (IsH qh ql (primeN 1)) := hres
  have Fv5 : Hid (Half2 w5 (w.heap.size) th tl) := Half2.later (Fv4.out.put th tl) hb
  have Fr5 : Hid (Half2 w5 (w.heap.size + 1 + 1) 0 0) := Half2.later ((Fr4.out.other _ _ _ (by omega)).other _ _ _ (by omega)) hb
  have B5 : Hid (Below w.heap.size w w5) := ((B4.out.setCell (by dsimp only; omega) _).setCell (by dsimp only; omega) _).trans (hb.mono (by simp; omega))
  clear hres hb Fv4 Fr4 qv0 qv1 qvf0 qvf1 qvl qr0 qr1 qrf0 qrf1 qrl B4
  obtain ⟨qv0, qv1, qvf⟩ := Fv5.out
  have qvf0 := qvf 0
  have qvf1 := qvf 1
  have qvl := Fv5.out.lt
  clear qvf
  obtain ⟨qr0, qr1, qrf⟩ := Fr5.out
  have qrf0 := qrf 0
  have qrf1 := qrf 1
  have qrl := Fr5.out.lt
  clear qrf
  go_wp2_with fail
  refine (times_any _ _ _ _ _ (primeN 1) _ Ht.out Hq.out).mono ?_
  rintro e w6 ⟨uh, ul, rfl, hres, hb⟩
  have Hu : Hid (IsH uh ul (lapN v x)) := hres
  have Fr6 : Hid (Half2 w6 (w.heap.size + 1 + 1) 0 0) := Half2.later (Fr5.out.alloc _) hb
  have B6 : Hid (Below w.heap.size w w6) := (B5.out.alloc (by omega) _).trans (hb.mono (by simp; omega))
  clear hres hb Fv5 Fr5 qv0 qv1 qvf0 qvf1 qvl qr0 qr1 qrf0 qrf1 qrl B5
  obtain ⟨qr0, qr1, qrf⟩ := Fr6.out
  have qrf0 := qrf 0
  have qrf1 := qrf 1
  have qrl := Fr6.out.lt
  clear qrf
  go_wp2
  have hput := Fr6.out.put uh ul
  exact bodyPost_ret (v := .agg #[.int .i64 uh, .int .i64 ul]) (by simp [results, Try.results44, go_sem, hput.c0, hput.c1]) rfl ⟨uh, ul, rfl, Hu.out, (B6.out.setCell (by dsimp only; omega) _).setCell (by dsimp only; omega) _⟩
end Go.Proofs.Ytkfilgfcgmohlaa
