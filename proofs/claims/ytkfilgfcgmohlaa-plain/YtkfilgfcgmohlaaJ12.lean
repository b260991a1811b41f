import Derived.Test.YtkfilgfcgmohlaaJ11
import Derived.WalkKit
import Derived.WalkSpells
import Derived.WalkLawsBesides
import Derived.Deep.AppendLies
import Derived.Laws.OwnMore
namespace Go.Proofs.Ytkfilgfcgmohlaa
open Go.RowKit
/-- weights told outright -/
def rawW (s : ByteArray) (i : Nat) : Nat := (if i % 2 = 0 then gOf s (1 + i / 2) / 16 else gOf s (1 + i / 2)) % 16
def rawL (s : ByteArray) (n : Nat) : List Nat := (List.range n).map (rawW s)
theorem rawL_succ (s : ByteArray) (n : Nat) : rawL s (n + 1) = rawL s n ++ [rawW s n] := by simp [rawL, List.range_succ]
theorem rawL_len (s : ByteArray) (n : Nat) : (rawL s n).length = n := by simp [rawL]
/-- the weights that a tree's description tells, and its bytes -/
def takenT (s : ByteArray) : Nat := if 127 < gOf s 0 then 1 + (gOf s 0 - 126) / 2 else 1 + gOf s 0
def WeightR (s : ByteArray) (r : Option (List Nat)) : Prop :=
  if s.size = 0 ∨ s.size < takenT s then r = none
  else if 127 < gOf s 0 then r = some (rawL s (gOf s 0 - 127))
  else PairR (s.extract 1 (takenT s)) r
/-- what a tree's description says: the weights of all symbols, the greatest number of bits -/
def TreeR (s : ByteArray) (r : Option (List Nat × Nat)) : Prop := ∃ l, WeightR s l ∧ r = l.bind codesR
def TreeQ (s : ByteArray) (w : World) (e : Ending) (w' : World) : Prop :=
  ∃ r, TreeR s r ∧ Below w.heap.size w w' ∧ match r with
    | none => ∃ i, e = .returned (.tuple #[.slice none 0 0, .int .i64 i, .bool false])
    | some (all, log) => takenT s ≤ s.size ∧ ∃ g cap, e = .returned (.tuple #[.slice (some ⟨g, 0, none⟩) all.length cap, .int .i64 (takenT s : Int), .bool true]) ∧ w.heap.size ≤ g ∧ CdAt w' g all.length (wAt all) log ∧ Whole (wAt all) all.length log ∧ 0 < all.length ∧ all.length ≤ 256
theorem wrow_cells {l : List Nat} {w : World} {B cap g : Nat} (h : w.ownsRow B 3 1 (.slice (some ⟨g, 0, none⟩) l.length cap) l.length (ivs (l.map fun (x : Nat) => (x : Int)))) : ∀ i, i < l.length → w.cell? ⟨g, i, none⟩ = some (.int .i64 (wAt l i : Int)) := fun i hi => by
  rw [World.ownsRow.cellAt h i (by omega), ivs_at _ i (by simpa using hi)]
  simp [wAt, hi]
/-- a row's slice, written out -/
theorem row_open {w : World} {B e size : Nat} {v : Value} {n : Nat} {xs : List Value} (h : w.ownsRow B e size v n xs) : ∃ pa g cap, v = .slice pa n cap ∧ (0 < n → pa = some ⟨g, 0, none⟩ ∧ B ≤ g ∧ g < w.heap.size) := by
  by_cases h0 : 0 < n
  · obtain ⟨g, cap, rfl, h1, h2⟩ := h.form h0
    exact ⟨_, g, cap, rfl, fun _ => ⟨rfl, h1, h2⟩⟩
  · rcases h.2 with ⟨rfl, rfl⟩ | ⟨g, cap, cur, rfl, _⟩
    · exact ⟨none, 0, 0, rfl, fun h => absurd h h0⟩
    · exact ⟨_, 0, cap, rfl, fun h => absurd h h0⟩
theorem wrow_pa {l : List Nat} {w : World} {B cap g : Nat} {pa : Option Addr} (h : w.ownsRow B 3 1 (.slice pa l.length cap) l.length (ivs (l.map fun (x : Nat) => (x : Int)))) (hp : 0 < l.length → pa = some ⟨g, 0, none⟩) : ∀ i, i < l.length → w.cell? ⟨g, i, none⟩ = some (.int .i64 (wAt l i : Int)) := fun i hi => by
  obtain rfl := hp (by omega)
  exact wrow_cells h i hi
theorem weightR_pair {s : ByteArray} {h : Nat} {r : Option (List Nat)} (_h0 : ¬ s.size = 0) (hh : h = gOf s 0) (h127 : ¬ 127 < h) (hsh : ¬ s.size < 1 + h) (hr : PairR (s.extract 1 (1 + h)) r) : WeightR s r := by
  have ht : takenT s = 1 + h := by unfold takenT; rw [← hh, if_neg h127]
  have e : WeightR s r = PairR (s.extract 1 (takenT s)) r := by
    unfold WeightR
    rw [if_neg (by rw [ht]; omega), if_neg (by rw [← hh]; exact h127)]
  rw [e, ht]
  exact hr
set_option maxRecDepth 100000 in
set_option maxHeartbeats 4000000 in
theorem tree_any (s : ByteArray) (w : World) (hs : s.size ≤ 1048576) :
    Calls Try.prog 76 #[.string s] w fun e w' => TreeQ s w e w' := by
  by_cases h0 : s.size = 0
  · have hse : s = ⟨#[]⟩ := by
      cases s with
      | mk d => simp [ByteArray.size] at h0; rw [h0]
    have HT : Hid (TreeR s none) := ⟨none, by unfold WeightR; rw [if_pos (Or.inl h0)], rfl⟩
    subst hse
    go_enter Try.func76, Try.ntmps76
    go_wp2_with fail
    go_ret3
    exact ⟨none, HT.out, Below.refl _ _, _, rfl⟩
  · have hsb : s.toList.isEmpty = false := by
      rw [ByteArray.toList_eq]
      cases e : s.data.toList with
      | nil => exact absurd (show s.data.size = 0 by rw [← Array.length_toList, e]; rfl) h0
      | cons _ _ => rfl
    have hix : ∀ wz, (Instr.index 9 (.string s) (.int .i64 0)).run Try.prog wz = .ok (.int .u8 ((gOf s 0 : Nat) : Int)) wz := run_at s _ 0 rfl (by omega)
    have hgl := gOf_lt s 0
    have hw8 : IntKind.i64.wrap (gOf s 0 : Int) = (gOf s 0 : Int) := i64_id _ (by omega) (by omega)
    obtain ⟨h, hh⟩ : ∃ h, h = gOf s 0 := ⟨_, rfl⟩
    have HH : Hid (h = gOf s 0) := hh
    rw [← hh] at hix hgl hw8
    clear hh
    go_enter Try.func76, Try.ntmps76
    by_cases h127 : 127 < h
    · have hd1 : decide ((127 : Int) < (h : Int)) = true := decide_eq_true (by omega)
      have HTK : Hid (takenT s = 1 + (h - 126) / 2) := by show _ = _; unfold takenT; rw [← HH.out, if_pos h127]
      by_cases hsh : s.size < 1 + (h - 126) / 2
      · have hd2 : decide ((s.size : Int) < 1 + ((h : Int) - 126) / 2) = true := decide_eq_true (by omega)
        have HT : Hid (TreeR s none) := ⟨none, by unfold WeightR; rw [HTK.out, if_pos (Or.inr hsh)], rfl⟩
        go_wp2_with fail
        go_ret3
        exact ⟨none, HT.out, Below.refl _ _, _, rfl⟩
      · have hd2 : decide ((s.size : Int) < 1 + ((h : Int) - 126) / 2) = false := decide_eq_false (by omega)
        have HWR : Hid (WeightR s (some (rawL s (h - 127)))) := by
          show WeightR s _
          unfold WeightR
          rw [HTK.out, if_neg (by omega), ← HH.out, if_pos h127]
        have hhe : (h : Int) - 127 = ((h - 127 : Nat) : Int) := by omega
        go_wp2_with fail
        go_loopw [6, 8] (fun ov iv wr => ∃ i : Nat, i ≤ h - 127 ∧ iv = .int .i64 i ∧ wr.ownsRow w.heap.size 3 1 ov (rawL s i).length (ivs ((rawL s i).map fun (x : Nat) => (x : Int))) ∧ Below w.heap.size w wr) (fun _ iv _ => (h - intOf iv).toNat)
        case atStart => exact ⟨0, by omega, rfl, World.ownsRow_nil _ _ _ _, Below.refl _ _⟩
        case round =>
          obtain ⟨i, hi, rfl, hrow, hbw⟩ := hrel
          have HRW : Hid (wr.ownsRow w.heap.size 3 1 u6 (rawL s i).length (ivs ((rawL s i).map fun (x : Nat) => (x : Int))) ∧ Below w.heap.size w wr) := ⟨hrow, hbw⟩
          have hbig := hbw.size
          have hlr : (rawL s i).length = i := rawL_len s i
          clear hbw
          by_cases hi2 : i < h - 127
          · have hpI : 1 + i / 2 < s.size := by omega
            have hix2 : ∀ wz, (Instr.index 9 (.string s) (.int .i64 (1 + (i : Int) / 2))).run Try.prog wz = .ok (.int .u8 ((gOf s (1 + i / 2) : Nat) : Int)) wz := run_at s _ (1 + i / 2) (by omega) hpI
            have hgl2 := gOf_lt s (1 + i / 2)
            have hw82 : IntKind.i64.wrap (gOf s (1 + i / 2) : Int) = (gOf s (1 + i / 2) : Int) := i64_id _ (by omega) (by omega)
            have HRWW : Hid (rawW s i = (if i % 2 = 0 then gOf s (1 + i / 2) / 16 else gOf s (1 + i / 2)) % 16) := rfl
            obtain ⟨v, hv⟩ : ∃ v, v = gOf s (1 + i / 2) := ⟨_, rfl⟩
            rw [← hv] at hix2 hgl2 hw82 HRWW
            have hil : i ≤ 255 := by omega
            rw [hlr] at hrow
            clear hv hlr
            rcases (show i % 2 = 0 ∨ i % 2 = 1 by omega) with hp | hp
            · have hpe : ((i : Int) % 2 == 0) = true := by rw [beq_iff_eq]; omega
              have hpt : (i : Int).tmod 2 = 0 := by rw [Int.tmod_eq_emod_of_nonneg (by omega)]; omega
              have hpm : (i : Int) % 2 = 0 := by omega
              rw [if_pos hp] at HRWW
              go_wp2_with (at_builtin; refine ia_list (by rfl) (.tmp 50) (.tmp 53) (by rfl) (by first | rfl | simp) (gb := wr.heap.size) (y := ((v : Int) / 16) % 16) (by simp [Act.eval]) (by omega) hrow hbig (by repeat (first | exact Below.refl _ _ | refine Below.drew ?_ | refine Below.alloc ?_ (by simp <;> omega) _)) (by simp) ?_; intro g1 cap1 w4 hfin)
              refine ⟨⟨i + 1, by omega, by go_num, ?_, HRW.out.2.trans hfin.out.2⟩, by simp [intOf]; omega⟩
              rw [rawL_succ, ← ivs_map, HRWW.out, show (rawL s i ++ [v / 16 % 16]).length = i + 1 by rw [List.length_append, rawL_len]; rfl, show ((v / 16 % 16 : Nat) : Int) = ((v : Int) / 16) % 16 by omega]
              exact hfin.out.1
            · have hpe : ((i : Int) % 2 == 0) = false := by rw [beq_eq_false_iff_ne]; omega
              have hpt : (i : Int).tmod 2 = 1 := by rw [Int.tmod_eq_emod_of_nonneg (by omega)]; omega
              have hpm : (i : Int) % 2 = 1 := by omega
              rw [if_neg (by omega)] at HRWW
              go_wp2_with (at_builtin; refine ia_list (by rfl) (.tmp 50) (.tmp 53) (by rfl) (by first | rfl | simp) (gb := wr.heap.size) (y := (v : Int) % 16) (by simp [Act.eval]) (by omega) hrow hbig (by repeat (first | exact Below.refl _ _ | refine Below.drew ?_ | refine Below.alloc ?_ (by simp <;> omega) _)) (by simp) ?_; intro g1 cap1 w4 hfin)
              refine ⟨⟨i + 1, by omega, by go_num, ?_, HRW.out.2.trans hfin.out.2⟩, by simp [intOf]; omega⟩
              rw [rawL_succ, ← ivs_map, HRWW.out, show (rawL s i ++ [v % 16]).length = i + 1 by rw [List.length_append, rawL_len]; rfl, show ((v % 16 : Nat) : Int) = (v : Int) % 16 by omega]
              exact hfin.out.1
          · obtain rfl : i = h - 127 := by omega
            obtain ⟨pa, gw, cpw, hse, hpa⟩ := row_open hrow
            subst hse
            have HLR : Hid ((rawL s (h - 127)).length = h - 127) := hlr
            clear hrow hlr
            generalize hLL : rawL s (h - 127) = LL at *
            clear hLL
            go_wp2_with fail
            refine (codes_any LL gw cpw pa _ (wrow_pa HRW.out.1 (fun h => (hpa h).1)) (fun h => (hpa h).1) (by have := HLR.out; omega)).mono ?_
            rintro e w5 ⟨hb5, hq5⟩
            have HB5 : Hid (Below w.heap.size w w5) := HRW.out.2.trans (hb5.mono HRW.out.2.size)
            cases hC : codesR LL with
            | none =>
              rw [hC] at hq5
              subst hq5
              have HT : Hid (TreeR s none) := ⟨some LL, HWR.out, by rw [Option.bind_some, hC]⟩
              clear hb5 hC
              go_wp2_with fail
              go_ret3
              exact ⟨none, HT.out, HB5.out, _, rfl⟩
            | some x =>
              obtain ⟨all, log⟩ := x
              rw [hC] at hq5
              obtain ⟨gc, cc, rfl, hgc, hcd⟩ := hq5
              have HT : Hid (TreeR s (some (all, log)) ∧ Whole (wAt all) all.length log ∧ 0 < all.length ∧ all.length ≤ 256) := ⟨⟨some LL, HWR.out, by rw [Option.bind_some, hC]⟩, (codesR_ok hC).1, by have := (codesR_ok hC).2.1; omega, (codesR_ok hC).2.2⟩
              have HCD : Hid (CdAt w5 gc all.length (wAt all) log ∧ w.heap.size ≤ gc) := ⟨hcd, Nat.le_trans HRW.out.2.size hgc⟩
              clear hb5 hC hcd hgc
              go_wp2_with fail
              go_ret3
              refine ⟨some (all, log), HT.out.1, HB5.out, ?_, gc, cc, ?_, HCD.out.2, HCD.out.1, HT.out.2⟩
              · rw [HTK.out]; omega
              · rw [HTK.out, show ((1 + (h - 126) / 2 : Nat) : Int) = 1 + ((h : Int) - 126) / 2 by omega]; rfl
    · have hd1 : decide ((127 : Int) < (h : Int)) = false := decide_eq_false (by omega)
      have HTK : Hid (takenT s = 1 + h) := by show _ = _; unfold takenT; rw [← HH.out, if_neg h127]
      by_cases hsh : s.size < 1 + h
      · have hd2 : decide ((s.size : Int) < 1 + (h : Int)) = true := decide_eq_true (by omega)
        have HT : Hid (TreeR s none) := ⟨none, by unfold WeightR; rw [HTK.out, if_pos (Or.inr hsh)], rfl⟩
        go_wp2_with fail
        go_ret3
        exact ⟨none, HT.out, Below.refl _ _, _, rfl⟩
      · have hd2 : decide ((s.size : Int) < 1 + (h : Int)) = false := decide_eq_false (by omega)
        have HWP : Hid (∀ r, PairR (s.extract 1 (1 + h)) r → WeightR s r) := fun r hr => weightR_pair h0 HH.out h127 hsh hr
        have hslI : (1 : Int) + (h : Int) ≤ (s.size : Int) := by omega
        have hslt : ((1 : Int) + (h : Int)).toNat = 1 + h := by omega
        go_wp2_with fail
        refine Calls.mono (show Calls _ _ #[.string (s.extract 1 (1 + h))] _ _ from pair_any (s.extract 1 (1 + h)) _ (by rw [ByteArray.size_extract]; omega)) ?_
        rintro e w3 ⟨r, hr, hb3, hq3⟩
        cases r with
        | none =>
          obtain ⟨v, rfl⟩ := hq3
          have HT : Hid (TreeR s none ∧ Below w.heap.size w w3) := ⟨⟨none, HWP.out _ hr, rfl⟩, hb3⟩
          clear hr hb3
          go_wp2_with fail
          go_ret3
          exact ⟨none, HT.out.1, HT.out.2, _, rfl⟩
        | some LL =>
          obtain ⟨v, rfl, hrow, hl257, h11⟩ := hq3
          have HWR : Hid (WeightR s (some LL)) := HWP.out _ hr
          have HRW : Hid (w3.ownsRow w.heap.size 3 1 v LL.length (ivs (LL.map fun (x : Nat) => (x : Int))) ∧ Below w.heap.size w w3) := ⟨hrow, hb3⟩
          obtain ⟨pa, gw, cpw, hse, hpa⟩ := row_open hrow
          subst hse
          clear hr hb3 hrow h11
          go_wp2_with fail
          refine (codes_any LL gw cpw pa _ (wrow_pa HRW.out.1 (fun h => (hpa h).1)) (fun h => (hpa h).1) (by omega)).mono ?_
          rintro e w5 ⟨hb5, hq5⟩
          have HB5 : Hid (Below w.heap.size w w5) := HRW.out.2.trans (hb5.mono HRW.out.2.size)
          cases hC : codesR LL with
          | none =>
            rw [hC] at hq5
            subst hq5
            have HT : Hid (TreeR s none) := ⟨some LL, HWR.out, by rw [Option.bind_some, hC]⟩
            clear hb5 hC
            go_wp2_with fail
            go_ret3
            exact ⟨none, HT.out, HB5.out, _, rfl⟩
          | some x =>
            obtain ⟨all, log⟩ := x
            rw [hC] at hq5
            obtain ⟨gc, cc, rfl, hgc, hcd⟩ := hq5
            have HT : Hid (TreeR s (some (all, log)) ∧ Whole (wAt all) all.length log ∧ 0 < all.length ∧ all.length ≤ 256) := ⟨⟨some LL, HWR.out, by rw [Option.bind_some, hC]⟩, (codesR_ok hC).1, by have := (codesR_ok hC).2.1; omega, (codesR_ok hC).2.2⟩
            have HCD : Hid (CdAt w5 gc all.length (wAt all) log ∧ w.heap.size ≤ gc) := ⟨hcd, Nat.le_trans HRW.out.2.size hgc⟩
            clear hb5 hC hcd hgc
            go_wp2_with fail
            go_ret3
            refine ⟨some (all, log), HT.out.1, HB5.out, ?_, gc, cc, ?_, HCD.out.2, HCD.out.1, HT.out.2⟩
            · rw [HTK.out]; omega
            · rw [HTK.out, show ((1 + h : Nat) : Int) = 1 + (h : Int) by omega]; rfl
end Go.Proofs.Ytkfilgfcgmohlaa
