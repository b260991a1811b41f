import Derived.Test.YtipdjbkkpjlamaaGreatSJ
import Derived.WalkKit
import Derived.WalkSpells
import Derived.WalkLawsBesides
import Derived.Deep.RegionHeld3
import Derived.Deep.DrawnRows
import Derived.Deep.QuietTactic
import Derived.BigQuiet
namespace Go.Proofs.YtipdjbkkpjlamaaGreat
open Go.RowKit
attribute [local go_sem ↓] Go.wp_at_zero Go.wp_at_succ
/-- some world of a script -/
def St (w0 w : World) (b B k c : Nat) : Prop := ∃ own T S I J L, Inv w0 w b B own k c T S I J L
theorem Inv.st {w0 w : World} {b B : Nat} {own : Nat → Nat} {k c : Nat} {T : List ByteArray} {S : List (Nat × ByteArray)} {I J : List Value} {L : List (List Int)} (h : Inv w0 w b B own k c T S I J L) : St w0 w b B k c := ⟨own, T, S, I, J, L, h⟩
theorem Inv.st1 {w0 w : World} {b B : Nat} {own : Nat → Nat} {k c : Nat} {T : List ByteArray} {S : List (Nat × ByteArray)} {I J : List Value} {L : List (List Int)} (h : Inv w0 w b B own k c T S I J L) : St w0 w b B (k + 1) c := (h.more (k + 1) c (by omega) (Nat.le_refl _)).st
set_option maxRecDepth 100000 in
set_option maxHeartbeats 2000000 in
/-- kinds 5, 6, 7 -/
theorem owner_other {w0 w : World} {b B : Nat} {own : Nat → Nat} {k c : Nat} {T : List ByteArray} {S : List (Nat × ByteArray)} {I J : List Value} {L : List (List Int)} (h : Inv w0 w b B own k c T S I J L) (hk : k ≤ 1048576)
    (kd a0 b0 c0 : Int) (s0 : ByteArray) (hkd : kd = 5 ∨ kd = 6 ∨ kd = 7) (ha : (Lit.int .i64 a0).wf = true) (hb : (Lit.int .i64 b0).wf = true) (hc : (Lit.int .i64 c0).wf = true) :
    Calls Tryz.prog 10 #[.pointer (some ⟨b, 0, none⟩), .agg #[.int .i64 kd, .int .i64 a0, .int .i64 b0, .int .i64 c0, .string s0]] w fun e w' => e = .returned (.bool true) ∧ St w0 w' b B (k + 1) c := by
  have HI : Hid (Inv w0 w b B own k c T S I J L) := h
  have HA : Hid ((Lit.int .i64 a0).wf = true ∧ (Lit.int .i64 b0).wf = true ∧ (Lit.int .i64 c0).wf = true) := ⟨ha, hb, hc⟩
  have hblt := h.lt
  have hTk := h.bt.1
  obtain ⟨vt, h3, hr⟩ := h.vt
  obtain ⟨pa, cap, rfl⟩ := hr.form
  obtain ⟨n, hn⟩ : ∃ n, n = T.length := ⟨_, rfl⟩
  have HN : Hid (n = T.length) := hn
  rw [← hn] at h3 hTk
  clear h hr hn ha hb hc
  rcases hkd with rfl | rfl | rfl
  · by_cases hz : (0 : Int) < (n : Int)
    · go_enter Tryz.func10, Tryz.ntmps10
      go_wp2_with fail
      refine (text_turn (HI.out.alloc _) hk (by rw [← HN.out]; omega) a0 b0 c0 s0 HA.out.1 HA.out.2.1).mono ?_
      rintro e w1 ⟨rfl, hh⟩
      have HH : Hid (St w0 w1 b B (k + 1) c) := by obtain ⟨o', T', hh⟩ := hh; exact hh.st
      clear hh
      go_wp2
      go_ret
      exact ⟨rfl, HH.out⟩
    · go_enter Tryz.func10, Tryz.ntmps10
      go_wp2
      go_ret
      exact ⟨rfl, (HI.out.alloc _).st1⟩
  · by_cases hz : (0 : Int) < (n : Int)
    · go_enter Tryz.func10, Tryz.ntmps10
      go_wp2_with fail
      refine (text_join (HI.out.alloc _) hk (by rw [← HN.out]; omega) a0 b0 c0 s0 HA.out.1 HA.out.2.1).mono ?_
      rintro e w1 ⟨rfl, hh⟩
      have HH : Hid (St w0 w1 b B (k + 1) c) := by obtain ⟨o', T', hh⟩ := hh; exact hh.st
      clear hh
      go_wp2
      go_ret
      exact ⟨rfl, HH.out⟩
    · go_enter Tryz.func10, Tryz.ntmps10
      go_wp2
      go_ret
      exact ⟨rfl, (HI.out.alloc _).st1⟩
  · by_cases hz : (0 : Int) < (n : Int)
    · go_enter Tryz.func10, Tryz.ntmps10
      go_wp2_with fail
      refine (text_cut (HI.out.alloc _) hk (by rw [← HN.out]; omega) a0 b0 c0 s0 HA.out.1 HA.out.2.1 HA.out.2.2).mono ?_
      rintro e w1 ⟨rfl, hh⟩
      have HH : Hid (St w0 w1 b B (k + 1) c) := by obtain ⟨o', T', hh⟩ := hh; exact hh.st
      clear hh
      go_wp2
      go_ret
      exact ⟨rfl, HH.out⟩
    · go_enter Tryz.func10, Tryz.ntmps10
      go_wp2
      go_ret
      exact ⟨rfl, (HI.out.alloc _).st1⟩
set_option maxRecDepth 100000 in
set_option maxHeartbeats 2000000 in
/-- kinds 8, 13, 16, 17: numbers -/
theorem owner_num {w0 w : World} {b B : Nat} {own : Nat → Nat} {k c : Nat} {T : List ByteArray} {S : List (Nat × ByteArray)} {I J : List Value} {L : List (List Int)} (h : Inv w0 w b B own k c T S I J L)
    (kd a0 b0 c0 : Int) (s0 : ByteArray) (hkd : kd = 8 ∨ kd = 13 ∨ kd = 16) (ha : (Lit.int .i64 a0).wf = true) (hb : (Lit.int .i64 b0).wf = true) (hc : (Lit.int .i64 c0).wf = true) :
    Calls Tryz.prog 10 #[.pointer (some ⟨b, 0, none⟩), .agg #[.int .i64 kd, .int .i64 a0, .int .i64 b0, .int .i64 c0, .string s0]] w fun e w' => e = .returned (.bool true) ∧ St w0 w' b B (k + 1) c := by
  have HI : Hid (Inv w0 w b B own k c T S I J L) := h
  have HA : Hid ((Lit.int .i64 a0).wf = true ∧ (Lit.int .i64 b0).wf = true ∧ (Lit.int .i64 c0).wf = true) := ⟨ha, hb, hc⟩
  have hblt := h.lt
  rcases hkd with rfl | rfl | rfl
  · obtain ⟨v4, h4⟩ := h.cells 4 (by omega)
    have f4 := h.fz 4
    clear h ha hb hc
    go_enter Tryz.func10, Tryz.ntmps10
    go_wp2
    go_ret
    exact ⟨rfl, ((HI.out.setPlain 4 _ (by omega) (by intro h; omega)).alloc _).st1⟩
  · obtain ⟨v7, h7⟩ := h.cells 7 (by omega)
    obtain ⟨v8, h8⟩ := h.cells 8 (by omega)
    obtain ⟨v9, h9⟩ := h.cells 9 (by omega)
    have f7 := h.fz 7
    have f8 := h.fz 8
    have f9 := h.fz 9
    clear h ha hb hc
    go_enter Tryz.func10, Tryz.ntmps10
    go_wp2
    go_ret
    exact ⟨rfl, ((((HI.out.setPlain 7 _ (by omega) (fun _ => ⟨a0, rfl, HA.out.1⟩)).setPlain 8 _ (by omega) (fun _ => ⟨b0, rfl, HA.out.2.1⟩)).setPlain 9 _ (by omega) (fun _ => ⟨c0, rfl, HA.out.2.2⟩)).alloc _).st1⟩
  · obtain ⟨v7, h7⟩ := h.cells 10 (by omega)
    obtain ⟨v8, h8⟩ := h.cells 14 (by omega)
    obtain ⟨v9, h9⟩ := h.cells 19 (by omega)
    have f7 := h.fz 10
    have f8 := h.fz 14
    have f9 := h.fz 19
    clear h ha hb hc
    go_enter Tryz.func10, Tryz.ntmps10
    go_wp2
    go_ret
    exact ⟨rfl, ((((HI.out.ch 10 _ (by omega)).ch 14 _ (by omega)).ch 19 _ (by omega)).alloc _).st1⟩
set_option maxRecDepth 100000 in
set_option maxHeartbeats 2000000 in
/-- kinds 14, 15, 17 -/
theorem owner_call {w0 w : World} {b B : Nat} {own : Nat → Nat} {k c : Nat} {T : List ByteArray} {S : List (Nat × ByteArray)} {I J : List Value} {L : List (List Int)} (h : Inv w0 w b B own k c T S I J L) (hk : k ≤ 1048576)
    (kd a0 b0 c0 : Int) (s0 : ByteArray) (hkd : kd = 14 ∨ kd = 15 ∨ kd = 17) (ho : OpOk ⟨kd, a0, b0, c0, s0⟩) :
    Calls Tryz.prog 10 #[.pointer (some ⟨b, 0, none⟩), .agg #[.int .i64 kd, .int .i64 a0, .int .i64 b0, .int .i64 c0, .string s0]] w fun e w' => e = .returned (.bool true) ∧ St w0 w' b B (k + 1) c := by
  have HI : Hid (Inv w0 w b B own k c T S I J L) := h
  have HO : Hid (OpOk ⟨kd, a0, b0, c0, s0⟩) := ho
  have hblt := h.lt
  clear h ho
  rcases hkd with rfl | rfl | rfl
  · go_enter Tryz.func10, Tryz.ntmps10
    go_wp2_with fail
    refine (keep_nil (HI.out.alloc _) hk).mono ?_
    rintro e w1 ⟨rfl, hh⟩
    have HH : Hid (St w0 w1 b B (k + 1) c) := by obtain ⟨o', v', hh⟩ := hh; exact hh.st
    clear hh
    go_wp2
    go_ret
    exact ⟨rfl, HH.out⟩
  · go_enter Tryz.func10, Tryz.ntmps10
    go_wp2_with fail
    refine (list_any (HI.out.alloc _) hk _ HO.out).mono ?_
    rintro e w1 ⟨rfl, hh⟩
    have HH : Hid (St w0 w1 b B (k + 1) c) := hh.st1
    clear hh
    go_wp2
    go_ret
    exact ⟨rfl, HH.out⟩
  · go_enter Tryz.func10, Tryz.ntmps10
    go_wp2_with fail
    refine (flags_any (HI.out.alloc _) _ _ _ _ _).mono ?_
    rintro e w1 ⟨rfl, hh⟩
    have HH : Hid (St w0 w1 b B (k + 1) c) := hh.st1
    clear hh
    go_wp2
    go_ret
    exact ⟨rfl, HH.out⟩
set_option maxRecDepth 100000 in
set_option maxHeartbeats 2000000 in
/-- what is none of the caller's -/
theorem owner_none {w0 w : World} {b B : Nat} {own : Nat → Nat} {k c : Nat} {T : List ByteArray} {S : List (Nat × ByteArray)} {I J : List Value} {L : List (List Int)} (h : Inv w0 w b B own k c T S I J L)
    (kd a0 b0 c0 : Int) (s0 : ByteArray) (hkd : kd = 3 ∨ kd = 19 ∨ kd = 20 ∨ kd = 21) :
    Calls Tryz.prog 10 #[.pointer (some ⟨b, 0, none⟩), .agg #[.int .i64 kd, .int .i64 a0, .int .i64 b0, .int .i64 c0, .string s0]] w fun e w' => e = .returned (.bool false) ∧ ∃ o, w' = w.alloc o := by
  have hblt := h.lt
  clear h
  rcases hkd with rfl | rfl | rfl | rfl
  · go_enter Tryz.func10, Tryz.ntmps10
    go_wp2
    go_ret
    exact ⟨rfl, _, rfl⟩
  · go_enter Tryz.func10, Tryz.ntmps10
    go_wp2
    go_ret
    exact ⟨rfl, _, rfl⟩
  · go_enter Tryz.func10, Tryz.ntmps10
    go_wp2
    go_ret
    exact ⟨rfl, _, rfl⟩
  · go_enter Tryz.func10, Tryz.ntmps10
    go_wp2
    go_ret
    exact ⟨rfl, _, rfl⟩
end Go.Proofs.YtipdjbkkpjlamaaGreat
