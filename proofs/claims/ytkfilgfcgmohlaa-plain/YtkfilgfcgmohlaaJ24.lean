import Derived.Test.YtkfilgfcgmohlaaJ23
import Derived.WalkKit
import Derived.WalkSpells
import Derived.WalkLawsBesides
namespace Go.Proofs.Ytkfilgfcgmohlaa
open Go.RowKit
theorem tableS_3 (t : Nat) (s : ByteArray) (has : Bool) : tableS t 3 s has = if has then .keep else .bad := by unfold tableS; rw [if_neg (by omega), if_neg (by omega), if_neg (by omega)]
theorem tableS_1 (t : Nat) (s : ByteArray) (has : Bool) : tableS t 1 s has = if s.size = 0 ∨ topN t < gOf s 0 then .bad else .set (loneT (gOf s 0)) 1 := by unfold tableS; rw [if_neg (by omega), if_pos rfl]
theorem tableS_2n {t : Nat} {s : ByteArray} {has : Bool} (h : headR s (accN t) (topN t) = none) : tableS t 2 s has = .bad := by unfold tableS; rw [if_neg (by omega), if_neg (by omega), if_pos rfl, h]
theorem tableS_2s {t : Nat} {s : ByteArray} {has : Bool} {o : List Int} {log nb : Nat} (h : headR s (accN t) (topN t) = some (o, log, nb)) : tableS t 2 s has = .set (ofT o log) nb := by unfold tableS; rw [if_neg (by omega), if_neg (by omega), if_pos rfl, h]
set_option maxRecDepth 100000 in
set_option maxHeartbeats 2000000 in
theorem table_3 (b t : Nat) (C : Nat → Value) (s : ByteArray) (po : Option Addr) (e0 : Int) (w : World) (ht : t < 3) (h : Wc w b C) (h7 : C (7 + t) = .pointer po) (h15 : C 15 = .int .i64 e0) :
    Calls Try.prog 68 #[.pointer (some ⟨b, 0, none⟩), .int .i64 (t : Int), .int .i64 3, .string s] w fun x w' => TableQ b t 3 C s po.isSome e0 w x w' := by
  have HW : Hid (Wc w b C) := h
  have HE : Hid (C 15 = .int .i64 e0) := h15
  have HP : Hid (C (7 + t) = .pointer po) := h7
  have ht2 : t < 3 := ht
  clear h h7 h15
  go_enter Try.func68, Try.ntmps68
  go_wp2_with fail
  refine (top_any t _ ht2).mono ?_
  rintro x w1 ⟨rfl, hw1⟩
  rw [hw1]
  clear hw1
  rcases (show t = 0 ∨ t = 1 ∨ t = 2 by omega) with rfl | rfl | rfl
  · have c7 := HW.out.c 7 (by omega)
    rw [show C 7 = .pointer po from HP.out] at c7
    cases po with
    | none =>
      go_wp2_with fail
      refine (bad_any b C e0 12 _ HW.out HE.out).mono ?_
      rintro x w2 ⟨rfl, hW2, hU2⟩
      have HF : Hid (Wc w2 b (upV C 15 (.int .i64 (errN e0 12))) ∧ Upd b w w2) := ⟨hW2, hU2⟩
      clear hW2 hU2
      go_wp2_with fail
      go_ret
      refine ⟨HF.out.2, ?_⟩
      rw [tableS_3]
      exact ⟨rfl, HF.out.1⟩
    | some a =>
      go_wp2_with fail
      go_ret
      refine ⟨Upd.refl b w, ?_⟩
      rw [tableS_3]
      exact ⟨rfl, HW.out⟩
  · have c7 := HW.out.c 8 (by omega)
    rw [show C 8 = .pointer po from HP.out] at c7
    cases po with
    | none =>
      go_wp2_with fail
      refine (bad_any b C e0 12 _ HW.out HE.out).mono ?_
      rintro x w2 ⟨rfl, hW2, hU2⟩
      have HF : Hid (Wc w2 b (upV C 15 (.int .i64 (errN e0 12))) ∧ Upd b w w2) := ⟨hW2, hU2⟩
      clear hW2 hU2
      go_wp2_with fail
      go_ret
      refine ⟨HF.out.2, ?_⟩
      rw [tableS_3]
      exact ⟨rfl, HF.out.1⟩
    | some a =>
      go_wp2_with fail
      go_ret
      refine ⟨Upd.refl b w, ?_⟩
      rw [tableS_3]
      exact ⟨rfl, HW.out⟩
  · have c7 := HW.out.c 9 (by omega)
    rw [show C 9 = .pointer po from HP.out] at c7
    cases po with
    | none =>
      go_wp2_with fail
      refine (bad_any b C e0 12 _ HW.out HE.out).mono ?_
      rintro x w2 ⟨rfl, hW2, hU2⟩
      have HF : Hid (Wc w2 b (upV C 15 (.int .i64 (errN e0 12))) ∧ Upd b w w2) := ⟨hW2, hU2⟩
      clear hW2 hU2
      go_wp2_with fail
      go_ret
      refine ⟨HF.out.2, ?_⟩
      rw [tableS_3]
      exact ⟨rfl, HF.out.1⟩
    | some a =>
      go_wp2_with fail
      go_ret
      refine ⟨Upd.refl b w, ?_⟩
      rw [tableS_3]
      exact ⟨rfl, HW.out⟩
set_option maxRecDepth 100000 in
set_option maxHeartbeats 2000000 in
theorem table_2 (b t : Nat) (C : Nat → Value) (s : ByteArray) (has : Bool) (e0 : Int) (w : World) (ht : t < 3) (h : Wc w b C) (h15 : C 15 = .int .i64 e0) (hs : s.size ≤ 1048576) :
    Calls Try.prog 68 #[.pointer (some ⟨b, 0, none⟩), .int .i64 (t : Int), .int .i64 2, .string s] w fun x w' => TableQ b t 2 C s has e0 w x w' := by
  have HW : Hid (Wc w b C) := h
  have HE : Hid (C 15 = .int .i64 e0) := h15
  have hbl := h.lt
  have ht2 : t < 3 := ht
  clear h h15
  go_enter Try.func68, Try.ntmps68
  go_wp2_with fail
  refine (top_any t _ ht2).mono ?_
  rintro x w1 ⟨rfl, hw1⟩
  rw [hw1]
  clear hw1
  go_wp2_with fail
  refine (acc_any t _ ht2).mono ?_
  rintro x w1 ⟨rfl, hw1⟩
  rw [hw1]
  clear hw1
  go_wp2_with fail
  refine (header_any s (accN t) (topN t) _ (by omega) (acc_small t) (by have := top_small t; omega)).mono ?_
  rintro x w2 ⟨hb2, hq⟩
  have HB2 : Hid (Below w.heap.size w w2) := hb2
  have HW2 : Hid (Wc w2 b C) := HW.out.below hb2 hbl
  cases hH : headR s (accN t) (topN t) with
  | none =>
    rw [hH] at hq
    obtain ⟨v, a1, b1, rfl⟩ := hq
    have HT : Hid (tableS t 2 s has = .bad) := tableS_2n hH
    clear hH hb2
    go_wp2_with fail
    refine (bad_any b C e0 12 _ HW2.out HE.out).mono ?_
    rintro x w3 ⟨rfl, hW3, hU3⟩
    have HF : Hid (Wc w3 b (upV C 15 (.int .i64 (errN e0 12))) ∧ Upd b w w3) := ⟨hW3, Upd.trans ⟨HB2.out.os, HB2.out.tape, HB2.out.output, HB2.out.size, fun k hk _ => HB2.out.block k hk⟩ hU3⟩
    clear hW3 hU3
    go_wp2_with fail
    go_ret
    refine ⟨HF.out.2, ?_⟩
    rw [HT.out]
    exact ⟨rfl, HF.out.1⟩
  | some y =>
    obtain ⟨o, log, nb⟩ := y
    rw [hH] at hq
    obtain ⟨v, rfl, hrow⟩ := hq
    obtain ⟨hl5, hl6, hnb, hd⟩ := headR_ok hH
    have hlo9 : log ≤ 9 := Nat.le_trans hl6 (acc_small t)
    have hsz := pow_size hl5 hlo9
    obtain ⟨go, cp, rfl, hgo1, hgo2⟩ := hrow.form (dist_pos hd hsz.pos)
    have hoc := headR_row hrow
    have hoc' : ∀ i, i < o.length → w2.drew.cell? ⟨go, i, none⟩ = some (.int .i64 (oAt o i)) := fun i hi => by rw [World.cell?_drew]; exact hoc i hi
    have HH : Hid (headR s (accN t) (topN t) = some (o, log, nb)) := hH
    have HD : Hid (Dist (topN t) o (2 ^ log) ∧ isSize (2 ^ log)) := ⟨hd, hsz⟩
    clear hH hb2 hrow hd hsz hoc hgo1 hgo2
    go_wp2_with fail
    rcases (show t = 0 ∨ t = 1 ∨ t = 2 by omega) with rfl | rfl | rfl
    · go_region_with (go_at_call 80; refine (of_any o log go cp (topN _) _ hoc' HD.out.1 HD.out.2 (by have := top_small 0; have := top_small 1; have := top_small 2; omega) hlo9).mono ?_; rintro x w3 ⟨tb, gs, gb, gl, rfl, hO⟩; have hW3 := (HW2.out.sm ((Sm.refl w2).drew)).below hO.bel (by have := HW2.out.lt; exact this); have k0 := hW3.c 7 (by omega); have f0 := hW3.fz 7)
      all_goals
        go_wp2_with fail
        go_ret
        have hB3 : Below w.heap.size w w3 := HB2.out.trans (Below.mono (((Below.refl w2.heap.size w2).drew).trans hO.bel) HB2.out.size)
        have hS := tb_set HW.out hB3 (hO.tb.lo HB2.out.size) (k := 7) (by omega)
        refine ⟨hS.1, ?_⟩
        rw [tableS_2s HH.out]
        exact ⟨hnb, rfl, tb, w3.heap.size, hS.2.1, hS.2.2, by rw [World.size_setCell]; exact Nat.le_refl _⟩
    · go_region_with (go_at_call 80; refine (of_any o log go cp (topN _) _ hoc' HD.out.1 HD.out.2 (by have := top_small 0; have := top_small 1; have := top_small 2; omega) hlo9).mono ?_; rintro x w3 ⟨tb, gs, gb, gl, rfl, hO⟩; have hW3 := (HW2.out.sm ((Sm.refl w2).drew)).below hO.bel (by have := HW2.out.lt; exact this); have k0 := hW3.c 8 (by omega); have f0 := hW3.fz 8)
      all_goals
        go_wp2_with fail
        go_ret
        have hB3 : Below w.heap.size w w3 := HB2.out.trans (Below.mono (((Below.refl w2.heap.size w2).drew).trans hO.bel) HB2.out.size)
        have hS := tb_set HW.out hB3 (hO.tb.lo HB2.out.size) (k := 8) (by omega)
        refine ⟨hS.1, ?_⟩
        rw [tableS_2s HH.out]
        exact ⟨hnb, rfl, tb, w3.heap.size, hS.2.1, hS.2.2, by rw [World.size_setCell]; exact Nat.le_refl _⟩
    · go_region_with (go_at_call 80; refine (of_any o log go cp (topN _) _ hoc' HD.out.1 HD.out.2 (by have := top_small 0; have := top_small 1; have := top_small 2; omega) hlo9).mono ?_; rintro x w3 ⟨tb, gs, gb, gl, rfl, hO⟩; have hW3 := (HW2.out.sm ((Sm.refl w2).drew)).below hO.bel (by have := HW2.out.lt; exact this); have k0 := hW3.c 9 (by omega); have f0 := hW3.fz 9)
      all_goals
        go_wp2_with fail
        go_ret
        have hB3 : Below w.heap.size w w3 := HB2.out.trans (Below.mono (((Below.refl w2.heap.size w2).drew).trans hO.bel) HB2.out.size)
        have hS := tb_set HW.out hB3 (hO.tb.lo HB2.out.size) (k := 9) (by omega)
        refine ⟨hS.1, ?_⟩
        rw [tableS_2s HH.out]
        exact ⟨hnb, rfl, tb, w3.heap.size, hS.2.1, hS.2.2, by rw [World.size_setCell]; exact Nat.le_refl _⟩
set_option maxRecDepth 100000 in
set_option maxHeartbeats 2000000 in
theorem table_1 (b t : Nat) (C : Nat → Value) (s : ByteArray) (has : Bool) (e0 : Int) (w : World) (ht : t < 3) (h : Wc w b C) (h15 : C 15 = .int .i64 e0) :
    Calls Try.prog 68 #[.pointer (some ⟨b, 0, none⟩), .int .i64 (t : Int), .int .i64 1, .string s] w fun x w' => TableQ b t 1 C s has e0 w x w' := by
  have HW : Hid (Wc w b C) := h
  have HE : Hid (C 15 = .int .i64 e0) := h15
  have hbl := h.lt
  have ht2 : t < 3 := ht
  clear h h15
  go_enter Try.func68, Try.ntmps68
  go_wp2_with fail
  refine (top_any t _ ht2).mono ?_
  rintro x w1 ⟨rfl, hw1⟩
  rw [hw1]
  clear hw1
  by_cases h0 : s.size = 0
  · have hse : s.toList.isEmpty = true := by
      rw [ByteArray.toList_eq]
      have : s.data.toList = [] := List.length_eq_zero_iff.1 (by rw [Array.length_toList]; exact h0)
      rw [this]; rfl
    have HB : Hid (s.size = 0 ∨ topN t < gOf s 0) := Or.inl h0
    · go_wp2_with fail
      refine (bad_any b C e0 12 _ HW.out HE.out).mono ?_
      rintro x w3 ⟨rfl, hW3, hU3⟩
      have HF : Hid (Wc w3 b (upV C 15 (.int .i64 (errN e0 12))) ∧ Upd b w w3) := ⟨hW3, hU3⟩
      clear hW3 hU3
      go_wp2_with fail
      go_ret
      refine ⟨HF.out.2, ?_⟩
      rw [tableS_1, if_pos HB.out]
      exact ⟨rfl, HF.out.1⟩
  · have hse : s.toList.isEmpty = false := by
      rw [ByteArray.toList_eq]
      cases e : s.data.toList with
      | nil => exact absurd (show s.data.size = 0 by rw [← Array.length_toList, e]; rfl) h0
      | cons _ _ => rfl
    have hix : ∀ wz, (Instr.index 9 (.string s) (.int .i64 0)).run Try.prog wz = .ok (.int .u8 ((gOf s 0 : Nat) : Int)) wz := run_at s _ 0 rfl (by omega)
    have hgl := gOf_lt s 0
    have hw8 : IntKind.i64.wrap (gOf s 0 : Int) = (gOf s 0 : Int) := i64_id _ (by omega) (by omega)
    obtain ⟨c, hc⟩ : ∃ c, c = gOf s 0 := ⟨_, rfl⟩
    have HC : Hid (c = gOf s 0) := hc
    rw [← hc] at hix hgl hw8
    by_cases hct : topN t < c
    · have hd : decide ((topN t : Int) < (c : Int)) = true := decide_eq_true (by omega)
      have HB : Hid (s.size = 0 ∨ topN t < gOf s 0) := by rw [← hc]; exact Or.inr hct
      clear hc
      go_wp2_with fail
      refine (bad_any b C e0 12 _ HW.out HE.out).mono ?_
      rintro x w3 ⟨rfl, hW3, hU3⟩
      have HF : Hid (Wc w3 b (upV C 15 (.int .i64 (errN e0 12))) ∧ Upd b w w3) := ⟨hW3, hU3⟩
      clear hW3 hU3
      go_wp2_with fail
      go_ret
      refine ⟨HF.out.2, ?_⟩
      rw [tableS_1, if_pos HB.out]
      exact ⟨rfl, HF.out.1⟩
    have hd : decide ((topN t : Int) < (c : Int)) = false := decide_eq_false (by omega)
    have HN : Hid (¬ (s.size = 0 ∨ topN t < gOf s 0)) := by rw [← hc]; show ¬ _; omega
    clear hc
    go_wp2_with fail
    rcases (show t = 0 ∨ t = 1 ∨ t = 2 by omega) with rfl | rfl | rfl
    · go_region_with (go_at_call 81; refine (lone_any c _).mono ?_; rintro x w3 ⟨tb, rfl, hb3, hT⟩; have hW3 := (HW.out.sm ((Sm.refl w).drew)).below hb3 hbl; have k0 := hW3.c 7 (by omega); have f0 := hW3.fz 7)
      all_goals
        go_wp2_with fail
        go_ret
        have hB3 : Below w.heap.size w w3 := ((Below.refl w.heap.size w).drew).trans hb3
        have hT' : TbAt w3 w.heap.size w3.heap.size tb (loneT c) := hT
        have hS := tb_set HW.out hB3 hT' (k := 7) (by omega)
        refine ⟨hS.1, ?_⟩
        rw [tableS_1, if_neg HN.out, ← HC.out]
        exact ⟨by omega, rfl, tb, w3.heap.size, hS.2.1, hS.2.2, by rw [World.size_setCell]; exact Nat.le_refl _⟩
    · go_region_with (go_at_call 81; refine (lone_any c _).mono ?_; rintro x w3 ⟨tb, rfl, hb3, hT⟩; have hW3 := (HW.out.sm ((Sm.refl w).drew)).below hb3 hbl; have k0 := hW3.c 8 (by omega); have f0 := hW3.fz 8)
      all_goals
        go_wp2_with fail
        go_ret
        have hB3 : Below w.heap.size w w3 := ((Below.refl w.heap.size w).drew).trans hb3
        have hT' : TbAt w3 w.heap.size w3.heap.size tb (loneT c) := hT
        have hS := tb_set HW.out hB3 hT' (k := 8) (by omega)
        refine ⟨hS.1, ?_⟩
        rw [tableS_1, if_neg HN.out, ← HC.out]
        exact ⟨by omega, rfl, tb, w3.heap.size, hS.2.1, hS.2.2, by rw [World.size_setCell]; exact Nat.le_refl _⟩
    · go_region_with (go_at_call 81; refine (lone_any c _).mono ?_; rintro x w3 ⟨tb, rfl, hb3, hT⟩; have hW3 := (HW.out.sm ((Sm.refl w).drew)).below hb3 hbl; have k0 := hW3.c 9 (by omega); have f0 := hW3.fz 9)
      all_goals
        go_wp2_with fail
        go_ret
        have hB3 : Below w.heap.size w w3 := ((Below.refl w.heap.size w).drew).trans hb3
        have hT' : TbAt w3 w.heap.size w3.heap.size tb (loneT c) := hT
        have hS := tb_set HW.out hB3 hT' (k := 9) (by omega)
        refine ⟨hS.1, ?_⟩
        rw [tableS_1, if_neg HN.out, ← HC.out]
        exact ⟨by omega, rfl, tb, w3.heap.size, hS.2.1, hS.2.2, by rw [World.size_setCell]; exact Nat.le_refl _⟩
end Go.Proofs.Ytkfilgfcgmohlaa
