import Derived.Test.YtkfilgfcgmohlaaJ17
import Derived.Test.YtkfilgfcgmohlaaJ25
import Derived.Test.YtkfilgfcgmohlaaJ29
import Derived.Test.YtkfilgfcgmohlaaJ31
import Derived.Test.YtkfilgfcgmohlaaJ32
import Derived.WalkKit
import Derived.WalkSpells
import Derived.WalkLawsBesides
import Derived.Deep.CutRange
namespace Go.Proofs.Ytkfilgfcgmohlaa
open Go.RowKit
/-- a table is laid, or is not -/
def TabW (b t : Nat) (Y : Nat → Prop) (s0 : ByteArray) (limit : Int) (a : Nat) (C : Nat → Value) (s : ByteArray) (w : World) (x : Ending) (w' : World) : Prop :=
  ∃ C', ∃ n : Nat, x = .returned (.int .i64 (n : Int)) ∧ n ≤ s.size ∧ CSt w' b Y s0 limit a C' ∧ CStep w w' b Z0 C C' ∧ RepOk C' ∧ (∀ i, i ≠ 7 + t → i ≠ 15 → C' i = C i) ∧ (C' 15 = .int .i64 0 → C' (7 + t) ≠ .pointer none)
theorem CSt.tab {w w' : World} {b t mode : Nat} {Y : Nat → Prop} {s0 s : ByteArray} {limit : Int} {a : Nat} {C : Nat → Value} {has : Bool} {x : Ending} (h : CSt w b Y s0 limit a C) (hR : RepOk C) (ht : t < 3) (h15 : C 15 = .int .i64 0) (hp : has = true → C (7 + t) ≠ .pointer none) (hq : TableQ b t mode C s has 0 w x w') : TabW b t Y s0 limit a C s w x w' := by
  obtain ⟨hU, hq⟩ := hq
  have hX : UpdS (Xs b (C 3) Y) w w' := hU.updS (.inl rfl)
  have hX0 : UpdS (Xs b (C 3) Z0) w w' := hU.updS (.inl rfl)
  cases hT : tableS t mode s has using TRes.elim with
  | bad =>
    rw [hT] at hq
    obtain ⟨rfl, hW⟩ := hq
    obtain ⟨g1, g2⟩ := h.bad hW hU
    exact ⟨_, 0, rfl, Nat.zero_le _, g1, g2, hR.same (.inr ⟨_, upV_same _ _ _, by simp [errN]⟩) (upV_other _ _ _ _ (by omega)) (upV_other _ _ _ _ (by omega)) (upV_other _ _ _ _ (by omega)), fun i _ h => upV_other _ _ _ _ h, fun h0 => by rw [upV_same] at h0; injection h0 with _ h0; simp [errN] at h0⟩
  | keep =>
    rw [hT] at hq
    obtain ⟨rfl, hW⟩ := hq
    have hhas : has = true := by
      cases has with
      | true => rfl
      | false =>
        unfold tableS at hT
        split at hT
        · cases hT
        · split at hT
          · split at hT <;> cases hT
          · split at hT
            · split at hT <;> cases hT
            · cases hT
    refine ⟨C, 0, rfl, Nat.zero_le _, ?_, ⟨hX0, .inl rfl, rfl, rfl, rfl⟩, hR, fun _ _ _ => rfl, fun _ => hp hhas⟩
    obtain ⟨out, h1, h2⟩ := h.out
    exact ⟨hW, h.c0, h.c2, h.c6, ⟨out, ⟨row_same h1.row (fun g hg => hU.block g (row_lt h1.row g hg).2 (h.ob g hg).1)⟩, h2⟩, h.fr, h.ob, h.nb, fun j hj => Nat.lt_of_lt_of_le (h.yb j hj) hU.size, fun t ht => (h.tabs t ht).upd hX rfl (fun _ _ e => e), h.tree.upd hX rfl rfl (fun _ _ e => e), h.reps, h.err⟩
  | set T n =>
    rw [hT] at hq
    obtain ⟨hn, rfl, tb, hi, hW, hTb, hhi⟩ := hq
    have hg := good_tableS ht hT
    have key : ∀ i, i ≠ 7 + t → upV C (7 + t) (.pointer (some ⟨tb, 0, none⟩)) i = C i := fun i hi => upV_other _ _ _ _ hi
    have e3 := key 3 (by omega)
    obtain ⟨out, h1, h2⟩ := h.out
    refine ⟨_, n, rfl, hn, ⟨hW, (key 0 (by omega)).trans h.c0, (key 2 (by omega)).trans h.c2, (key 6 (by omega)).trans h.c6, ⟨out, ⟨by rw [e3]; exact row_same h1.row (fun g hg => hU.block g (row_lt h1.row g hg).2 (h.ob g hg).1)⟩, h2⟩, by rw [key 5 (by omega)]; exact h.fr, by rw [e3]; exact h.ob, h.nb, fun j hj => Nat.lt_of_lt_of_le (h.yb j hj) hU.size, fun u hu => ?_, ?_, by rw [key 10 (by omega), key 11 (by omega), key 12 (by omega)]; exact h.reps, ⟨0, by rw [key 15 (by omega)]; exact h15⟩⟩, ⟨hX0, .inl (by rw [e3]), key 1 (by omega), key 4 (by omega), key 5 (by omega)⟩, hR.same (.inl (key 15 (by omega))) (key 10 (by omega)) (key 11 (by omega)) (key 12 (by omega)), fun i h _ => key i h, fun _ => by rw [upV_same]; intro e; cases e⟩
    · rw [e3]
      by_cases e : u = t
      · subst e
        refine .inr ⟨tb, w.heap.size, hi, T, upV_same _ _ _, hTb, hhi, fun j h1' h2' hx => ?_, hg⟩
        rcases hx with e | e | e
        · have := h.wc.lt; omega
        · have := (row_lt h1.row j e).2; omega
        · have := h.yb j e; omega
      · exact (h.tabs u hu).upd hX (key _ (by omega)) (fun _ _ e => e)
    · rw [e3]; exact h.tree.upd hX (key _ (by omega)) (key _ (by omega)) (fun _ _ e => e)
theorem table_w (b t md : Nat) (Y : Nat → Prop) (s0 : ByteArray) (limit : Int) (a : Nat) (C : Nat → Value) (s : ByteArray) (w : World) (h : CSt w b Y s0 limit a C) (hR : RepOk C) (ht : t < 3) (h15 : C 15 = .int .i64 0) (hmd : md < 4) (hs : s.size ≤ 1048576) :
    Calls Try.prog 68 #[.pointer (some ⟨b, 0, none⟩), .int .i64 (t : Int), .int .i64 (md : Int), .string s] w fun x w' => TabW b t Y s0 limit a C s w x w' := by
  rcases (show md = 0 ∨ md = 1 ∨ md = 2 ∨ md = 3 by omega) with rfl | rfl | rfl | rfl
  · exact (table_0 b t C s false 0 w ht h.wc).mono (fun x w' q => h.tab hR ht h15 (fun h => by cases h) q)
  · exact (table_1 b t C s false 0 w ht h.wc h15).mono (fun x w' q => h.tab hR ht h15 (fun h => by cases h) q)
  · exact (table_2 b t C s false 0 w ht h.wc h15 hs).mono (fun x w' q => h.tab hR ht h15 (fun h => by cases h) q)
  · rcases h.tabs t ht with e | ⟨tb, _, _, _, e, _⟩
    · exact (table_3 b t C s none 0 w ht h.wc e h15).mono (fun x w' q => h.tab hR ht h15 (fun h => by cases h) q)
    · exact (table_3 b t C s _ 0 w ht h.wc e h15).mono (fun x w' q => h.tab hR ht h15 (fun _ => by rw [e]; intro h; cases h) q)
end Go.Proofs.Ytkfilgfcgmohlaa
namespace Go.Proofs.Ytkfilgfcgmohlaa
open Go.RowKit
theorem CompQ.from {b k : Nat} {Y : Nat → Prop} {s : ByteArray} {limit : Int} {a : Nat} {C C' D D2 : Nat → Value} {w wr w' : World} {x : Ending} (h : CStep w wr b (fun j => j = k) C C') (hd : D2 0 = D 0) (hq : CompQ b k Y s limit a C' D2 wr x w') : CompQ b k Y s limit a C D w x w' := by
  obtain ⟨C2, D', hx, h1, h2, h3, h4, h5⟩ := hq
  exact ⟨C2, D', hx, h1, h2, h.trans h3, h4, h5.trans hd⟩
theorem keep_y {b k : Nat} {Y : Nat → Prop} {s : ByteArray} {limit : Int} {a : Nat} {C C' : Nat → Value} {w w' : World} (hc : CSt w b Y s limit a C) (hs : CStep w w' b Z0 C C') (hY : Y k) : w'.heap[k]? = w.heap[k]? := hs.upd.block k (hc.yb k hY) (fun e => by
  rcases e with e | e | e
  · exact hc.nb (e ▸ hY)
  · exact (hc.ob k e).2 hY
  · exact e)
theorem empty_b (s : ByteArray) : ∃ B : Bool, s.toList.isEmpty = B ∧ (B = false → 0 < s.size) := by
  by_cases h0 : s.size = 0
  · refine ⟨true, ?_, fun h => by cases h⟩
    rw [ByteArray.toList_eq]
    have : s.data.toList = [] := List.length_eq_zero_iff.1 (by rw [Array.length_toList]; exact h0)
    rw [this]; rfl
  · refine ⟨false, ?_, fun _ => by omega⟩
    rw [ByteArray.toList_eq]
    cases e : s.data.toList with
    | nil => exact absurd (show s.data.size = 0 by rw [← Array.length_toList, e]; rfl) h0
    | cons _ _ => rfl
set_option maxRecDepth 100000 in
set_option maxHeartbeats 8000000 in
theorem sequences_w (b k f gl : Nat) (Y : Nat → Prop) (s : ByteArray) (limit : Int) (a : Nat) (C D : Nat → Value) (su : ByteArray) (ll : List Nat) (Wn : Int) (w : World)
    (h : CSt w b Y s limit a C) (hR : RepOk C) (hB : Bc w k D) (hYk : Y k) (hYf : Y f) (hfk : f ≠ k) (hf : w.cell? ⟨f, 0, none⟩ = some (.int .i64 Wn)) (ha : a ≤ 1000000000) (h15 : C 15 = .int .i64 0)
    (hL : ByA w (D 5) gl ll) (hll : ll.length ≤ 4194304) (hgl : 0 < ll.length → gl ≠ b ∧ gl ≠ k ∧ (C 3).ownBlock ≠ some gl) (d11 : D 11 = .slice none 0 0) (hs : su.size ≤ 1048576) :
    Calls Try.prog 57 #[.pointer (some ⟨b, 0, none⟩), .string su, .pointer (some ⟨f, 0, none⟩), .pointer (some ⟨k, 0, none⟩)] w fun x w' => CompQ b k Y s limit a C D w x w' := by
  have hbk : b ≠ k := fun e => h.nb (e ▸ hYk)
  have hfb : f ≠ b := fun e => h.nb (e ▸ hYf)
  have hbl : b < w.heap.size := h.wc.lt
  have hkl : k < w.heap.size := hB.lt
  have HS : Hid (CSt w b Y s limit a C ∧ RepOk C ∧ Bc w k D ∧ ByA w (D 5) gl ll ∧ C 15 = .int .i64 0 ∧ Y k ∧ Y f) := ⟨h, hR, hB, hL, h15, hYk, hYf⟩
  have HGL : Hid (0 < ll.length → gl ≠ b ∧ gl ≠ k ∧ (C 3).ownBlock ≠ some gl) := hgl
  have HD : Hid (D 11 = .slice none 0 0) := d11
  have HF : Hid (w.cell? ⟨f, 0, none⟩ = some (.int .i64 Wn)) := hf
  clear h hR hB hL h15 hYk hYf hgl d11 hf
  go_enter Try.func57, Try.ntmps57
  go_wp2_with fail
  refine (show Calls _ _ #[.string su, .int .i64 ((0 : Nat) : Int), .int .i64 ((1 : Nat) : Int)] _ _ from le_any su 0 1 _ (by omega) (by omega) (by omega)).mono ?_
  rintro x w1 ⟨rfl, hw1⟩
  rw [hw1]
  have hz1 := numN_lt (gOf su) (gOf_lt su) 1 0
  obtain ⟨z, hz⟩ : ∃ z, z = numN (gOf su) 0 1 := ⟨_, rfl⟩
  rw [← hz] at hz1 ⊢
  clear hz hw1
  obtain ⟨B1, hB1⟩ : ∃ B1 : Bool, decide ((127 : Int) < (z : Int)) = B1 := ⟨_, rfl⟩
  obtain ⟨B2, hB2⟩ : ∃ B2 : Bool, ((z : Int) == 255) = B2 := ⟨_, rfl⟩
  go_upto_if 18 with fail
  go_cut [9, 10] from 19 to 24 (fun nv lv wx => ∃ nn lg : Nat, nv = .int .i64 (nn : Int) ∧ lv = .int .i64 (lg : Int) ∧ nn ≤ 131072 ∧ 1 ≤ lg ∧ lg ≤ 3 ∧ wx = w)
  case first =>
    cases B1 with
    | false =>
      go_wp2_with fail
      go_meet
      exact ⟨z, 1, rfl, rfl, by omega, by omega, by omega, rfl⟩
    | true =>
      have hzb := of_decide_eq_true hB1
      go_wp2_with fail
      refine (show Calls _ _ #[.string su, .int .i64 ((1 : Nat) : Int), .int .i64 ((1 : Nat) : Int)] _ _ from le_any su 1 1 _ (by omega) (by omega) (by omega)).mono ?_
      rintro x w2 ⟨rfl, hw2⟩
      rw [hw2]
      have hy1 := numN_lt (gOf su) (gOf_lt su) 1 1
      obtain ⟨y, hy⟩ : ∃ y, y = numN (gOf su) 1 1 := ⟨_, rfl⟩
      rw [← hy] at hy1 ⊢
      clear hy hw2
      go_wp2_with fail
      go_meet
      exact ⟨256 * (z - 128) + y, 2, by congr 1; omega, rfl, by omega, by omega, by omega, rfl⟩
  case rest =>
    obtain ⟨n1, lg1, rfl, rfl, hn1, hl1, hl2, hwc⟩ := hcut
    rw [hwc]
    clear hwc
    go_upto_if 26 with fail
    go_cut [9, 10] from 27 to 29 (fun nv lv wx => ∃ nn lg : Nat, nv = .int .i64 (nn : Int) ∧ lv = .int .i64 (lg : Int) ∧ nn ≤ 131072 ∧ 1 ≤ lg ∧ lg ≤ 3 ∧ wx = w)
    case first =>
      cases B2 with
      | false =>
        go_wp2_with fail
        go_meet
        exact ⟨n1, lg1, rfl, rfl, hn1, hl1, hl2, rfl⟩
      | true =>
        go_wp2_with fail
        refine (show Calls _ _ #[.string su, .int .i64 ((1 : Nat) : Int), .int .i64 ((2 : Nat) : Int)] _ _ from le_any su 1 2 _ (by omega) (by omega) (by omega)).mono ?_
        rintro x w2 ⟨rfl, hw2⟩
        rw [hw2]
        have hy1 := numN_lt (gOf su) (gOf_lt su) 2 1
        obtain ⟨y, hy⟩ : ∃ y, y = numN (gOf su) 1 2 := ⟨_, rfl⟩
        rw [← hy] at hy1 ⊢
        clear hy hw2
        go_wp2_with fail
        go_meet
        exact ⟨32512 + y, 3, by congr 1, rfl, by omega, by omega, by omega, rfl⟩
    case rest =>
      obtain ⟨n, lg, rfl, rfl, hn, hlg1, hlg3, hwc⟩ := hcut
      rw [hwc]
      clear hwc hB1 hB2
      have HBad : Hid (∀ w0 w3 e, UpdS (fun j => j = k) w w0 → Bc w0 k (upV D 10 (.int .i64 (n : Int))) ∨ w0 = w → Wc w3 b (upV C 15 (.int .i64 e)) → e ≠ 0 → Upd b w0 w3 → CompQ b k Y s limit a C D w (.returned (.tuple #[])) w3) := by
        intro w0 w3 e h0 hb hW he hU
        have hc : CSt w0 b Y s limit a C := HS.out.1.upd (h0.sub (fun j _ e => by have e' : j = k := e; rw [e']; exact HS.out.2.2.2.2.2.1))
        obtain ⟨g1, g2⟩ := hc.bad hW hU
        have st : CStep w w0 b (fun j => j = k) C C := ⟨h0.sub (fun _ _ e => .inr (.inr e)), .inl rfl, rfl, rfl, rfl⟩
        rcases hb with hb | rfl
        · exact ⟨_, _, rfl, g1, HS.out.2.1.same (.inr ⟨e, upV_same _ _ _, he⟩) (upV_other _ _ _ _ (by omega)) (upV_other _ _ _ _ (by omega)) (upV_other _ _ _ _ (by omega)), st.trans g2.wide, hb.keep (hU.block k hb.lt (Ne.symm hbk)), upV_other _ _ _ _ (by omega)⟩
        · exact ⟨_, D, rfl, g1, HS.out.2.1.same (.inr ⟨e, upV_same _ _ _, he⟩) (upV_other _ _ _ _ (by omega)) (upV_other _ _ _ _ (by omega)) (upV_other _ _ _ _ (by omega)), st.trans g2.wide, HS.out.2.2.1.keep (hU.block k hkl (Ne.symm hbk)), rfl⟩
      by_cases hlong : su.size < lg
      · have hd : decide ((su.size : Int) < (lg : Int)) = true := decide_eq_true (by omega)
        go_wp2_with fail
        refine (bad_any b C 0 11 _ HS.out.1.wc HS.out.2.2.2.2.1).mono ?_
        rintro x w3 ⟨rfl, hW3, hU3⟩
        have HG : Hid (CompQ b k Y s limit a C D w (.returned (.tuple #[])) w3) := HBad.out w w3 _ (UpdS.refl _ _) (.inr rfl) hW3 (by simp [errN]) hU3
        clear hW3 hU3
        go_wp2_with fail
        exact bodyPost_ret (results_none rfl _ _ _) rfl HG.out
      · have hd : decide ((su.size : Int) < (lg : Int)) = false := decide_eq_false (by omega)
        have k10 := HS.out.2.2.1.c 10 (by omega)
        have f10 := HS.out.2.2.1.fz 10
        have hlI : (lg : Int) ≤ (su.size : Int) := by omega
        go_upto_region 13 with fail
        obtain ⟨s1, hs1⟩ : ∃ s1, s1 = su.extract lg su.size := ⟨_, rfl⟩
        have hs1b : s1.size ≤ 1048576 := by rw [hs1, ByteArray.size_extract]; omega
        obtain ⟨Eb, hEb, hE0⟩ := empty_b s1
        obtain ⟨W1, hW1⟩ : ∃ W1, W1 = w.setCell ⟨k, 10, none⟩ (.int .i64 (n : Int)) := ⟨_, rfl⟩
        obtain ⟨D1, hD1⟩ : ∃ D1, D1 = upV D 10 (.int .i64 (n : Int)) := ⟨_, rfl⟩
        have hU1 : UpdS (fun j => j = k) w W1 := by rw [hW1]; exact (UpdS.refl _ _).setCell _ _ (fun _ => rfl)
        have hc1 : CSt W1 b Y s limit a C := HS.out.1.upd (hU1.sub (fun j _ e => by have e' : j = k := e; rw [e']; exact HS.out.2.2.2.2.2.1))
        have HW1 : Hid (CSt W1 b Y s limit a C ∧ CStep w W1 b (fun j => j = k) C C ∧ Bc W1 k D1 ∧ D1 0 = D 0 ∧ D1 5 = D 5 ∧ D1 11 = .slice none 0 0) := by
          refine ⟨hc1, ⟨hU1.sub (fun _ _ e => .inr (.inr e)), .inl rfl, rfl, rfl, rfl⟩, ?_, ?_, ?_, ?_⟩
          · rw [hW1, hD1]; exact HS.out.2.2.1.set 10 (by omega) _
          · rw [hD1, upV_other _ _ _ _ (by omega)]
          · rw [hD1, upV_other _ _ _ _ (by omega)]
          · rw [hD1, upV_other _ _ _ _ (by omega)]; exact HD.out
        have HL1 : Hid (ByA W1 (D 5) gl ll) := HS.out.2.2.2.1.keep (fun h => hU1.block gl (HS.out.2.2.2.1.lt h) (HGL.out h).2.1)
        have HF1 : Hid (W1.cell? ⟨f, 0, none⟩ = some (.int .i64 Wn)) := (World.cell?_of_block (w := w) (a := ⟨f, 0, none⟩) (hU1.block f (block_lt_of_cell HF.out) hfk)).trans HF.out
        have hs1W : W1.heap.size = w.heap.size := by rw [hW1, World.size_setCell]
        rw [← hW1, ← hs1]
        clear hW1 hD1 hs1 hc1 k10 f10 HBad hU1 hd hlong hlI
        obtain ⟨pl, cl, ofl, hvl, hcl, _⟩ := HL1.out.ex
        have k5 := HW1.out.2.2.1.c 5 (by omega)
        rw [HW1.out.2.2.2.2.1, hvl] at k5
        rw [hvl] at HL1
        have HV5 : Hid (D1 5 = .slice pl ll.length cl) := HW1.out.2.2.2.2.1.trans hvl
        have HFin : Hid (∀ wx w' C1 C2, CSt wx b Y s limit a C1 → CStep W1 wx b Z0 C C1 → CSt w' b Y s limit a C2 → RepOk C2 → CStep wx w' b Z0 C1 C2 → CompQ b k Y s limit a C D w (.returned (.tuple #[])) w') := by
          intro wx w' C1 C2 h1 h2 h3 h4 h5
          exact ⟨C2, D1, rfl, h3, h4, (HW1.out.2.1.trans h2.wide).trans h5.wide, HW1.out.2.2.1.keep ((keep_y h1 h5 HS.out.2.2.2.2.2.1).trans (keep_y HW1.out.1 h2 HS.out.2.2.2.2.2.1)), HW1.out.2.2.2.1⟩
        clear hvl
        by_cases hn0 : n = 0
        · have hnb : ((n : Int) == 0) = true := by rw [beq_iff_eq]; omega
          clear hn0
          cases Eb with
          | true =>
            go_wp2_with fail
            refine (give_w b f gl Y s limit a C (.slice pl ll.length cl) ll Wn 0 _ HW1.out.1 HS.out.2.1 HS.out.2.2.2.2.1 HF1.out HL1.out (fun h => (HGL.out h).1) ha (by omega)).mono ?_
            rintro x w6 ⟨rfl, C2, g1, g2, g3, _⟩
            have HG : Hid (CompQ b k Y s limit a C D w (.returned (.tuple #[])) w6) := HFin.out W1 w6 C C2 HW1.out.1 (CStep.refl _ _ _ _) g1 g2 g3
            clear g1 g2 g3
            go_wp2_with fail
            exact bodyPost_ret (results_none rfl _ _ _) rfl HG.out
          | false =>
            go_wp2_with fail
            refine (bad_any b C 0 11 _ HW1.out.1.wc HS.out.2.2.2.2.1).mono ?_
            rintro x w5 ⟨rfl, hW5, hU5⟩
            obtain ⟨b1, b2⟩ := HW1.out.1.bad hW5 hU5
            have HI5 : Hid (CSt w5 b Y s limit a (upV C 15 (.int .i64 (errN 0 11))) ∧ CStep W1 w5 b Z0 C (upV C 15 (.int .i64 (errN 0 11))) ∧ ByA w5 (.slice pl ll.length cl) gl ll ∧ w5.cell? ⟨f, 0, none⟩ = some (.int .i64 Wn)) := by
              refine ⟨b1, b2, HL1.out.keep (fun h => hU5.block gl (HL1.out.lt h) (HGL.out h).1), ?_⟩
              exact (World.cell?_of_block (w := W1) (a := ⟨f, 0, none⟩) (hU5.block f (block_lt_of_cell HF1.out) hfb)).trans HF1.out
            have k5' := (World.cell?_of_block (w := W1) (a := ⟨k, 5, none⟩) (hU5.block k HW1.out.2.2.1.lt (Ne.symm hbk))).trans k5
            clear hW5 hU5 b1 b2 k5
            go_wp2_with fail
            refine (give_w b f gl Y s limit a _ (.slice pl ll.length cl) ll Wn (errN 0 11) _ HI5.out.1 (fun h0 => by rw [upV_same] at h0; injection h0 with _ h0; simp [errN] at h0) (upV_same _ _ _) HI5.out.2.2.2 HI5.out.2.2.1 (fun h => (HGL.out h).1) ha (by omega)).mono ?_
            rintro x w6 ⟨rfl, C2, g1, g2, g3, _⟩
            have HG : Hid (CompQ b k Y s limit a C D w (.returned (.tuple #[])) w6) := HFin.out w5 w6 _ C2 HI5.out.1 HI5.out.2.1 g1 g2 g3
            clear g1 g2 g3
            go_wp2_with fail
            exact bodyPost_ret (results_none rfl _ _ _) rfl HG.out
        · have hnb : ((n : Int) == 0) = false := by rw [beq_eq_false_iff_ne]; omega
          clear hn0
          go_wp2_with fail
          refine (show Calls _ _ #[.string s1, .int .i64 ((0 : Nat) : Int), .int .i64 ((1 : Nat) : Int)] _ _ from le_any s1 0 1 _ (by omega) (by omega) (by omega)).mono ?_
          rintro x w2 ⟨rfl, hw2⟩
          rw [hw2]
          have hy1 := numN_lt (gOf s1) (gOf_lt s1) 1 0
          obtain ⟨y, hy⟩ : ∃ y, y = numN (gOf s1) 0 1 := ⟨_, rfl⟩
          rw [← hy] at hy1 ⊢
          clear hy hw2
          obtain ⟨ym, hym⟩ : ∃ ym : Nat, ym = y % 4 := ⟨_, rfl⟩
          have hyt : Int.tmod (y : Int) 4 = (ym : Int) := by rw [Int.tmod_eq_emod_of_nonneg (by omega)]; omega
          have hye : (y : Int) % 4 = (ym : Int) := by omega
          clear hym
          have HB1 : Hid (∀ w3, Wc w3 b (upV C 15 (.int .i64 (errN 0 11))) → Upd b W1 w3 → CompQ b k Y s limit a C D w (.returned (.tuple #[])) w3) := by
            intro w3 h1 h2
            obtain ⟨b1, b2⟩ := HW1.out.1.bad h1 h2
            exact HFin.out W1 w3 C _ HW1.out.1 (CStep.refl _ _ _ _) b1 (fun h0 => by rw [upV_same] at h0; injection h0 with _ h0; simp [errN] at h0) b2
          cases Eb with
          | true =>
            go_wp2_with fail
            refine (bad_any b C 0 11 _ HW1.out.1.wc HS.out.2.2.2.2.1).mono ?_
            rintro x w3 ⟨rfl, hW3, hU3⟩
            have HG : Hid (CompQ b k Y s limit a C D w (.returned (.tuple #[])) w3) := HB1.out w3 hW3 hU3
            clear hW3 hU3
            go_wp2_with fail
            exact bodyPost_ret (results_none rfl _ _ _) rfl HG.out
          | false =>
            by_cases hy0 : ym = 0
            · have hyb : ((ym : Int) != 0) = false := by rw [bne_eq_false_iff_eq]; omega
              have hpos := hE0 rfl
              have h1I : (1 : Int) ≤ (s1.size : Int) := by omega
              obtain ⟨m0, hm0⟩ : ∃ m0 : Nat, m0 = y / 64 := ⟨_, rfl⟩
              obtain ⟨m1, hm1⟩ : ∃ m1 : Nat, m1 = y / 16 % 4 := ⟨_, rfl⟩
              obtain ⟨m2, hm2⟩ : ∃ m2 : Nat, m2 = y / 4 % 4 := ⟨_, rfl⟩
              have e0 : (y : Int) / 64 = (m0 : Int) := by omega
              have e1 : (y : Int) / 16 % 4 = (m1 : Int) := by omega
              have e2 : (y : Int) / 4 % 4 = (m2 : Int) := by omega
              have hm4 : m0 < 4 ∧ m1 < 4 ∧ m2 < 4 := by omega
              have k7 := HW1.out.2.2.1.c 7 (by omega)
              have k8 := HW1.out.2.2.1.c 8 (by omega)
              have k9 := HW1.out.2.2.1.c 9 (by omega)
              have f7 := HW1.out.2.2.1.fz 7
              have f8 := HW1.out.2.2.1.fz 8
              have f9 := HW1.out.2.2.1.fz 9
              clear hm0 hm1 hm2 hy0 k5
              go_upto_region 24 with fail
              simp only [e1, e2]
              obtain ⟨W2, hW2⟩ : ∃ W2, W2 = ((W1.setCell ⟨k, 7, none⟩ (.int .i64 (m0 : Int))).setCell ⟨k, 8, none⟩ (.int .i64 (m1 : Int))).setCell ⟨k, 9, none⟩ (.int .i64 (m2 : Int)) := ⟨_, rfl⟩
              obtain ⟨D2, hD2⟩ : ∃ D2, D2 = upV (upV (upV D1 7 (.int .i64 (m0 : Int))) 8 (.int .i64 (m1 : Int))) 9 (.int .i64 (m2 : Int)) := ⟨_, rfl⟩
              have hU2 : UpdS (fun j => j = k) W1 W2 := by rw [hW2]; exact (((UpdS.refl (fun j => j = k) W1).setCell ⟨k, 7, none⟩ _ (fun _ => rfl)).setCell ⟨k, 8, none⟩ _ (fun _ => rfl)).setCell ⟨k, 9, none⟩ _ (fun _ => rfl)
              obtain ⟨md, hmd⟩ : ∃ md : Nat → Nat, md = fun t => if t = 0 then m0 else if t = 1 then m1 else m2 := ⟨_, rfl⟩
              have HMD : Hid (∀ t, t < 3 → md t < 4 ∧ D2 (7 + t) = .int .i64 (md t : Int)) := by
                intro t ht
                rw [hmd, hD2]
                rcases (show t = 0 ∨ t = 1 ∨ t = 2 by omega) with rfl | rfl | rfl
                · exact ⟨hm4.1, rfl⟩
                · exact ⟨hm4.2.1, rfl⟩
                · exact ⟨hm4.2.2, rfl⟩
              have HW2 : Hid (CSt W2 b Y s limit a C ∧ CStep w W2 b (fun j => j = k) C C ∧ Bc W2 k D2 ∧ D2 0 = D 0 ∧ D2 5 = .slice pl ll.length cl ∧ D2 11 = .slice none 0 0 ∧ ByA W2 (.slice pl ll.length cl) gl ll ∧ W2.cell? ⟨f, 0, none⟩ = some (.int .i64 Wn)) := by
                refine ⟨HW1.out.1.upd (hU2.sub (fun j _ e => by have e' : j = k := e; rw [e']; exact HS.out.2.2.2.2.2.1)), HW1.out.2.1.trans ⟨hU2.sub (fun _ _ e => .inr (.inr e)), .inl rfl, rfl, rfl, rfl⟩, ?_, ?_, ?_, ?_, ?_, ?_⟩
                · rw [hW2, hD2]; exact ((HW1.out.2.2.1.set 7 (by omega) _).set 8 (by omega) _).set 9 (by omega) _
                · rw [hD2, upV_other _ _ _ _ (by omega), upV_other _ _ _ _ (by omega), upV_other _ _ _ _ (by omega)]; exact HW1.out.2.2.2.1
                · rw [hD2, upV_other _ _ _ _ (by omega), upV_other _ _ _ _ (by omega), upV_other _ _ _ _ (by omega)]; exact HV5.out
                · rw [hD2, upV_other _ _ _ _ (by omega), upV_other _ _ _ _ (by omega), upV_other _ _ _ _ (by omega)]; exact HW1.out.2.2.2.2.2
                · exact HL1.out.keep (fun h => hU2.block gl (HL1.out.lt h) (HGL.out h).2.1)
                · exact (World.cell?_of_block (w := W1) (a := ⟨f, 0, none⟩) (hU2.block f (block_lt_of_cell HF1.out) hfk)).trans HF1.out
              rw [← hW2]
              obtain ⟨s2, hs2⟩ : ∃ s2, s2 = s1.extract 1 s1.size := ⟨_, rfl⟩
              have hs2b : s2.size ≤ 1048576 := by rw [hs2, ByteArray.size_extract]; omega
              rw [← hs2]
              clear hW2 hD2 hmd hs2 hU2 k7 k8 k9 f7 f8 f9 hm4 e0 e1 e2 hyt hye HB1 HFin HW1 HL1 HF1 h1I
              go_wp2_with fail
              go_loopw [1, 12] (fun sv tv wr => ∃ (t : Nat) (s' : ByteArray) (C' : Nat → Value) (e : Int), tv = .int .i64 (t : Int) ∧ sv = .string s' ∧ t ≤ 3 ∧ s'.size ≤ 1048576 ∧ CSt wr b Y s limit a C' ∧ CStep W2 wr b Z0 C C' ∧ RepOk C' ∧ C' 15 = .int .i64 e ∧ (e = 0 → ∀ i, i < t → C' (7 + i) ≠ .pointer none)) (fun _ tv _ => (3 - intOf tv).toNat)
              case atStart => exact ⟨0, s2, C, 0, rfl, rfl, by omega, hs2b, HW2.out.1, CStep.refl _ _ _ _, HS.out.2.1, HS.out.2.2.2.2.1, fun _ i hi => by omega⟩
              case round =>
                obtain ⟨t, s', C', e, rfl, rfl, ht, hs', hc, hst, hrp, he, htb⟩ := hrel
                have HI : Hid (CSt wr b Y s limit a C' ∧ CStep W2 wr b Z0 C C' ∧ RepOk C' ∧ C' 15 = .int .i64 e ∧ (e = 0 → ∀ i, i < t → C' (7 + i) ≠ .pointer none)) := ⟨hc, hst, hrp, he, htb⟩
                have c15 := hc.wc.c 15 (by omega)
                rw [he] at c15
                have HBk : Hid (Bc wr k D2) := HW2.out.2.2.1.keep (keep_y HW2.out.1 hst HS.out.2.2.2.2.2.1)
                clear hc hst hrp he htb
                by_cases hgo : t < 3 ∧ e = 0
                · obtain ⟨ht3, rfl⟩ := hgo
                  have htI : decide ((t : Int) < 3) = true := decide_eq_true (by omega)
                  have ht0 : (0 : Int) ≤ (t : Int) := by omega
                  have ht3I : (t : Int) < 3 := by omega
                  have km := HBk.out.c (7 + t) (by omega)
                  rw [(HMD.out t ht3).2] at km
                  go_wp2_with fail
                  refine (table_w b t (md t) Y s limit a C' s' _ HI.out.1 HI.out.2.2.1 ht3 HI.out.2.2.2.1 (HMD.out t ht3).1 hs').mono ?_
                  rintro x w4 ⟨C2, nb, rfl, hnb', g1, g2, g3, g4, g5⟩
                  have hnI : (nb : Int) ≤ (s'.size : Int) := by omega
                  obtain ⟨e2, he2⟩ := g1.err
                  have HI4 : Hid (CSt w4 b Y s limit a C2 ∧ CStep W2 w4 b Z0 C C2 ∧ RepOk C2 ∧ C2 15 = .int .i64 e2 ∧ (e2 = 0 → ∀ i, i < t + 1 → C2 (7 + i) ≠ .pointer none)) := by
                    refine ⟨g1, HI.out.2.1.trans g2, g3, he2, fun h0 i hi => ?_⟩
                    subst h0
                    by_cases e : i = t
                    · subst e; exact g5 he2
                    · rw [g4 _ (by omega) (by omega)]; exact HI.out.2.2.2.2 (by first | rfl | trivial) i (by omega)
                  clear g1 g2 g3 g4 g5 he2 km c15
                  go_wp2_with fail
                  exact ⟨⟨t + 1, s'.extract nb s'.size, C2, e2, by go_num, rfl, by omega, by rw [ByteArray.size_extract]; omega, HI4.out⟩, by simp [intOf]; omega⟩
                · by_cases ht3 : t < 3
                  · have htI : decide ((t : Int) < 3) = true := decide_eq_true (by omega)
                    have he0 : (e == 0) = false := by rw [beq_eq_false_iff_ne]; exact fun h => hgo ⟨ht3, h⟩
                    clear hgo
                    go_wp2_with fail
                    exact bodyPost_end (results_none rfl _ _ _) rfl ⟨C', D2, rfl, HI.out.1, HI.out.2.2.1, HW2.out.2.1.trans HI.out.2.1.wide, HBk.out, HW2.out.2.2.2.1⟩
                  · have htI : decide ((t : Int) < 3) = false := decide_eq_false (by omega)
                    clear hgo
                    by_cases he : e = 0
                    · subst he
                      have HST := stream_w b k f gl Y s limit a C' D2 s' n ll Wn wr HI.out.1 HI.out.2.2.1 HBk.out HS.out.2.2.2.2.2.1 HS.out.2.2.2.2.2.2 hfk ((World.cell?_of_block (w := W2) (a := ⟨f, 0, none⟩) (keep_y HW2.out.1 HI.out.2.1 HS.out.2.2.2.2.2.2)).trans HW2.out.2.2.2.2.2.2.2) ha HI.out.2.2.2.1 (fun i hi => HI.out.2.2.2.2 rfl i (by omega))
                        (by
                          rw [HW2.out.2.2.2.2.1]
                          refine HW2.out.2.2.2.2.2.2.1.keep (fun h => HI.out.2.1.upd.block gl (HW2.out.2.2.2.2.2.2.1.lt h) (fun e => ?_))
                          rcases e with e | e | e
                          · exact (HGL.out h).1 e
                          · exact (HGL.out h).2.2 e
                          · exact e)
                        hll
                        (fun h => ⟨(HGL.out h).1, (HGL.out h).2.1, fun e => by
                          rcases HI.out.2.1.moved with e' | ⟨q, e', hq⟩
                          · exact (HGL.out h).2.2 (by rw [← e']; exact e)
                          · rw [e'] at e; injection e with e
                            have := HW2.out.2.2.2.2.2.2.1.lt h
                            omega⟩) HW2.out.2.2.2.2.2.1 hs' hn
                      have HSTH : Hid (Calls Try.prog 69 #[.pointer (some ⟨b, 0, none⟩), .string s', .int .i64 (n : Int), .pointer (some ⟨f, 0, none⟩), .pointer (some ⟨k, 0, none⟩)] wr fun x w' => CompQ b k Y s limit a C' D2 wr x w') := HST
                      clear HST
                      go_wp2_with fail
                      refine HSTH.out.mono ?_
                      intro x w7 hq
                      have hq2 := CompQ.from (HW2.out.2.1.trans HI.out.2.1.wide) HW2.out.2.2.2.1 hq
                      have hx : x = .returned (.tuple #[]) := by obtain ⟨_, _, h, _⟩ := hq2; exact h
                      subst hx
                      have HG : Hid (CompQ b k Y s limit a C D w (.returned (.tuple #[])) w7) := hq2
                      clear hq hq2
                      go_wp2_with fail
                      exact bodyPost_end (results_none rfl _ _ _) rfl HG.out
                    · have he0 : (e == 0) = false := by rw [beq_eq_false_iff_ne]; exact he
                      go_wp2_with fail
                      exact bodyPost_end (results_none rfl _ _ _) rfl ⟨C', D2, rfl, HI.out.1, HI.out.2.2.1, HW2.out.2.1.trans HI.out.2.1.wide, HBk.out, HW2.out.2.2.2.1⟩
            · have hyb : ((ym : Int) != 0) = true := by rw [bne_iff_ne]; omega
              go_wp2_with fail
              refine (bad_any b C 0 11 _ HW1.out.1.wc HS.out.2.2.2.2.1).mono ?_
              rintro x w3 ⟨rfl, hW3, hU3⟩
              have HG : Hid (CompQ b k Y s limit a C D w (.returned (.tuple #[])) w3) := HB1.out w3 hW3 hU3
              clear hW3 hU3
              go_wp2_with fail
              exact bodyPost_ret (results_none rfl _ _ _) rfl HG.out
end Go.Proofs.Ytkfilgfcgmohlaa
namespace Go.Proofs.Ytkfilgfcgmohlaa
open Go.RowKit
set_option maxRecDepth 100000 in
set_option maxHeartbeats 4000000 in
/-- a compressed block, whatever it says: it is read to its end, and what a frame keeps stays well formed -/
theorem compressed_w (b k f : Nat) (Y : Nat → Prop) (s : ByteArray) (limit : Int) (a : Nat) (C D : Nat → Value) (t : ByteArray) (Wn : Int) (w : World)
    (h : CSt w b Y s limit a C) (hR : RepOk C) (hB : Bc w k D) (hYk : Y k) (hYf : Y f) (hfk : f ≠ k) (hf : w.cell? ⟨f, 0, none⟩ = some (.int .i64 Wn)) (ha : a ≤ 1000000000) (h15 : C 15 = .int .i64 0)
    (d5 : D 5 = .slice none 0 0) (d11 : D 11 = .slice none 0 0) (ht : t.size ≤ 1048576) :
    Calls Try.prog 39 #[.pointer (some ⟨b, 0, none⟩), .string t, .pointer (some ⟨f, 0, none⟩), .pointer (some ⟨k, 0, none⟩)] w fun x w' => CompQ b k Y s limit a C D w x w' := by
  have hbk : b ≠ k := fun e => h.nb (e ▸ hYk)
  have hbl : b < w.heap.size := h.wc.lt
  have hkl : k < w.heap.size := hB.lt
  have HOW : Hid (∀ j, (C 3).ownBlock = some j → j < w.heap.size) := fun j hj => by
    obtain ⟨o, ho, _⟩ := h.out
    exact (row_lt ho.row j hj).2
  have HLT := literals_w b k f Y s limit a t C D Wn 0 w h hB hYk hYf hf hfk h15 d5 ht
  have HLTH : Hid (Calls Try.prog 56 #[.pointer (some ⟨b, 0, none⟩), .string t, .pointer (some ⟨f, 0, none⟩), .pointer (some ⟨k, 0, none⟩)] w fun x w' => LitQ b k Y s limit a t C D w x w') := HLT
  have HS : Hid (RepOk C ∧ Y k ∧ Y f ∧ C 15 = .int .i64 0 ∧ D 11 = .slice none 0 0 ∧ CSt w b Y s limit a C ∧ w.cell? ⟨f, 0, none⟩ = some (.int .i64 Wn)) := ⟨hR, hYk, hYf, h15, d11, h, hf⟩
  clear HLT h hR hB hYk hYf hf h15 d5 d11
  go_enter Try.func39, Try.ntmps39
  go_wp2_with fail
  refine HLTH.out.mono ?_
  rintro x w1 ⟨C', D', l, g, n, rfl, hn, h1, h2, h3, h4, h5, h6, h7, h8⟩
  have HF1 : Hid (w1.cell? ⟨f, 0, none⟩ = some (.int .i64 Wn)) := by
    refine (World.cell?_of_block (w := w) (a := ⟨f, 0, none⟩) (h2.upd.block f (block_lt_of_cell HS.out.2.2.2.2.2.2) (fun e => ?_))).trans HS.out.2.2.2.2.2.2
    rcases e with e | e | e
    · exact HS.out.2.2.2.2.2.1.nb (e ▸ HS.out.2.2.1)
    · exact (HS.out.2.2.2.2.2.1.ob f e).2 HS.out.2.2.1
    · exact hfk e
  have HR1 : Hid (RepOk C') := fun _ => by
    obtain ⟨R0, R1, R2, r⟩ := HS.out.1 HS.out.2.2.2.1
    exact ⟨R0, R1, R2, by rw [h3 10 (by omega) (by omega) (by omega)]; exact r.1, by rw [h3 11 (by omega) (by omega) (by omega)]; exact r.2.1, by rw [h3 12 (by omega) (by omega) (by omega)]; exact r.2.2.1, r.2.2.2⟩
  have HGG : Hid (0 < l.length → g ≠ b ∧ g ≠ k ∧ (C' 3).ownBlock ≠ some g) := fun hl => by
    have := h7 hl
    refine ⟨by omega, by omega, fun e => ?_⟩
    rw [h3 3 (by omega) (by omega) (by omega)] at e
    have := HOW.out g e
    omega
  obtain ⟨e, he⟩ := h1.err
  have c15 := h1.wc.c 15 (by omega)
  rw [he] at c15
  have HI : Hid (CSt w1 b Y s limit a C' ∧ CStep w w1 b (fun j => j = k) C C' ∧ Bc w1 k D' ∧ D' 0 = D 0 ∧ D' 11 = .slice none 0 0 ∧ ByA w1 (D' 5) g l ∧ l.length ≤ 4194304 ∧ C' 15 = .int .i64 e) := ⟨h1, h2, h4, h5 0 (by omega), (h5 11 (by omega)).trans HS.out.2.2.2.2.1, h6, h8, he⟩
  have hnI : (n : Int) ≤ (t.size : Int) := by omega
  clear h1 h2 h3 h4 h5 h6 h7 h8 he
  by_cases hz : e = 0
  · subst hz
    have HSQ := sequences_w b k f g Y s limit a C' D' (t.extract n t.size) l Wn w1 HI.out.1 HR1.out HI.out.2.2.1 HS.out.2.1 HS.out.2.2.1 hfk HF1.out ha HI.out.2.2.2.2.2.2.2 HI.out.2.2.2.2.2.1 HI.out.2.2.2.2.2.2.1 HGG.out HI.out.2.2.2.2.1 (by rw [ByteArray.size_extract]; omega)
    have HSQH : Hid (Calls Try.prog 57 #[.pointer (some ⟨b, 0, none⟩), .string (t.extract n t.size), .pointer (some ⟨f, 0, none⟩), .pointer (some ⟨k, 0, none⟩)] w1 fun x w' => CompQ b k Y s limit a C' D' w1 x w') := HSQ
    clear HSQ
    go_wp2_with fail
    refine HSQH.out.mono ?_
    intro x w7 hq
    have hq2 := CompQ.from HI.out.2.1 HI.out.2.2.2.1 hq
    have hx : x = .returned (.tuple #[]) := by obtain ⟨_, _, h, _⟩ := hq2; exact h
    subst hx
    have HG : Hid (CompQ b k Y s limit a C D w (.returned (.tuple #[])) w7) := hq2
    clear hq hq2
    go_wp2_with fail
    exact bodyPost_end (results_none rfl _ _ _) rfl HG.out
  · have he0 : (e == 0) = false := by rw [beq_eq_false_iff_ne]; exact hz
    go_wp2_with fail
    exact bodyPost_end (results_none rfl _ _ _) rfl ⟨C', D', rfl, HI.out.1, HR1.out, HI.out.2.1, HI.out.2.2.1, HI.out.2.2.2.1⟩
end Go.Proofs.Ytkfilgfcgmohlaa
namespace Go.Proofs.Ytkfilgfcgmohlaa
open Go.RowKit
theorem errN_bad {e x : Int} (h : e ≠ 0) : errN e x = e := by unfold errN; rw [if_neg h]
theorem take_bad {s : ByteArray} {p n : Nat} {e : Int} (h : e ≠ 0) : takeE s p e n = e := by
  unfold takeE; split
  · exact errN_bad h
  · rfl
theorem take_yes {s : ByteArray} {p n : Nat} (h : p + n ≤ s.size) : takeE s p 0 n = 0 ∧ takeV s p 0 n = wrap64 (numN (gOf s) p n : Int) ∧ takeP s p 0 n = p + n := by
  have hc : takeCut s p n = false := decide_eq_false (by omega)
  unfold takeE takeV takeP
  rw [hc]; simp
theorem take_no {s : ByteArray} {p n : Nat} (h : s.size < p + n) : takeE s p 0 n = 2 ∧ takeV s p 0 n = 0 ∧ takeP s p 0 n = p := by
  have hc : takeCut s p n = true := decide_eq_true (by omega)
  unfold takeE takeV takeP
  rw [hc]; simp [errN]
theorem wrap_small (n : Nat) (h : n < 9223372036854775808) : wrap64 (n : Int) = (n : Int) := by unfold wrap64; omega
theorem wrap_cases (n : Nat) (h : n < 18446744073709551616) : wrap64 (n : Int) = (n : Int) ∧ n < 9223372036854775808 ∨ wrap64 (n : Int) < 0 ∧ 9223372036854775808 ≤ n := by unfold wrap64; omega
theorem win_wrap (n : Nat) (h : n < 18446744073709551616) : (134217728 < wrap64 (n : Int) ∨ wrap64 (n : Int) < 0 ↔ 134217728 < n) ∧ (n ≤ 134217728 → wrap64 (n : Int) = (n : Int)) := by
  rcases wrap_cases n h with ⟨e, h1⟩ | ⟨e, h1⟩
  · rw [e]; constructor
    · omega
    · intro _; rfl
  · constructor
    · omega
    · intro _; omega
theorem win_plain (n : Nat) : (134217728 < (n : Int) ∨ (n : Int) < 0 ↔ 134217728 < n) ∧ (n ≤ 134217728 → (n : Int) = (n : Int)) := by
  constructor
  · omega
  · intro _; rfl
/-- where an error has been met, it stays -/
theorem head_stays {s : ByteArray} {p : Nat} {e0 : Int} {v : HdV} (h : HeadRel s p e0 v) : (v.e2 ≠ 0 → v.e7 = v.e2) ∧ (v.e3 ≠ 0 → v.e7 = v.e3) ∧ (v.e4 ≠ 0 → v.e7 = v.e4) ∧ (v.e5 ≠ 0 → v.e7 = v.e5) ∧ (v.e6 ≠ 0 → v.e7 = v.e6) := by
  obtain ⟨_, he2, hsg, hck, ⟨hp2, he3, hwin0, hX⟩, hdn, ⟨hp3, he4, hdict⟩, hn0, hn, ⟨hp4, he5, hsz⟩, hsz2, hwin, he6, he7⟩ := h
  have k6 : v.e6 ≠ 0 → v.e7 = v.e6 := fun h => by
    rw [he7]; split
    · exact errN_bad h
    · rfl
  have k5 : v.e5 ≠ 0 → v.e7 = v.e5 := fun h => by
    have : v.e6 = v.e5 := by
      rw [he6]; split
      · exact errN_bad h
      · rfl
    rw [← this]; exact k6 (by rw [this]; exact h)
  have k4 : v.e4 ≠ 0 → v.e7 = v.e4 := fun h => by
    have : v.e5 = v.e4 := by rw [he5]; exact take_bad h
    rw [← this]; exact k5 (by rw [this]; exact h)
  have k3 : v.e3 ≠ 0 → v.e7 = v.e3 := fun h => by
    have : v.e4 = v.e3 := by rw [he4]; exact take_bad h
    rw [← this]; exact k4 (by rw [this]; exact h)
  refine ⟨fun h => ?_, k3, k4, k5, k6⟩
  have : v.e3 = v.e2 := by
    rw [he3]; split
    · rfl
    · exact take_bad h
  rw [← this]; exact k3 (by rw [this]; exact h)
theorem num_one (g : Nat → Nat) (p : Nat) : numN g p 1 = g p := by simp [numN]
theorem wideW_of (x : Nat) : wideW x = winOf x := by rw [winOf_wide]; rfl
set_option maxHeartbeats 2000000 in
/-- the reference's head is the program's -/
theorem head_is {s : ByteArray} {p : Nat} {v : HdV} (h : HeadRel s p 0 v) : v.e7 = hdE s p ∧ (hdE s p = 0 → v.p4 = hdEnd s p ∧ hdEnd s p ≤ s.size ∧ v.win = (hWin (gOf s p) (hdV s p) (hdZ s p) : Nat) ∧ hWin (gOf s p) (hdV s p) (hdZ s p) ≤ 134217728 ∧ v.sz2 = wrap64 (hSize (gOf s p) (hdZ s p) : Nat) ∧ hSize (gOf s p) (hdZ s p) < 18446744073709551616 ∧ decide (0 < v.n) = decide (0 < sizeW (gOf s p)) ∧ v.ck = decide (gOf s p / 4 % 2 = 1)) := by
  obtain ⟨k2, k3, k4, k5, k6⟩ := head_stays h
  obtain ⟨⟨hT, hT256, hp1, he1⟩, he2, hsg, hck, ⟨hp2, he3, hwin0, hX⟩, hdn, ⟨hp3, he4, hdict⟩, hn0, hn, ⟨hp4, he5, hsz⟩, hsz2, hwin, he6, he7⟩ := h
  by_cases c1 : s.size < p + 1
  · obtain ⟨a1, a2, a3⟩ := take_no c1
    have hE : hdE s p = 2 := by unfold hdE; rw [if_pos c1]
    have : v.e2 = 2 := by rw [he2, he1, a1, if_neg (fun h => by omega)]
    rw [k2 (by omega), this, hE]
    exact ⟨rfl, fun h => by omega⟩
  obtain ⟨a1, a2, a3⟩ := take_yes (s := s) (p := p) (n := 1) (by omega)
  rw [a1] at he1
  rw [a2, num_one] at hT
  rw [a3] at hp1
  have hg := gOf_lt s p
  have hTe : v.T = gOf s p := by rw [wrap_small _ (by omega)] at hT; omega
  by_cases c2 : gOf s p / 8 % 2 = 1
  · have hE : hdE s p = 4 := by unfold hdE; rw [if_neg c1, if_pos c2]
    have : v.e2 = 4 := by rw [he2, if_pos ⟨he1, by rw [hTe]; exact c2⟩]
    rw [k2 (by omega), this, hE]
    exact ⟨rfl, fun h => by omega⟩
  have he20 : v.e2 = 0 := by rw [he2, if_neg (fun h => c2 (by rw [← hTe]; exact h.2)), he1]
  rw [he20] at he3 hp2 hX
  rw [hTe] at hsg hck hdn hn0
  have hsgb : v.sg = decide (gOf s p / 32 % 2 = 1) := by
    rw [← hsg]
    by_cases h : gOf s p / 32 % 2 = 1
    · rw [decide_eq_true h, beq_iff_eq]; omega
    · rw [decide_eq_false h, beq_eq_false_iff_ne]; omega
  have hckb : v.ck = decide (gOf s p / 4 % 2 = 1) := by
    rw [← hck]
    by_cases h : gOf s p / 4 % 2 = 1
    · rw [decide_eq_true h, beq_iff_eq]; omega
    · rw [decide_eq_false h, beq_eq_false_iff_ne]; omega
  have hdw : v.dn = dictW (gOf s p) := hdn
  have hsw : v.n = sizeW (gOf s p) := by
    rw [hn, hn0, hsgb]
    unfold sizeW
    by_cases h0 : gOf s p / 64 = 0
    · rw [if_pos h0, h0]
      by_cases h : gOf s p / 32 % 2 = 1
      · rw [if_pos ⟨by simp [h], rfl⟩, if_pos h]
      · rw [if_neg (fun e => h (of_decide_eq_true e.1)), if_neg h]; rfl
    · rw [if_neg h0, if_neg (fun e => h0 ?_)]
      rcases (show gOf s p / 64 = 0 ∨ gOf s p / 64 = 1 ∨ gOf s p / 64 = 2 ∨ gOf s p / 64 = 3 by omega) with h | h | h | h
      · exact h
      · rw [h] at e; exact absurd e.2 (by decide)
      · rw [h] at e; exact absurd e.2 (by decide)
      · rw [h] at e; exact absurd e.2 (by decide)
  have hd4 : dictW (gOf s p) ≤ 4 := dictW_le _
  have hs8 : sizeW (gOf s p) ≤ 8 := sizeW_le _ hg
  have hE1 : hdE s p = if s.size < hdEnd s p then 2 else if hdD s p ≠ 0 then 5 else if 134217728 < hWin (gOf s p) (hdV s p) (hdZ s p) then 6 else 0 := by
    unfold hdE; rw [if_neg c1, if_neg c2]
  have hEnd : hdEnd s p = p + 1 + winW (gOf s p) + dictW (gOf s p) + sizeW (gOf s p) := rfl
  obtain ⟨ww, hww⟩ : ∃ ww, ww = winW (gOf s p) := ⟨_, rfl⟩
  rw [← hww] at hEnd
  -- the window's byte
  by_cases c3 : s.size < p + 1 + ww
  · have hE : hdE s p = 2 := by rw [hE1, if_pos (by omega)]
    have hsf : v.sg = false := by
      rw [hsgb]; refine decide_eq_false (fun h => ?_)
      rw [show ww = 0 by rw [hww]; unfold winW; rw [if_pos h]] at c3
      omega
    have hw1 : ww = 1 := by
      rw [hww]; unfold winW; rw [hsgb] at hsf; rw [if_neg (of_decide_eq_false hsf)]
    rw [hw1] at c3
    have : v.e3 = 2 := by rw [he3, hsf, hp1]; exact (take_no c3).1
    rw [k3 (by omega), this, hE]
    exact ⟨rfl, fun h => by omega⟩
  have hp2e : v.p2 = p + 1 + ww ∧ v.e3 = 0 ∧ v.win0 = (if gOf s p / 32 % 2 = 1 then 0 else (winOf (hdV s p) : Int)) := by
    by_cases hs1 : gOf s p / 32 % 2 = 1
    · have h0 : ww = 0 := by rw [hww]; unfold winW; rw [if_pos hs1]
      have ht : v.sg = true := by rw [hsgb]; exact decide_eq_true hs1
      rw [ht] at hp2 he3 hwin0
      exact ⟨by rw [hp2, hp1, h0]; rfl, by rw [he3]; rfl, by rw [hwin0, if_pos hs1]; rfl⟩
    · have h0 : ww = 1 := by rw [hww]; unfold winW; rw [if_neg hs1]
      have ht : v.sg = false := by rw [hsgb]; exact decide_eq_false hs1
      rw [ht] at hp2 he3 hwin0
      obtain ⟨b1, b2, b3⟩ := take_yes (s := s) (p := p + 1) (n := 1) (by omega)
      rw [hp1] at hp2 he3 hX
      rw [b2, num_one] at hX
      have hg1 := gOf_lt s (p + 1)
      have hXe : v.X = gOf s (p + 1) := by rw [wrap_small _ (by omega)] at hX; omega
      refine ⟨by rw [hp2, h0]; exact b3, by rw [he3]; exact b1, ?_⟩
      rw [hwin0, if_neg hs1, hXe]
      show (wideW (gOf s (p + 1)) : Int) = _
      rw [wideW_of]
      unfold hdV
      rw [← hww, h0, num_one]
  obtain ⟨hp2e, he30, hwin0e⟩ := hp2e
  rw [hp2e, he30, hdw] at he4 hp3 hdict
  by_cases c4 : s.size < p + 1 + ww + dictW (gOf s p)
  · have hE : hdE s p = 2 := by rw [hE1, if_pos (by omega)]
    have : v.e4 = 2 := by rw [he4]; exact (take_no c4).1
    rw [k4 (by omega), this, hE]
    exact ⟨rfl, fun h => by omega⟩
  obtain ⟨d1, d2, d3⟩ := take_yes (s := s) (p := p + 1 + ww) (n := dictW (gOf s p)) (by omega)
  rw [d1] at he4
  rw [d2] at hdict
  rw [d3] at hp3
  rw [he4, hp3, hsw] at he5 hp4 hsz
  by_cases c5 : s.size < p + 1 + ww + dictW (gOf s p) + sizeW (gOf s p)
  · have hE : hdE s p = 2 := by rw [hE1, if_pos (by omega)]
    have : v.e5 = 2 := by rw [he5]; exact (take_no c5).1
    rw [k5 (by omega), this, hE]
    exact ⟨rfl, fun h => by omega⟩
  obtain ⟨f1, f2, f3⟩ := take_yes (s := s) (p := p + 1 + ww + dictW (gOf s p)) (n := sizeW (gOf s p)) (by omega)
  rw [f1] at he5
  rw [f2] at hsz
  rw [f3] at hp4
  have hE2 : hdE s p = if hdD s p ≠ 0 then 5 else if 134217728 < hWin (gOf s p) (hdV s p) (hdZ s p) then 6 else 0 := by rw [hE1, if_neg (by omega)]
  have hD : hdD s p = numN (gOf s) (p + 1 + ww) (dictW (gOf s p)) := by unfold hdD; rw [← hww]
  have hZ : hdZ s p = numN (gOf s) (p + 1 + ww + dictW (gOf s p)) (sizeW (gOf s p)) := by unfold hdZ; rw [← hww]
  have hdl : hdD s p < 4294967296 := by rw [hD]; exact num_small _ _ _ hd4
  have hzl : hdZ s p < 18446744073709551616 := by rw [hZ]; exact num_eight _ _ _ hs8
  rw [← hD, wrap_small _ (by omega)] at hdict
  rw [← hZ] at hsz
  by_cases c6 : hdD s p ≠ 0
  · have hE : hdE s p = 5 := by rw [hE2, if_pos c6]
    have : v.e6 = 5 := by rw [he6, if_pos (by rw [hdict]; omega), he5]; rfl
    rw [k6 (by omega), this, hE]
    exact ⟨rfl, fun h => by omega⟩
  have he60 : v.e6 = 0 := by rw [he6, if_neg (by rw [hdict]; omega), he5]
  rw [if_neg c6] at hE2
  have hsize : v.sz2 = wrap64 (hSize (gOf s p) (hdZ s p) : Nat) ∧ hSize (gOf s p) (hdZ s p) < 18446744073709551616 := by
    unfold hSize
    by_cases h2 : sizeW (gOf s p) = 2
    · have hz2 : hdZ s p < 4294967296 := by rw [hZ]; exact num_small _ _ _ (by omega)
      rw [hsz2, if_pos (by rw [hsw]; exact h2), hsz, if_pos h2, wrap_small _ (by omega), wrap_small _ (by omega)]
      omega
    · rw [hsz2, if_neg (by rw [hsw]; exact h2), hsz, if_neg h2]
      exact ⟨rfl, hzl⟩
  have hwins : (134217728 < v.win ∨ v.win < 0 ↔ 134217728 < hWin (gOf s p) (hdV s p) (hdZ s p)) ∧ (hWin (gOf s p) (hdV s p) (hdZ s p) ≤ 134217728 → v.win = (hWin (gOf s p) (hdV s p) (hdZ s p) : Nat)) := by
    rw [hwin, hsgb]
    unfold hWin
    by_cases hs1 : gOf s p / 32 % 2 = 1
    · rw [if_pos hs1, if_pos (decide_eq_true hs1), hsize.1]
      exact win_wrap _ hsize.2
    · rw [if_neg hs1, if_neg (fun e => hs1 (of_decide_eq_true e)), hwin0e, if_neg hs1]
      exact win_plain _
  by_cases c7 : 134217728 < hWin (gOf s p) (hdV s p) (hdZ s p)
  · have hE : hdE s p = 6 := by rw [hE2, if_pos c7]
    refine ⟨?_, fun h => by omega⟩
    rw [he7, if_pos (hwins.1.2 c7), he60, hE]; rfl
  · have hE : hdE s p = 0 := by rw [hE2, if_neg c7]
    refine ⟨?_, fun _ => ⟨?_, by omega, hwins.2 (by omega), by omega, hsize.1, hsize.2, by rw [hsw], hckb⟩⟩
    · rw [he7, if_neg (fun h => c7 (hwins.1.1 h)), he60, hE]
    · rw [hp4, hEnd]
end Go.Proofs.Ytkfilgfcgmohlaa
