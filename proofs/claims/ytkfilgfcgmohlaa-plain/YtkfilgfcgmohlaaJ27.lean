import Derived.Test.YtkfilgfcgmohlaaJ26
import Derived.WalkKit
import Derived.WalkSpells
import Derived.WalkLawsBesides
import Derived.Deep.CutRange
import Derived.Deep.AppendLies
import Derived.Laws.OwnMore
namespace Go.Proofs.Ytkfilgfcgmohlaa
open Go.RowKit
theorem row_raise {w : World} {B B' e size : Nat} {v : Value} {n : Nat} {xs : List Value} (h : w.ownsRow B e size v n xs) (hb : ∀ g, v.ownBlock = some g → B' ≤ g) : w.ownsRow B' e size v n xs := by
  refine ⟨h.1, ?_⟩
  rcases h.2 with hn | ⟨g, cap, cur, hv, _, rest⟩
  · exact .inl hn
  · exact .inr ⟨g, cap, cur, hv, hb g (by rw [hv]; rfl), rest⟩
theorem row_bya {w : World} {B : Nat} {v : Value} {l : List Nat} (h : w.ownsRow B 5 1 v l.length (bvs l)) : ∃ g, ByA w v g l ∧ (0 < l.length → v.ownBlock = some g) := by
  rcases id h.2 with ⟨rfl, h0⟩ | ⟨g, cap, cur, rfl, hb, hg, hc, _⟩
  · have : l = [] := List.length_eq_zero_iff.1 h0
    subst this
    exact ⟨0, ⟨none, 0, 0, rfl, by simp, fun h => by simp at h, fun i hi => by simp at hi⟩, fun h => by simp at h⟩
  · refine ⟨g, ⟨some ⟨g, 0, none⟩, cap, 0, rfl, hc, fun _ => rfl, fun i hi => ?_⟩, fun _ => rfl⟩
    rw [Nat.zero_add, World.ownsRow.cellAt h i (by omega), bvs_at l i hi]
/-- ahead of the streams -/
def J4 (b k : Nat) (X : Nat → Prop) (C D : Nat → Value) (w : World) (sv : Value) (wx : World) : Prop :=
  ∃ C1 s1, sv = .string s1 ∧ s1.size ≤ 1048576 ∧ Wc wx b C1 ∧ (∀ i, i ≠ 13 → i ≠ 14 → C1 i = C i) ∧ TreeOk wx C1 X ∧ Bc wx k D ∧ Upd2 b (some k) w wx
/-- between two streams -/
structure L4 (b k gc cap : Nat) (C1 D : Nat → Value) (all : List Nat) (log : Nat) (w wr : World) (v : Value) (l : List Nat) : Prop where
  wc : Wc wr b C1
  bc : Bc wr k (upV D 5 v)
  row : wr.ownsRow w.heap.size 5 1 v l.length (bvs l)
  cs : CodeSt wr gc cap all log
  upd : Upd2 b (some k) w wr
theorem L4.below {b k gc cap : Nat} {C1 D : Nat → Value} {all : List Nat} {log : Nat} {w wr w1 : World} {v : Value} {l : List Nat} (h : L4 b k gc cap C1 D all log w wr v l) (hb : Below wr.heap.size wr w1) : L4 b k gc cap C1 D all log w w1 v l :=
  ⟨h.wc.below hb h.wc.lt, h.bc.keep (hb.block k h.bc.lt), row_below h.row hb, h.cs.keep (hb.block gc h.cs.lt), h.upd.trans (below_upd2 hb b (some k))⟩
/-- bytes more, and they are kept -/
theorem L4.more {b k gc cap : Nat} {C1 D : Nat → Value} {all : List Nat} {log : Nat} {w wr w1 : World} {v v' : Value} {l l' : List Nat} (h : L4 b k gc cap C1 D all log w wr v l) (hbk : b ≠ k) (hbw : b < w.heap.size) (hkw : k < w.heap.size) (hgk : gc ≠ k) (hgv : ∀ g, v.ownBlock = some g → gc ≠ g) (hO : OutAt w1 v' l') (hG : wr.grownBy w1 v.ownBlock) (hM : Moved wr v v') : L4 b k gc cap C1 D all log w (w1.setCell ⟨k, 5, none⟩ v') v' l' := by
  have hkeep : ∀ q, q < wr.heap.size → (∀ g, v.ownBlock = some g → q ≠ g) → w1.heap[q]? = wr.heap[q]? := fun q h1 h2 => hG.block q h1 (fun e => h2 q e.symm rfl)
  have hvg : ∀ g, v.ownBlock = some g → w.heap.size ≤ g := fun g hg => (row_lt h.row g hg).1
  have hv' : ∀ g, v'.ownBlock = some g → w.heap.size ≤ g := by
    intro g hg
    rcases hM with e | ⟨q, e, hq⟩
    · exact hvg g (by rw [← e]; exact hg)
    · rw [e] at hg; injection hg with hg; have := h.upd.size; omega
  have hk1 : w1.heap[k]? = wr.heap[k]? := hkeep k h.bc.lt (fun g hg => by have := hvg g hg; omega)
  have hb1 : w1.heap[b]? = wr.heap[b]? := hkeep b h.wc.lt (fun g hg => by have := hvg g hg; omega)
  have hU1 : Upd2 b (some k) w w1 := ⟨hG.os.trans h.upd.os, hG.tape.trans h.upd.tape, hG.output.trans h.upd.output, Nat.le_trans h.upd.size hG.size, fun q h1 h2 h3 => (hkeep q (Nat.lt_of_lt_of_le h1 h.upd.size) (fun g hg => by have := hvg g hg; omega)).trans (h.upd.block q h1 h2 h3)⟩
  refine ⟨(h.wc.keep hb1).other _ _ hbk, ?_, ?_, ?_, hU1.setO 5 _⟩
  · have := (h.bc.keep hk1).set 5 (by omega) v' (row_one hO.row)
    rw [upV_upV] at this
    exact this
  · exact row_same (row_raise hO.row hv') (fun g hg => Below.heap_setCell _ _ _ _ (by have := hv' g hg; show g ≠ k; omega))
  · refine h.cs.keep ?_
    rw [Below.heap_setCell _ _ _ _ (show gc ≠ k from hgk)]
    exact hkeep gc h.cs.lt hgv
set_option maxRecDepth 100000 in
set_option maxHeartbeats 4000000 in
theorem coded_w4 (b k lit : Nat) (X : Nat → Prop) (C D : Nat → Value) (s : ByteArray) (cnt : Nat) (e0 : Int) (w : World) (hW : Wc w b C) (hB : Bc w k D) (hbk : b ≠ k) (hXb : X b) (hXk : X k) (hX : ∀ j, X j → j < w.heap.size) (hT : TreeOk w C X) (h15 : C 15 = .int .i64 e0) (hlit : lit = 2 ∨ lit = 3) (d3 : D 3 = .int .i64 (lit : Int)) (d4 : D 4 = .int .i64 4) (d5 : D 5 = .slice none 0 0) (hs : s.size ≤ 1048576) (hcnt : cnt ≤ 1048576) (hc6 : 6 ≤ cnt) :
    Calls Try.prog 67 #[.pointer (some ⟨b, 0, none⟩), .string s, .int .i64 (cnt : Int), .pointer (some ⟨k, 0, none⟩)] w fun x w' => CodedW b k X C D w x w' := by
  have HW : Hid (Wc w b C) := hW
  have HB : Hid (Bc w k D) := hB
  have HC : Hid (C 15 = .int .i64 e0) := h15
  have HT : Hid (TreeOk w C X) := hT
  have HX : Hid (∀ j, X j → j < w.heap.size) := hX
  have b3 := hB.c 3 (by omega)
  rw [d3] at b3
  have HD : Hid (D 4 = .int .i64 4 ∧ D 5 = .slice none 0 0) := ⟨d4, d5⟩
  have hbl := hW.lt
  have hkl := hB.lt
  clear hW hB h15 d3 d4 d5 hT hX
  go_enter Try.func67, Try.ntmps67
  go_upto_if 24 with fail
  go_cut [1, 8, 9, 10] from 25 to 42 (fun sv _ _ _ wx => J4 b k X C D w sv wx)
  case first =>
    rcases hlit with rfl | rfl
    · go_wp2_with fail
      refine (tree_any s _ hs).mono ?_
      rintro x w1 ⟨r, hr, hb1, hq⟩
      have HW1 : Hid (Wc w1 b C) := HW.out.below hb1 hbl
      have HB1 : Hid (Bc w1 k D) := HB.out.keep (hb1.block k hkl)
      have HU1 : Hid (Upd2 b (some k) w w1) := below_upd2 hb1 b (some k)
      have k13 := HW1.out.c 13 (by omega)
      have f13 := HW1.out.fz 13
      have k14 := HW1.out.c 14 (by omega)
      have f14 := HW1.out.fz 14
      clear hb1 b3 hr
      cases r with
      | none =>
        obtain ⟨i, rfl⟩ := hq
        go_wp2_with fail
        go_meet
        refine ⟨_, s, rfl, hs, (HW1.out.set 13 (by omega) _).set 14 (by omega) _, fun i h1 h2 => by rw [upV_other _ _ _ _ h2, upV_other _ _ _ _ h1], .inl (upV_same _ _ _), HB1.out.keep ((Below.heap_setCell _ _ _ _ (Ne.symm hbk)).trans (Below.heap_setCell _ _ _ _ (Ne.symm hbk))), (HU1.out.setB 13 _).setB 14 _⟩
      | some y =>
        obtain ⟨all, log⟩ := y
        obtain ⟨htk, gc, cap, rfl, hgc, hcd, hwh, hpos, h256⟩ := hq
        have HQ : Hid (CodeSt w1 gc cap all log) := ⟨hcd, hwh, hpos, h256⟩
        have hgb : gc ≠ b := by omega
        have htI : (takenT s : Int) ≤ (s.size : Int) := by omega
        obtain ⟨tk, htke⟩ : ∃ tk, tk = takenT s := ⟨_, rfl⟩
        rw [← htke] at htI ⊢
        clear hcd hwh htk htke
        go_wp2_with fail
        go_meet
        refine ⟨_, s.extract tk s.size, rfl, by rw [ByteArray.size_extract]; omega, (HW1.out.set 13 (by omega) _).set 14 (by omega) _, fun i h1 h2 => by rw [upV_other _ _ _ _ h2, upV_other _ _ _ _ h1], .inr ⟨upV_same _ _ _, gc, cap, all, log, by rw [upV_other _ _ _ _ (by omega), upV_same], HQ.out.keep ((Below.heap_setCell _ _ _ _ hgb).trans (Below.heap_setCell _ _ _ _ hgb)), fun e => by have := HX.out gc e; omega⟩, HB1.out.keep ((Below.heap_setCell _ _ _ _ (Ne.symm hbk)).trans (Below.heap_setCell _ _ _ _ (Ne.symm hbk))), (HU1.out.setB 13 _).setB 14 _⟩
    · go_wp2_with fail
      go_meet
      exact ⟨C, s, rfl, hs, HW.out, fun _ _ _ => rfl, HT.out, HB.out, Upd2.refl _ _ _⟩
  case rest =>
    obtain ⟨C1, s1, rfl, hs1, hW1, hC1, hT1, hB1, hU1⟩ := hcut
    have HW1 : Hid (Wc wc b C1) := hW1
    have HB1 : Hid (Bc wc k D) := hB1
    have HU1 : Hid (Upd2 b (some k) w wc) := hU1
    have HC1 : Hid ((∀ i, i ≠ 13 → i ≠ 14 → C1 i = C i) ∧ C1 15 = .int .i64 e0) := ⟨hC1, (hC1 15 (by omega) (by omega)).trans HC.out⟩
    have c14 := hW1.c 14 (by omega)
    clear HW HB HT hW1 hB1 hU1 hC1 b3
    rcases hT1 with h14 | ⟨h14, gc, cap, all, log, h13, hS, hgx⟩
    · have H14 : Hid (C1 14 = .bool false) := h14
      rw [h14] at c14
      clear h14
      go_wp2_with fail
      refine (bad_any b C1 e0 9 _ HW1.out HC1.out.2).mono ?_
      rintro x w3 ⟨rfl, hW3, hU3⟩
      have HF : Hid (CodedW b k X C D w (.returned (.tuple #[])) w3) :=
        ⟨_, _, [], rfl, hW3, fun i h1 h2 h => by rw [upV_other _ _ _ _ h]; exact HC1.out.1 i h1 h2, ⟨_, upV_same _ _ _⟩, .inl (by rw [upV_other _ _ _ _ (by omega)]; exact H14.out), HB1.out.keep (hU3.block k HB1.out.lt (Ne.symm hbk)), fun _ _ => rfl, by rw [HD.out.2]; exact World.ownsRow_nil _ _ _ _, by simp, HU1.out.trans (hU3.upd2 _)⟩
      clear hW3 hU3
      go_wp2_with fail
      exact bodyPost_ret (results_none rfl _ _ _) rfl HF.out
    · have H14 : Hid (C1 14 = .bool true ∧ C1 13 = .slice (some ⟨gc, 0, none⟩) all.length cap) := ⟨h14, h13⟩
      rw [h14] at c14
      have b4 := HB1.out.c 4 (by omega)
      rw [HD.out.1] at b4
      have hgb : gc ≠ b := fun e => hgx (e ▸ hXb)
      have hgk : gc ≠ k := fun e => hgx (e ▸ hXk)
      have HGX : Hid (¬ X gc) := hgx
      have HSt : Hid (L4 b k gc cap C1 D all log w wc (.slice none 0 0) []) := ⟨HW1.out, by rw [upV_id HD.out.2]; exact HB1.out, World.ownsRow_nil _ _ _ _, hS, HU1.out⟩
      have hpos := hS.pos
      have h256 := hS.small
      have hwh := hS.whole
      obtain ⟨q, hq⟩ : ∃ q : Nat, q = (cnt + 3) / 4 := ⟨_, rfl⟩
      have hqI : ((cnt : Int) + 3) / 4 = (q : Int) := by omega
      have hqt : Int.tdiv ((cnt : Int) + 3) 4 = (q : Int) := by rw [Int.tdiv_eq_ediv_of_nonneg (by omega)]; exact hqI
      have hq3 : 3 * q ≤ cnt := by omega
      clear hq h13 h14 hgx hS HW1 HB1 HU1
      go_wp2_with fail
      go_loopw [14, 15] (fun pv kv wr => ∃ (p i : Nat) (v : Value) (l : List Nat), pv = .int .i64 (p : Int) ∧ kv = .int .i64 (i : Int) ∧ p ≤ 1048582 ∧ i ≤ 4 ∧ l.length ≤ i * 1048576 ∧ (∀ g, v.ownBlock = some g → gc ≠ g) ∧ L4 b k gc cap C1 D all log w wr v l) (fun _ kv _ => (4 - intOf kv).toNat)
      case atStart => exact ⟨6, 0, _, [], rfl, rfl, by omega, by omega, by simp, fun g h => by simp [Value.ownBlock] at h, HSt.out⟩
      case round =>
        clear HSt c14 b4
        obtain ⟨p, i, v, l, rfl, rfl, hp, hi, hl, hgv, hL⟩ := hrel
        have HL : Hid (L4 b k gc cap C1 D all log w wr v l ∧ ∀ g, v.ownBlock = some g → gc ≠ g) := ⟨hL, hgv⟩
        obtain ⟨pa, gv, cv, hv, _⟩ := row_open hL.row
        subst hv
        clear hL hgv
        by_cases hi4 : i = 4
        · subst hi4
          go_wp2_with fail
          refine bodyPost_end (results_none rfl _ _ _) rfl ⟨C1, _, l, rfl, HL.out.1.wc, fun i h1 h2 _ => HC1.out.1 i h1 h2, ⟨e0, HC1.out.2⟩, .inr ⟨H14.out.1, gc, cap, all, log, H14.out.2, HL.out.1.cs, HGX.out⟩, HL.out.1.bc, fun i h => upV_other _ _ _ _ h, by rw [upV_same]; exact HL.out.1.row, by omega, HL.out.1.upd⟩
        · have hi3 : i < 4 := by omega
          have hiI : (i : Int) < 4 := by omega
          go_wp2_with fail
          refine (show Calls _ _ #[.string s1, .int .i64 ((2 * i : Nat) : Int), .int .i64 ((2 : Nat) : Int)] _ _ from le_any s1 (2 * i) 2 _ (by omega) (by omega) (by omega)).mono ?_
          rintro x w2 ⟨rfl, hw2⟩
          rw [hw2]
          have hlt := numN_lt (gOf s1) (gOf_lt s1) 2 (2 * i)
          obtain ⟨z, hz⟩ : ∃ z, z = numN (gOf s1) (2 * i) 2 := ⟨_, rfl⟩
          rw [← hz] at hlt ⊢
          clear hw2 hz
          go_upto_if 86 with fail
          go_cut [16, 17] from 87 to 94 (fun nv mv wx => ∃ (n : Int) (m : Nat), nv = .int .i64 n ∧ mv = .int .i64 (m : Int) ∧ -2000000 ≤ n ∧ n ≤ 2000000 ∧ m ≤ cnt ∧ wx = wr)
          case first =>
            by_cases hi3' : i = 3
            · subst hi3'
              go_wp2_with fail
              go_meet
              exact ⟨(s1.size : Int) - p, cnt - 3 * q, rfl, by rw [show ((cnt - 3 * q : Nat) : Int) = (cnt : Int) - 3 * (q : Int) by omega], by omega, by omega, by omega, rfl⟩
            · have hb3 : ((i : Int) == 3) = false := by rw [beq_eq_false_iff_ne]; omega
              go_wp2_with fail
              go_meet
              exact ⟨(z : Int), q, rfl, rfl, by omega, by omega, by omega, rfl⟩
          case rest =>
            obtain ⟨n, m, rfl, rfl, hn1, hn2, hm, hwc⟩ := hcut
            rw [hwc]
            clear hwc
            by_cases hbad : n < 0 ∨ (s1.size : Int) < (p : Int) + n
            · have HBAD : Hid (decide (n < 0) = false → decide ((s1.size : Int) < (p : Int) + n) = true) := by
                show _ → _
                intro h
                have := of_decide_eq_false h
                exact decide_eq_true (by omega)
              have HF : ∀ w3 : World, Wc w3 b (upV C1 15 (.int .i64 (errN e0 10))) → Upd b wr w3 → CodedW b k X C D w (.returned (.tuple #[])) w3 := fun w3 hW3 hU3 =>
                ⟨_, _, l, rfl, hW3, fun i h1 h2 h => by rw [upV_other _ _ _ _ h]; exact HC1.out.1 i h1 h2, ⟨_, upV_same _ _ _⟩, .inr ⟨by rw [upV_other _ _ _ _ (by omega)]; exact H14.out.1, gc, cap, all, log, by rw [upV_other _ _ _ _ (by omega)]; exact H14.out.2, HL.out.1.cs.keep (hU3.block gc HL.out.1.cs.lt hgb), HGX.out⟩, HL.out.1.bc.keep (hU3.block k HL.out.1.bc.lt (Ne.symm hbk)), fun i h => upV_other _ _ _ _ h, by rw [upV_same]; exact row_same HL.out.1.row (fun g hg => hU3.block g (row_lt HL.out.1.row g hg).2 (by have := (row_lt HL.out.1.row g hg).1; omega)), by omega, HL.out.1.upd.trans (hU3.upd2 _)⟩
              have HF' : Hid (∀ w3 : World, Wc w3 b (upV C1 15 (.int .i64 (errN e0 10))) → Upd b wr w3 → CodedW b k X C D w (.returned (.tuple #[])) w3) := HF
              clear HF
              by_cases hn0 : n < 0
              · have hd1 : decide (n < 0) = true := decide_eq_true hn0
                go_wp2_with fail
                refine (bad_any b C1 e0 10 _ HL.out.1.wc HC1.out.2).mono ?_
                rintro x w3 ⟨rfl, hW3, hU3⟩
                have HG := HF'.out w3 hW3 hU3
                have HGH : Hid (CodedW b k X C D w (.returned (.tuple #[])) w3) := HG
                clear hW3 hU3 HG
                go_wp2_with fail
                exact bodyPost_ret (results_none rfl _ _ _) rfl HGH.out
              · have hd1 : decide (n < 0) = false := decide_eq_false hn0
                have hd2 := HBAD.out hd1
                go_wp2_with fail
                refine (bad_any b C1 e0 10 _ HL.out.1.wc HC1.out.2).mono ?_
                rintro x w3 ⟨rfl, hW3, hU3⟩
                have HG := HF'.out w3 hW3 hU3
                have HGH : Hid (CodedW b k X C D w (.returned (.tuple #[])) w3) := HG
                clear hW3 hU3 HG
                go_wp2_with fail
                exact bodyPost_ret (results_none rfl _ _ _) rfl HGH.out
            · have hd1 : decide (n < 0) = false := decide_eq_false (by omega)
              have hd2 : decide ((s1.size : Int) < (p : Int) + n) = false := decide_eq_false (by omega)
              obtain ⟨n', hn'⟩ : ∃ n' : Nat, n = (n' : Int) := ⟨n.toNat, by omega⟩
              subst hn'
              have hp0 : (0 : Int) ≤ (p : Int) := by omega
              have hpn : (p : Int) ≤ (p : Int) + (n' : Int) := by omega
              have hps : (p : Int) + (n' : Int) ≤ (s1.size : Int) := by omega
              have hc13 := HL.out.1.wc.c 13 (by omega)
              rw [H14.out.2] at hc13
              clear hbad
              go_upto_region 25 with fail
              go_cut [18, 19] from 76 to 137 (fun xv okv wx => ∃ pa l' cp ok, xv = .slice pa l'.length cp ∧ okv = .bool ok ∧ l'.length ≤ m ∧ wx.ownsRow wr.heap.size 5 1 (.slice pa l'.length cp) l'.length (bvs l') ∧ Below wr.heap.size wr wx)
              case first =>
                have HCD : Hid (CdAt wr gc all.length (wAt all) log) := HL.out.1.cs.cd
                obtain ⟨pe, hpe⟩ : ∃ pe : Nat, pe = p + n' := ⟨_, rfl⟩
                have hwpe : IntKind.i64.wrap ((p : Int) + (n' : Int)) = (pe : Int) := by rw [i64_id _ (by omega) (by omega)]; omega
                have hpp : (p : Int) ≤ (pe : Int) := by omega
                have hpq : (pe : Int) ≤ (s1.size : Int) := by omega
                clear hpn hps hpe
                have HCDd : Hid (CdAt wr.drew gc all.length (wAt all) log) := ⟨fun j hj => by rw [World.cell?_drew]; exact HCD.out.b j hj, fun j hj => by rw [World.cell?_drew]; exact HCD.out.v j hj⟩
                go_region_with (go_at_call 77; refine (symbols_any (wAt all) all.length log gc cap m (s1.extract p pe) _ hwh (by first | exact HCDd.out | exact HCD.out) hpos h256 (by rw [ByteArray.size_extract]; omega) (by omega)).mono ?_; rintro x w3 ⟨v3, l3, ok3, rfl, hR3, hb3, hrow3⟩; obtain ⟨pa3, g3, cp3, hv3, _⟩ := row_open hrow3; subst hv3; have HR3 : Hid (l3.length ≤ m ∧ w3.ownsRow wr.heap.size 5 1 (.slice pa3 l3.length cp3) l3.length (bvs l3) ∧ Below wr.heap.size wr w3) := (by first | exact ⟨syms_len hR3, hrow3, hb3⟩ | exact ⟨syms_len hR3, hrow3, ((Below.refl _ _).drew).trans hb3⟩); clear hR3 hrow3 hb3)
                all_goals
                  go_wp2_with fail
                  go_meet
                  exact ⟨pa3, l3, cp3, ok3, rfl, rfl, HR3.out.1, HR3.out.2.1, HR3.out.2.2⟩
              case rest =>
                obtain ⟨pa', l', cp', ok, rfl, rfl, hl', hrow', hb'⟩ := hcut
                have HL2 : Hid (L4 b k gc cap C1 D all log w wc (.slice pa l.length cv) l) := HL.out.1.below hb'
                have HGV : Hid ((∀ g, (Value.slice pa l.length cv).ownBlock = some g → gc ≠ g) ∧ gc < wr.heap.size) := ⟨HL.out.2, HL.out.1.cs.lt⟩
                have HR' : Hid (wc.ownsRow wr.heap.size 5 1 (.slice pa' l'.length cp') l'.length (bvs l')) := hrow'
                clear HL hrow' hb' hc13
                cases ok with
                | false =>
                  go_wp2_with fail
                  refine (bad_any b C1 e0 10 _ HL2.out.wc HC1.out.2).mono ?_
                  rintro x w3 ⟨rfl, hW3, hU3⟩
                  have HGH : Hid (CodedW b k X C D w (.returned (.tuple #[])) w3) :=
                    ⟨_, _, l, rfl, hW3, fun i h1 h2 h => by rw [upV_other _ _ _ _ h]; exact HC1.out.1 i h1 h2, ⟨_, upV_same _ _ _⟩, .inr ⟨by rw [upV_other _ _ _ _ (by omega)]; exact H14.out.1, gc, cap, all, log, by rw [upV_other _ _ _ _ (by omega)]; exact H14.out.2, HL2.out.cs.keep (hU3.block gc HL2.out.cs.lt hgb), HGX.out⟩, HL2.out.bc.keep (hU3.block k HL2.out.bc.lt (Ne.symm hbk)), fun i h => upV_other _ _ _ _ h, by rw [upV_same]; exact row_same HL2.out.row (fun g hg => hU3.block g (row_lt HL2.out.row g hg).2 (by have := (row_lt HL2.out.row g hg).1; omega)), by omega, HL2.out.upd.trans (hU3.upd2 _)⟩
                  clear hW3 hU3
                  go_wp2_with fail
                  exact bodyPost_ret (results_none rfl _ _ _) rfl HGH.out
                | true =>
                  obtain ⟨gx, hbx, _⟩ := row_bya HR'.out
                  have HO : Hid (OutAt wc (.slice pa l.length cv) l ∧ ByA wc (.slice pa' l'.length cp') gx l') := ⟨⟨row_mono HL2.out.row (Nat.zero_le _)⟩, hbx⟩
                  have k5 := HL2.out.bc.c 5 (by omega)
                  rw [upV_same] at k5
                  have f5 := HL2.out.bc.fz 5
                  have hkl2 : k < wc.heap.size := HL2.out.bc.lt
                  have hnk : some k ≠ (Value.slice pa l.length cv).ownBlock := fun e => by have := (row_lt HL2.out.row k e.symm).1; omega
                  clear hbx
                  go_wp2_with (at_builtin; refine out_list (by rfl) (.tmp 130) (.tmp 131) (by rfl) (by first | rfl | simp) (by first | rfl | simp [Act.eval]) (by rfl) HO.out.1 HO.out.2 (by omega) (by omega) ?_; intro pa4 cap4 w4 hfin; have k6 := (hfin.out.2.1.cell_far ⟨k, 5, none⟩ hkl2 hnk).trans k5; have kf := (hfin.out.2.1.frozen_far ⟨k, 5, none⟩ hkl2 hnk).trans f5)
                  have hvs : (Value.slice pa4 (l.length + l'.length) cap4) = .slice pa4 (l ++ l').length cap4 := by rw [List.length_append]
                  refine ⟨⟨p + n', i + 1, .slice pa4 (l ++ l').length cap4, l ++ l', by go_num, by go_num, by omega, by omega, by rw [List.length_append]; omega, ?_, ?_⟩, by simp [intOf]; omega⟩
                  · intro g hg
                    rcases hfin.out.2.2 with e | ⟨j, e, hj⟩
                    · exact HGV.out.1 g (by rw [← e]; exact hg)
                    · rw [e] at hg; injection hg with hg; have := HL2.out.cs.lt; omega
                  · rw [hvs]
                    exact HL2.out.more hbk hbl hkl hgk HGV.out.1 hfin.out.1 hfin.out.2.1 hfin.out.2.2
/-- literals in codes, whatever they are -/
theorem coded_w (b k lit : Nat) (four : Bool) (X : Nat → Prop) (C D : Nat → Value) (s : ByteArray) (cnt : Nat) (e0 : Int) (w : World) (hW : Wc w b C) (hB : Bc w k D) (hbk : b ≠ k) (hXb : X b) (hXk : X k) (hX : ∀ j, X j → j < w.heap.size) (hT : TreeOk w C X) (h15 : C 15 = .int .i64 e0) (hlit : lit = 2 ∨ lit = 3) (d3 : D 3 = .int .i64 (lit : Int)) (d4 : D 4 = .int .i64 (if four then 4 else 1)) (d5 : D 5 = .slice none 0 0) (hs : s.size ≤ 1048576) (hcnt : cnt ≤ 1048576) (hc6 : four = true → 6 ≤ cnt) :
    Calls Try.prog 67 #[.pointer (some ⟨b, 0, none⟩), .string s, .int .i64 (cnt : Int), .pointer (some ⟨k, 0, none⟩)] w fun x w' => CodedW b k X C D w x w' := by
  cases four with
  | true => exact coded_w4 b k lit X C D s cnt e0 w hW hB hbk hXb hXk hX hT h15 hlit d3 d4 d5 hs hcnt (hc6 rfl)
  | false =>
    rcases hlit with rfl | rfl
    · exact coded_w21 b k X C D s cnt e0 w hW hB hbk hX h15 d3 d4 d5 hs hcnt
    · rcases id hT with h | ⟨h, _⟩
      · exact coded_w3n b k X C D s cnt e0 w hW hB hbk h h15 d3 d5
      · exact coded_w31 b k X C D s cnt e0 w hW hB hbk hXb hXk hT h h15 d3 d4 hs hcnt
end Go.Proofs.Ytkfilgfcgmohlaa
