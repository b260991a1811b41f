import Derived.Test.YtkfilgfcgmohlaaJ28
import Derived.WalkKit
import Derived.WalkSpells
import Derived.WalkLawsBesides
import Derived.Deep.AppendLies
import Derived.Laws.OwnMore
import Derived.Deep.RegionLaw
import Derived.BigRegion
import Derived.Deep.QuietTactic
import Derived.BigQuiet
namespace Go.Proofs.Ytkfilgfcgmohlaa
open Go.RowKit
set_option maxRecDepth 100000 in
set_option maxHeartbeats 4000000 in
theorem copy_w (b f gl : Nat) (Y : Nat → Prop) (s : ByteArray) (limit : Int) (a : Nat) (C : Nat → Value) (vl : Value) (ll : List Nat) (L V R : Int) (N : Nat) (c0 c1 c2 : Value) (Wn e0 : Int) (w : World) (h : CSt w b Y s limit a C) (h15 : C 15 = .int .i64 e0) (ha : a ≤ 1000000000) (hf : w.cell? ⟨f, 0, none⟩ = some (.int .i64 Wn)) (hfb : f ≠ b) (hfo : (C 3).ownBlock ≠ some f) (hB : ByA w vl gl ll) (hgb : 0 < ll.length → gl ≠ b) (hll : ll.length ≤ 4194304) (hN : N ≤ 1099511) :
    Calls Try.prog 89 #[.pointer (some ⟨b, 0, none⟩), vl, .agg #[.int .i64 L, .int .i64 V, .int .i64 R, .int .i64 (N : Int), c0, c1, c2], .pointer (some ⟨f, 0, none⟩)] w fun x w' => CopyQ b Y s limit a R C w x w' := by
  obtain ⟨out, hO, ho1, ho2⟩ := h.out
  obtain ⟨po, co, hvo⟩ := hO.shape
  obtain ⟨pb, cb, off, hvb, hcb, hpb, _⟩ := hB.ex
  obtain ⟨fr, hfr, hfra⟩ := h.fr
  subst hvb
  have HS : Hid (CSt w b Y s limit a C) := h
  have HO : Hid (OutAt w (C 3) out ∧ ByA w (.slice pb ll.length cb) gl ll ∧ C 3 = .slice po out.length co) := ⟨hO, hB, hvo⟩
  have HN : Hid ((C 3).ownBlock ≠ some f) := hfo
  have HC : Hid (C 15 = .int .i64 e0 ∧ C 5 = .int .i64 (fr : Int)) := ⟨h15, hfr⟩
  have hbl : b < w.heap.size := h.wc.lt
  have hfl : f < w.heap.size := block_lt_of_cell hf
  clear h hO hB hvo hfo h15 hfr
  go_enter Try.func89, Try.ntmps89
  go_wp2_with fail
  refine (room_any b f C po out.length co a (ll.length + N) Wn limit e0 _ (HS.out.wc.keep (Below.heap_alloc _ _ _ hbl)) HO.out.2.2 HS.out.c6 HS.out.c2 HC.out.1 (by rw [World.cell?_of_block (w := w) (a := ⟨f, 0, none⟩) (Below.heap_alloc _ _ _ hfl)]; exact hf) (by omega) ho1 (by omega)).mono ?_
  rintro x w1 ⟨rfl, hW1, hU1⟩
  obtain ⟨e1, he1⟩ : ∃ e1, e1 = roomE out.length a (ll.length + N) Wn limit e0 := ⟨_, rfl⟩
  rw [← he1] at hW1
  have HR : Hid (e1 = 0 → out.length + (ll.length + N) ≤ a + 131072) := fun h => roomE_ok (he1.symm.trans h)
  have hU01 : Upd b w w1 := ((Upd.refl b w).alloc _).trans hU1
  have HBS : Hid (CSt w1 b Y s limit a (upV C 15 (.int .i64 e1)) ∧ CStep w w1 b Z0 C (upV C 15 (.int .i64 e1))) := HS.out.bad hW1 hU01
  have hxk : w1.heap[w.heap.size]? = (w.alloc (Obj.cells #[.int .i64 L, .int .i64 V, .int .i64 R, .int .i64 (N : Int), c0, c1, c2] 139)).heap[w.heap.size]? := hU1.block _ (by rw [World.size_alloc]; omega) (by omega)
  have x2 : w1.cell? ⟨w.heap.size, 2, none⟩ = some (.int .i64 R) := (World.cell?_of_block (a := ⟨w.heap.size, 2, none⟩) hxk).trans (by rw [World.cell?_alloc_new]; rfl)
  have x3 : w1.cell? ⟨w.heap.size, 3, none⟩ = some (.int .i64 (N : Int)) := (World.cell?_of_block (a := ⟨w.heap.size, 3, none⟩) hxk).trans (by rw [World.cell?_alloc_new]; rfl)
  have d15 := hW1.c 15 (by omega)
  rw [upV_same] at d15
  have d3 := hW1.c 3 (by omega)
  rw [upV_other _ _ _ _ (by omega), HO.out.2.2] at d3
  have f3 := hW1.fz 3
  have HO1 : Hid (OutAt w1 (.slice po out.length co) out) := by
    rw [← HO.out.2.2]
    exact ⟨row_same HO.out.1.row (fun g hg => hU01.block g (row_lt HO.out.1.row g hg).2 (HS.out.ob g hg).1)⟩
  by_cases hz : e1 = 0
  · subst hz
    have HR0 := HR.out rfl
    have HCP : Hid (CpI w w1 b w.heap.size Y s limit a C R N (.slice po out.length co) out) := by
      have e : upV (upV C 15 (.int .i64 0)) 3 (.slice po out.length co) = upV C 15 (.int .i64 0) := upV_id (by rw [upV_other _ _ _ _ (by omega)]; exact HO.out.2.2)
      refine ⟨by rw [e]; exact HBS.out.1, by rw [e]; exact HBS.out.2, HO1.out, x2, x3, fun h => ?_, by omega⟩
      have := (row_lt HO.out.1.row w.heap.size (by rw [HO.out.2.2]; exact h)).2
      omega
    have hnb : some b ≠ (Value.slice po out.length co).ownBlock := fun e => (HS.out.ob b (by rw [HO.out.2.2]; exact e.symm)).1 rfl
    have hbl1 : b < w1.heap.size := hW1.lt
    have HB1 : Hid (ByA w1 (.slice pb ll.length cb) gl ll) := by
      refine HO.out.2.1.keep (fun hl => ?_)
      exact hU01.block gl (HO.out.2.1.lt hl) (hgb hl)
    clear hW1 hU1 hU01 x2 x3 he1 hxk HR HBS
    go_upto_region 4 with (at_builtin; refine out_list (by rfl) (.tmp 26) (.tmp 27) (by rfl) (by first | rfl | simp) (by first | rfl | simp [Act.eval]) (by rfl) HO1.out HB1.out (by omega) (by omega) ?_; intro pa' cap' w2 hfin; have k3 := (hfin.out.2.1.cell_far ⟨b, 3, none⟩ hbl1 hnb).trans d3; have kf := (hfin.out.2.1.frozen_far ⟨b, 3, none⟩ hbl1 hnb).trans f3)
    have hvs : Value.slice pa' (out ++ ll).length cap' = .slice pa' (out.length + ll.length) cap' := by rw [List.length_append]
    obtain ⟨O, hOe⟩ : ∃ O, O = out ++ ll := ⟨_, rfl⟩
    have hOl : O.length = out.length + ll.length := by rw [hOe, List.length_append]
    have HP : Hid (CpI w (w2.setCell ⟨b, 3, none⟩ (.slice pa' O.length cap')) b w.heap.size Y s limit a C R N (.slice pa' O.length cap') O) := by
      rw [hOe]
      exact HCP.out.more hfin.out.1 (grown_updS hfin.out.2.1 (fun k e => e)) hfin.out.2.2 (by rw [List.length_append]; omega) (by rw [List.length_append]; omega)
    have hL1 : a ≤ O.length := by omega
    have hL2 : O.length + N ≤ a + 131072 := by omega
    rw [← hOl]
    clear hfin hvs hOe hOl k3 kf HCP HO1 HB1 d15 d3 f3 HR0
    obtain ⟨W3, hW3⟩ : ∃ W3, W3 = w2.setCell ⟨b, 3, none⟩ (.slice pa' O.length cap') := ⟨_, rfl⟩
    rw [← hW3] at HP ⊢
    clear hW3
    have d3 := HP.out.st.wc.c 3 (by omega)
    rw [upV_same] at d3
    have d5 := HP.out.st.wc.c 5 (by omega)
    rw [upV_other _ _ _ _ (by omega), upV_other _ _ _ _ (by omega), HC.out.2] at d5
    have x2 := HP.out.x2
    have hfk : W3.heap[f]? = w.heap[f]? := HP.out.step.upd.block f hfl (fun h => by
      rcases h with e | e | e
      · exact hfb e
      · exact HN.out e
      · exact e)
    have hf3 : W3.cell? ⟨f, 0, none⟩ = some (.int .i64 Wn) := (World.cell?_of_block (a := ⟨f, 0, none⟩) hfk).trans hf
    have HE15 : Hid (upV (upV C 15 (.int .i64 0)) 3 (.slice pa' O.length cap') 15 = .int .i64 0) := by show _ = _; rw [upV_other _ _ _ _ (by omega), upV_same]
    clear hf hfk
    by_cases hbad : R ≤ 0 ∨ (O.length : Int) - (fr : Int) < R ∨ Wn < R
    · have key : ∀ w4 : World, Wc w4 b (upV (upV (upV C 15 (.int .i64 0)) 3 (.slice pa' O.length cap')) 15 (.int .i64 (errN 0 13))) → Upd b W3 w4 → CopyQ b Y s limit a R C w (.returned (.tuple #[])) w4 := by
        intro w4 h1 h2
        obtain ⟨g1, g2⟩ := HP.out.st.bad h1 h2
        exact ⟨_, rfl, g1, HP.out.step.trans g2, fun i h3 h15 => by rw [upV_other _ _ _ _ h15, upV_other _ _ _ _ h3, upV_other _ _ _ _ h15], fun h => by rw [upV_same] at h; injection h with _ h; simp [errN] at h⟩
      have HK : Hid (∀ w4 : World, Wc w4 b (upV (upV (upV C 15 (.int .i64 0)) 3 (.slice pa' O.length cap')) 15 (.int .i64 (errN 0 13))) → Upd b W3 w4 → CopyQ b Y s limit a R C w (.returned (.tuple #[])) w4) := key
      clear key
      by_cases h1 : R ≤ 0
      · have hd1 : decide (R ≤ 0) = true := decide_eq_true h1
        go_quiet (fail)
        go_wp2_with fail
        refine (bad_any b _ 0 13 _ (HP.out.st.wc.sm ((Sm.refl W3).drewN nq)) HE15.out).mono ?_
        rintro x w4 ⟨rfl, h1, h2⟩
        have HF : Hid (CopyQ b Y s limit a R C w (.returned (.tuple #[])) w4) := HK.out w4 h1 ((((Sm.refl W3).drewN nq).upd b).trans h2)
        clear h1 h2
        go_wp2_with fail
        exact bodyPost_ret (results_none rfl _ _ _) rfl HF.out
      · have hd1 : decide (R ≤ 0) = false := decide_eq_false h1
        by_cases h2 : (O.length : Int) - (fr : Int) < R
        · have hd2 : decide ((O.length : Int) - (fr : Int) < R) = true := decide_eq_true h2
          go_quiet (fail)
          go_wp2_with fail
          refine (bad_any b _ 0 13 _ (HP.out.st.wc.sm ((Sm.refl W3).drewN nq)) HE15.out).mono ?_
          rintro x w4 ⟨rfl, h1, h2⟩
          have HF : Hid (CopyQ b Y s limit a R C w (.returned (.tuple #[])) w4) := HK.out w4 h1 ((((Sm.refl W3).drewN nq).upd b).trans h2)
          clear h1 h2
          go_wp2_with fail
          exact bodyPost_ret (results_none rfl _ _ _) rfl HF.out
        · have hd2 : decide ((O.length : Int) - (fr : Int) < R) = false := decide_eq_false h2
          have hd3 : decide (Wn < R) = true := decide_eq_true (by omega)
          go_quiet (fail)
          go_wp2_with fail
          refine (bad_any b _ 0 13 _ (HP.out.st.wc.sm ((Sm.refl W3).drewN nq)) HE15.out).mono ?_
          rintro x w4 ⟨rfl, h1, h2⟩
          have HF : Hid (CopyQ b Y s limit a R C w (.returned (.tuple #[])) w4) := HK.out w4 h1 ((((Sm.refl W3).drewN nq).upd b).trans h2)
          clear h1 h2
          go_wp2_with fail
          exact bodyPost_ret (results_none rfl _ _ _) rfl HF.out
    · have hd1 : decide (R ≤ 0) = false := decide_eq_false (by omega)
      have hd2 : decide ((O.length : Int) - (fr : Int) < R) = false := decide_eq_false (by omega)
      have hd3 : decide (Wn < R) = false := decide_eq_false (by omega)
      go_quiet (fail)
      have HP2 : Hid (CpI w (W3.drewN nq) b w.heap.size Y s limit a C R N (.slice pa' O.length cap') O) := HP.out.sm ((Sm.refl W3).drewN nq)
      have hR0 : 0 < R := by omega
      have hRO : R ≤ (O.length : Int) := by omega
      clear hbad hd1 hd2 hd3 d3 d5 x2 hf3 HP
      go_wp2_with fail
      go_loopw [8] (fun kv wr => ∃ (k : Nat) (v : Value) (o : List Nat), kv = .int .i64 (k : Int) ∧ k ≤ N ∧ o.length = O.length + k ∧ CpI w wr b w.heap.size Y s limit a C R N v o) (fun kv _ => (N - intOf kv).toNat)
      case atStart => exact ⟨0, _, O, rfl, by omega, by omega, HP2.out⟩
      case round =>
        clear HP2
        obtain ⟨k, v, o, rfl, hk, hol, hP⟩ := hrel
        have HP : Hid (CpI w wr b w.heap.size Y s limit a C R N v o) := hP
        have HOL : Hid (o.length = O.length + k) := hol
        have hb1 : a ≤ o.length := by omega
        have hb2 : o.length + N ≤ a + 131072 + k := by omega
        have hRo : R ≤ (o.length : Int) := by omega
        clear hol
        obtain ⟨pv, gv, cv, hv, hpv⟩ := row_open hP.out.row
        obtain ⟨rfl, _, _⟩ := hpv (by omega)
        subst hv
        have x2 := hP.x2
        have x3 := hP.x3
        have d3 := hP.st.wc.c 3 (by omega)
        rw [upV_same] at d3
        have f3 := hP.st.wc.fz 3
        have hob := hP.st.ob
        rw [upV_same] at hob
        have HNB : Hid ((Value.slice (some ⟨gv, 0, none⟩) o.length cv).ownBlock ≠ some b) := fun e => (hob b e).1 rfl
        obtain ⟨j, hj⟩ : ∃ j : Nat, (j : Int) = (o.length : Int) - R := ⟨((o.length : Int) - R).toNat, by omega⟩
        have hjl : j < o.length := by omega
        have hwj : IntKind.i64.wrap ((o.length : Int) - R) = (j : Int) := by rw [i64_id _ (by omega) (by omega)]; omega
        have cj : wr.cell? ⟨gv, j, none⟩ = some (.int .u8 (wAt o j : Int)) := by
          rw [World.ownsRow.cellAt hP.out.row j (by omega), bvs_at o j hjl]
        have hjI : (j : Int) < (o.length : Int) := by omega
        have hj0 : (0 : Int) ≤ (j : Int) := by omega
        have HO : Hid (OutAt wr (.slice (some ⟨gv, 0, none⟩) o.length cv) o) := hP.out
        have hwl : gv < wr.heap.size := block_lt_of_cell cj
        have hbl' : b < wr.heap.size := hP.st.wc.lt
        have hxl' : w.heap.size < wr.heap.size := block_lt_of_cell x2
        clear hP hob hj hpv
        by_cases hkN : k < N
        · have hkI : decide ((k : Int) < (N : Int)) = true := decide_eq_true (by omega)
          go_wp2_with fail
          go_region_law ((refine oc_step (r := b) (j := 3) (y := wAt o j) (by rfl) (.tmp 70) (.tmp 85) (by rfl) (by first | rfl | simp) (gb := wr.heap.size) (by simp [Act.eval]) HO.out d3 f3 HNB.out (by omega) (by repeat (first | exact Below.refl _ _ | refine Below.drew ?_ | refine Below.alloc ?_ (by simp <;> omega) _)) (by simp) ?_; intro pa5 cap5 w5 hfin k3 kf))
          all_goals
            go_wp2_with fail
            refine ⟨⟨k + 1, _, o ++ [wAt o j], by go_num, by omega, by rw [List.length_append, HOL.out, List.length_singleton]; omega, HP.out.more hfin.out.1 hfin.out.2.1 hfin.out.2.2 (by simp; omega) (by simp; omega)⟩, by simp [intOf]; omega⟩
        · have hkI : decide ((k : Int) < (N : Int)) = false := decide_eq_false (by omega)
          go_wp2_with fail
          exact bodyPost_end (results_none rfl _ _ _) rfl ⟨_, rfl, HP.out.st, HP.out.step, fun i h3 h15 => by rw [upV_other _ _ _ _ h3, upV_other _ _ _ _ h15], fun _ => hR0⟩
  · have hzb : (e1 == 0) = false := by rw [beq_eq_false_iff_ne]; exact hz
    clear hW1 hU1 hU01 x2 x3 he1 hxk HR d3 f3 HO1
    go_wp2_with fail
    exact bodyPost_ret (results_none rfl _ _ _) rfl ⟨_, rfl, HBS.out.1, HBS.out.2, fun i h3 h15 => upV_other _ _ _ _ h15, fun h => by rw [upV_same] at h; injection h with _ h; exact absurd h hz⟩
end Go.Proofs.Ytkfilgfcgmohlaa
