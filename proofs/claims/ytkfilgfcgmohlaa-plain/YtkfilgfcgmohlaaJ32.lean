import Derived.Test.YtkfilgfcgmohlaaJ31
import Derived.WalkKit
import Derived.WalkSpells
import Derived.WalkLawsBesides
import Derived.Deep.CutRange
import Derived.Deep.AppendLies
import Derived.Laws.OwnMore
import Derived.Deep.RegionLaw
import Derived.Deep.QuietTactic
import Derived.BigQuiet
namespace Go.Proofs.Ytkfilgfcgmohlaa
open Go.RowKit
set_option maxRecDepth 100000 in
set_option maxHeartbeats 8000000 in
theorem stream_w (b k f gl : Nat) (Y : Nat → Prop) (s : ByteArray) (limit : Int) (a : Nat) (C D : Nat → Value) (su : ByteArray) (n : Nat) (ll : List Nat) (Wn : Int) (w : World)
    (h : CSt w b Y s limit a C) (hR : RepOk C) (hB : Bc w k D) (hYk : Y k) (hYf : Y f) (hfk : f ≠ k) (hf : w.cell? ⟨f, 0, none⟩ = some (.int .i64 Wn)) (ha : a ≤ 1000000000) (h15 : C 15 = .int .i64 0) (hT : ∀ t, t < 3 → C (7 + t) ≠ .pointer none)
    (hL : ByA w (D 5) gl ll) (hll : ll.length ≤ 4194304) (hgl : 0 < ll.length → gl ≠ b ∧ gl ≠ k ∧ (C 3).ownBlock ≠ some gl) (d11 : D 11 = .slice none 0 0) (hs : su.size ≤ 1048576) (hn : n ≤ 131072) :
    Calls Try.prog 69 #[.pointer (some ⟨b, 0, none⟩), .string su, .int .i64 (n : Int), .pointer (some ⟨f, 0, none⟩), .pointer (some ⟨k, 0, none⟩)] w fun x w' => CompQ b k Y s limit a C D w x w' := by
  obtain ⟨tb, lo, hi, T, hTS⟩ := tbs_of h.tabs hT
  have hbk : b ≠ k := fun e => h.nb (e ▸ hYk)
  have hbl : b < w.heap.size := h.wc.lt
  have hkl : k < w.heap.size := hB.lt
  have hfl : f < w.heap.size := block_lt_of_cell hf
  have hfb : f ≠ b := fun e => h.nb (e ▸ hYf)
  have HOW : Hid (∀ j, (C 3).ownBlock = some j → j < w.heap.size) := fun j hj => by
    obtain ⟨o, ho, _⟩ := h.out
    exact (row_lt ho.row j hj).2
  have HFO : Hid ((C 3).ownBlock ≠ some f) := fun e => (h.ob f e).2 hYf
  have HS : Hid (CSt w b Y s limit a C ∧ RepOk C ∧ Bc w k D ∧ ByA w (D 5) gl ll ∧ TbS w C (Xs b (C 3) Y) tb lo hi T) := ⟨h, hR, hB, hL, hTS⟩
  have HC : Hid (C 15 = .int .i64 0 ∧ D 11 = .slice none 0 0 ∧ Y k) := ⟨h15, d11, hYk⟩
  have HYf : Hid (Y f) := hYf
  have HGL : Hid (0 < ll.length → gl ≠ b ∧ gl ≠ k ∧ (C 3).ownBlock ≠ some gl) := hgl
  have HF : Hid (w.cell? ⟨f, 0, none⟩ = some (.int .i64 Wn)) := hf
  clear h hR hB hYk hYf hf h15 hT hL hgl d11 hTS
  go_enter Try.func69, Try.ntmps69
  go_wp2_with fail
  refine (backward_new su _ (by omega)).mono ?_
  rintro x w1 ⟨r, ok, rfl, hb1, hr, hcase⟩
  have hb1s : w.heap.size ≤ w1.heap.size := hb1.size
  have HB1 : Hid (Below w.heap.size w w1) := hb1
  have HS1 : Hid (CSt w1 b Y s limit a C) := HS.out.1.upd (below_updS hb1 _)
  clear hb1
  rcases hcase with ⟨rfl, _⟩ | ⟨rfl, z, g, hLd, hRd, hrg⟩
  · go_wp2_with fail
    refine (bad_any b C 0 10 _ HS1.out.wc HC.out.1).mono ?_
    rintro x w3 ⟨rfl, hW3, hU3⟩
    have HG : Hid (CompQ b k Y s limit a C D w (.returned (.tuple #[])) w3) := by
      obtain ⟨g1, g2⟩ := HS1.out.bad hW3 hU3
      have hs1 : CStep w w1 b (fun j => j = k) C C := ⟨below_updS HB1.out _, .inl rfl, rfl, rfl, rfl⟩
      exact ⟨_, D, rfl, g1, HS.out.2.1.same (.inr ⟨_, upV_same _ _ _, by decide⟩) (upV_other _ _ _ _ (by omega)) (upV_other _ _ _ _ (by omega)) (upV_other _ _ _ _ (by omega)), hs1.trans g2.wide, (HS.out.2.2.1.keep (HB1.out.block k hkl)).keep (hU3.block k (by omega) (Ne.symm hbk)), rfl⟩
    clear hW3 hU3
    go_wp2_with fail
    exact bodyPost_ret (results_none rfl _ _ _) rfl HG.out
  · obtain ⟨m, hm⟩ : ∃ m, m = bkN su z := ⟨_, rfl⟩
    obtain ⟨fb, hfb'⟩ : ∃ fb, fb = bkF su z := ⟨_, rfl⟩
    rw [← hm, ← hfb'] at hRd
    have hrl : r < w1.heap.size := hRd.lt
    have hgl' : 0 < m → g < w1.heap.size := hRd.glt
    obtain ⟨ab, hab⟩ : ∃ ab, ab = w1.heap.size := ⟨_, rfl⟩
    obtain ⟨w2, hw2⟩ : ∃ w2, w2 = w1.alloc (Obj.cells #[.int .i64 0, .int .i64 0, .int .i64 0] 37) := ⟨_, rfl⟩
    have hw2s : w2.heap.size = w1.heap.size + 1 := by rw [hw2, World.size_alloc]
    have HBase : Hid (SBase w w2 b k r g ab gl m Y C tb lo hi T ll) := by
      refine ⟨HS.out.2.2.2.2, ?_, hr, by omega, hrg, fun h => by have := hgl' h; omega, by omega, by omega, by omega, fun h => by have := hgl' h; omega, hbl, hkl, hbk, HC.out.2.2, HOW.out, fun h => ⟨HS.out.2.2.2.1.lt h, HGL.out h⟩⟩
      rw [hw2]; exact HB1.out.trans ((Below.refl _ _).alloc hb1s _)
    have HRd2 : Hid (RdAt w2 r g m fb 0) := by rw [hw2]; exact hRd.alloc _
    have HAt2 : Hid (At3 w2 ab (fun _ => 0)) := by
      rw [hw2, hab]
      exact ⟨fun i hi => by rw [World.cell?_alloc_new]; match i, hi with | 0, _ => rfl | 1, _ => rfl | 2, _ => rfl, fun i => by simp⟩
    have hfb2 := hRd.two
    clear hRd hm hfb' hLd
    go_upto_region 4 with fail
    rw [← hw2, ← hab]
    clear hw2 hab hw2s
    have hws : w.heap.size ≤ w2.heap.size := HBase.out.below.size
    have habw : w.heap.size ≤ ab := HBase.out.hab
    go_wp2_with fail
    go_loopw [13] (fun tv wr => ∃ (t pos : Nat) (x : Nat → Nat), tv = .int .i64 (t : Int) ∧ t ≤ 3 ∧ UpdS (fun j => j = r ∨ j = ab) w2 wr ∧ RdAt wr r g m fb pos ∧ At3 wr ab x ∧ ∀ i, i < t → x i < (T i).size) (fun tv _ => (3 - intOf tv).toNat)
    case atStart => exact ⟨0, 0, fun _ => 0, rfl, by omega, UpdS.refl _ _, HRd2.out, HAt2.out, fun i hi => by omega⟩
    case round =>
      clear HRd2 HAt2
      obtain ⟨t, pos, x, rfl, ht, hU, hRd, hA, hxs⟩ := hrel
      have HU : Hid (UpdS (fun j => j = r ∨ j = ab) w2 wr) := hU
      have HX : Hid (At3 wr ab x ∧ ∀ i, i < t → x i < (T i).size) := ⟨hA, hxs⟩
      have HRdh : Hid (RdAt wr r g m fb pos) := hRd
      have hold : ∀ j, j < w.heap.size → wr.heap[j]? = w.heap[j]? := fun j hj => by
        rw [hU.block j (by omega) (by omega), HBase.out.below.block j hj]
      have HOLD : Hid (∀ j, j < w.heap.size → wr.heap[j]? = w.heap[j]?) := hold
      have hwrs : w2.heap.size ≤ wr.heap.size := hU.size
      by_cases ht3 : t < 3
      · have htI : (t : Int) < 3 := by omega
        have ht0 : (0 : Int) ≤ (t : Int) := by omega
        have c7 := (World.cell?_of_block (w := w) (a := ⟨b, 7 + t, none⟩) (hold b hbl)).trans (HS.out.1.wc.c (7 + t) (by omega))
        rw [HBase.out.tabs.p t ht3] at c7
        have hTt : TbAt wr (lo t) (hi t) (tb t) (T t) := (HBase.out.tabs.at_ t ht3).keep (fun j _ h2 => hold j (Nat.lt_of_lt_of_le h2 (HBase.out.tabs.top t ht3)))
        obtain ⟨gs, gb, gx, t0, _⟩ := hTt.ex
        have hgood := HBase.out.tabs.good t ht3
        have hlg := hgood.lg
        have HSZ : Hid ((T t).size = 2 ^ (T t).log) := hgood.sz
        obtain ⟨lg, hlge⟩ : ∃ lg, lg = (T t).log := ⟨_, rfl⟩
        rw [← hlge] at t0 hlg HSZ
        have ca := hA.c t ht3
        have fa := hA.fz t
        clear hU hA hxs hold hTt hgood hlge
        go_wp2_with fail
        refine (rd_high r g m fb pos lg _ hRd (by omega)).mono ?_
        rintro e w4 ⟨rfl, hR4, hU4⟩
        have hhi := highN_lt m fb hfb2 pos lg
        obtain ⟨y, hy⟩ : ∃ y, y = highN m fb pos lg := ⟨_, rfl⟩
        rw [← hy] at hhi ⊢
        have hrab : r ≠ ab := HBase.out.rab
        have hk4 : w4.heap[ab]? = wr.heap[ab]? := hU4.block ab (by have := HBase.out.hab2; omega) (Ne.symm hrab)
        have HA4 : Hid (At3 w4 ab x) := HX.out.1.keep hk4
        have HR4 : Hid (RdAt w4 r g m fb (pos + lg)) := hR4
        have HU4 : Hid (UpdS (fun j => j = r ∨ j = ab) w2 w4) := HU.out.same (hU4.updS (.inl rfl))
        have ca4 := HA4.out.c t ht3
        have fa4 := HA4.out.fz t
        clear hR4 hU4 hy hRd c7 t0 ca fa hk4
        go_wp2_with fail
        refine ⟨⟨t + 1, pos + lg, upN x t y, by go_num, by omega, HU4.out.setCell _ _ (fun _ => .inr rfl), ?_, HA4.out.set t y ht3, ?_⟩, by simp [intOf]; omega⟩
        · exact HR4.out.keep (Below.heap_setCell _ _ _ _ hrab) (fun h => Below.heap_setCell _ _ _ _ (HBase.out.gab h))
        · intro i hi
          unfold upN
          by_cases e : i = t
          · subst e; rw [if_pos rfl, HSZ.out]; exact hhi
          · rw [if_neg e]; exact HX.out.2 i (by omega)
      · have htd : decide ((t : Int) < 3) = false := decide_eq_false (by omega)
        have hxs3 : ∀ i, i < 3 → x i < (T i).size := fun i hi => hxs i (by omega)
        have HWk : Hid (Bc wr k D) := HS.out.2.2.1.keep (hold k hkl)
        have k5 := HWk.out.c 5 (by omega)
        obtain ⟨pl, cl, ofl, hvl, _⟩ := HS.out.2.2.2.1.ex
        rw [hvl] at k5
        have HI0 : Hid (StI w w2 wr b k r g ab gl m fb Y s limit a C C D D T pos x 0 (.slice pl ll.length cl) ll) := by
          refine ⟨?_, HS.out.2.1, ⟨hU.sub (fun _ _ e => .inr (.inr (.inr e))), .inl rfl, rfl, rfl, rfl⟩, fun _ _ => rfl, hRd, hA, hxs3, HWk.out, rfl, ⟨[], by rw [HC.out.2.1]; exact World.ownsRow_nil _ _ _ _⟩, fun j hj => by rw [HC.out.2.1] at hj; simp [Value.ownBlock] at hj, ?_⟩
          · refine HS.out.1.re (Y2 := Ys Y r ab (D 11)) ⟨?_, ?_, ?_, by omega, fun j hj _ => hold j hj⟩ (fun j hj => ?_) (fun j hj => ?_)
            · exact hU.os.trans HBase.out.below.os
            · exact hU.tape.trans HBase.out.below.tape
            · exact hU.output.trans HBase.out.below.output
            · rcases hj with e | e | e | e
              · exact .inl e
              · exact .inr (by have := HBase.out.hr; omega)
              · exact .inr (by have := HBase.out.hab; omega)
              · rw [HC.out.2.1] at e; simp [Value.ownBlock] at e
            · rcases hj with e | e | e | e
              · have := HS.out.1.yb j e; omega
              · have := HBase.out.hr2; omega
              · have := HBase.out.hab2; omega
              · rw [HC.out.2.1] at e; simp [Value.ownBlock] at e
          · rw [← hvl]
            exact HS.out.2.2.2.1.keep (fun h => hold gl (HBase.out.hgl h).1)
        clear hU hRd hA hxs hxs3 hold HX HU HRdh HWk ht3
        go_wp2_with fail
        go_loopw [14, 15] (fun lv kv wr => ∃ (kk pos : Nat) (x : Nat → Nat) (C' D' : Nat → Value) (nq : Nat) (l : List Nat), kv = .int .i64 (kk : Int) ∧ kk ≤ n ∧ nq ≤ kk ∧ l.length ≤ ll.length ∧ StI w w2 wr b k r g ab gl m fb Y s limit a C C' D D' T pos x nq lv l) (fun _ kv _ => (n - intOf kv).toNat)
        case atStart => exact ⟨0, pos, x, C, D, 0, ll, rfl, by omega, by omega, by omega, HI0.out⟩
        case round =>
          clear HI0 k5 HOLD hwrs
          rename World => wA
          obtain ⟨kk, pos, x, C', D', nq, l, rfl, hkk, hnq, hl, hI⟩ := hrel
          have HI : Hid (StI w w2 wA b k r g ab gl m fb Y s limit a C C' D D' T pos x nq u14 l) := hI
          obtain ⟨e, he⟩ := hI.st.err
          obtain ⟨pv, cv, ofv, hvl', hcv, hpv, _⟩ := hI.lits.ex
          subst hvl'
          have c15 := hI.st.wc.c 15 (by omega)
          rw [he] at c15
          have HE : Hid (C' 15 = .int .i64 e) := he
          have hwr2 : w2.heap.size ≤ wA.heap.size := hI.step.upd.size
          have hrl : r < wA.heap.size := hI.rd.lt
          have hbl2 : b < wA.heap.size := hI.st.wc.lt
          have habl : ab < wA.heap.size := hI.at3.lt
          have hkl2 : k < wA.heap.size := hI.bc.lt
          clear hI he
          by_cases hgo : kk < n ∧ e = 0
          · obtain ⟨hkn, rfl⟩ := hgo
            have hkI : decide ((kk : Int) < (n : Int)) = true := decide_eq_true (by omega)
            obtain ⟨qb, hqb⟩ : ∃ qb, qb = wA.heap.size := ⟨_, rfl⟩
            obtain ⟨wq, hwq⟩ : ∃ wq, wq = wA.alloc (Obj.cells #[.int .i64 0, .int .i64 0, .int .i64 0, .int .i64 0, .int .i64 0, .int .i64 0, .int .i64 0] 139) := ⟨_, rfl⟩
            have hgq : 0 < m → g < wA.heap.size := HI.out.rd.glt
            have HM0 : Hid (MidI wA wq r g ab qb m fb T pos x (fun _ => 0)) := by
              rw [hwq, hqb]
              refine ⟨(UpdS.refl _ _).alloc _, HI.out.rd.alloc _, HI.out.at3.keep (Below.heap_alloc _ _ _ habl), HI.out.xs, ⟨fun i hi => ?_, fun i => by simp⟩⟩
              rw [World.cell?_alloc_new]
              match i, hi with | 0, _ => rfl | 1, _ => rfl | 2, _ => rfl | 3, _ => rfl | 4, _ => rfl | 5, _ => rfl | 6, _ => rfl
            have hqw : wA.heap.size ≤ qb := by omega
            have hrq : r ≠ qb := by omega
            have hgq' : 0 < m → g ≠ qb := fun h => by have := hgq h; omega
            have habq : ab ≠ qb := by omega
            have hkq : k ≠ qb := by omega
            have hbq : b ≠ qb := by omega
            go_upto_region 13 with fail
            rw [← hwq, ← hqb]
            clear hwq hqb hgq
            go_wp2_with fail
            go_loopw [17] (fun tv wi => ∃ (t : Nat) (Q : Nat → Int), tv = .int .i64 (t : Int) ∧ t ≤ 3 ∧ MidI wA wi r g ab qb m fb T pos x Q ∧ ∀ i, i < t → Q (4 + i) = ((T i).F (x i) : Int)) (fun tv _ => (3 - intOf tv).toNat)
            case atStart => exact ⟨0, _, rfl, by omega, HM0.out, fun i hi => by omega⟩
            case round =>
              clear HM0
              obtain ⟨t, Q, rfl, ht, hM, hQ⟩ := hrel
              have HM : Hid (MidI wA wr r g ab qb m fb T pos x Q ∧ ∀ i, i < t → Q (4 + i) = ((T i).F (x i) : Int)) := ⟨hM, hQ⟩
              have hwr3 : wA.heap.size ≤ wr.heap.size := hM.upd.size
              have HTb : Hid (TbS wr C' (Xs b (C 3) Y) tb lo hi T) := HBase.out.tb HI.out.step HI.out.tabs (fun j hj _ => hM.upd.block j (by omega) (by have := HBase.out.hr; omega)) (by omega)
              have HWx : Hid (CSt wr b (Ys Y r ab (D' 11)) s limit a C') := HI.out.st.upd (hM.upd.sub (fun j _ e => by rcases e with e | e; exact .inr (.inl e); exact .inr (.inr (.inl e))))
              have hqlt : qb < wr.heap.size := hM.q.lt
              by_cases ht3 : t < 3
              · have htI : (t : Int) < 3 := by omega
                have ht0 : (0 : Int) ≤ (t : Int) := by omega
                have c7 := HWx.out.wc.c (7 + t) (by omega)
                rw [HTb.out.p t ht3] at c7
                obtain ⟨gs, gb, gx, t0, t1, t2, t3, hs', hb', hl', q1, q2, q3, q4, q5, q6⟩ := (HTb.out.at_ t ht3).ex
                have hx3 := hM.xs t ht3
                have fc := hs'.c (x t) hx3
                have ca := hM.at3.c t ht3
                have qc := hM.q.c (4 + t) (by omega)
                have qf := hM.q.fz (4 + t)
                obtain ⟨xt, hxt⟩ : ∃ xt, xt = x t := ⟨_, rfl⟩
                obtain ⟨sz, hsz⟩ : ∃ sz, sz = (T t).size := ⟨_, rfl⟩
                obtain ⟨fv, hfv⟩ : ∃ fv, fv = (T t).F (x t) := ⟨_, rfl⟩
                rw [← hfv] at fc
                rw [← hxt] at ca fc hx3
                rw [← hsz] at t1 hx3
                have hxI : (xt : Int) < (sz : Int) := by omega
                have hx0 : (0 : Int) ≤ (xt : Int) := by omega
                have HFV : Hid (fv = (T t).F (x t)) := hfv
                clear hM hQ hs' hb' hl' q1 q2 q3 q4 q5 q6 t0 t2 t3 hxt hsz hfv
                go_wp2_with fail
                go_region
                all_goals
                  go_wp2_with fail
                  have hput := HM.out.1.put (4 + t) (fv : Int) (by omega) hqw hrq hgq' habq
                  refine ⟨⟨t + 1, upI Q (4 + t) (fv : Int), by go_num, by omega, ?_, fun i hi => ?_⟩, by simp [intOf]; omega⟩
                  · first | exact hput.sm ((Sm.refl _).drew) | exact (HM.out.1.sm ((Sm.refl _).drew)).put (4 + t) (fv : Int) (by omega) hqw hrq hgq' habq | exact hput
                  · unfold upI
                    by_cases e : i = t
                    · subst e; rw [if_pos rfl, HFV.out]
                    · rw [if_neg (by omega)]; exact HM.out.2 i (by omega)
              · obtain rfl : t = 3 := by omega
                have hcod : ∀ t, t < 3 → CodeOk t ((T t).F (x t)) := fun t ht => (HTb.out.good t ht).code _ (hM.xs t ht)
                have q5 := hM.q.c 5 (by omega)
                rw [show (5 : Nat) = 4 + 1 from rfl, hQ 1 (by omega)] at q5
                obtain ⟨c0, hc0⟩ : ∃ c0, c0 = (T 0).F (x 0) := ⟨_, rfl⟩
                obtain ⟨c1, hc1⟩ : ∃ c1, c1 = (T 1).F (x 1) := ⟨_, rfl⟩
                obtain ⟨c2, hc2⟩ : ∃ c2, c2 = (T 2).F (x 2) := ⟨_, rfl⟩
                rw [← hc1] at q5
                have HCD : Hid (CodeOk 0 c0 ∧ CodeOk 1 c1 ∧ CodeOk 2 c2 ∧ Q 4 = (c0 : Int) ∧ Q 5 = (c1 : Int) ∧ Q 6 = (c2 : Int)) := ⟨by rw [hc0]; exact hcod 0 (by omega), by rw [hc1]; exact hcod 1 (by omega), by rw [hc2]; exact hcod 2 (by omega), by rw [hc0]; exact hQ 0 (by omega), by rw [hc1]; exact hQ 1 (by omega), by rw [hc2]; exact hQ 2 (by omega)⟩
                have hrd := hM.rd
                clear hM hQ hcod hc0 hc1 hc2 HTb HWx
                go_wp2_with fail
                refine (show Calls _ _ #[.pointer (some ⟨r, 0, none⟩), .int .i64 ((1 : Nat) : Int), .int .i64 (c1 : Int)] _ _ from part_any 1 c1 r g m fb pos _ HCD.out.2.1 hrd).mono ?_
                rintro e wp1 ⟨rfl, hR1, hU1⟩
                have hv1 := highN_lt m fb hfb2 pos (extraN 1 c1)
                have hp1 := part_small1 c1 (by have := HCD.out.2.1; unfold CodeOk at this; omega)
                obtain ⟨V, hV⟩ : ∃ V, V = leastN 1 c1 + highN m fb pos (extraN 1 c1) := ⟨_, rfl⟩
                rw [← hV]
                have hV1 : 1 ≤ V := by omega
                have hV2 : V ≤ 8589934592 := by omega
                have HM1 : Hid (MidI wA wp1 r g ab qb m fb T (pos + extraN 1 c1) x Q) := HM.out.1.read hR1 hU1 (by have := HBase.out.rab; omega) (Ne.symm hrq)
                obtain ⟨pos1, hpos1⟩ : ∃ pos1, pos1 = pos + extraN 1 c1 := ⟨_, rfl⟩
                rw [← hpos1] at HM1
                clear hV hp1 hv1 hR1 hU1 hpos1 HM hrd q5
                have k1 := HM1.out.q.c 1 (by omega)
                have kf1 := HM1.out.q.fz 1
                have k6 := HM1.out.q.c 6 (by omega)
                rw [HCD.out.2.2.2.2.2] at k6
                have HM2 : Hid (MidI wA (wp1.setCell ⟨qb, 1, none⟩ (.int .i64 (V : Int))) r g ab qb m fb T pos1 x (upI Q 1 (V : Int))) := HM1.out.put 1 (V : Int) (by omega) hqw hrq hgq' habq
                go_wp2_with fail
                refine (show Calls _ _ #[.pointer (some ⟨r, 0, none⟩), .int .i64 ((2 : Nat) : Int), .int .i64 (c2 : Int)] _ _ from part_any 2 c2 r g m fb pos1 _ HCD.out.2.2.1 HM2.out.rd).mono ?_
                rintro e wp2 ⟨rfl, hR2, hU2⟩
                have hv2 := highN_lt m fb hfb2 pos1 (extraN 2 c2)
                have hp2 := part_small2 c2 (by have := HCD.out.2.2.1; unfold CodeOk at this; omega)
                obtain ⟨N, hN⟩ : ∃ N, N = leastN 2 c2 + highN m fb pos1 (extraN 2 c2) := ⟨_, rfl⟩
                rw [← hN]
                have hN2 : N ≤ 131075 := by omega
                have HM3 : Hid (MidI wA wp2 r g ab qb m fb T (pos1 + extraN 2 c2) x (upI Q 1 (V : Int))) := HM2.out.read hR2 hU2 (by have := HBase.out.rab; omega) (Ne.symm hrq)
                obtain ⟨pos2, hpos2⟩ : ∃ pos2, pos2 = pos1 + extraN 2 c2 := ⟨_, rfl⟩
                rw [← hpos2] at HM3
                clear hN hp2 hv2 hR2 hU2 hpos2 HM1 HM2 k1 kf1 k6
                have k3 := HM3.out.q.c 3 (by omega)
                have kf3 := HM3.out.q.fz 3
                have k4 := HM3.out.q.c 4 (by omega)
                rw [show upI Q 1 (V : Int) 4 = Q 4 from rfl, HCD.out.2.2.2.1] at k4
                have HM4 : Hid (MidI wA (wp2.setCell ⟨qb, 3, none⟩ (.int .i64 (N : Int))) r g ab qb m fb T pos2 x (upI (upI Q 1 (V : Int)) 3 (N : Int))) := HM3.out.put 3 (N : Int) (by omega) hqw hrq hgq' habq
                go_wp2_with fail
                refine (show Calls _ _ #[.pointer (some ⟨r, 0, none⟩), .int .i64 ((0 : Nat) : Int), .int .i64 (c0 : Int)] _ _ from part_any 0 c0 r g m fb pos2 _ HCD.out.1 HM4.out.rd).mono ?_
                rintro e wp3 ⟨rfl, hR3, hU3⟩
                have hv3 := highN_lt m fb hfb2 pos2 (extraN 0 c0)
                have hp3 := part_small0 c0 (by have := HCD.out.1; unfold CodeOk at this; omega)
                obtain ⟨L, hL⟩ : ∃ L, L = leastN 0 c0 + highN m fb pos2 (extraN 0 c0) := ⟨_, rfl⟩
                rw [← hL]
                have hL2 : L ≤ 131072 := by omega
                have HM5 : Hid (MidI wA wp3 r g ab qb m fb T (pos2 + extraN 0 c0) x (upI (upI Q 1 (V : Int)) 3 (N : Int))) := HM4.out.read hR3 hU3 (by have := HBase.out.rab; omega) (Ne.symm hrq)
                obtain ⟨pos3, hpos3⟩ : ∃ pos3, pos3 = pos2 + extraN 0 c0 := ⟨_, rfl⟩
                rw [← hpos3] at HM5
                clear hL hp3 hv3 hR3 hU3 hpos3 HM3 HM4 k3 kf3 k4
                have k0 := HM5.out.q.c 0 (by omega)
                have kf0 := HM5.out.q.fz 0
                obtain ⟨Q2, hQ2⟩ : ∃ Q2, Q2 = upI (upI (upI Q 1 (V : Int)) 3 (N : Int)) 0 (L : Int) := ⟨_, rfl⟩
                have HM6 : Hid (MidI wA (wp3.setCell ⟨qb, 0, none⟩ (.int .i64 (L : Int))) r g ab qb m fb T pos3 x Q2) := by rw [hQ2]; exact HM5.out.put 0 (L : Int) (by omega) hqw hrq hgq' habq
                have HQ2 : Hid (Q2 0 = (L : Int) ∧ Q2 1 = (V : Int) ∧ Q2 3 = (N : Int) ∧ Q2 4 = (c0 : Int) ∧ Q2 5 = (c1 : Int) ∧ Q2 6 = (c2 : Int)) := by
                  rw [hQ2]
                  exact ⟨rfl, rfl, rfl, HCD.out.2.2.2.1, HCD.out.2.2.2.2.1, HCD.out.2.2.2.2.2⟩
                clear hQ2
                obtain ⟨B, hB⟩ : ∃ B : Bool, decide ((kk : Int) < (n : Int) - 1) = B := ⟨_, rfl⟩
                go_upto_if 104 with fail
                obtain ⟨w6, hw6⟩ : ∃ w6, w6 = wp3.setCell ⟨qb, 0, none⟩ (.int .i64 (L : Int)) := ⟨_, rfl⟩
                rw [← hw6] at HM6 ⊢
                clear hw6 HM5 k0 kf0
                go_cut [113] from 105 to 113 (fun _ wx => ∃ pos' x', MidI wA wx r g ab qb m fb T pos' x' Q2)
                case first =>
                  cases B with
                  | false =>
                    go_wp2_with fail
                    go_meet
                    exact ⟨_, _, HM6.out⟩
                  | true =>
                    go_wp2_with fail
                    refine (show Calls _ _ #[.pointer (some ⟨b, 0, none⟩), .pointer (some ⟨r, 0, none⟩), .pointer (some ⟨ab, 0, none⟩), .int .i64 ((0 : Nat) : Int)] _ _ from on_mid HBase.out HI.out HM6.out hqw (Ne.symm hrq) (Ne.symm habq) 0 (by omega)).mono ?_
                    rintro e wo1 ⟨rfl, p1, x1, hM7⟩
                    have HM7 : Hid (MidI wA wo1 r g ab qb m fb T p1 x1 Q2) := hM7
                    clear hM7
                    go_wp2_with fail
                    refine (show Calls _ _ #[.pointer (some ⟨b, 0, none⟩), .pointer (some ⟨r, 0, none⟩), .pointer (some ⟨ab, 0, none⟩), .int .i64 ((2 : Nat) : Int)] _ _ from on_mid HBase.out HI.out HM7.out hqw (Ne.symm hrq) (Ne.symm habq) 2 (by omega)).mono ?_
                    rintro e wo2 ⟨rfl, p2, x2, hM8⟩
                    have HM8 : Hid (MidI wA wo2 r g ab qb m fb T p2 x2 Q2) := hM8
                    clear hM8
                    go_wp2_with fail
                    refine (show Calls _ _ #[.pointer (some ⟨b, 0, none⟩), .pointer (some ⟨r, 0, none⟩), .pointer (some ⟨ab, 0, none⟩), .int .i64 ((1 : Nat) : Int)] _ _ from on_mid HBase.out HI.out HM8.out hqw (Ne.symm hrq) (Ne.symm habq) 1 (by omega)).mono ?_
                    rintro e wo3 ⟨rfl, p3, x3, hM9⟩
                    have HM9 : Hid (MidI wA wo3 r g ab qb m fb T p3 x3 Q2) := hM9
                    clear hM9
                    go_wp2_with fail
                    go_meet
                    exact ⟨_, _, HM9.out⟩
                case rest =>
                  obtain ⟨pos4, x4, hM4⟩ := hcut
                  have HM : Hid (MidI wA wc r g ab qb m fb T pos4 x4 Q2) := hM4
                  have cov := hM4.rd.over
                  have HWc : Hid (CSt wc b (Yq Y r ab qb (D' 11)) s limit a C') := HI.out.mid hM4 hqw
                  clear hM4 HM6 hB
                  obtain ⟨ov, hov⟩ : ∃ ov, ov = decide (m < pos4) := ⟨_, rfl⟩
                  rw [← hov] at cov
                  clear hov
                  cases ov with
                  | true =>
                    go_wp2_with fail
                    refine (bad_any b C' 0 10 _ HWc.out.wc HE.out).mono ?_
                    rintro x w9 ⟨rfl, hW9, hU9⟩
                    have HG : Hid (CompQ b k Y s limit a C D w (.returned (.tuple #[])) w9) := fin_bad HBase.out HI.out HM.out hW9 hU9 (by decide) hqw
                    clear hW9 hU9
                    go_wp2_with fail
                    exact bodyPost_ret (results_none rfl _ _ _) rfl HG.out
                  | false =>
                    have q0 := HM.out.q.c 0 (by omega)
                    rw [HQ2.out.1] at q0
                    by_cases hLl : l.length < L
                    · have hd : decide ((l.length : Int) < (L : Int)) = true := decide_eq_true (by omega)
                      go_wp2_with fail
                      refine (bad_any b C' 0 11 _ HWc.out.wc HE.out).mono ?_
                      rintro x w9 ⟨rfl, hW9, hU9⟩
                      have HG : Hid (CompQ b k Y s limit a C D w (.returned (.tuple #[])) w9) := fin_bad HBase.out HI.out HM.out hW9 hU9 (by decide) hqw
                      clear hW9 hU9
                      go_wp2_with fail
                      exact bodyPost_ret (results_none rfl _ _ _) rfl HG.out
                    · have hd : decide ((l.length : Int) < (L : Int)) = false := decide_eq_false (by omega)
                      have q1 := HM.out.q.c 1 (by omega)
                      rw [HQ2.out.2.1] at q1
                      obtain ⟨R0, R1, R2, e10, e11, e12, hr0, hr1, hr2⟩ := HI.out.rep HE.out
                      obtain ⟨R0', R1', R2', e10', e11', e12', b0, b1, b2⟩ := HI.out.st.reps
                      have hR0' : R0' = R0 := by rw [e10] at e10'; injection e10' with _ e; exact e.symm
                      have hR1' : R1' = R1 := by rw [e11] at e11'; injection e11' with _ e; exact e.symm
                      have hR2' : R2' = R2 := by rw [e12] at e12'; injection e12' with _ e; exact e.symm
                      subst hR0' hR1' hR2'
                      have HRR : Hid (C' 10 = .int .i64 R0' ∧ C' 11 = .int .i64 R1' ∧ C' 12 = .int .i64 R2') := ⟨e10, e11, e12⟩
                      clear e10 e11 e12 e10' e11' e12'
                      go_wp2_with fail
                      refine (offset_any b C' V L R0' R1' R2' _ HWc.out.wc HRR.out.1 HRR.out.2.1 HRR.out.2.2 (by omega) (by omega) (by omega) (by omega)).mono ?_
                      rintro x w7 ⟨rfl, hW7, hU7⟩
                      have hb0 := backN_ge (v := V) (l := L) hr0 hr1 hr2
                      have hb9 := backN_le (v := V) (l := L) (R0 := R0') (R1 := R1') (R2 := R2') (by omega) (by omega) (by omega) (by omega)
                      obtain ⟨back, hback⟩ : ∃ back, back = backN V L R0' R1' R2' := ⟨_, rfl⟩
                      obtain ⟨wh, hwh⟩ : ∃ wh, wh = whichN V L := ⟨_, rfl⟩
                      rw [← hback] at hb0 hb9 hW7 ⊢
                      rw [← hwh] at hW7
                      clear hback hwh
                      have HW7 : Hid (CSt w7 b (Yq Y r ab qb (D' 11)) s limit a (offC C' wh back) ∧ CStep wc w7 b Z0 C' (offC C' wh back)) := HWc.out.off hW7 hU7 hb0 hb9
                      have HU7 : Hid (Upd b wc w7) := hU7
                      have HQ7 : Hid (Sq7 w7 qb Q2) := HM.out.q.keep (hU7.block qb HM.out.q.lt (Ne.symm hbq))
                      clear hW7 hU7 q0 q1 cov
                      have k2 := HQ7.out.c 2 (by omega)
                      have kf2 := HQ7.out.fz 2
                      go_upto_region 29 with fail
                      obtain ⟨w8, hw8⟩ : ∃ w8, w8 = w7.setCell ⟨qb, 2, none⟩ (.int .i64 back) := ⟨_, rfl⟩
                      have HQ8 : Hid (Sq7 w8 qb (upI Q2 2 back)) := by rw [hw8]; exact HQ7.out.set 2 back (by omega)
                      have HS8 : Hid (CSt w8 b (Yq Y r ab qb (D' 11)) s limit a (offC C' wh back)) := by rw [hw8]; exact HW7.out.1.upd ((UpdS.refl _ _).setCell _ _ (fun _ => .inr rfl))
                      have hk8 : ∀ j, j < wA.heap.size → j ≠ r → j ≠ ab → j ≠ b → w8.heap[j]? = wA.heap[j]? := fun j h1 h2 h3 h4 => by
                        rw [hw8, Below.heap_setCell _ _ _ _ (show j ≠ qb by omega), HU7.out.block j (Nat.lt_of_lt_of_le h1 HM.out.upd.size) h4, HM.out.upd.block j h1 (by omega)]
                      have HK8 : Hid (∀ j, j < wA.heap.size → j ≠ r → j ≠ ab → j ≠ b → w8.heap[j]? = wA.heap[j]?) := hk8
                      have hs8 : wA.heap.size ≤ w8.heap.size := by rw [hw8, World.size_setCell]; exact Nat.le_trans HM.out.upd.size HU7.out.size
                      have HF8 : Hid (w8.cell? ⟨f, 0, none⟩ = some (.int .i64 Wn)) := by
                        have hrw := HBase.out.hr
                        have h1 := hk8 f (by omega) (by omega) (by omega) hfb
                        have h2 := HI.out.step.old HBase.out.below HBase.out.hr HBase.out.hab f hfl hfb HFO.out hfk
                        exact (World.cell?_of_block (w := w) (a := ⟨f, 0, none⟩) (h1.trans h2)).trans HF.out
                      have HL8 : Hid (ByA w8 (.slice pv l.length cv) gl l ∧ (0 < l.length → gl < wA.heap.size ∧ gl ≠ r ∧ gl ≠ ab ∧ gl ≠ b ∧ gl ≠ k ∧ gl ≠ qb)) := by
                        have key : 0 < l.length → gl < wA.heap.size ∧ gl ≠ r ∧ gl ≠ ab ∧ gl ≠ b ∧ gl ≠ k ∧ gl ≠ qb := fun h => by
                          have h1 := HBase.out.hgl (by omega)
                          have h2 := HBase.out.hr
                          omega
                        exact ⟨HI.out.lits.keep (fun h => by have h1 := key h; exact hk8 gl h1.1 h1.2.1 h1.2.2.1 h1.2.2.2.1), key⟩
                      rw [← hw8]
                      have e0 : offC C' wh back 15 = .int .i64 0 := by rw [offC_other _ _ _ _ (by omega) (by omega) (by omega)]; exact HE.out
                      have HE0 : Hid (offC C' wh back 15 = .int .i64 0) := e0
                      have q0 := HQ8.out.c 0 (by omega)
                      have q1 := HQ8.out.c 1 (by omega)
                      have q2 := HQ8.out.c 2 (by omega)
                      have q3 := HQ8.out.c 3 (by omega)
                      have q4 := HQ8.out.c 4 (by omega)
                      have q5 := HQ8.out.c 5 (by omega)
                      have q6 := HQ8.out.c 6 (by omega)
                      rw [show upI Q2 2 back 0 = Q2 0 from rfl, HQ2.out.1] at q0
                      rw [show upI Q2 2 back 1 = Q2 1 from rfl, HQ2.out.2.1] at q1
                      rw [show upI Q2 2 back 2 = back from rfl] at q2
                      rw [show upI Q2 2 back 3 = Q2 3 from rfl, HQ2.out.2.2.1] at q3
                      rw [show upI Q2 2 back 4 = Q2 4 from rfl, HQ2.out.2.2.2.1] at q4
                      rw [show upI Q2 2 back 5 = Q2 5 from rfl, HQ2.out.2.2.2.2.1] at q5
                      rw [show upI Q2 2 back 6 = Q2 6 from rfl, HQ2.out.2.2.2.2.2] at q6
                      obtain ⟨C7, hC7⟩ : ∃ C7, C7 = offC C' wh back := ⟨_, rfl⟩
                      rw [← hC7] at HS8 HE0
                      have HC7 : Hid (C7 = offC C' wh back) := hC7
                      have HCP := copy_w b f gl (Yq Y r ab qb (D' 11)) s limit a C7 (.slice pv L cv) (l.take L) (L : Int) (V : Int) back N (.int .i64 (c0 : Int)) (.int .i64 (c1 : Int)) (.int .i64 (c2 : Int)) Wn 0
                      have HCPd : Hid (Calls Try.prog 89 #[.pointer (some ⟨b, 0, none⟩), .slice pv L cv, .agg #[.int .i64 (L : Int), .int .i64 (V : Int), .int .i64 back, .int .i64 (N : Int), .int .i64 (c0 : Int), .int .i64 (c1 : Int), .int .i64 (c2 : Int)], .pointer (some ⟨f, 0, none⟩)] w8.drew fun x w' => CopyQ b (Yq Y r ab qb (D' 11)) s limit a back C7 w8.drew x w') :=
                        HCP w8.drew (HS8.out.sm ((Sm.refl _).drew)) HE0.out ha (by rw [World.cell?_drew]; exact HF8.out) hfb (fun e => (HS8.out.ob f e).2 (.inl (.inl HYf.out))) ((HL8.out.1.take (by omega)).keep (fun _ => rfl)) (fun h => (HL8.out.2 (by rw [List.length_take] at h; omega)).2.2.2.1) (by rw [List.length_take]; omega) (by omega)
                      have HW8 : Hid (w8 = w7.setCell ⟨qb, 2, none⟩ (.int .i64 back)) := hw8
                      clear HCP hk8 hC7 e0 hw8 k2 kf2 HQ7
                      have hLI : (L : Int) ≤ (l.length : Int) := by omega
                      have hLc : (L : Int) ≤ (cv : Int) := by omega
                      have hL0 : (0 : Int) ≤ (L : Int) := by omega
                      go_cut [141] from 50 to 156 (fun _ wx => ∃ C8, CSt wx b (Yq Y r ab qb (D' 11)) s limit a C8 ∧ CStep w8 wx b Z0 C7 C8 ∧ (∀ i, i ≠ 3 → i ≠ 15 → C8 i = C7 i) ∧ (C8 15 = .int .i64 0 → 0 < back))
                      case first =>
                        go_region_with (go_at_call 89; refine HCPd.out.mono ?_; rintro x w9 ⟨C8, rfl, g1, g2, g3, g4⟩; have HG : Hid (∃ C8, CSt w9 b (Yq Y r ab qb (D' 11)) s limit a C8 ∧ CStep w8 w9 b Z0 C7 C8 ∧ (∀ i, i ≠ 3 → i ≠ 15 → C8 i = C7 i) ∧ (C8 15 = .int .i64 0 → 0 < back)) := (by exact ⟨C8, g1, (CStep.sm (CStep.refl w8 b Z0 C7) ((Sm.refl _).drew)).trans g2, g3, g4⟩); clear g1 g2 g3 g4)
                        all_goals
                          go_wp2_with fail
                          go_meet
                          exact HG.out
                      case rest =>
                        obtain ⟨C8, g1, g2, g3, g4⟩ := hcut
                        rename World => w9
                        have HG : Hid (CSt w9 b (Yq Y r ab qb (D' 11)) s limit a C8 ∧ CStep w8 w9 b Z0 C7 C8 ∧ (∀ i, i ≠ 3 → i ≠ 15 → C8 i = C7 i) ∧ (C8 15 = .int .i64 0 → 0 < back)) := ⟨g1, g2, g3, g4⟩
                        have hk9 : ∀ j, Yq Y r ab qb (D' 11) j → w9.heap[j]? = w8.heap[j]? := fun j hj => g2.upd.block j (HS8.out.yb j hj) (fun e => by
                          rcases e with e | e | e
                          · exact HS8.out.nb (e ▸ hj)
                          · exact (HS8.out.ob j e).2 hj
                          · exact e)
                        have HK9 : Hid (∀ j, Yq Y r ab qb (D' 11) j → w9.heap[j]? = w8.heap[j]?) := hk9
                        have HQ9 : Hid (Sq7 w9 qb (upI Q2 2 back)) := HQ8.out.keep (hk9 qb (.inr rfl))
                        have hkr : k ≠ r := by have := HBase.out.hr; omega
                        have hka : k ≠ ab := by have := HBase.out.hab; omega
                        have HB9 : Hid (Bc w9 k D') := HI.out.bc.keep ((hk9 k (.inl (.inl HC.out.2.2))).trans (HK8.out k hkl2 hkr hka (Ne.symm hbk)))
                        have hs9 : w8.heap.size ≤ w9.heap.size := g2.upd.size
                        clear g1 g2 g3 g4 hk9 q0 q1 q2 q3 q4 q5 q6 HCPd HQ8
                        have q0 := HQ9.out.c 0 (by omega)
                        have q1 := HQ9.out.c 1 (by omega)
                        have q2 := HQ9.out.c 2 (by omega)
                        have q3 := HQ9.out.c 3 (by omega)
                        have q4 := HQ9.out.c 4 (by omega)
                        have q5 := HQ9.out.c 5 (by omega)
                        have q6 := HQ9.out.c 6 (by omega)
                        rw [show upI Q2 2 back 0 = Q2 0 from rfl, HQ2.out.1] at q0
                        rw [show upI Q2 2 back 1 = Q2 1 from rfl, HQ2.out.2.1] at q1
                        rw [show upI Q2 2 back 2 = back from rfl] at q2
                        rw [show upI Q2 2 back 3 = Q2 3 from rfl, HQ2.out.2.2.1] at q3
                        rw [show upI Q2 2 back 4 = Q2 4 from rfl, HQ2.out.2.2.2.1] at q4
                        rw [show upI Q2 2 back 5 = Q2 5 from rfl, HQ2.out.2.2.2.2.1] at q5
                        rw [show upI Q2 2 back 6 = Q2 6 from rfl, HQ2.out.2.2.2.2.2] at q6
                        obtain ⟨ys, hsq⟩ := HI.out.sq
                        have k11 := HB9.out.c 11 (by omega)
                        have f11 := HB9.out.fz 11
                        have HSQ : Hid (w9.ownsRow 0 139 7 (D' 11) nq ys) := row_same hsq (fun j hj => by
                          have hjj : Yq Y r ab qb (D' 11) j := .inl (.inr (.inr (.inr hj)))
                          have h2 := HI.out.sqn j hj
                          have h3 := (row_lt hsq j hj).2
                          exact (HK9.out j hjj).trans (HK8.out j h3 (by have := HBase.out.hr2; omega) (by have := HBase.out.hab2; omega) (by omega)))
                        obtain ⟨ps, gsq, csq, hvs, _⟩ := row_open hsq
                        rw [hvs] at k11
                        have HVS : Hid (D' 11 = .slice ps nq csq) := hvs
                        clear hsq hvs
                        have hk9l : k < w9.heap.size := HB9.out.lt
                        have HNK : Hid ((Value.slice ps nq csq).ownBlock ≠ some k) := fun e => by
                          have := HI.out.sqn k (by rw [HVS.out]; exact e)
                          omega
                        have HSQ2 : Hid (w9.ownsRow 0 139 7 (.slice ps nq csq) nq ys) := by rw [← HVS.out]; exact HSQ.out
                        go_upto_region 31 with fail
                        obtain ⟨vl2, hvl2⟩ : ∃ vl2, vl2 = Value.slice (if cv = L then pv else Option.map (fun x => x.add L) pv) (l.length - L) (cv - L) := ⟨_, rfl⟩
                        rw [← hvl2]
                        have HV2 : Hid (vl2 = Value.slice (if cv = L then pv else Option.map (fun x => x.add L) pv) (l.length - L) (cv - L)) := hvl2
                        clear hvl2
                        go_cut [18] from 50 to 156 (fun v wx => ∃ g1 cap1, v = .slice (some ⟨g1, 0, none⟩) (nq + 1) cap1 ∧ wx.ownsRow 0 139 7 (.slice (some ⟨g1, 0, none⟩) (nq + 1) cap1) (nq + 1) (ys ++ [.int .i64 (L : Int), .int .i64 (V : Int), .int .i64 back, .int .i64 (N : Int), .int .i64 (c0 : Int), .int .i64 (c1 : Int), .int .i64 (c2 : Int)]) ∧ UpdS (fun q => (Value.slice ps nq csq).ownBlock = some q) w9 wx ∧ Moved w9 (.slice ps nq csq) (.slice (some ⟨g1, 0, none⟩) (nq + 1) cap1))
                        case first =>
                          clear HBase HI HE HM HC7 HU7 HW7 HW8 HS8 HG HL8 HV2 HF8 HQ2 HK8 HK9 HQ9 HB9 HSQ HVS HNK HS HC HYf HFO HOW HGL HF HCD HWc HRR HE0
                          go_region_law ((refine apg_step Try.underlying46 fSeq rfl (by decide) (by rfl) (.tmp 149) (.tmp 151) (by rfl) (by first | rfl | simp) (gb := w9.heap.size) (by simp [Act.eval]) HSQ2.out (by omega) (by omega) (by repeat (first | exact Below.refl _ _ | refine Below.drew ?_ | refine Below.alloc ?_ (by simp <;> omega) _)) [.int .i64 (L : Int), .int .i64 (V : Int), .int .i64 back, .int .i64 (N : Int), .int .i64 (c0 : Int), .int .i64 (c1 : Int), .int .i64 (c2 : Int)] (by rfl) (news_at (fun j hj => by rcases (show j = 0 ∨ j = 1 ∨ j = 2 ∨ j = 3 ∨ j = 4 ∨ j = 5 ∨ j = 6 by simp at hj; omega) with rfl | rfl | rfl | rfl | rfl | rfl | rfl <;> simp)) (fun u hu => by simp at hu; rcases hu with rfl | rfl | rfl | rfl | rfl | rfl | rfl <;> rfl) ?_; intro g1 cap1 w5 hfin))
                          all_goals
                            go_wp2_with fail
                            go_meet
                            exact ⟨g1, cap1, rfl, hfin.out.1, hfin.out.2.1, hfin.out.2.2⟩
                        case rest =>
                          obtain ⟨g1, cap1, rfl, hO5, hU5, hM5⟩ := hcut
                          rename World => w5
                          have hkk := hU5.block k hk9l HNK.out
                          have c5 := (World.cell?_of_block (w := w9) (a := ⟨k, 11, none⟩) hkk).trans k11
                          have z5 := (World.frozen?_of_block (w := w9) (a := ⟨k, 11, none⟩) hkk).trans f11
                          have HN : Hid (StI w w2 (w5.setCell ⟨k, 11, none⟩ (.slice (some ⟨g1, 0, none⟩) (nq + 1) cap1)) b k r g ab gl m fb Y s limit a C C8 D (upV D' 11 (.slice (some ⟨g1, 0, none⟩) (nq + 1) cap1)) T pos4 x4 (nq + 1) vl2 (l.drop L)) := by
                            rw [HV2.out]
                            exact StI.next HBase.out HI.out HE.out HM.out hqw HC7.out HU7.out HW7.out.2 HW8.out HS8.out HG.out.1 HG.out.2.1 HG.out.2.2.1 HG.out.2.2.2 hO5 (by rw [HVS.out]; exact hU5) (by rw [HVS.out]; exact hM5) (HL8.out.1.drop (by omega)) (fun h => by rw [List.length_drop] at h; omega)
                          clear hO5 hU5 hM5 hkk HG HM HW8 HS8 HU7 HW7 HC7 HQ9 HB9 HSQ HSQ2 HVS HNK HK9 HK8 HL8 HF8 HQ2 q0 q1 q2 q3 q4 q5 q6 k11 f11
                          have hdr : (l.drop L).length ≤ ll.length := by rw [List.length_drop]; omega
                          go_wp2_with fail
                          exact ⟨⟨kk + 1, pos4, x4, C8, upV D' 11 (.slice (some ⟨g1, 0, none⟩) (nq + 1) cap1), nq + 1, l.drop L, by go_num, by omega, by omega, hdr, HN.out⟩, by simp [intOf]; omega⟩
          · by_cases hkn : kk < n
            · have hkI : decide ((kk : Int) < (n : Int)) = true := decide_eq_true (by omega)
              have he0 : (e == 0) = false := by rw [beq_eq_false_iff_ne]; exact fun h => hgo ⟨hkn, h⟩
              clear hgo
              go_wp2_with fail
              refine (rd_whole r g m fb pos _ HI.out.rd).mono ?_
              rintro x w4 ⟨rfl, hs4⟩
              obtain ⟨dn, hdn⟩ : ∃ dn, dn = decide (pos = m) := ⟨_, rfl⟩
              rw [← hdn]
              have HI4 : Hid (CSt w4 b (Ys Y r ab (D' 11)) s limit a C' ∧ CStep wA w4 b Z0 C' C' ∧ ByA w4 (.slice pv l.length cv) gl l ∧ w4.cell? ⟨f, 0, none⟩ = some (.int .i64 Wn)) := by
                refine ⟨HI.out.st.sm hs4, (CStep.refl _ _ _ _).sm hs4, HI.out.lits.keep (fun _ => by rw [hs4.heap]), (hs4.cell _).trans ?_⟩
                exact (World.cell?_of_block (w := w) (a := ⟨f, 0, none⟩) (HI.out.step.old HBase.out.below HBase.out.hr HBase.out.hab f hfl hfb HFO.out hfk)).trans HF.out
              have d15 := (hs4.cell ⟨b, 15, none⟩).trans c15
              clear hs4 hdn c15
              go_wp2_with fail
              refine (give_w b f gl (Ys Y r ab (D' 11)) s limit a C' (.slice pv l.length cv) l Wn e _ HI4.out.1 HI.out.rep HE.out HI4.out.2.2.2 HI4.out.2.2.1 (fun h => (HBase.out.hgl (by omega)).2.1) ha (by omega)).mono ?_
              rintro x w6 ⟨rfl, C2, g1, g2, g3, _⟩
              have HG : Hid (CompQ b k Y s limit a C D w (.returned (.tuple #[])) w6) := fin_give HBase.out HI.out HI4.out.2.1 g1 g2 g3 HI4.out.1
              clear g1 g2 g3
              go_wp2_with fail
              exact bodyPost_end (results_none rfl _ _ _) rfl HG.out
            · have hkI : decide ((kk : Int) < (n : Int)) = false := decide_eq_false (by omega)
              clear hgo
              go_wp2_with fail
              refine (rd_whole r g m fb pos _ HI.out.rd).mono ?_
              rintro x w4 ⟨rfl, hs4⟩
              obtain ⟨dn, hdn⟩ : ∃ dn, dn = decide (pos = m) := ⟨_, rfl⟩
              rw [← hdn]
              have HI4 : Hid (CSt w4 b (Ys Y r ab (D' 11)) s limit a C' ∧ CStep wA w4 b Z0 C' C' ∧ ByA w4 (.slice pv l.length cv) gl l ∧ w4.cell? ⟨f, 0, none⟩ = some (.int .i64 Wn)) := by
                refine ⟨HI.out.st.sm hs4, (CStep.refl _ _ _ _).sm hs4, HI.out.lits.keep (fun _ => by rw [hs4.heap]), (hs4.cell _).trans ?_⟩
                exact (World.cell?_of_block (w := w) (a := ⟨f, 0, none⟩) (HI.out.step.old HBase.out.below HBase.out.hr HBase.out.hab f hfl hfb HFO.out hfk)).trans HF.out
              have d15 := (hs4.cell ⟨b, 15, none⟩).trans c15
              clear hs4 hdn c15
              by_cases he : e = 0
              · subst he
                cases dn with
                | true =>
                  go_wp2_with fail
                  refine (give_w b f gl (Ys Y r ab (D' 11)) s limit a C' (.slice pv l.length cv) l Wn 0 _ HI4.out.1 HI.out.rep HE.out HI4.out.2.2.2 HI4.out.2.2.1 (fun h => (HBase.out.hgl (by omega)).2.1) ha (by omega)).mono ?_
                  rintro x w6 ⟨rfl, C2, g1, g2, g3, _⟩
                  have HG : Hid (CompQ b k Y s limit a C D w (.returned (.tuple #[])) w6) := fin_give HBase.out HI.out HI4.out.2.1 g1 g2 g3 HI4.out.1
                  clear g1 g2 g3
                  go_wp2_with fail
                  exact bodyPost_end (results_none rfl _ _ _) rfl HG.out
                | false =>
                  go_wp2_with fail
                  refine (bad_any b C' 0 10 _ HI4.out.1.wc HE.out).mono ?_
                  rintro x w5 ⟨rfl, hW5, hU5⟩
                  have HI5 : Hid (CSt w5 b (Ys Y r ab (D' 11)) s limit a (upV C' 15 (.int .i64 (errN 0 10))) ∧ CStep wA w5 b Z0 C' (upV C' 15 (.int .i64 (errN 0 10))) ∧ ByA w5 (.slice pv l.length cv) gl l ∧ w5.cell? ⟨f, 0, none⟩ = some (.int .i64 Wn)) := by
                    obtain ⟨b1, b2⟩ := HI4.out.1.bad hW5 hU5
                    refine ⟨b1, HI4.out.2.1.trans b2, HI4.out.2.2.1.keep (fun h => hU5.block gl (HI4.out.2.2.1.lt h) (HBase.out.hgl (by omega)).2.1), ?_⟩
                    exact (World.cell?_of_block (w := w4) (a := ⟨f, 0, none⟩) (hU5.block f (block_lt_of_cell HI4.out.2.2.2) hfb)).trans HI4.out.2.2.2
                  clear hW5 hU5
                  go_wp2_with fail
                  refine (give_w b f gl (Ys Y r ab (D' 11)) s limit a _ (.slice pv l.length cv) l Wn (errN 0 10) _ HI5.out.1 (fun h0 => by rw [upV_same] at h0; injection h0 with _ h0; simp [errN] at h0) (upV_same _ _ _) HI5.out.2.2.2 HI5.out.2.2.1 (fun h => (HBase.out.hgl (by omega)).2.1) ha (by omega)).mono ?_
                  rintro x w6 ⟨rfl, C2, g1, g2, g3, _⟩
                  have HG : Hid (CompQ b k Y s limit a C D w (.returned (.tuple #[])) w6) := fin_give HBase.out HI.out HI5.out.2.1 g1 g2 g3 HI5.out.1
                  clear g1 g2 g3
                  go_wp2_with fail
                  exact bodyPost_end (results_none rfl _ _ _) rfl HG.out
              · have he0 : (e == 0) = false := by rw [beq_eq_false_iff_ne]; exact he
                go_wp2_with fail
                refine (give_w b f gl (Ys Y r ab (D' 11)) s limit a C' (.slice pv l.length cv) l Wn e _ HI4.out.1 HI.out.rep HE.out HI4.out.2.2.2 HI4.out.2.2.1 (fun h => (HBase.out.hgl (by omega)).2.1) ha (by omega)).mono ?_
                rintro x w6 ⟨rfl, C2, g1, g2, g3, _⟩
                have HG : Hid (CompQ b k Y s limit a C D w (.returned (.tuple #[])) w6) := fin_give HBase.out HI.out HI4.out.2.1 g1 g2 g3 HI4.out.1
                clear g1 g2 g3
                go_wp2_with fail
                exact bodyPost_end (results_none rfl _ _ _) rfl HG.out
end Go.Proofs.Ytkfilgfcgmohlaa
