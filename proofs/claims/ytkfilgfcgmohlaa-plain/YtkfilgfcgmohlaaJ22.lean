import Derived.Test.YtkfilgfcgmohlaaJ21
import Derived.WalkKit
import Derived.WalkSpells
import Derived.WalkLawsBesides
import Derived.Deep.QuietTactic
import Derived.BigQuiet
import Derived.Deep.AppendLies
import Derived.Laws.OwnMore
import Derived.Deep.Upon
namespace Go.Proofs.Ytkfilgfcgmohlaa
open Go.RowKit
/-- may n bytes come out? the error -/
def roomE1 (L a n : Nat) (W e0 : Int) : Int := if mostN W < (L : Int) - (a : Int) + (n : Int) then errN e0 7 else e0
def roomE (L a n : Nat) (W limit e0 : Int) : Int := if limit < (L : Int) + (n : Int) then errN (roomE1 L a n W e0) 14 else roomE1 L a n W e0
theorem upV_upV (C : Nat → Value) (k : Nat) (u v : Value) : upV (upV C k u) k v = upV C k v := by funext i; unfold upV; split <;> rfl
theorem upV_id {C : Nat → Value} {k : Nat} {v : Value} (h : C k = v) : upV C k v = C := by
  funext i; unfold upV; split
  · rename_i e; rw [e]; exact h.symm
  · rfl
set_option maxRecDepth 100000 in
set_option maxHeartbeats 2000000 in
theorem room_any (b f : Nat) (C : Nat → Value) (pa : Option Addr) (L cap a n : Nat) (W limit e0 : Int) (w : World) (h : Wc w b C) (h3 : C 3 = .slice pa L cap) (h6 : C 6 = .int .i64 (a : Int)) (h2 : C 2 = .int .i64 limit) (h15 : C 15 = .int .i64 e0) (hf : w.cell? ⟨f, 0, none⟩ = some (.int .i64 W)) (hL : L ≤ 1099511627776) (ha : a ≤ L) (hn : n ≤ 1099511627776) :
    Calls Try.prog 55 #[.pointer (some ⟨b, 0, none⟩), .int .i64 (n : Int), .pointer (some ⟨f, 0, none⟩)] w fun x w' => x = .returned (.tuple #[]) ∧ Wc w' b (upV C 15 (.int .i64 (roomE L a n W limit e0))) ∧ Upd b w w' := by
  have c2 := h.c 2 (by omega)
  have c3 := h.c 3 (by omega)
  have c6 := h.c 6 (by omega)
  rw [h2] at c2
  rw [h3] at c3
  rw [h6] at c6
  have HW : Hid (Wc w b C) := h
  have HC : Hid (C 15 = .int .i64 e0 ∧ C 2 = .int .i64 limit ∧ C 3 = .slice pa L cap) := ⟨h15, h2, h3⟩
  have HR : Hid (roomE L a n W limit e0 = if limit < (L : Int) + (n : Int) then errN (roomE1 L a n W e0) 14 else roomE1 L a n W e0) := rfl
  have HR1 : Hid (roomE1 L a n W e0 = if mostN W < (L : Int) - (a : Int) + (n : Int) then errN e0 7 else e0) := rfl
  clear h h2 h3 h6 h15
  go_enter Try.func55, Try.ntmps55
  go_wp2_with fail
  refine (most_any f W _ hf).mono ?_
  rintro x w1 ⟨rfl, hw1⟩
  rw [hw1]
  clear hw1
  obtain ⟨M, hM⟩ : ∃ M, M = mostN W := ⟨_, rfl⟩
  rw [← hM] at HR1 ⊢
  clear hM hf
  by_cases hb1 : M < (L : Int) - (a : Int) + (n : Int)
  · have hd1 : decide (M < (L : Int) - (a : Int) + (n : Int)) = true := decide_eq_true hb1
    rw [if_pos hb1] at HR1
    rw [HR1.out] at HR
    go_wp2_with fail
    go_region
    go_wp2_with fail
    refine (bad_any b C e0 7 _ (HW.out.sm ((Sm.refl w).drew)) HC.out.1).mono ?_
    rintro x w2 ⟨rfl, hW2, hU2⟩
    have HW2 : Hid (Wc w2 b (upV C 15 (.int .i64 (errN e0 7)))) := hW2
    have HU2 : Hid (Upd b w w2) := ((Upd.refl b w).drew).trans hU2
    have d2 := hW2.c 2 (by omega)
    have d3 := hW2.c 3 (by omega)
    rw [upV_other _ _ _ _ (by omega), HC.out.2.1] at d2
    rw [upV_other _ _ _ _ (by omega), HC.out.2.2] at d3
    clear hW2 hU2 c2 c3 c6
    by_cases hb2 : limit < (L : Int) + (n : Int)
    · have hd2 : decide (limit < (L : Int) + (n : Int)) = true := decide_eq_true hb2
      rw [if_pos hb2] at HR
      go_wp2_with fail
      go_region
      go_wp2_with fail
      refine (bad_any b _ (errN e0 7) 14 _ (HW2.out.sm ((Sm.refl w2).drew)) (upV_same _ _ _)).mono ?_
      rintro x w3 ⟨rfl, hW3, hU3⟩
      have HF : Hid (Wc w3 b (upV C 15 (.int .i64 (roomE L a n W limit e0))) ∧ Upd b w w3) := ⟨by rw [HR.out]; rw [upV_upV] at hW3; exact hW3, HU2.out.trans (((Upd.refl b w2).drew).trans hU3)⟩
      clear hW3 hU3
      go_wp2_with fail
      exact bodyPost_end (results_none rfl _ _ _) rfl ⟨rfl, HF.out⟩
    · have hd2 : decide (limit < (L : Int) + (n : Int)) = false := decide_eq_false hb2
      rw [if_neg hb2] at HR
      go_wp2_with fail
      go_region
      go_wp2_with fail
      exact bodyPost_end (results_none rfl _ _ _) rfl ⟨rfl, by rw [HR.out]; exact HW2.out.sm ((Sm.refl w2).drew), HU2.out.drew⟩
  · have hd1 : decide (M < (L : Int) - (a : Int) + (n : Int)) = false := decide_eq_false hb1
    rw [if_neg hb1] at HR1
    rw [HR1.out] at HR
    by_cases hb2 : limit < (L : Int) + (n : Int)
    · have hd2 : decide (limit < (L : Int) + (n : Int)) = true := decide_eq_true hb2
      rw [if_pos hb2] at HR
      go_wp2_with fail
      go_region
      go_wp2_with fail
      go_region
      go_wp2_with fail
      refine (bad_any b C e0 14 _ (HW.out.sm (((Sm.refl w).drew).drew)) HC.out.1).mono ?_
      rintro x w3 ⟨rfl, hW3, hU3⟩
      have HF : Hid (Wc w3 b (upV C 15 (.int .i64 (roomE L a n W limit e0))) ∧ Upd b w w3) := ⟨by rw [HR.out]; exact hW3, (((Upd.refl b w).drew).drew).trans hU3⟩
      clear hW3 hU3
      go_wp2_with fail
      exact bodyPost_end (results_none rfl _ _ _) rfl ⟨rfl, HF.out⟩
    · have hd2 : decide (limit < (L : Int) + (n : Int)) = false := decide_eq_false hb2
      rw [if_neg hb2] at HR
      go_wp2_with fail
      go_region
      go_wp2_with fail
      go_region
      go_wp2_with fail
      exact bodyPost_end (results_none rfl _ _ _) rfl ⟨rfl, by rw [HR.out, upV_id HC.out.1]; exact HW.out.sm (((Sm.refl w).drew).drew), ((Upd.refl b w).drew).drew⟩
end Go.Proofs.Ytkfilgfcgmohlaa
namespace Go.Proofs.Ytkfilgfcgmohlaa
open Go.RowKit
/-- bytes in memory, as a slice: they lie in block g -/
structure ByA (w : World) (v : Value) (g : Nat) (l : List Nat) : Prop where
  ex : ∃ pa cap off, v = .slice pa l.length cap ∧ l.length ≤ cap ∧ (0 < l.length → pa = some ⟨g, off, none⟩) ∧ ∀ i, i < l.length → w.cell? ⟨g, off + i, none⟩ = some (.int .u8 (wAt l i : Int))
theorem ByA.lt {w : World} {v : Value} {g : Nat} {l : List Nat} (h : ByA w v g l) (hl : 0 < l.length) : g < w.heap.size := by
  obtain ⟨pa, cap, off, _, _, _, hc⟩ := h.ex
  exact block_lt_of_cell (hc 0 hl)
theorem ByA.keep {w w' : World} {v : Value} {g : Nat} {l : List Nat} (h : ByA w v g l) (hg : 0 < l.length → w'.heap[g]? = w.heap[g]?) : ByA w' v g l := by
  obtain ⟨pa, cap, off, h1, h2, h3, h4⟩ := h.ex
  exact ⟨pa, cap, off, h1, h2, h3, fun i hi => (World.cell?_of_block (w := w) (a := ⟨g, off + i, none⟩) (hg (by omega))).trans (h4 i hi)⟩
/-- w' is w but for block b, a row's own block, and new blocks -/
structure Upd2 (b : Nat) (o : Option Nat) (w w' : World) : Prop where
  os : w'.os = w.os
  tape : w'.tape = w.tape
  output : w'.output = w.output
  size : w.heap.size ≤ w'.heap.size
  block : ∀ k, k < w.heap.size → k ≠ b → some k ≠ o → w'.heap[k]? = w.heap[k]?
theorem Upd.upd2 {b : Nat} {w w' : World} (h : Upd b w w') (o : Option Nat) : Upd2 b o w w' := ⟨h.os, h.tape, h.output, h.size, fun k h1 h2 _ => h.block k h1 h2⟩
/-- the row of what came out -/
structure OutAt (w : World) (vo : Value) (out : List Nat) : Prop where
  row : w.ownsRow 0 5 1 vo out.length (bvs out)
theorem OutAt.shape {w : World} {vo : Value} {out : List Nat} (h : OutAt w vo out) : ∃ pa cap, vo = .slice pa out.length cap := by
  obtain ⟨pa, _, cap, hv, _⟩ := row_open h.row
  exact ⟨pa, cap, hv⟩
/-- where a row lies behind an append: where it lay, or in a new block -/
def Moved (w : World) (vo vo' : Value) : Prop := vo'.ownBlock = vo.ownBlock ∨ ∃ k, vo'.ownBlock = some k ∧ w.heap.size ≤ k
/-- 'append(out, bytes...)', run -/
theorem out_run {W : World} {vo vb : Value} {out l : List Nat} {gb : Nat} (h : OutAt W vo out) (hb : ByA W vb gb l) (ho : out.length ≤ 1099511627) (hl : l.length ≤ 1099511627) (ty : TypeId) :
    ∃ vo' w2, (Builtin.append_ #[33, 33] ty #[vo, vb]).run Try.prog W = .ok vo' w2 ∧ OutAt w2 vo' (out ++ l) ∧ W.grownBy w2 vo.ownBlock ∧ Moved W vo vo' := by
  obtain ⟨i0, hi0, hz0, hz1, hz2⟩ := fInfo fByte
  obtain ⟨pa, cap, off, rfl, hcap, hpa, hc⟩ := hb.ex
  by_cases h0 : 0 < l.length
  · obtain rfl := hpa h0
    obtain ⟨g1, cap1, w2, hrun, hown, hgrow, hat, hlt⟩ := run_append_lies (P := Try.prog) W 33 ty 0 5 i0 (.int .u8 0) 1 1 Try.underlying33 hi0 hz0 hz1 hz2 rfl (by decide) vo out.length (bvs out) h.row ⟨gb, off, none⟩ l.length cap (bvs l) (by rw [bvs_len]; omega)
      (by
        intro j u hj
        have hjl : j < l.length := by
          rcases Nat.lt_or_ge j l.length with h' | h'
          · exact h'
          · rw [List.getElem?_eq_none (by rw [bvs_len]; omega)] at hj; cases hj
        rw [bvs_at l j hjl] at hj
        cases hj
        have hadd : (⟨gb, off, none⟩ : Addr).add j = ⟨gb, off + j, none⟩ := by unfold Addr.add; split <;> simp_all
        rw [hadd]; exact hc j hjl)
      (by intro u hu; simp [bvs] at hu; obtain ⟨_, _, rfl⟩ := hu; rfl) h0 (by unfold maxLen; omega) (by omega) (Nat.zero_le _) _ rfl
    refine ⟨_, w2, hrun, ⟨by rw [bvs_app, List.length_append]; exact hown⟩, hgrow, ?_⟩
    rcases hat with e | e
    · exact .inl (by rw [e]; rfl)
    · exact .inr ⟨g1, rfl, by omega⟩
  · have hl0 : l = [] := List.length_eq_zero_iff.1 (by omega)
    subst hl0
    obtain ⟨po, _, co, hv, _⟩ := row_open h.row
    have hle : out.length ≤ co := by
      rcases h.row.2 with ⟨e1, e2⟩ | ⟨g', cap', cur, e1, _, _, h4, _⟩
      · rw [hv] at e1; simp at e1; omega
      · rw [hv] at e1; simp at e1; omega
    subst hv
    have hsrc : Src Try.prog i0.size 33 (.slice pa ([] : List Nat).length cap) 0 [] W := by
      cases pa with
      | none => exact Src.ofNil W Try.underlying33 cap
      | some a => exact Src.ofSlice W Try.underlying33 a 0 cap [] (by simp) (fun j u h => by simp at h) (fun u h => by cases h)
    refine ⟨_, W, run_append_nothing W 33 33 ty 5 i0 Try.underlying33 hi0 po out.length co hle _ hsrc, ⟨by rw [List.append_nil]; exact h.row⟩, ⟨rfl, rfl, rfl, Nat.le_refl _, fun _ _ _ => rfl⟩, .inl rfl⟩
/-- at a plain region's list -/
theorem out_list {wr W : World} {vo vb : Value} {out l : List Nat} {gb : Nat} {ops : Array Oper} {rest : List Oper} {o : Oper} {a : Act} {Q : Exit → Act → World → Prop} (hgd : o.guard = none) (s x : Operand)
    (ho : o.op = .call { callee := .builtin .append, args := #[s, x], argTypes := #[33, 33] }) (hs : a.eval s = vo) (hx : a.eval x = vb) (hW : wr = W)
    (h : OutAt wr vo out) (hb : ByA wr vb gb l) (h1 : out.length ≤ 1099511627) (h2 : l.length ≤ 1099511627)
    (hK : ∀ pa' cap' w2, Hid (OutAt w2 (.slice pa' (out ++ l).length cap') (out ++ l) ∧ wr.grownBy w2 vo.ownBlock ∧ Moved wr vo (.slice pa' (out ++ l).length cap')) → wpList Try.prog ops Q rest (a.put o.dst (.slice pa' (out ++ l).length cap')) w2) :
    wpList Try.prog ops Q (o :: rest) a W := by
  subst hW
  refine wpList_plain hgd fun _ hKK => ?_
  obtain ⟨vo', w2, hr, h3, h4, h5⟩ := out_run h hb h1 h2 o.type
  obtain ⟨pa', cap', rfl⟩ := h3.shape
  unfold Oper.wp execOp
  simp only [ho, resolve, invoke, builtin, Sem.run_bind, Sem.run_pure, Result.andThen_ok, List.map_toArray, List.map_cons, List.map_nil, hs, hx, hr]
  exact hKK _ _ (hK pa' cap' w2 ⟨h3, h4, h5⟩)
/-- what comes out -/
def giveO (e : Int) (out l : List Nat) : List Nat := if e = 0 then out ++ l else out
def GiveQ (b : Nat) (C : Nat → Value) (vo : Value) (out l : List Nat) (a : Nat) (W limit e0 : Int) (w : World) (x : Ending) (w' : World) : Prop :=
  ∃ vo', x = .returned (.tuple #[]) ∧ Wc w' b (upV (upV C 15 (.int .i64 (roomE out.length a l.length W limit e0))) 3 vo') ∧ OutAt w' vo' (giveO (roomE out.length a l.length W limit e0) out l) ∧ Moved w vo vo' ∧ Upd2 b vo.ownBlock w w'
set_option maxRecDepth 100000 in
set_option maxHeartbeats 2000000 in
theorem give_any (b f gb : Nat) (C : Nat → Value) (vo vb : Value) (out l : List Nat) (a : Nat) (W limit e0 : Int) (w : World) (h : Wc w b C) (h3 : C 3 = vo) (h6 : C 6 = .int .i64 (a : Int)) (h2 : C 2 = .int .i64 limit) (h15 : C 15 = .int .i64 e0) (hf : w.cell? ⟨f, 0, none⟩ = some (.int .i64 W))
    (hO : OutAt w vo out) (hB : ByA w vb gb l) (hob : vo.ownBlock ≠ some b) (hgb : gb ≠ b) (hL : out.length ≤ 1099511627) (ha : a ≤ out.length) (hn : l.length ≤ 1099511627) :
    Calls Try.prog 38 #[.pointer (some ⟨b, 0, none⟩), vb, .pointer (some ⟨f, 0, none⟩)] w fun x w' => GiveQ b C vo out l a W limit e0 w x w' := by
  obtain ⟨po, co, hvo⟩ := hO.shape
  obtain ⟨pb, cb, off, hvb, hcb, hpb, _⟩ := hB.ex
  subst hvb
  rw [hvo] at h3
  have HO : Hid (OutAt w vo out ∧ ByA w (.slice pb l.length cb) gb l ∧ vo = .slice po out.length co) := ⟨hO, hB, hvo⟩
  have HW : Hid (Wc w b C) := h
  have HC : Hid (C 3 = .slice po out.length co) := h3
  have HN : Hid (vo.ownBlock ≠ some b) := hob
  clear hO hB hvo hob h
  go_enter Try.func38, Try.ntmps38
  go_wp2_with fail
  refine (room_any b f C po out.length co a l.length W limit e0 _ HW.out HC.out h6 h2 h15 hf (by omega) ha (by omega)).mono ?_
  rintro x w1 ⟨rfl, hW1, hU1⟩
  obtain ⟨e1, he1⟩ : ∃ e1, e1 = roomE out.length a l.length W limit e0 := ⟨_, rfl⟩
  rw [← he1] at hW1
  have HE : Hid (e1 = roomE out.length a l.length W limit e0) := he1
  have HW1 : Hid (Wc w1 b (upV C 15 (.int .i64 e1))) := hW1
  have HU1 : Hid (Upd b w w1) := hU1
  have HO1 : Hid (OutAt w1 vo out) := ⟨row_same HO.out.1.row (fun g hg => hU1.block g (row_lt HO.out.1.row g hg).2 (fun e => HN.out (by rw [hg, e])))⟩
  have HB1 : Hid (ByA w1 (.slice pb l.length cb) gb l) := HO.out.2.1.keep (fun hl => hU1.block gb (HO.out.2.1.lt hl) hgb)
  have d15 := hW1.c 15 (by omega)
  rw [upV_same] at d15
  have d3 := hW1.c 3 (by omega)
  rw [upV_other _ _ _ _ (by omega), HC.out] at d3
  have f3 := hW1.fz 3
  clear hW1 hU1 he1 hf
  by_cases hz : e1 = 0
  · subst hz
    rw [HO.out.2.2] at HO1
    have hnb : some b ≠ (Value.slice po out.length co).ownBlock := fun e => HN.out (by rw [HO.out.2.2]; exact e.symm)
    have hbl : b < w1.heap.size := HW1.out.lt
    go_wp2_with (at_builtin; refine out_list (by rfl) (.tmp 20) (.tmp 21) (by rfl) (by first | rfl | simp) (by first | rfl | simp [Act.eval]) (by rfl) HO1.out HB1.out (by omega) (by omega) ?_; intro pa' cap' w2 hfin; have k3 := (hfin.out.2.1.cell_far ⟨b, 3, none⟩ hbl hnb).trans d3; have kf := (hfin.out.2.1.frozen_far ⟨b, 3, none⟩ hbl hnb).trans f3)
    have hvs : (Value.slice pa' (out.length + l.length) cap') = .slice pa' (out ++ l).length cap' := by rw [List.length_append]
    have hbo : some b ≠ (Value.slice pa' (out ++ l).length cap').ownBlock := by
      rcases hfin.out.2.2 with e | ⟨k, e, hk⟩
      · rw [e]; exact hnb
      · rw [e]; intro e'; injection e' with e'; omega
    refine bodyPost_end (results_none rfl _ _ _) rfl ⟨.slice pa' (out ++ l).length cap', rfl, ?_, ?_, ?_, ?_⟩
    · rw [← HE.out, hvs]
      exact (HW1.out.keep (hfin.out.2.1.block b hbl hnb)).set 3 (by omega) _
    · rw [← HE.out, hvs]
      unfold giveO
      rw [if_pos rfl]
      exact ⟨row_same hfin.out.1.row (fun g hg => Below.heap_setCell _ _ _ _ (fun e => hbo (by rw [hg]; exact congrArg some (Eq.symm e))))⟩
    · rw [HO.out.2.2]
      rcases hfin.out.2.2 with e | ⟨k, e, hk⟩
      · exact .inl e
      · exact .inr ⟨k, e, Nat.le_trans HU1.out.size hk⟩
    · refine ⟨?_, ?_, ?_, ?_, fun k h1 h2' h3' => ?_⟩
      · exact hfin.out.2.1.os.trans HU1.out.os
      · exact hfin.out.2.1.tape.trans HU1.out.tape
      · exact hfin.out.2.1.output.trans HU1.out.output
      · rw [World.size_setCell]; exact Nat.le_trans HU1.out.size hfin.out.2.1.size
      · rw [Below.heap_setCell _ _ _ _ (show k ≠ b from h2'), hfin.out.2.1.block k (Nat.lt_of_lt_of_le h1 HU1.out.size) (by rw [← HO.out.2.2]; exact h3'), HU1.out.block k h1 h2']
  · have hzb : (e1 == 0) = false := by rw [beq_eq_false_iff_ne]; exact hz
    go_wp2_with fail
    refine bodyPost_end (results_none rfl _ _ _) rfl ⟨vo, rfl, ?_, ?_, .inl rfl, HU1.out.upd2 _⟩
    · rw [← HE.out]
      refine HW1.out.ext (fun i hi => ?_)
      by_cases e3 : i = 3
      · subst e3; rw [upV_same, upV_other _ _ _ _ (by omega), HC.out, HO.out.2.2]
      · rw [upV_other (upV C 15 _) _ _ _ e3]
    · rw [← HE.out]; unfold giveO; rw [if_neg hz]; exact HO1.out
end Go.Proofs.Ytkfilgfcgmohlaa
namespace Go.Proofs.Ytkfilgfcgmohlaa
open Go.RowKit
/-- which of the last three; how far back -/
def whichN (v l : Nat) : Nat := if 3 < v then 3 else if l = 0 then v else v - 1
def backN (v l : Nat) (R0 R1 R2 : Int) : Int := if 3 < v then (v : Int) - 3 else if whichN v l = 3 then R0 - 1 else if whichN v l = 0 then R0 else if whichN v l = 1 then R1 else R2
/-- those that stood ahead move back by one -/
def repD (C : Nat → Value) (q k : Nat) : Nat → Value :=
  if k = 2 then C else if k = 1 then (if 2 ≤ q then upV C 12 (C 11) else C) else (if 1 ≤ q then upV (if 2 ≤ q then upV C 12 (C 11) else C) 11 (C 10) else C)
def offC (C : Nat → Value) (q : Nat) (back : Int) : Nat → Value := upV (repD C q 0) 10 (.int .i64 back)
theorem repD_c (C : Nat → Value) (q : Nat) (i : Nat) (h : i ≠ 11) (h' : i ≠ 12) (k : Nat) : repD C q k i = C i := by
  unfold repD
  split
  · rfl
  · split
    · split
      · rw [upV_other _ _ _ _ h']
      · rfl
    · split
      · rw [upV_other _ _ _ _ h]
        split
        · rw [upV_other _ _ _ _ h']
        · rfl
      · rfl
set_option maxRecDepth 100000 in
set_option maxHeartbeats 2000000 in
theorem offset_any (b : Nat) (C : Nat → Value) (v l : Nat) (R0 R1 R2 : Int) (w : World) (h : Wc w b C) (h10 : C 10 = .int .i64 R0) (h11 : C 11 = .int .i64 R1) (h12 : C 12 = .int .i64 R2) (hv : 1 ≤ v) (hv2 : v ≤ 1099511627776) (hR : -1099511627776 ≤ R0) (hR2 : R0 ≤ 1099511627776) :
    Calls Try.prog 88 #[.pointer (some ⟨b, 0, none⟩), .int .i64 (v : Int), .int .i64 (l : Int)] w fun x w' => x = .returned (.int .i64 (backN v l R0 R1 R2)) ∧ Wc w' b (offC C (whichN v l) (backN v l R0 R1 R2)) ∧ Upd b w w' := by
  have c10 := h.c 10 (by omega)
  have c11 := h.c 11 (by omega)
  have c12 := h.c 12 (by omega)
  rw [h10] at c10
  rw [h11] at c11
  rw [h12] at c12
  have HW : Hid (Wc w b C) := h
  have HC : Hid (C 10 = .int .i64 R0 ∧ C 11 = .int .i64 R1 ∧ C 12 = .int .i64 R2) := ⟨h10, h11, h12⟩
  clear h h10 h11 h12
  go_enter Try.func88, Try.ntmps88
  by_cases hv3 : 3 < v
  · have hd : decide ((3 : Int) < (v : Int)) = true := decide_eq_true (by omega)
    by_cases hl : l = 0
    · subst hl
      have HQ : Hid (whichN v 0 = 3 ∧ backN v 0 R0 R1 R2 = (v : Int) - 3) := by
        show _ ∧ _
        unfold backN whichN; rw [if_pos hv3, if_pos hv3]; exact ⟨rfl, rfl⟩
      go_wp2_with fail
      go_loopw [9] (fun kv wr => ∃ k : Nat, k ≤ 2 ∧ kv = .int .i64 k ∧ Wc wr b (repD C 3 k) ∧ Upd b w wr) (fun kv _ => (intOf kv).toNat)
      case atStart => exact ⟨2, by omega, rfl, HW.out, Upd.refl b w⟩
      case round =>
        obtain ⟨k, hk, rfl, hWr, hUr⟩ := hrel
        have HWr : Hid (Wc wr b (repD C 3 k) ∧ Upd b w wr) := ⟨hWr, hUr⟩
        have d10 := hWr.c 10 (by omega)
        have d11 := hWr.c 11 (by omega)
        have d12 := hWr.c 12 (by omega)
        have f10 := hWr.fz 10
        have f11 := hWr.fz 11
        have f12 := hWr.fz 12
        rw [repD_c C 3 10 (by omega) (by omega) k, HC.out.1] at d10
        clear hWr hUr
        rcases (show k = 2 ∨ k = 1 ∨ k = 0 by omega) with rfl | rfl | rfl
        · rw [show repD C 3 2 11 = C 11 from rfl, HC.out.2.1] at d11
          rw [show repD C 3 2 12 = C 12 from rfl, HC.out.2.2] at d12
          go_wp2_with fail
          go_region
          go_wp2_with fail
          refine ⟨⟨1, by omega, rfl, ?_, ?_⟩, by simp [intOf]⟩
          · rw [show repD C 3 1 = upV (repD C 3 2) 12 (.int .i64 R1) by rw [← HC.out.2.1]; rfl]; exact (HWr.out.1.set 12 (by omega) (.int .i64 R1)).sm ((Sm.refl _).drew)
          · first | exact (HWr.out.2.drew).setCell 12 _ | exact ((HWr.out.2).setCell 12 _).drew
        · obtain ⟨x11, hx11⟩ : ∃ x11, repD C 3 1 11 = .int .i64 x11 := ⟨R1, by rw [← HC.out.2.1]; rfl⟩
          rw [hx11] at d11
          go_wp2_with fail
          go_region
          go_wp2_with fail
          refine ⟨⟨0, by omega, rfl, ?_, ?_⟩, by simp [intOf]⟩
          · rw [show repD C 3 0 = upV (repD C 3 1) 11 (.int .i64 R0) by rw [← HC.out.1]; rfl]; exact (HWr.out.1.set 11 (by omega) (.int .i64 R0)).sm ((Sm.refl _).drew)
          · first | exact (HWr.out.2.drew).setCell 11 _ | exact ((HWr.out.2).setCell 11 _).drew
        · go_wp2_with fail
          go_ret
          refine ⟨by rw [HQ.out.2]; rfl, ?_, (HWr.out.2).setCell 10 _⟩
          rw [HQ.out.1, HQ.out.2]
          exact HWr.out.1.set 10 (by omega) _
    · have hlb : ((l : Int) == 0) = false := by rw [beq_eq_false_iff_ne]; omega
      have HQ : Hid (whichN v l = 3 ∧ backN v l R0 R1 R2 = (v : Int) - 3) := by
        show _ ∧ _
        unfold backN whichN; rw [if_pos hv3, if_pos hv3]; exact ⟨rfl, rfl⟩
      go_wp2_with fail
      go_loopw [9] (fun kv wr => ∃ k : Nat, k ≤ 2 ∧ kv = .int .i64 k ∧ Wc wr b (repD C 3 k) ∧ Upd b w wr) (fun kv _ => (intOf kv).toNat)
      case atStart => exact ⟨2, by omega, rfl, HW.out, Upd.refl b w⟩
      case round =>
        obtain ⟨k, hk, rfl, hWr, hUr⟩ := hrel
        have HWr : Hid (Wc wr b (repD C 3 k) ∧ Upd b w wr) := ⟨hWr, hUr⟩
        have d10 := hWr.c 10 (by omega)
        have d11 := hWr.c 11 (by omega)
        have d12 := hWr.c 12 (by omega)
        have f10 := hWr.fz 10
        have f11 := hWr.fz 11
        have f12 := hWr.fz 12
        rw [repD_c C 3 10 (by omega) (by omega) k, HC.out.1] at d10
        clear hWr hUr
        rcases (show k = 2 ∨ k = 1 ∨ k = 0 by omega) with rfl | rfl | rfl
        · rw [show repD C 3 2 11 = C 11 from rfl, HC.out.2.1] at d11
          rw [show repD C 3 2 12 = C 12 from rfl, HC.out.2.2] at d12
          go_wp2_with fail
          go_region
          go_wp2_with fail
          refine ⟨⟨1, by omega, rfl, ?_, ?_⟩, by simp [intOf]⟩
          · rw [show repD C 3 1 = upV (repD C 3 2) 12 (.int .i64 R1) by rw [← HC.out.2.1]; rfl]; exact (HWr.out.1.set 12 (by omega) (.int .i64 R1)).sm ((Sm.refl _).drew)
          · first | exact (HWr.out.2.drew).setCell 12 _ | exact ((HWr.out.2).setCell 12 _).drew
        · obtain ⟨x11, hx11⟩ : ∃ x11, repD C 3 1 11 = .int .i64 x11 := ⟨R1, by rw [← HC.out.2.1]; rfl⟩
          rw [hx11] at d11
          go_wp2_with fail
          go_region
          go_wp2_with fail
          refine ⟨⟨0, by omega, rfl, ?_, ?_⟩, by simp [intOf]⟩
          · rw [show repD C 3 0 = upV (repD C 3 1) 11 (.int .i64 R0) by rw [← HC.out.1]; rfl]; exact (HWr.out.1.set 11 (by omega) (.int .i64 R0)).sm ((Sm.refl _).drew)
          · first | exact (HWr.out.2.drew).setCell 11 _ | exact ((HWr.out.2).setCell 11 _).drew
        · go_wp2_with fail
          go_ret
          refine ⟨by rw [HQ.out.2]; rfl, ?_, (HWr.out.2).setCell 10 _⟩
          rw [HQ.out.1, HQ.out.2]
          exact HWr.out.1.set 10 (by omega) _
  · have hd : decide ((3 : Int) < (v : Int)) = false := decide_eq_false (by omega)
    by_cases hl : l = 0
    · subst hl
      rcases (show v = 1 ∨ v = 2 ∨ v = 3 by omega) with rfl | rfl | rfl
      · have HQ : Hid (whichN 1 0 = 1 ∧ backN 1 0 R0 R1 R2 = R1) := by
          show _ ∧ _
          exact ⟨rfl, rfl⟩
        go_wp2_with fail
        go_loopw [9] (fun kv wr => ∃ k : Nat, k ≤ 2 ∧ kv = .int .i64 k ∧ Wc wr b (repD C 1 k) ∧ Upd b w wr) (fun kv _ => (intOf kv).toNat)
        case atStart => exact ⟨2, by omega, rfl, HW.out, Upd.refl b w⟩
        case round =>
          obtain ⟨k, hk, rfl, hWr, hUr⟩ := hrel
          have HWr : Hid (Wc wr b (repD C 1 k) ∧ Upd b w wr) := ⟨hWr, hUr⟩
          have d10 := hWr.c 10 (by omega)
          have d11 := hWr.c 11 (by omega)
          have d12 := hWr.c 12 (by omega)
          have f10 := hWr.fz 10
          have f11 := hWr.fz 11
          have f12 := hWr.fz 12
          rw [repD_c C 1 10 (by omega) (by omega) k, HC.out.1] at d10
          clear hWr hUr
          rcases (show k = 2 ∨ k = 1 ∨ k = 0 by omega) with rfl | rfl | rfl
          · rw [show repD C 1 2 11 = C 11 from rfl, HC.out.2.1] at d11
            rw [show repD C 1 2 12 = C 12 from rfl, HC.out.2.2] at d12
            go_wp2_with fail
            skip
            skip
            refine ⟨⟨1, by omega, rfl, ?_, ?_⟩, by simp [intOf]⟩
            · exact HWr.out.1
            · exact HWr.out.2
          · obtain ⟨x11, hx11⟩ : ∃ x11, repD C 1 1 11 = .int .i64 x11 := ⟨R1, by rw [← HC.out.2.1]; rfl⟩
            rw [hx11] at d11
            go_wp2_with fail
            go_region
            go_wp2_with fail
            refine ⟨⟨0, by omega, rfl, ?_, ?_⟩, by simp [intOf]⟩
            · rw [show repD C 1 0 = upV (repD C 1 1) 11 (.int .i64 R0) by rw [← HC.out.1]; rfl]; exact (HWr.out.1.set 11 (by omega) (.int .i64 R0)).sm ((Sm.refl _).drew)
            · first | exact (HWr.out.2.drew).setCell 11 _ | exact ((HWr.out.2).setCell 11 _).drew
          · go_wp2_with fail
            go_ret
            refine ⟨by rw [HQ.out.2]; rfl, ?_, (HWr.out.2).setCell 10 _⟩
            rw [HQ.out.1, HQ.out.2]
            exact HWr.out.1.set 10 (by omega) _
      · have HQ : Hid (whichN 2 0 = 2 ∧ backN 2 0 R0 R1 R2 = R2) := by
          show _ ∧ _
          exact ⟨rfl, rfl⟩
        go_wp2_with fail
        go_loopw [9] (fun kv wr => ∃ k : Nat, k ≤ 2 ∧ kv = .int .i64 k ∧ Wc wr b (repD C 2 k) ∧ Upd b w wr) (fun kv _ => (intOf kv).toNat)
        case atStart => exact ⟨2, by omega, rfl, HW.out, Upd.refl b w⟩
        case round =>
          obtain ⟨k, hk, rfl, hWr, hUr⟩ := hrel
          have HWr : Hid (Wc wr b (repD C 2 k) ∧ Upd b w wr) := ⟨hWr, hUr⟩
          have d10 := hWr.c 10 (by omega)
          have d11 := hWr.c 11 (by omega)
          have d12 := hWr.c 12 (by omega)
          have f10 := hWr.fz 10
          have f11 := hWr.fz 11
          have f12 := hWr.fz 12
          rw [repD_c C 2 10 (by omega) (by omega) k, HC.out.1] at d10
          clear hWr hUr
          rcases (show k = 2 ∨ k = 1 ∨ k = 0 by omega) with rfl | rfl | rfl
          · rw [show repD C 2 2 11 = C 11 from rfl, HC.out.2.1] at d11
            rw [show repD C 2 2 12 = C 12 from rfl, HC.out.2.2] at d12
            go_wp2_with fail
            go_region
            go_wp2_with fail
            refine ⟨⟨1, by omega, rfl, ?_, ?_⟩, by simp [intOf]⟩
            · rw [show repD C 2 1 = upV (repD C 2 2) 12 (.int .i64 R1) by rw [← HC.out.2.1]; rfl]; exact (HWr.out.1.set 12 (by omega) (.int .i64 R1)).sm ((Sm.refl _).drew)
            · first | exact (HWr.out.2.drew).setCell 12 _ | exact ((HWr.out.2).setCell 12 _).drew
          · obtain ⟨x11, hx11⟩ : ∃ x11, repD C 2 1 11 = .int .i64 x11 := ⟨R1, by rw [← HC.out.2.1]; rfl⟩
            rw [hx11] at d11
            go_wp2_with fail
            go_region
            go_wp2_with fail
            refine ⟨⟨0, by omega, rfl, ?_, ?_⟩, by simp [intOf]⟩
            · rw [show repD C 2 0 = upV (repD C 2 1) 11 (.int .i64 R0) by rw [← HC.out.1]; rfl]; exact (HWr.out.1.set 11 (by omega) (.int .i64 R0)).sm ((Sm.refl _).drew)
            · first | exact (HWr.out.2.drew).setCell 11 _ | exact ((HWr.out.2).setCell 11 _).drew
          · go_wp2_with fail
            go_ret
            refine ⟨by rw [HQ.out.2]; rfl, ?_, (HWr.out.2).setCell 10 _⟩
            rw [HQ.out.1, HQ.out.2]
            exact HWr.out.1.set 10 (by omega) _
      · have HQ : Hid (whichN 3 0 = 3 ∧ backN 3 0 R0 R1 R2 = R0 - 1) := by
          show _ ∧ _
          exact ⟨rfl, rfl⟩
        go_wp2_with fail
        go_loopw [9] (fun kv wr => ∃ k : Nat, k ≤ 2 ∧ kv = .int .i64 k ∧ Wc wr b (repD C 3 k) ∧ Upd b w wr) (fun kv _ => (intOf kv).toNat)
        case atStart => exact ⟨2, by omega, rfl, HW.out, Upd.refl b w⟩
        case round =>
          obtain ⟨k, hk, rfl, hWr, hUr⟩ := hrel
          have HWr : Hid (Wc wr b (repD C 3 k) ∧ Upd b w wr) := ⟨hWr, hUr⟩
          have d10 := hWr.c 10 (by omega)
          have d11 := hWr.c 11 (by omega)
          have d12 := hWr.c 12 (by omega)
          have f10 := hWr.fz 10
          have f11 := hWr.fz 11
          have f12 := hWr.fz 12
          rw [repD_c C 3 10 (by omega) (by omega) k, HC.out.1] at d10
          clear hWr hUr
          rcases (show k = 2 ∨ k = 1 ∨ k = 0 by omega) with rfl | rfl | rfl
          · rw [show repD C 3 2 11 = C 11 from rfl, HC.out.2.1] at d11
            rw [show repD C 3 2 12 = C 12 from rfl, HC.out.2.2] at d12
            go_wp2_with fail
            go_region
            go_wp2_with fail
            refine ⟨⟨1, by omega, rfl, ?_, ?_⟩, by simp [intOf]⟩
            · rw [show repD C 3 1 = upV (repD C 3 2) 12 (.int .i64 R1) by rw [← HC.out.2.1]; rfl]; exact (HWr.out.1.set 12 (by omega) (.int .i64 R1)).sm ((Sm.refl _).drew)
            · first | exact (HWr.out.2.drew).setCell 12 _ | exact ((HWr.out.2).setCell 12 _).drew
          · obtain ⟨x11, hx11⟩ : ∃ x11, repD C 3 1 11 = .int .i64 x11 := ⟨R1, by rw [← HC.out.2.1]; rfl⟩
            rw [hx11] at d11
            go_wp2_with fail
            go_region
            go_wp2_with fail
            refine ⟨⟨0, by omega, rfl, ?_, ?_⟩, by simp [intOf]⟩
            · rw [show repD C 3 0 = upV (repD C 3 1) 11 (.int .i64 R0) by rw [← HC.out.1]; rfl]; exact (HWr.out.1.set 11 (by omega) (.int .i64 R0)).sm ((Sm.refl _).drew)
            · first | exact (HWr.out.2.drew).setCell 11 _ | exact ((HWr.out.2).setCell 11 _).drew
          · go_wp2_with fail
            go_ret
            refine ⟨by rw [HQ.out.2]; rfl, ?_, (HWr.out.2).setCell 10 _⟩
            rw [HQ.out.1, HQ.out.2]
            exact HWr.out.1.set 10 (by omega) _
    · have hlb : ((l : Int) == 0) = false := by rw [beq_eq_false_iff_ne]; omega
      rcases (show v = 1 ∨ v = 2 ∨ v = 3 by omega) with rfl | rfl | rfl
      · have HQ : Hid (whichN 1 l = 0 ∧ backN 1 l R0 R1 R2 = R0) := by
          show _ ∧ _
          unfold backN whichN; simp [hl]
        go_wp2_with fail
        go_loopw [9] (fun kv wr => ∃ k : Nat, k ≤ 2 ∧ kv = .int .i64 k ∧ Wc wr b (repD C 0 k) ∧ Upd b w wr) (fun kv _ => (intOf kv).toNat)
        case atStart => exact ⟨2, by omega, rfl, HW.out, Upd.refl b w⟩
        case round =>
          obtain ⟨k, hk, rfl, hWr, hUr⟩ := hrel
          have HWr : Hid (Wc wr b (repD C 0 k) ∧ Upd b w wr) := ⟨hWr, hUr⟩
          have d10 := hWr.c 10 (by omega)
          have d11 := hWr.c 11 (by omega)
          have d12 := hWr.c 12 (by omega)
          have f10 := hWr.fz 10
          have f11 := hWr.fz 11
          have f12 := hWr.fz 12
          rw [repD_c C 0 10 (by omega) (by omega) k, HC.out.1] at d10
          clear hWr hUr
          rcases (show k = 2 ∨ k = 1 ∨ k = 0 by omega) with rfl | rfl | rfl
          · rw [show repD C 0 2 11 = C 11 from rfl, HC.out.2.1] at d11
            rw [show repD C 0 2 12 = C 12 from rfl, HC.out.2.2] at d12
            go_wp2_with fail
            skip
            skip
            refine ⟨⟨1, by omega, rfl, ?_, ?_⟩, by simp [intOf]⟩
            · exact HWr.out.1
            · exact HWr.out.2
          · obtain ⟨x11, hx11⟩ : ∃ x11, repD C 0 1 11 = .int .i64 x11 := ⟨R1, by rw [← HC.out.2.1]; rfl⟩
            rw [hx11] at d11
            go_wp2_with fail
            skip
            skip
            refine ⟨⟨0, by omega, rfl, ?_, ?_⟩, by simp [intOf]⟩
            · exact HWr.out.1
            · exact HWr.out.2
          · go_wp2_with fail
            go_ret
            refine ⟨by rw [HQ.out.2]; rfl, ?_, (HWr.out.2).setCell 10 _⟩
            rw [HQ.out.1, HQ.out.2]
            exact HWr.out.1.set 10 (by omega) _
      · have HQ : Hid (whichN 2 l = 1 ∧ backN 2 l R0 R1 R2 = R1) := by
          show _ ∧ _
          unfold backN whichN; simp [hl]
        go_wp2_with fail
        go_loopw [9] (fun kv wr => ∃ k : Nat, k ≤ 2 ∧ kv = .int .i64 k ∧ Wc wr b (repD C 1 k) ∧ Upd b w wr) (fun kv _ => (intOf kv).toNat)
        case atStart => exact ⟨2, by omega, rfl, HW.out, Upd.refl b w⟩
        case round =>
          obtain ⟨k, hk, rfl, hWr, hUr⟩ := hrel
          have HWr : Hid (Wc wr b (repD C 1 k) ∧ Upd b w wr) := ⟨hWr, hUr⟩
          have d10 := hWr.c 10 (by omega)
          have d11 := hWr.c 11 (by omega)
          have d12 := hWr.c 12 (by omega)
          have f10 := hWr.fz 10
          have f11 := hWr.fz 11
          have f12 := hWr.fz 12
          rw [repD_c C 1 10 (by omega) (by omega) k, HC.out.1] at d10
          clear hWr hUr
          rcases (show k = 2 ∨ k = 1 ∨ k = 0 by omega) with rfl | rfl | rfl
          · rw [show repD C 1 2 11 = C 11 from rfl, HC.out.2.1] at d11
            rw [show repD C 1 2 12 = C 12 from rfl, HC.out.2.2] at d12
            go_wp2_with fail
            skip
            skip
            refine ⟨⟨1, by omega, rfl, ?_, ?_⟩, by simp [intOf]⟩
            · exact HWr.out.1
            · exact HWr.out.2
          · obtain ⟨x11, hx11⟩ : ∃ x11, repD C 1 1 11 = .int .i64 x11 := ⟨R1, by rw [← HC.out.2.1]; rfl⟩
            rw [hx11] at d11
            go_wp2_with fail
            go_region
            go_wp2_with fail
            refine ⟨⟨0, by omega, rfl, ?_, ?_⟩, by simp [intOf]⟩
            · rw [show repD C 1 0 = upV (repD C 1 1) 11 (.int .i64 R0) by rw [← HC.out.1]; rfl]; exact (HWr.out.1.set 11 (by omega) (.int .i64 R0)).sm ((Sm.refl _).drew)
            · first | exact (HWr.out.2.drew).setCell 11 _ | exact ((HWr.out.2).setCell 11 _).drew
          · go_wp2_with fail
            go_ret
            refine ⟨by rw [HQ.out.2]; rfl, ?_, (HWr.out.2).setCell 10 _⟩
            rw [HQ.out.1, HQ.out.2]
            exact HWr.out.1.set 10 (by omega) _
      · have HQ : Hid (whichN 3 l = 2 ∧ backN 3 l R0 R1 R2 = R2) := by
          show _ ∧ _
          unfold backN whichN; simp [hl]
        go_wp2_with fail
        go_loopw [9] (fun kv wr => ∃ k : Nat, k ≤ 2 ∧ kv = .int .i64 k ∧ Wc wr b (repD C 2 k) ∧ Upd b w wr) (fun kv _ => (intOf kv).toNat)
        case atStart => exact ⟨2, by omega, rfl, HW.out, Upd.refl b w⟩
        case round =>
          obtain ⟨k, hk, rfl, hWr, hUr⟩ := hrel
          have HWr : Hid (Wc wr b (repD C 2 k) ∧ Upd b w wr) := ⟨hWr, hUr⟩
          have d10 := hWr.c 10 (by omega)
          have d11 := hWr.c 11 (by omega)
          have d12 := hWr.c 12 (by omega)
          have f10 := hWr.fz 10
          have f11 := hWr.fz 11
          have f12 := hWr.fz 12
          rw [repD_c C 2 10 (by omega) (by omega) k, HC.out.1] at d10
          clear hWr hUr
          rcases (show k = 2 ∨ k = 1 ∨ k = 0 by omega) with rfl | rfl | rfl
          · rw [show repD C 2 2 11 = C 11 from rfl, HC.out.2.1] at d11
            rw [show repD C 2 2 12 = C 12 from rfl, HC.out.2.2] at d12
            go_wp2_with fail
            go_region
            go_wp2_with fail
            refine ⟨⟨1, by omega, rfl, ?_, ?_⟩, by simp [intOf]⟩
            · rw [show repD C 2 1 = upV (repD C 2 2) 12 (.int .i64 R1) by rw [← HC.out.2.1]; rfl]; exact (HWr.out.1.set 12 (by omega) (.int .i64 R1)).sm ((Sm.refl _).drew)
            · first | exact (HWr.out.2.drew).setCell 12 _ | exact ((HWr.out.2).setCell 12 _).drew
          · obtain ⟨x11, hx11⟩ : ∃ x11, repD C 2 1 11 = .int .i64 x11 := ⟨R1, by rw [← HC.out.2.1]; rfl⟩
            rw [hx11] at d11
            go_wp2_with fail
            go_region
            go_wp2_with fail
            refine ⟨⟨0, by omega, rfl, ?_, ?_⟩, by simp [intOf]⟩
            · rw [show repD C 2 0 = upV (repD C 2 1) 11 (.int .i64 R0) by rw [← HC.out.1]; rfl]; exact (HWr.out.1.set 11 (by omega) (.int .i64 R0)).sm ((Sm.refl _).drew)
            · first | exact (HWr.out.2.drew).setCell 11 _ | exact ((HWr.out.2).setCell 11 _).drew
          · go_wp2_with fail
            go_ret
            refine ⟨by rw [HQ.out.2]; rfl, ?_, (HWr.out.2).setCell 10 _⟩
            rw [HQ.out.1, HQ.out.2]
            exact HWr.out.1.set 10 (by omega) _
end Go.Proofs.Ytkfilgfcgmohlaa
