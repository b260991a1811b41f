import Derived.Test.YtkfilgfcgmohlaaJ28
import Derived.WalkKit
import Derived.WalkSpells
import Derived.WalkLawsBesides
namespace Go.Proofs.Ytkfilgfcgmohlaa
open Go.RowKit
/-- a new tree is none -/
def NoneQ (b k : Nat) (C D : Nat → Value) (e0 : Int) (w : World) (x : Ending) (w' : World) : Prop :=
  x = .returned (.tuple #[]) ∧ Wc w' b (upV (upV (upV C 13 (.slice none 0 0)) 14 (.bool false)) 15 (.int .i64 (errN e0 9))) ∧ Bc w' k D ∧ Upd2 b (some k) w w'
/-- a new tree, one stream -/
def NewOneQ (b k : Nat) (C D : Nat → Value) (s : ByteArray) (cnt : Nat) (e0 : Int) (w : World) (x : Ending) (w' : World) : Prop :=
  ∃ r, TreeR s r ∧ match r with
    | none => NoneQ b k C D e0 w x w'
    | some (all, log) => takenT s ≤ s.size ∧ ∃ gc cap v l ok, x = .returned (.tuple #[]) ∧ SymsR (wAt all) all.length log (s.extract (takenT s) s.size) cnt l ok ∧ Wc w' b (upV (upV (upV C 13 (.slice (some ⟨gc, 0, none⟩) all.length cap)) 14 (.bool true)) 15 (.int .i64 (if ok then e0 else errN e0 10))) ∧ Bc w' k (upV D 5 v) ∧ w'.ownsRow w.heap.size 5 1 v l.length (bvs l) ∧ Upd2 b (some k) w w' ∧ CodeSt w' gc cap all log ∧ w.heap.size ≤ gc ∧ gc < w'.heap.size
set_option maxRecDepth 100000 in
set_option maxHeartbeats 2000000 in
theorem coded_21 (b k : Nat) (C D : Nat → Value) (s : ByteArray) (cnt : Nat) (e0 : Int) (w : World) (hW : Wc w b C) (hB : Bc w k D) (hbk : b ≠ k) (h15 : C 15 = .int .i64 e0) (d3 : D 3 = .int .i64 2) (d4 : D 4 = .int .i64 1) (hs : s.size ≤ 1048576) (hcnt : cnt ≤ 1048576) :
    Calls Try.prog 67 #[.pointer (some ⟨b, 0, none⟩), .string s, .int .i64 (cnt : Int), .pointer (some ⟨k, 0, none⟩)] w fun x w' => NewOneQ b k C D s cnt e0 w x w' := by
  have HW : Hid (Wc w b C) := hW
  have HB : Hid (Bc w k D) := hB
  have HC : Hid (C 15 = .int .i64 e0) := h15
  have b3 := hB.c 3 (by omega)
  rw [d3] at b3
  have HD4 : Hid (D 4 = .int .i64 1) := d4
  have hbl := hW.lt
  have hkl := hB.lt
  clear hW hB h15 d3 d4
  go_enter Try.func67, Try.ntmps67
  go_wp2_with fail
  refine (tree_any s _ hs).mono ?_
  rintro x w1 ⟨r, hr, hb1, hq⟩
  have HW1 : Hid (Wc w1 b C) := HW.out.below hb1 hbl
  have HB1 : Hid (Bc w1 k D) := HB.out.keep (hb1.block k hkl)
  have HU1 : Hid (Upd2 b (some k) w w1) := below_upd2 hb1 b (some k)
  have hb1s : w.heap.size ≤ w1.heap.size := hb1.size
  have k13 := HW1.out.c 13 (by omega)
  have f13 := HW1.out.fz 13
  have k14 := HW1.out.c 14 (by omega)
  have f14 := HW1.out.fz 14
  clear hb1 b3
  cases r with
  | none =>
    obtain ⟨i, rfl⟩ := hq
    have HT : Hid (TreeR s none) := hr
    clear hr
    have HW2 : Hid (Wc ((w1.setCell ⟨b, 13, none⟩ (.slice none 0 0)).setCell ⟨b, 14, none⟩ (.bool false)) b (upV (upV C 13 (.slice none 0 0)) 14 (.bool false))) := (HW1.out.set 13 (by omega) _).set 14 (by omega) _
    have HB2 : Hid (Bc ((w1.setCell ⟨b, 13, none⟩ (.slice none 0 0)).setCell ⟨b, 14, none⟩ (.bool false)) k D) := HB1.out.keep ((Below.heap_setCell _ _ _ _ (Ne.symm hbk)).trans (Below.heap_setCell _ _ _ _ (Ne.symm hbk)))
    have HU2 : Hid (Upd2 b (some k) w ((w1.setCell ⟨b, 13, none⟩ (.slice none 0 0)).setCell ⟨b, 14, none⟩ (.bool false))) := (HU1.out.setB 13 _).setB 14 _
    have c14 := HW2.out.c 14 (by omega)
    rw [upV_same] at c14
    go_wp2_with fail
    refine (bad_any b _ e0 9 _ HW2.out (by rw [upV_other _ _ _ _ (by omega), upV_other _ _ _ _ (by omega)]; exact HC.out)).mono ?_
    rintro x w3 ⟨rfl, hW3, hU3⟩
    have HF : Hid (NoneQ b k C D e0 w (.returned (.tuple #[])) w3) := ⟨rfl, hW3, HB2.out.keep (hU3.block k HB2.out.lt (Ne.symm hbk)), HU2.out.trans (hU3.upd2 _)⟩
    clear hW3 hU3
    go_wp2_with fail
    exact bodyPost_ret (results_none rfl _ _ _) rfl ⟨none, HT.out, HF.out⟩
  | some y =>
    obtain ⟨all, log⟩ := y
    obtain ⟨htk, gc, cap, rfl, hgc, hcd, hwh, hpos, h256⟩ := hq
    have HT : Hid (TreeR s (some (all, log)) ∧ takenT s ≤ s.size) := ⟨hr, htk⟩
    have hgb : gc ≠ b := by omega
    have hgk : gc ≠ k := by omega
    have hgl : gc < w1.heap.size := block_lt_of_cell (hcd.b 0 hpos)
    obtain ⟨W2, hW2⟩ : ∃ W2, W2 = (w1.setCell ⟨b, 13, none⟩ (.slice (some ⟨gc, 0, none⟩) all.length cap)).setCell ⟨b, 14, none⟩ (.bool true) := ⟨_, rfl⟩
    have HW2 : Hid (Wc W2 b (upV (upV C 13 (.slice (some ⟨gc, 0, none⟩) all.length cap)) 14 (.bool true))) := by rw [hW2]; exact (HW1.out.set 13 (by omega) _).set 14 (by omega) _
    have hk2 : ∀ q, q ≠ b → W2.heap[q]? = w1.heap[q]? := fun q hq => by rw [hW2]; exact (Below.heap_setCell _ _ _ _ hq).trans (Below.heap_setCell _ _ _ _ hq)
    have HB2 : Hid (Bc W2 k D) := HB1.out.keep (hk2 k (Ne.symm hbk))
    have HU2 : Hid (Upd2 b (some k) w W2) := by rw [hW2]; exact (HU1.out.setB 13 _).setB 14 _
    have hs2 : W2.heap.size = w1.heap.size := by rw [hW2, World.size_setCell, World.size_setCell]
    have hS2 : CodeSt W2 gc cap all log := ⟨⟨fun j hj => (World.cell?_of_block (w := w1) (a := ⟨gc, j * 2, none⟩) (hk2 gc hgb)).trans (hcd.b j hj), fun j hj => (World.cell?_of_block (w := w1) (a := ⟨gc, j * 2 + 1, none⟩) (hk2 gc hgb)).trans (hcd.v j hj)⟩, hwh, hpos, h256⟩
    have HS2 : Hid (CodeSt W2 gc cap all log) := hS2
    have c13 := HW2.out.c 13 (by omega)
    rw [upV_other _ _ _ _ (by omega), upV_same] at c13
    have c14 := HW2.out.c 14 (by omega)
    rw [upV_same] at c14
    have b4 := HB2.out.c 4 (by omega)
    rw [HD4.out] at b4
    have htI : (takenT s : Int) ≤ (s.size : Int) := by omega
    obtain ⟨tk, htke⟩ : ∃ tk, tk = takenT s := ⟨_, rfl⟩
    have HTK : Hid (tk = takenT s) := htke
    rw [← htke] at htI ⊢
    clear hr hcd hwh hS2 htke hk2 htk
    go_upto_region 4 with fail
    rw [← hW2]
    clear hW2 k13 k14 f13 f14
    go_wp2_with fail
    refine (symbols_any (wAt all) all.length log gc cap cnt (s.extract tk s.size) _ HS2.out.whole HS2.out.cd hpos h256 (by rw [ByteArray.size_extract]; omega) hcnt).mono ?_
    rintro x w3 ⟨v, l, ok, rfl, hR, hb3, hrow⟩
    obtain ⟨pa, g', cp, hv, _⟩ := row_open hrow
    subst hv
    have hb2 : b < W2.heap.size := HW2.out.lt
    have hk2' : k < W2.heap.size := HB2.out.lt
    have HR : Hid (SymsR (wAt all) all.length log (s.extract (takenT s) s.size) cnt l ok) := by rw [← HTK.out]; exact hR
    have HW3 : Hid (Wc w3 b (upV (upV C 13 (.slice (some ⟨gc, 0, none⟩) all.length cap)) 14 (.bool true))) := HW2.out.below hb3 hb2
    have HB3 : Hid (Bc w3 k D) := HB2.out.keep (hb3.block k hk2')
    have HS3 : Hid (CodeSt w3 gc cap all log ∧ gc < w3.heap.size) := ⟨⟨HS2.out.cd.below hb3 (by omega), HS2.out.whole, hpos, h256⟩, Nat.lt_of_lt_of_le (by omega) hb3.size⟩
    have HO : Hid (w3.ownsRow w.heap.size 5 1 (.slice pa l.length cp) l.length (bvs l) ∧ Upd2 b (some k) w w3) := ⟨row_mono hrow (by omega), HU2.out.trans (below_upd2 hb3 b (some k))⟩
    have k5 := HB3.out.c 5 (by omega)
    have f5 := HB3.out.fz 5
    have HW4 : Hid (Wc (w3.setCell ⟨k, 5, none⟩ (.slice pa l.length cp)) b (upV (upV C 13 (.slice (some ⟨gc, 0, none⟩) all.length cap)) 14 (.bool true))) := HW3.out.other _ _ hbk
    have HB4 : Hid (Bc (w3.setCell ⟨k, 5, none⟩ (.slice pa l.length cp)) k (upV D 5 (.slice pa l.length cp))) := HB3.out.set 5 (by omega) _
    have HO4 : Hid ((w3.setCell ⟨k, 5, none⟩ (.slice pa l.length cp)).ownsRow w.heap.size 5 1 (.slice pa l.length cp) l.length (bvs l)) := row_same HO.out.1 (fun g hg => Below.heap_setCell _ _ _ _ (by have := (row_lt HO.out.1 g hg).1; show g ≠ k; omega))
    have HU4 : Hid (Upd2 b (some k) w (w3.setCell ⟨k, 5, none⟩ (.slice pa l.length cp))) := HO.out.2.setO 5 _
    have HS4 : Hid (CodeSt (w3.setCell ⟨k, 5, none⟩ (.slice pa l.length cp)) gc cap all log ∧ gc < (w3.setCell ⟨k, 5, none⟩ (.slice pa l.length cp)).heap.size) :=
      ⟨⟨⟨fun j hj => by rw [cs_other (blk_ne (Ne.symm hgk))]; exact HS3.out.1.cd.b j hj, fun j hj => by rw [cs_other (blk_ne (Ne.symm hgk))]; exact HS3.out.1.cd.v j hj⟩, HS3.out.1.whole, hpos, h256⟩, by rw [World.size_setCell]; exact HS3.out.2⟩
    have HC3 : Hid (upV (upV C 13 (.slice (some ⟨gc, 0, none⟩) all.length cap)) 14 (.bool true) 15 = .int .i64 e0) := by show _ = _; rw [upV_other _ _ _ _ (by omega), upV_other _ _ _ _ (by omega)]; exact HC.out
    clear hR hb3 hrow c13 c14 b4
    cases ok with
    | true =>
      go_wp2_with fail
      refine bodyPost_ret (results_none rfl _ _ _) rfl ⟨some (all, log), HT.out.1, HT.out.2, gc, cap, _, l, true, rfl, HR.out, ?_, HB4.out, HO4.out, HU4.out, HS4.out.1, hgc, HS4.out.2⟩
      rw [if_pos rfl, upV_id HC3.out]; exact HW4.out
    | false =>
      go_wp2_with fail
      refine (bad_any b _ e0 10 _ HW4.out HC3.out).mono ?_
      rintro x w5 ⟨rfl, hW5, hU5⟩
      have HF : Hid (Wc w5 b (upV (upV (upV C 13 (.slice (some ⟨gc, 0, none⟩) all.length cap)) 14 (.bool true)) 15 (.int .i64 (errN e0 10))) ∧ Bc w5 k (upV D 5 (.slice pa l.length cp)) ∧ w5.ownsRow w.heap.size 5 1 (.slice pa l.length cp) l.length (bvs l) ∧ Upd2 b (some k) w w5 ∧ CodeSt w5 gc cap all log ∧ w.heap.size ≤ gc ∧ gc < w5.heap.size) :=
        ⟨hW5, HB4.out.keep (hU5.block k HB4.out.lt (Ne.symm hbk)), row_same HO4.out (fun g hg => hU5.block g (row_lt HO4.out g hg).2 (by have := (row_lt HO4.out g hg).1; omega)), HU4.out.trans (hU5.upd2 _),
         ⟨HS4.out.1.cd.upd hU5 HS4.out.2 hgb, HS4.out.1.whole, hpos, h256⟩, hgc, Nat.lt_of_lt_of_le HS4.out.2 hU5.size⟩
      clear hW5 hU5
      go_wp2_with fail
      exact bodyPost_ret (results_none rfl _ _ _) rfl ⟨some (all, log), HT.out.1, HT.out.2, gc, cap, _, l, false, rfl, HR.out, by rw [if_neg (by simp)]; exact HF.out.1, HF.out.2⟩
end Go.Proofs.Ytkfilgfcgmohlaa
namespace Go.Proofs.Ytkfilgfcgmohlaa
open Go.RowKit
set_option maxRecDepth 100000 in
set_option maxHeartbeats 2000000 in
/-- a kept tree is asked for, and there is none -/
theorem coded_3n (b k : Nat) (C D : Nat → Value) (s : ByteArray) (cnt : Nat) (e0 : Int) (w : World) (hW : Wc w b C) (hB : Bc w k D) (hbk : b ≠ k) (h14 : C 14 = .bool false) (h15 : C 15 = .int .i64 e0) (d3 : D 3 = .int .i64 3) :
    Calls Try.prog 67 #[.pointer (some ⟨b, 0, none⟩), .string s, .int .i64 (cnt : Int), .pointer (some ⟨k, 0, none⟩)] w fun x w' => x = .returned (.tuple #[]) ∧ Wc w' b (upV C 15 (.int .i64 (errN e0 9))) ∧ Bc w' k D ∧ Upd b w w' := by
  have HW : Hid (Wc w b C) := hW
  have HB : Hid (Bc w k D) := hB
  have HC : Hid (C 15 = .int .i64 e0) := h15
  have c14 := hW.c 14 (by omega)
  rw [h14] at c14
  have b3 := hB.c 3 (by omega)
  rw [d3] at b3
  clear hW hB h14 h15 d3
  go_enter Try.func67, Try.ntmps67
  go_wp2_with fail
  refine (bad_any b C e0 9 _ HW.out HC.out).mono ?_
  rintro x w1 ⟨rfl, hW1, hU1⟩
  have HF : Hid (Wc w1 b (upV C 15 (.int .i64 (errN e0 9))) ∧ Bc w1 k D ∧ Upd b w w1) := ⟨hW1, HB.out.keep (hU1.block k HB.out.lt (Ne.symm hbk)), hU1⟩
  clear hW1 hU1
  go_wp2_with fail
  exact bodyPost_ret (results_none rfl _ _ _) rfl ⟨rfl, HF.out⟩
end Go.Proofs.Ytkfilgfcgmohlaa
namespace Go.Proofs.Ytkfilgfcgmohlaa
open Go.RowKit
/-- w' is w but for the blocks of X, and new blocks -/
structure UpdS (X : Nat → Prop) (w w' : World) : Prop where
  os : w'.os = w.os
  tape : w'.tape = w.tape
  output : w'.output = w.output
  size : w.heap.size ≤ w'.heap.size
  block : ∀ k, k < w.heap.size → ¬ X k → w'.heap[k]? = w.heap[k]?
theorem UpdS.refl (X : Nat → Prop) (w : World) : UpdS X w w := ⟨rfl, rfl, rfl, Nat.le_refl _, fun _ _ _ => rfl⟩
theorem UpdS.trans {X Y : Nat → Prop} {w w1 w2 : World} (h : UpdS X w w1) (k : UpdS Y w1 w2) (hx : ∀ i, i < w.heap.size → Y i → X i) : UpdS X w w2 :=
  ⟨k.os.trans h.os, k.tape.trans h.tape, k.output.trans h.output, Nat.le_trans h.size k.size, fun i h1 h2 => (k.block i (Nat.lt_of_lt_of_le h1 h.size) (fun e => h2 (hx i h1 e))).trans (h.block i h1 h2)⟩
theorem UpdS.same {X : Nat → Prop} {w w1 w2 : World} (h : UpdS X w w1) (k : UpdS X w1 w2) : UpdS X w w2 := h.trans k (fun _ _ e => e)
theorem UpdS.sub {X Y : Nat → Prop} {w w' : World} (h : UpdS X w w') (hx : ∀ i, i < w.heap.size → X i → Y i) : UpdS Y w w' :=
  ⟨h.os, h.tape, h.output, h.size, fun i h1 h2 => h.block i h1 (fun e => h2 (hx i h1 e))⟩
theorem Upd.updS {b : Nat} {w w' : World} (h : Upd b w w') {X : Nat → Prop} (hx : X b) : UpdS X w w' := ⟨h.os, h.tape, h.output, h.size, fun k h1 h2 => h.block k h1 (fun e => h2 (e ▸ hx))⟩
theorem Upd2.updS {b : Nat} {o : Option Nat} {w w' : World} (h : Upd2 b o w w') {X : Nat → Prop} (hx : X b) (ho : ∀ k, o = some k → X k) : UpdS X w w' :=
  ⟨h.os, h.tape, h.output, h.size, fun k h1 h2 => h.block k h1 (fun e => h2 (e ▸ hx)) (fun e => h2 (ho k e.symm))⟩
theorem below_updS {w w' : World} (h : Below w.heap.size w w') (X : Nat → Prop) : UpdS X w w' := ⟨h.os, h.tape, h.output, h.size, fun k h1 _ => h.block k h1⟩
theorem sm_updS {w w' : World} (h : Sm w w') (X : Nat → Prop) : UpdS X w w' := ⟨h.os, h.tape, h.output, by rw [h.heap]; exact Nat.le_refl _, fun k _ _ => by rw [h.heap]⟩
theorem UpdS.setCell {X : Nat → Prop} {w w1 : World} (h : UpdS X w w1) (p : Addr) (v : Value) (hp : p.block < w.heap.size → X p.block) : UpdS X w (w1.setCell p v) :=
  ⟨h.os, h.tape, h.output, by rw [World.size_setCell]; exact h.size, fun i h1 h2 => (Below.heap_setCell _ _ _ _ (fun e => h2 (by rw [e]; exact hp (by rw [← e]; exact h1)))).trans (h.block i h1 h2)⟩
theorem UpdS.alloc {X : Nat → Prop} {w w1 : World} (h : UpdS X w w1) (o : Obj) : UpdS X w (w1.alloc o) :=
  ⟨h.os, h.tape, h.output, by rw [World.size_alloc]; exact Nat.le_trans h.size (Nat.le_succ _), fun i h1 h2 => (Below.heap_alloc _ _ _ (Nat.lt_of_lt_of_le h1 h.size)).trans (h.block i h1 h2)⟩
theorem grown_updS {w w' : World} {o : Option Nat} (h : w.grownBy w' o) {X : Nat → Prop} (ho : ∀ k, o = some k → X k) : UpdS X w w' :=
  ⟨h.os, h.tape, h.output, h.size, fun k h1 h2 => h.block k h1 (fun e => h2 (ho k e.symm))⟩
/-- a table by which codes can be told -/
structure GoodTb (t : Nat) (T : Tb) : Prop where
  sz : T.size = 2 ^ T.log
  lg : T.log ≤ 9
  code : ∀ x, x < T.size → CodeOk t (T.F x)
  bit : ∀ x, x < T.size → T.B x ≤ 9
  low : ∀ x, x < T.size → T.L x + 2 ^ T.B x ≤ T.size
theorem codeOk_top {t c : Nat} (ht : t < 3) (h : c ≤ topN t) : CodeOk t c := by
  unfold CodeOk; unfold topN at h
  rcases Nat.lt_or_ge t 1 with h1 | h1
  · rw [if_pos (by omega)] at h; omega
  · rw [if_neg (by omega)] at h
    rcases Nat.lt_or_ge t 2 with h2 | h2
    · rw [if_pos (by omega)] at h; omega
    · rw [if_neg (by omega)] at h; omega
theorem good_of {t : Nat} {o : List Int} {log : Nat} (ht : t < 3) (hsz : isSize (2 ^ log)) (hl : log ≤ 9) (h : Dist (topN t) o (2 ^ log)) : GoodTb t (ofT o log) := by
  refine ⟨rfl, hl, fun x hx => ?_, fun x hx => ?_, fun x hx => ?_⟩
  · have := (sym_ok o hsz h x hx).1
    have := h.len
    exact codeOk_top ht (by show symT o (2 ^ log) x ≤ _; omega)
  · exact Nat.le_trans (low_ok o hsz h x hx).1 hl
  · exact (low_ok o hsz h x hx).2.2
theorem good_lone {t c : Nat} (ht : t < 3) (hc : c ≤ topN t) : GoodTb t (loneT c) :=
  ⟨rfl, by show 0 ≤ 9; omega, fun _ _ => codeOk_top ht hc, fun _ _ => by show 0 ≤ 9; omega, fun _ _ => by show 0 + 2 ^ 0 ≤ 1; omega⟩
theorem logU_le (t : Nat) : logU t ≤ 9 := by unfold logU; split <;> omega
theorem good_tableS {t mode : Nat} {s : ByteArray} {has : Bool} {T : Tb} {n : Nat} (ht : t < 3) (h : tableS t mode s has = .set T n) : GoodTb t T := by
  unfold tableS at h
  split at h
  · cases h; exact good_of ht (usual_size t) (logU_le t) (usual_dist t ht)
  · split at h
    · split at h
      · cases h
      · rename_i h1
        cases h
        exact good_lone ht (by omega)
    · split at h
      · cases hH : headR s (accN t) (topN t) with
        | none => rw [hH] at h; cases h
        | some y =>
          obtain ⟨o, log, nb⟩ := y
          rw [hH] at h
          cases h
          obtain ⟨hl5, hl6, hnb, hd⟩ := headR_ok hH
          have hlo9 : log ≤ 9 := Nat.le_trans hl6 (acc_small t)
          exact good_of ht (pow_size hl5 hlo9) hlo9 hd
      · split at h <;> cases h
/-- the tables that are kept, outside of X -/
def TabOk (w : World) (C : Nat → Value) (X : Nat → Prop) (t : Nat) : Prop :=
  C (7 + t) = .pointer none ∨ ∃ tb lo hi T, C (7 + t) = .pointer (some ⟨tb, 0, none⟩) ∧ TbAt w lo hi tb T ∧ hi ≤ w.heap.size ∧ (∀ k, lo ≤ k → k < hi → ¬ X k) ∧ GoodTb t T
theorem TabOk.upd {w w' : World} {C C' : Nat → Value} {X X' : Nat → Prop} {t : Nat} (h : TabOk w C X t) (hu : UpdS X w w') (hc : C' (7 + t) = C (7 + t)) (hx : ∀ k, k < w.heap.size → X' k → X k) : TabOk w' C' X' t := by
  rcases h with h | ⟨tb, lo, hi, T, h1, h2, h3, h4, h5⟩
  · exact .inl (hc.trans h)
  · exact .inr ⟨tb, lo, hi, T, hc.trans h1, h2.keep (fun k k1 k2 => hu.block k (by omega) (h4 k k1 k2)), Nat.le_trans h3 hu.size, fun k k1 k2 e => h4 k k1 k2 (hx k (by omega) e), h5⟩
/-- the tree that is kept, outside of X -/
def TreeOk (w : World) (C : Nat → Value) (X : Nat → Prop) : Prop :=
  C 14 = .bool false ∨ (C 14 = .bool true ∧ ∃ gc cap all log, C 13 = .slice (some ⟨gc, 0, none⟩) all.length cap ∧ CodeSt w gc cap all log ∧ ¬ X gc)
theorem CodeSt.keep {w w' : World} {gc cap : Nat} {all : List Nat} {log : Nat} (h : CodeSt w gc cap all log) (hk : w'.heap[gc]? = w.heap[gc]?) : CodeSt w' gc cap all log :=
  ⟨⟨fun j hj => (World.cell?_of_block (w := w) (a := ⟨gc, j * 2, none⟩) hk).trans (h.cd.b j hj), fun j hj => (World.cell?_of_block (w := w) (a := ⟨gc, j * 2 + 1, none⟩) hk).trans (h.cd.v j hj)⟩, h.whole, h.pos, h.small⟩
theorem CodeSt.lt {w : World} {gc cap : Nat} {all : List Nat} {log : Nat} (h : CodeSt w gc cap all log) : gc < w.heap.size := block_lt_of_cell (h.cd.b 0 h.pos)
theorem TreeOk.upd {w w' : World} {C C' : Nat → Value} {X X' : Nat → Prop} (h : TreeOk w C X) (hu : UpdS X w w') (h13 : C' 13 = C 13) (h14 : C' 14 = C 14) (hx : ∀ k, k < w.heap.size → X' k → X k) : TreeOk w' C' X' := by
  rcases h with h | ⟨h1, gc, cap, all, log, h2, h3, h4⟩
  · exact .inl (h14.trans h)
  · exact .inr ⟨h14.trans h1, gc, cap, all, log, h13.trans h2, h3.keep (hu.block gc h3.lt h4), fun e => h4 (hx gc h3.lt e)⟩
/-- blocks that may turn while a compressed block is read: the world's, that of what came out, and those of Y -/
def Xs (b : Nat) (vo : Value) (Y : Nat → Prop) : Nat → Prop := fun j => j = b ∨ vo.ownBlock = some j ∨ Y j
/-- the reference's world within a frame -/
structure CSt (w : World) (b : Nat) (Y : Nat → Prop) (s : ByteArray) (limit : Int) (a : Nat) (C : Nat → Value) : Prop where
  wc : Wc w b C
  c0 : C 0 = .string s
  c2 : C 2 = .int .i64 limit
  c6 : C 6 = .int .i64 (a : Int)
  out : ∃ out, OutAt w (C 3) out ∧ a ≤ out.length ∧ out.length ≤ a + 131072
  fr : ∃ fr : Nat, C 5 = .int .i64 (fr : Int) ∧ fr ≤ a
  ob : ∀ j, (C 3).ownBlock = some j → j ≠ b ∧ ¬ Y j
  nb : ¬ Y b
  yb : ∀ j, Y j → j < w.heap.size
  tabs : ∀ t, t < 3 → TabOk w C (Xs b (C 3) Y) t
  tree : TreeOk w C (Xs b (C 3) Y)
  reps : ∃ R0 R1 R2 : Int, C 10 = .int .i64 R0 ∧ C 11 = .int .i64 R1 ∧ C 12 = .int .i64 R2 ∧ (0 ≤ R0 ∧ R0 ≤ 1099511627776) ∧ (0 ≤ R1 ∧ R1 ≤ 1099511627776) ∧ (0 ≤ R2 ∧ R2 ≤ 1099511627776)
  err : ∃ e : Int, C 15 = .int .i64 e
/-- what a step within a compressed block leaves -/
structure CStep (w w' : World) (b : Nat) (Y : Nat → Prop) (C C' : Nat → Value) : Prop where
  upd : UpdS (Xs b (C 3) Y) w w'
  moved : Moved w (C 3) (C' 3)
  c1 : C' 1 = C 1
  c4 : C' 4 = C 4
  c5 : C' 5 = C 5
theorem Xs_moved {w : World} {b : Nat} {vo vo' : Value} {Y : Nat → Prop} (h : Moved w vo vo') : ∀ k, k < w.heap.size → Xs b vo' Y k → Xs b vo Y k := by
  intro k hk hx
  rcases hx with e | e | e
  · exact .inl e
  · rcases h with h | ⟨j, h, hj⟩
    · exact .inr (.inl (by rw [← h]; exact e))
    · rw [h] at e; injection e with e; omega
  · exact .inr (.inr e)
/-- no other block -/
def Z0 : Nat → Prop := fun _ => False
theorem CStep.wide {w w' : World} {b : Nat} {Z : Nat → Prop} {C C' : Nat → Value} (h : CStep w w' b Z0 C C') : CStep w w' b Z C C' :=
  ⟨h.upd.sub (fun i _ hi => by rcases hi with e | e | e; exact .inl e; exact .inr (.inl e); exact e.elim), h.moved, h.c1, h.c4, h.c5⟩
theorem CStep.refl (w : World) (b : Nat) (Y : Nat → Prop) (C : Nat → Value) : CStep w w b Y C C := ⟨UpdS.refl _ _, .inl rfl, rfl, rfl, rfl⟩
theorem Moved.trans {w w1 : World} {a b c : Value} (h : Moved w a b) (k : Moved w1 b c) (hs : w.heap.size ≤ w1.heap.size) : Moved w a c := by
  rcases k with k | ⟨j, k, hj⟩
  · rcases h with h | ⟨i, h, hi⟩
    · exact .inl (k.trans h)
    · exact .inr ⟨i, k.trans h, hi⟩
  · exact .inr ⟨j, k, Nat.le_trans hs hj⟩
theorem CStep.trans {w w1 w2 : World} {b : Nat} {Y : Nat → Prop} {C C1 C2 : Nat → Value} (h : CStep w w1 b Y C C1) (k : CStep w1 w2 b Y C1 C2) : CStep w w2 b Y C C2 :=
  ⟨h.upd.trans k.upd (fun i hi hx => Xs_moved h.moved i hi hx), h.moved.trans k.moved h.upd.size, k.c1.trans h.c1, k.c4.trans h.c4, k.c5.trans h.c5⟩
/-- the world goes on where only blocks of X turn, its own cells as before -/
theorem CSt.upd {w w' : World} {b : Nat} {Y : Nat → Prop} {s : ByteArray} {limit : Int} {a : Nat} {C : Nat → Value} (h : CSt w b Y s limit a C) (hu : UpdS Y w w') : CSt w' b Y s limit a C := by
  have hX : UpdS (Xs b (C 3) Y) w w' := hu.sub (fun i _ hi => .inr (.inr hi))
  refine ⟨h.wc.keep (hu.block b h.wc.lt h.nb), h.c0, h.c2, h.c6, ?_, h.fr, h.ob, h.nb, fun j hj => Nat.lt_of_lt_of_le (h.yb j hj) hu.size, fun t ht => (h.tabs t ht).upd hX rfl (fun _ _ e => e), h.tree.upd hX rfl rfl (fun _ _ e => e), h.reps, h.err⟩
  obtain ⟨out, h1, h2⟩ := h.out
  exact ⟨out, ⟨row_same h1.row (fun g hg => hu.block g (row_lt h1.row g hg).2 (h.ob g hg).2)⟩, h2⟩
/-- an error is noted -/
theorem CSt.bad {w w' : World} {b : Nat} {Y : Nat → Prop} {s : ByteArray} {limit : Int} {a : Nat} {C : Nat → Value} {e : Int} (h : CSt w b Y s limit a C) (hW : Wc w' b (upV C 15 (.int .i64 e))) (hU : Upd b w w') : CSt w' b Y s limit a (upV C 15 (.int .i64 e)) ∧ CStep w w' b Z0 C (upV C 15 (.int .i64 e)) := by
  have hX : UpdS (Xs b (C 3) Y) w w' := hU.updS (.inl rfl)
  have e3 : upV C 15 (.int .i64 e) 3 = C 3 := upV_other _ _ _ _ (by omega)
  have key : ∀ i, i ≠ 15 → upV C 15 (.int .i64 e) i = C i := fun i hi => upV_other _ _ _ _ hi
  refine ⟨⟨hW, (key 0 (by omega)).trans h.c0, (key 2 (by omega)).trans h.c2, (key 6 (by omega)).trans h.c6, ?_, ?_, ?_, h.nb, fun j hj => Nat.lt_of_lt_of_le (h.yb j hj) hU.size, fun t ht => ?_, ?_, ?_, ⟨e, upV_same _ _ _⟩⟩, ⟨hU.updS (.inl rfl), .inl (by rw [e3]), key 1 (by omega), key 4 (by omega), key 5 (by omega)⟩⟩
  · obtain ⟨out, h1, h2⟩ := h.out
    rw [e3]
    exact ⟨out, ⟨row_same h1.row (fun g hg => hU.block g (row_lt h1.row g hg).2 (h.ob g hg).1)⟩, h2⟩
  · rw [key 5 (by omega)]; exact h.fr
  · rw [e3]; exact h.ob
  · rw [e3]; exact (h.tabs t ht).upd hX (key _ (by omega)) (fun _ _ e => e)
  · rw [e3]; exact h.tree.upd hX (key _ (by omega)) (key _ (by omega)) (fun _ _ e => e)
  · rw [key 10 (by omega), key 11 (by omega), key 12 (by omega)]; exact h.reps
/-- other blocks are to be spared -/
theorem CSt.re {w w' : World} {b : Nat} {Y Y2 : Nat → Prop} {s : ByteArray} {limit : Int} {a : Nat} {C : Nat → Value} (h : CSt w b Y s limit a C) (hu : UpdS Y w w') (hY : ∀ j, Y2 j → Y j ∨ w.heap.size ≤ j) (hb : ∀ j, Y2 j → j < w'.heap.size) : CSt w' b Y2 s limit a C := by
  have hX : UpdS (Xs b (C 3) Y) w w' := hu.sub (fun i _ hi => .inr (.inr hi))
  obtain ⟨out, h1, h2⟩ := h.out
  have hx : ∀ k, k < w.heap.size → Xs b (C 3) Y2 k → Xs b (C 3) Y k := by
    intro k hk hx
    rcases hx with e | e | e
    · exact .inl e
    · exact .inr (.inl e)
    · rcases hY k e with e | e
      · exact .inr (.inr e)
      · omega
  have hbl := h.wc.lt
  refine ⟨h.wc.keep (hu.block b hbl h.nb), h.c0, h.c2, h.c6, ⟨out, ⟨row_same h1.row (fun g hg => hu.block g (row_lt h1.row g hg).2 (h.ob g hg).2)⟩, h2⟩, h.fr, fun j hj => ⟨(h.ob j hj).1, fun e => ?_⟩, fun e => ?_, hb, fun t ht => (h.tabs t ht).upd hX rfl hx, h.tree.upd hX rfl rfl hx, h.reps, h.err⟩
  · have := (row_lt h1.row j hj).2
    rcases hY j e with e | e
    · exact (h.ob j hj).2 e
    · omega
  · rcases hY b e with e | e
    · exact h.nb e
    · omega
theorem CSt.less {w : World} {b : Nat} {Y Y2 : Nat → Prop} {s : ByteArray} {limit : Int} {a : Nat} {C : Nat → Value} (h : CSt w b Y s limit a C) (hY : ∀ j, Y2 j → Y j) : CSt w b Y2 s limit a C := h.re (UpdS.refl _ _) (fun j e => .inl (hY j e)) (fun j e => h.yb j (hY j e))
/-- more came out -/
theorem CSt.grow {w w' : World} {b : Nat} {Y : Nat → Prop} {s : ByteArray} {limit : Int} {a : Nat} {C : Nat → Value} {v' : Value} {out' : List Nat} (h : CSt w b Y s limit a C) (hW : Wc w' b (upV C 3 v')) (hO : OutAt w' v' out') (h1 : a ≤ out'.length) (h2 : out'.length ≤ a + 131072) (hM : Moved w (C 3) v') (hU : UpdS (fun q => q = b ∨ (C 3).ownBlock = some q) w w') : CSt w' b Y s limit a (upV C 3 v') ∧ CStep w w' b Z0 C (upV C 3 v') := by
  have hX : UpdS (Xs b (C 3) Y) w w' := hU.sub (fun i _ hi => by rcases hi with e | e; exact .inl e; exact .inr (.inl e))
  have key : ∀ i, i ≠ 3 → upV C 3 v' i = C i := fun i hi => upV_other _ _ _ _ hi
  have e3 : upV C 3 v' 3 = v' := upV_same _ _ _
  have hx : ∀ k, k < w.heap.size → Xs b (upV C 3 v' 3) Y k → Xs b (C 3) Y k := by rw [e3]; exact Xs_moved hM
  refine ⟨⟨hW, (key 0 (by omega)).trans h.c0, (key 2 (by omega)).trans h.c2, (key 6 (by omega)).trans h.c6, ⟨out', by rw [e3]; exact hO, h1, h2⟩, ?_, ?_, h.nb, fun j hj => Nat.lt_of_lt_of_le (h.yb j hj) hU.size, fun t ht => (h.tabs t ht).upd hX (key _ (by omega)) hx, h.tree.upd hX (key _ (by omega)) (key _ (by omega)) hx, ?_, ?_⟩, ⟨hU.sub (fun i _ hi => by rcases hi with e | e; exact .inl e; exact .inr (.inl e)), by rw [e3]; exact hM, key 1 (by omega), key 4 (by omega), key 5 (by omega)⟩⟩
  · rw [key 5 (by omega)]; exact h.fr
  · intro j hj
    rw [e3] at hj
    rcases hM with e | ⟨q, e, hq⟩
    · exact h.ob j (by rw [← e]; exact hj)
    · rw [e] at hj
      injection hj with hj
      have := h.wc.lt
      exact ⟨by omega, fun hy => by have := h.yb j hy; omega⟩
  · rw [key 10 (by omega), key 11 (by omega), key 12 (by omega)]; exact h.reps
  · rw [key 15 (by omega)]; exact h.err
end Go.Proofs.Ytkfilgfcgmohlaa
namespace Go.Proofs.Ytkfilgfcgmohlaa
open Go.RowKit
theorem syms_len {a : Nat → Nat} {n log : Nat} {s : ByteArray} {cnt : Nat} {l : List Nat} {ok : Bool} (h : SymsR a n log s cnt l ok) : l.length ≤ cnt := by
  rcases h with ⟨_, rfl, _⟩ | ⟨z, pos, _, _, h, _⟩
  · simp
  · exact h
/-- what 'coded' leaves, whatever was said -/
def CodedW (b k : Nat) (X : Nat → Prop) (C D : Nat → Value) (w : World) (x : Ending) (w' : World) : Prop :=
  ∃ C' D' l, x = .returned (.tuple #[]) ∧ Wc w' b C' ∧ (∀ i, i ≠ 13 → i ≠ 14 → i ≠ 15 → C' i = C i) ∧ (∃ e' : Int, C' 15 = .int .i64 e') ∧ TreeOk w' C' X ∧ Bc w' k D' ∧ (∀ i, i ≠ 5 → D' i = D i) ∧ w'.ownsRow w.heap.size 5 1 (D' 5) l.length (bvs l) ∧ l.length ≤ 4194304 ∧ Upd2 b (some k) w w'
theorem coded_w31 (b k : Nat) (X : Nat → Prop) (C D : Nat → Value) (s : ByteArray) (cnt : Nat) (e0 : Int) (w : World) (hW : Wc w b C) (hB : Bc w k D) (hbk : b ≠ k) (hXb : X b) (hXk : X k) (hT : TreeOk w C X) (h14 : C 14 = .bool true) (h15 : C 15 = .int .i64 e0) (d3 : D 3 = .int .i64 3) (d4 : D 4 = .int .i64 1) (hs : s.size ≤ 1048576) (hcnt : cnt ≤ 1048576) :
    Calls Try.prog 67 #[.pointer (some ⟨b, 0, none⟩), .string s, .int .i64 (cnt : Int), .pointer (some ⟨k, 0, none⟩)] w fun x w' => CodedW b k X C D w x w' := by
  rcases id hT with h | ⟨_, gc, cap, all, log, h13, hS, hx⟩
  · rw [h14] at h; cases h
  · refine (coded_31 b k gc cap C D all log s cnt e0 w hW hB hbk h13 h14 h15 d3 d4 hS hs hcnt).mono ?_
    rintro x w' ⟨v, l, ok, rfl, hR, hW', hB', hrow, hU⟩
    refine ⟨_, _, l, rfl, hW', fun i _ _ h => upV_other _ _ _ _ h, ⟨_, upV_same _ _ _⟩, ?_, hB', fun i h => upV_other _ _ _ _ h, by rw [upV_same]; exact hrow, Nat.le_trans (syms_len hR) (by omega), hU⟩
    exact hT.upd (hU.updS hXb (fun j e => by injection e with e; exact e ▸ hXk)) (upV_other _ _ _ _ (by omega)) (upV_other _ _ _ _ (by omega)) (fun _ _ e => e)
theorem coded_w3n (b k : Nat) (X : Nat → Prop) (C D : Nat → Value) (s : ByteArray) (cnt : Nat) (e0 : Int) (w : World) (hW : Wc w b C) (hB : Bc w k D) (hbk : b ≠ k) (h14 : C 14 = .bool false) (h15 : C 15 = .int .i64 e0) (d3 : D 3 = .int .i64 3) (d5 : D 5 = .slice none 0 0) :
    Calls Try.prog 67 #[.pointer (some ⟨b, 0, none⟩), .string s, .int .i64 (cnt : Int), .pointer (some ⟨k, 0, none⟩)] w fun x w' => CodedW b k X C D w x w' := by
  refine (coded_3n b k C D s cnt e0 w hW hB hbk h14 h15 d3).mono ?_
  rintro x w' ⟨rfl, hW', hB', hU⟩
  exact ⟨_, _, [], rfl, hW', fun i _ _ h => upV_other _ _ _ _ h, ⟨_, upV_same _ _ _⟩, .inl (by rw [upV_other _ _ _ _ (by omega)]; exact h14), hB', fun _ _ => rfl, by rw [d5]; exact World.ownsRow_nil _ _ _ _, by simp, hU.upd2 _⟩
theorem coded_w21 (b k : Nat) (X : Nat → Prop) (C D : Nat → Value) (s : ByteArray) (cnt : Nat) (e0 : Int) (w : World) (hW : Wc w b C) (hB : Bc w k D) (hbk : b ≠ k) (hX : ∀ j, X j → j < w.heap.size) (h15 : C 15 = .int .i64 e0) (d3 : D 3 = .int .i64 2) (d4 : D 4 = .int .i64 1) (d5 : D 5 = .slice none 0 0) (hs : s.size ≤ 1048576) (hcnt : cnt ≤ 1048576) :
    Calls Try.prog 67 #[.pointer (some ⟨b, 0, none⟩), .string s, .int .i64 (cnt : Int), .pointer (some ⟨k, 0, none⟩)] w fun x w' => CodedW b k X C D w x w' := by
  refine (coded_21 b k C D s cnt e0 w hW hB hbk h15 d3 d4 hs hcnt).mono ?_
  rintro x w' ⟨r, hr, hq⟩
  cases r with
  | none =>
    obtain ⟨rfl, hW', hB', hU⟩ := hq
    refine ⟨_, _, [], rfl, hW', fun i h1 h2 h => by rw [upV_other _ _ _ _ h, upV_other _ _ _ _ h2, upV_other _ _ _ _ h1], ⟨_, upV_same _ _ _⟩, .inl ?_, hB', fun _ _ => rfl, by rw [d5]; exact World.ownsRow_nil _ _ _ _, by simp, hU⟩
    rw [upV_other _ _ _ _ (by omega), upV_same]
  | some y =>
    obtain ⟨all, log⟩ := y
    obtain ⟨htk, gc, cap, v, l, ok, rfl, hR, hW', hB', hrow, hU, hS, hgc, hgl⟩ := hq
    refine ⟨_, _, l, rfl, hW', fun i h1 h2 h => by rw [upV_other _ _ _ _ h, upV_other _ _ _ _ h2, upV_other _ _ _ _ h1], ⟨_, upV_same _ _ _⟩, .inr ⟨?_, gc, cap, all, log, ?_, hS, fun e => by have := hX gc e; omega⟩, hB', fun i h => upV_other _ _ _ _ h, by rw [upV_same]; exact hrow, Nat.le_trans (syms_len hR) (by omega), hU⟩
    · rw [upV_other _ _ _ _ (by omega), upV_same]
    · rw [upV_other _ _ _ _ (by omega), upV_other _ _ _ _ (by omega), upV_same]
end Go.Proofs.Ytkfilgfcgmohlaa
