import Derived.Test.YtkfilgfcgmohlaaJ28
import Derived.WalkKit
import Derived.WalkSpells
import Derived.WalkLawsBesides
import Derived.Deep.CutRange
import Derived.Deep.AppendLies
import Derived.Laws.OwnMore
import Derived.Deep.RegionLaw
import Derived.Deep.QuietTactic
import Derived.BigQuiet
import Derived.Lib.ConvBytes
namespace Go.Proofs.Ytkfilgfcgmohlaa
open Go.RowKit
/-- the world behind 'coded' -/
theorem CSt.coded {w w' : World} {b k : Nat} {Y : Nat → Prop} {s : ByteArray} {limit : Int} {a : Nat} {C D : Nat → Value} {x : Ending} (h : CSt w b Y s limit a C) (hk : Y k) (hq : CodedW b k (Xs b (C 3) Y) C D w x w') :
    ∃ C' D' l, x = .returned (.tuple #[]) ∧ CSt w' b Y s limit a C' ∧ CStep w w' b (fun j => j = k) C C' ∧ (∀ i, i ≠ 13 → i ≠ 14 → i ≠ 15 → C' i = C i) ∧ Bc w' k D' ∧ (∀ i, i ≠ 5 → D' i = D i) ∧ w'.ownsRow w.heap.size 5 1 (D' 5) l.length (bvs l) ∧ l.length ≤ 4194304 := by
  obtain ⟨C', D', l, hx, hW, hC, hE, hT, hB, hD, hrow, hl, hU⟩ := hq
  have hX : UpdS (Xs b (C 3) Y) w w' := hU.updS (.inl rfl) (fun j e => by injection e with e; exact .inr (.inr (e ▸ hk)))
  have e3 : C' 3 = C 3 := hC 3 (by omega) (by omega) (by omega)
  refine ⟨C', D', l, hx, ⟨hW, (hC 0 (by omega) (by omega) (by omega)).trans h.c0, (hC 2 (by omega) (by omega) (by omega)).trans h.c2, (hC 6 (by omega) (by omega) (by omega)).trans h.c6, ?_, ?_, ?_, h.nb, fun j hj => Nat.lt_of_lt_of_le (h.yb j hj) hU.size, fun t ht => ?_, ?_, ?_, hE⟩, ⟨?_, .inl (by rw [e3]), hC 1 (by omega) (by omega) (by omega), hC 4 (by omega) (by omega) (by omega), hC 5 (by omega) (by omega) (by omega)⟩, hC, hB, hD, hrow, hl⟩
  · obtain ⟨out, h1, h2⟩ := h.out
    rw [e3]
    exact ⟨out, ⟨row_same h1.row (fun g hg => hU.block g (row_lt h1.row g hg).2 (h.ob g hg).1 (fun e => by injection e with e; exact (h.ob g hg).2 (e ▸ hk)))⟩, h2⟩
  · rw [hC 5 (by omega) (by omega) (by omega)]; exact h.fr
  · rw [e3]; exact h.ob
  · rw [e3]; exact (h.tabs t ht).upd hX (hC _ (by omega) (by omega) (by omega)) (fun _ _ e => e)
  · rw [e3]; exact hT
  · rw [hC 10 (by omega) (by omega) (by omega), hC 11 (by omega) (by omega) (by omega), hC 12 (by omega) (by omega) (by omega)]; exact h.reps
  · exact hU.updS (.inl rfl) (fun j e => by injection e with e; exact .inr (.inr e.symm))
/-- while literals are read -/
structure LS (w wr : World) (b k : Nat) (Y : Nat → Prop) (s : ByteArray) (limit : Int) (a : Nat) (C D : Nat → Value) : Prop where
  base : CSt w b Y s limit a C
  yk : Y k
  upd : UpdS (fun j => j = k) w wr
  bc : Bc wr k D
theorem LS.st {w wr : World} {b k : Nat} {Y : Nat → Prop} {s : ByteArray} {limit : Int} {a : Nat} {C D : Nat → Value} (h : LS w wr b k Y s limit a C D) : CSt wr b Y s limit a C := h.base.upd (h.upd.sub (fun i _ e => by have e' : i = k := e; rw [e']; exact h.yk))
theorem LS.step {w wr : World} {b k : Nat} {Y : Nat → Prop} {s : ByteArray} {limit : Int} {a : Nat} {C D : Nat → Value} (h : LS w wr b k Y s limit a C D) : CStep w wr b (fun j => j = k) C C := ⟨h.upd.sub (fun _ _ e => .inr (.inr e)), .inl rfl, rfl, rfl, rfl⟩
theorem LS.below {w wr w1 : World} {b k : Nat} {Y : Nat → Prop} {s : ByteArray} {limit : Int} {a : Nat} {C D : Nat → Value} (h : LS w wr b k Y s limit a C D) (hb : Below wr.heap.size wr w1) : LS w w1 b k Y s limit a C D :=
  ⟨h.base, h.yk, h.upd.same (below_updS hb _), h.bc.keep (hb.block k h.bc.lt)⟩
theorem LS.store {w wr : World} {b k : Nat} {Y : Nat → Prop} {s : ByteArray} {limit : Int} {a : Nat} {C D : Nat → Value} (h : LS w wr b k Y s limit a C D) (hk : Y k) (j : Nat) (hj : j < 12) (v : Value) (hv : v.oneCell' = true := by rfl) : LS w (wr.setCell ⟨k, j, none⟩ v) b k Y s limit a C (upV D j v) :=
  ⟨h.base, hk, h.upd.setCell _ _ (fun _ => rfl), h.bc.set j hj v hv⟩
theorem LS.sm {w wr w1 : World} {b k : Nat} {Y : Nat → Prop} {s : ByteArray} {limit : Int} {a : Nat} {C D : Nat → Value} (h : LS w wr b k Y s limit a C D) (hs : Sm wr w1) : LS w w1 b k Y s limit a C D := h.below (hs.below _)
theorem LS.alloc {w wr : World} {b k : Nat} {Y : Nat → Prop} {s : ByteArray} {limit : Int} {a : Nat} {C D : Nat → Value} (h : LS w wr b k Y s limit a C D) (o : Obj) : LS w (wr.alloc o) b k Y s limit a C D := h.below ((Below.refl _ _).alloc (Nat.le_refl _) o)
/-- blocks that are new may turn -/
theorem LS.grow {w wr w1 : World} {b k : Nat} {Y : Nat → Prop} {s : ByteArray} {limit : Int} {a : Nat} {C D : Nat → Value} (h : LS w wr b k Y s limit a C D) (hkw : k < w.heap.size) (hU : UpdS (fun q => w.heap.size ≤ q) wr w1) : LS w w1 b k Y s limit a C D :=
  ⟨h.base, h.yk, h.upd.trans hU (fun i h1 h2 => by have : w.heap.size ≤ i := h2; omega), h.bc.keep (hU.block k h.bc.lt (by omega))⟩
/-- what 'literals' leaves -/
def LitQ (b k : Nat) (Y : Nat → Prop) (s : ByteArray) (limit : Int) (a : Nat) (t : ByteArray) (C D : Nat → Value) (w : World) (x : Ending) (w' : World) : Prop :=
  ∃ C' D' l g, ∃ n : Nat, x = .returned (.int .i64 (n : Int)) ∧ n ≤ t.size ∧ CSt w' b Y s limit a C' ∧ CStep w w' b (fun j => j = k) C C' ∧ (∀ i, i ≠ 13 → i ≠ 14 → i ≠ 15 → C' i = C i) ∧ Bc w' k D' ∧ (∀ i, i < 3 ∨ 6 < i → D' i = D i) ∧ ByA w' (D' 5) g l ∧ (0 < l.length → w.heap.size ≤ g) ∧ l.length ≤ 4194304
/-- an error: no literals -/
theorem LS.bad {w wr w1 : World} {b k : Nat} {Y : Nat → Prop} {s : ByteArray} {limit : Int} {a : Nat} {t : ByteArray} {C D D1 : Nat → Value} {e : Int} (h : LS w wr b k Y s limit a C D1) (hW : Wc w1 b (upV C 15 (.int .i64 e))) (hU : Upd b wr w1) (hbk : b ≠ k) (hD : ∀ i, i < 3 ∨ 6 < i → D1 i = D i) (h5 : D1 5 = .slice none 0 0) : LitQ b k Y s limit a t C D w (.returned (.int .i64 0)) w1 := by
  obtain ⟨g1, g2⟩ := h.st.bad hW hU
  refine ⟨_, D1, [], 0, 0, rfl, Nat.zero_le _, g1, h.step.trans g2.wide, fun i _ _ h => upV_other _ _ _ _ h, h.bc.keep (hU.block k h.bc.lt (Ne.symm hbk)), hD, ?_, fun h => by simp at h, by simp⟩
  rw [h5]
  exact ⟨none, 0, 0, rfl, by simp, fun h => by simp at h, fun i hi => by simp at hi⟩
theorem bytes_below (w : World) (e : TypeId) (s : ByteArray) : Below w.heap.size w (Lib.bytesWorld w e s) :=
  ⟨rfl, rfl, rfl, by rw [Lib.bytesWorld_size]; omega, fun k hk => Lib.bytesWorld_at_old w e s k hk⟩
/-- a string's bytes -/
def bytesL (s : ByteArray) : List Nat := (List.range s.size).map (gOf s)
theorem bytesL_len (s : ByteArray) : (bytesL s).length = s.size := by simp [bytesL]
theorem bytesL_at (s : ByteArray) (i : Nat) (h : i < s.size) : wAt (bytesL s) i = gOf s i := by simp [bytesL, wAt, h]
theorem bytes_bya (w : World) (s : ByteArray) (cap : Nat) (hc : s.size ≤ cap) : ByA (Lib.bytesWorld w 5 s) (.slice (some ⟨w.heap.size, 0, none⟩) s.size cap) w.heap.size (bytesL s) := by
  refine ⟨some ⟨w.heap.size, 0, none⟩, cap, 0, by rw [bytesL_len], by rw [bytesL_len]; exact hc, fun _ => rfl, fun i hi => ?_⟩
  rw [bytesL_len] at hi
  rw [Nat.zero_add, Lib.bytesWorld_cell w _ s i hi, bytesL_at s i hi]
  rfl
/-- behind the head of literals -/
def MidL (w : World) (b k : Nat) (Y : Nat → Prop) (s : ByteArray) (limit : Int) (a : Nat) (C D1 : Nat → Value) (sv nv pv : Value) (wx : World) : Prop :=
  ∃ size nn packed : Nat, ∃ four : Bool, sv = .int .i64 (size : Int) ∧ nv = .int .i64 (nn : Int) ∧ pv = .int .i64 (packed : Int) ∧ size ≤ 16777216 ∧ nn ≤ 5 ∧ packed ≤ 16777216 ∧ LS w wx b k Y s limit a C (upV D1 4 (.int .i64 (if four then 4 else 1)))
def lgN (F : Nat) : Nat := [1, 2, 1, 3].getD F 0
set_option maxRecDepth 100000 in
set_option maxHeartbeats 4000000 in
theorem literals_w (b k f : Nat) (Y : Nat → Prop) (s : ByteArray) (limit : Int) (a : Nat) (t : ByteArray) (C D : Nat → Value) (Wn e0 : Int) (w : World) (h : CSt w b Y s limit a C) (hB : Bc w k D) (hYk : Y k) (hYf : Y f) (hf : w.cell? ⟨f, 0, none⟩ = some (.int .i64 Wn)) (hfk : f ≠ k) (h15 : C 15 = .int .i64 e0) (d5 : D 5 = .slice none 0 0) (ht : t.size ≤ 1048576) :
    Calls Try.prog 56 #[.pointer (some ⟨b, 0, none⟩), .string t, .pointer (some ⟨f, 0, none⟩), .pointer (some ⟨k, 0, none⟩)] w fun x w' => LitQ b k Y s limit a t C D w x w' := by
  have hbk : b ≠ k := fun e => h.nb (e ▸ hYk)
  have HS : Hid (LS w w b k Y s limit a C D) := ⟨h, hYk, UpdS.refl _ _, hB⟩
  have HC : Hid (C 15 = .int .i64 e0 ∧ D 5 = .slice none 0 0) := ⟨h15, d5⟩
  have hbl : b < w.heap.size := h.wc.lt
  have hkl : k < w.heap.size := hB.lt
  have hfl : f < w.heap.size := block_lt_of_cell hf
  have k3 := hB.c 3 (by omega)
  have f3 := hB.fz 3
  have HYk : Hid (Y k) := hYk
  have HFN : Hid (∀ wx, CStep w wx b (fun j => j = k) C C → wx.cell? ⟨f, 0, none⟩ = some (.int .i64 Wn)) := fun wx hx => (World.cell?_of_block (w := w) (a := ⟨f, 0, none⟩) (hx.upd.block f hfl (fun e => by
    rcases e with e | e | e
    · exact h.nb (e ▸ hYf)
    · exact (h.ob f e).2 hYf
    · exact hfk e))).trans hf
  clear h hB h15 d5 hYk hYf
  go_enter Try.func56, Try.ntmps56
  go_wp2_with fail
  refine (show Calls _ _ #[.string t, .int .i64 ((0 : Nat) : Int), .int .i64 ((1 : Nat) : Int)] _ _ from le_any t 0 1 _ (by omega) (by omega) (by omega)).mono ?_
  rintro x w1 ⟨rfl, hw1⟩
  rw [hw1]
  have hlt := numN_lt (gOf t) (gOf_lt t) 1 0
  obtain ⟨z, hz⟩ : ∃ z, z = numN (gOf t) 0 1 := ⟨_, rfl⟩
  rw [← hz] at hlt ⊢
  clear hw1 hz
  obtain ⟨lit, hlit⟩ : ∃ lit : Nat, lit = z % 4 := ⟨_, rfl⟩
  obtain ⟨F, hF⟩ : ∃ F : Nat, F = z / 4 % 4 := ⟨_, rfl⟩
  have hl1 : Int.tmod (z : Int) 4 = (lit : Int) := by rw [Int.tmod_eq_emod_of_nonneg (by omega)]; omega
  have hl2 : (z : Int) % 4 = (lit : Int) := by omega
  have hF1 : (z : Int) / 4 % 4 = (F : Int) := by omega
  have hl4 : lit < 4 := by omega
  have hF4 : F < 4 := by omega
  clear hlit hF
  go_upto_region 6 with fail
  simp only [hF1]
  obtain ⟨W2, hW2⟩ : ∃ W2, W2 = ((w.setCell ⟨k, 3, none⟩ (.int .i64 (lit : Int))).alloc (Obj.cells #[.int .i64 1, .int .i64 2, .int .i64 1, .int .i64 3] 3)).alloc (Obj.cells #[.int .i64 3, .int .i64 4, .int .i64 3, .int .i64 4] 3) := ⟨_, rfl⟩
  obtain ⟨D1, hD1⟩ : ∃ D1, D1 = upV D 3 (.int .i64 (lit : Int)) := ⟨_, rfl⟩
  have HS2 : Hid (LS w W2 b k Y s limit a C D1) := by rw [hW2, hD1]; exact ((HS.out.store HYk.out 3 (by omega) _).alloc _).alloc _
  have HD1 : Hid (D1 = upV D 3 (.int .i64 (lit : Int))) := hD1
  have c1 : ∀ j, j < 4 → W2.cell? ⟨w.heap.size, j, none⟩ = some (.int .i64 (lgN j : Int)) := by
    intro j hj
    rw [hW2, World.cell?_of_block (w := (w.setCell ⟨k, 3, none⟩ (.int .i64 (lit : Int))).alloc (Obj.cells #[.int .i64 1, .int .i64 2, .int .i64 1, .int .i64 3] 3)) (a := ⟨w.heap.size, j, none⟩) (Below.heap_alloc _ _ _ (show w.heap.size < _ by rw [World.size_alloc, World.size_setCell]; omega))]
    have : w.heap.size = (w.setCell ⟨k, 3, none⟩ (.int .i64 (lit : Int))).heap.size := by rw [World.size_setCell]
    rw [this, World.cell?_alloc_new]
    match j, hj with | 0, _ => rfl | 1, _ => rfl | 2, _ => rfl | 3, _ => rfl
  have c2 : ∀ j, j < 4 → W2.cell? ⟨w.heap.size + 1, j, none⟩ = some (.int .i64 ([3, 4, 3, 4].getD j 0 : Nat)) := by
    intro j hj
    have : w.heap.size + 1 = ((w.setCell ⟨k, 3, none⟩ (.int .i64 (lit : Int))).alloc (Obj.cells #[.int .i64 1, .int .i64 2, .int .i64 1, .int .i64 3] 3)).heap.size := by rw [World.size_alloc, World.size_setCell]
    rw [hW2, this, World.cell?_alloc_new]
    match j, hj with | 0, _ => rfl | 1, _ => rfl | 2, _ => rfl | 3, _ => rfl
  have hW2s : W2.heap.size = w.heap.size + 2 := by rw [hW2, World.size_alloc, World.size_alloc, World.size_setCell]
  have HC1 : Hid (∀ j, j < 4 → W2.cell? ⟨w.heap.size, j, none⟩ = some (.int .i64 (lgN j : Int))) := c1
  have HC2 : Hid (∀ j, j < 4 → W2.cell? ⟨w.heap.size + 1, j, none⟩ = some (.int .i64 ([3, 4, 3, 4].getD j 0 : Nat))) := c2
  rw [← hW2]
  clear hW2 hD1 c1 c2 k3 f3 HS hl1 hl2 hF1 hlt
  have hlg : lgN F ≤ 3 := by unfold lgN; rcases (show F = 0 ∨ F = 1 ∨ F = 2 ∨ F = 3 by omega) with rfl | rfl | rfl | rfl <;> decide
  go_cut [13] from 32 to 42 (fun v wx => ∃ sz : Nat, v = .int .i64 (sz : Int) ∧ sz ≤ 16777216 ∧ Sm W2 wx)
  case first =>
    have c1 := HC1.out F hF4
    have c2 := HC2.out F hF4
    have hb1 := numN_lt (gOf t) (gOf_lt t) 1 0
    have hb2 := numN_lt (gOf t) (gOf_lt t) 2 0
    have hb3 := numN_lt (gOf t) (gOf_lt t) 3 0
    clear HC1 HC2 hlg
    rcases (show F = 0 ∨ F = 1 ∨ F = 2 ∨ F = 3 by omega) with rfl | rfl | rfl | rfl
    · obtain ⟨q, hq⟩ : ∃ q, q = numN (gOf t) 0 1 := ⟨_, rfl⟩
      rw [← hq] at hb1
      have HQ : Hid (q = numN (gOf t) 0 1) := hq
      clear hq
      simp [lgN] at c1
      simp at c2
      go_quiet ((go_at_call 66; exact Calls.quiet_of_same (show Calls _ _ _ _ (fun x w' => x = .returned (.int .i64 (q : Int)) ∧ w' = _) by rw [HQ.out]; exact (show Calls _ _ #[.string t, .int .i64 ((0 : Nat) : Int), .int .i64 ((1 : Nat) : Int)] _ _ from le_any t 0 1 _ (by omega) (by omega) (by omega)))))
      go_wp2_with fail
      go_meet
      exact ⟨q / 8, by simp, by omega, (Sm.refl W2).drewN _⟩
    · obtain ⟨q, hq⟩ : ∃ q, q = numN (gOf t) 0 2 := ⟨_, rfl⟩
      rw [← hq] at hb2
      have HQ : Hid (q = numN (gOf t) 0 2) := hq
      clear hq
      simp [lgN] at c1
      simp at c2
      go_quiet ((go_at_call 66; exact Calls.quiet_of_same (show Calls _ _ _ _ (fun x w' => x = .returned (.int .i64 (q : Int)) ∧ w' = _) by rw [HQ.out]; exact (show Calls _ _ #[.string t, .int .i64 ((0 : Nat) : Int), .int .i64 ((2 : Nat) : Int)] _ _ from le_any t 0 2 _ (by omega) (by omega) (by omega)))))
      go_wp2_with fail
      go_meet
      exact ⟨q / 16, by simp, by omega, (Sm.refl W2).drewN _⟩
    · obtain ⟨q, hq⟩ : ∃ q, q = numN (gOf t) 0 1 := ⟨_, rfl⟩
      rw [← hq] at hb1
      have HQ : Hid (q = numN (gOf t) 0 1) := hq
      clear hq
      simp [lgN] at c1
      simp at c2
      go_quiet ((go_at_call 66; exact Calls.quiet_of_same (show Calls _ _ _ _ (fun x w' => x = .returned (.int .i64 (q : Int)) ∧ w' = _) by rw [HQ.out]; exact (show Calls _ _ #[.string t, .int .i64 ((0 : Nat) : Int), .int .i64 ((1 : Nat) : Int)] _ _ from le_any t 0 1 _ (by omega) (by omega) (by omega)))))
      go_wp2_with fail
      go_meet
      exact ⟨q / 8, by simp, by omega, (Sm.refl W2).drewN _⟩
    · obtain ⟨q, hq⟩ : ∃ q, q = numN (gOf t) 0 3 := ⟨_, rfl⟩
      rw [← hq] at hb3
      have HQ : Hid (q = numN (gOf t) 0 3) := hq
      clear hq
      simp [lgN] at c1
      simp at c2
      go_quiet ((go_at_call 66; exact Calls.quiet_of_same (show Calls _ _ _ _ (fun x w' => x = .returned (.int .i64 (q : Int)) ∧ w' = _) by rw [HQ.out]; exact (show Calls _ _ #[.string t, .int .i64 ((0 : Nat) : Int), .int .i64 ((3 : Nat) : Int)] _ _ from le_any t 0 3 _ (by omega) (by omega) (by omega)))))
      go_wp2_with fail
      go_meet
      exact ⟨q / 16, by simp, by omega, (Sm.refl W2).drewN _⟩
  case rest =>
    obtain ⟨sz0, rfl, hsz0, hsm⟩ := hcut
    have HS3 : Hid (LS w wc b k Y s limit a C D1) := HS2.out.sm hsm
    have c1 := (hsm.cell ⟨w.heap.size, F, none⟩).trans (HC1.out F hF4)
    obtain ⟨n0, hn0⟩ : ∃ n0, n0 = lgN F := ⟨_, rfl⟩
    rw [← hn0] at c1 hlg
    have hwcs : wc.heap.size = w.heap.size + 2 := by rw [hsm.heap]; exact hW2s
    clear hn0 hsm HS2 HC1 HC2 hW2s
    have k3 := HS3.out.bc.c 3 (by omega)
    rw [HD1.out, upV_same] at k3
    have k4 := HS3.out.bc.c 4 (by omega)
    have f4 := HS3.out.bc.fz 4
    have hkc : k < wc.heap.size := by omega
    have hkc1 : k < wc.heap.size + 1 := by omega
    clear hwcs
    have hFI : (F : Int) < 4 := by omega
    have hF0 : (0 : Int) ≤ (F : Int) := by omega
    have HS4 : Hid (LS w (wc.setCell ⟨k, 4, none⟩ (.int .i64 4)) b k Y s limit a C (upV D1 4 (.int .i64 4))) := HS3.out.store HYk.out 4 (by omega) _
    obtain ⟨B, hB⟩ : ∃ B : Bool, decide ((1 : Int) < (lit : Int)) = B := ⟨_, rfl⟩
    go_upto_if 54 with fail
    go_cut [11, 13, 14, 15, 16, 17] from 55 to 82 (fun _ sv nv pv _ _ wx => MidL w b k Y s limit a C D1 sv nv pv wx)
    case first =>
      cases B with
      | true =>
        have HS5 : Hid (LS w (((wc.setCell ⟨k, 4, none⟩ (.int .i64 4)).alloc (Obj.cells #[.int .i64 10, .int .i64 10, .int .i64 14, .int .i64 18] 3)).alloc (Obj.cells #[.int .i64 3, .int .i64 3, .int .i64 4, .int .i64 5] 3)) b k Y s limit a C (upV D1 4 (.int .i64 4))) := (HS4.out.alloc _).alloc _
        clear HS3 hsz0 c1
        rcases (show F = 0 ∨ F = 1 ∨ F = 2 ∨ F = 3 by omega) with rfl | rfl | rfl | rfl
        · go_wp2_with fail
          refine (show Calls _ _ #[.string t, .int .i64 ((0 : Nat) : Int), .int .i64 ((3 : Nat) : Int)] _ _ from le_any t 0 3 _ (by omega) (by omega) (by omega)).mono ?_
          rintro x w4 ⟨rfl, hw4⟩
          rw [hw4]
          have hq1 := numN_lt (gOf t) (gOf_lt t) 3 0
          obtain ⟨q, hq⟩ : ∃ q, q = numN (gOf t) 0 3 := ⟨_, rfl⟩
          rw [← hq] at hq1 ⊢
          clear hq hw4
          go_wp2_with fail
          go_meet
          have HS6 := ((HS4.out.store HYk.out 4 (by omega) (.int .i64 1)).alloc (Obj.cells #[.int .i64 10, .int .i64 10, .int .i64 14, .int .i64 18] 3)).alloc (Obj.cells #[.int .i64 3, .int .i64 3, .int .i64 4, .int .i64 5] 3)
          rw [upV_upV] at HS6
          exact ⟨q / 16 % 1024, 3, q / 16 / 1024, false, by simp, by simp, by simp, by omega, by omega, by omega, HS6⟩
        · go_wp2_with fail
          refine (show Calls _ _ #[.string t, .int .i64 ((0 : Nat) : Int), .int .i64 ((3 : Nat) : Int)] _ _ from le_any t 0 3 _ (by omega) (by omega) (by omega)).mono ?_
          rintro x w4 ⟨rfl, hw4⟩
          rw [hw4]
          have hq1 := numN_lt (gOf t) (gOf_lt t) 3 0
          obtain ⟨q, hq⟩ : ∃ q, q = numN (gOf t) 0 3 := ⟨_, rfl⟩
          rw [← hq] at hq1 ⊢
          clear hq hw4
          go_wp2_with fail
          go_meet
          exact ⟨q / 16 % 1024, 3, q / 16 / 1024, true, by simp, by simp, by simp, by omega, by omega, by omega, HS5.out⟩
        · go_wp2_with fail
          refine (show Calls _ _ #[.string t, .int .i64 ((0 : Nat) : Int), .int .i64 ((4 : Nat) : Int)] _ _ from le_any t 0 4 _ (by omega) (by omega) (by omega)).mono ?_
          rintro x w4 ⟨rfl, hw4⟩
          rw [hw4]
          have hq1 := numN_lt (gOf t) (gOf_lt t) 4 0
          obtain ⟨q, hq⟩ : ∃ q, q = numN (gOf t) 0 4 := ⟨_, rfl⟩
          rw [← hq] at hq1 ⊢
          clear hq hw4
          go_wp2_with fail
          go_meet
          exact ⟨q / 16 % 16384, 4, q / 16 / 16384, true, by simp, by simp, by simp, by omega, by omega, by omega, HS5.out⟩
        · go_wp2_with fail
          refine (show Calls _ _ #[.string t, .int .i64 ((0 : Nat) : Int), .int .i64 ((5 : Nat) : Int)] _ _ from le_any t 0 5 _ (by omega) (by omega) (by omega)).mono ?_
          rintro x w4 ⟨rfl, hw4⟩
          rw [hw4]
          have hq1 := numN_lt (gOf t) (gOf_lt t) 5 0
          obtain ⟨q, hq⟩ : ∃ q, q = numN (gOf t) 0 5 := ⟨_, rfl⟩
          rw [← hq] at hq1 ⊢
          clear hq hw4
          go_wp2_with fail
          go_meet
          exact ⟨q / 16 % 262144, 5, q / 16 / 262144, true, by simp, by simp, by simp, by omega, by omega, by omega, HS5.out⟩
      | false =>
        go_wp2_with fail
        go_meet
        exact ⟨sz0, n0, 0, true, rfl, rfl, rfl, hsz0, by omega, by omega, HS4.out⟩
    case rest =>
      obtain ⟨size, nn, packed, four, rfl, rfl, rfl, hsize, hnn, hpacked, hL⟩ := hcut
      obtain ⟨D2, hD2⟩ : ∃ D2, D2 = upV D1 4 (.int .i64 (if four then 4 else 1)) := ⟨_, rfl⟩
      rw [← hD2] at hL
      have HL : Hid (LS w wc b k Y s limit a C D2) := hL
      have HD2 : Hid ((∀ i, i < 3 ∨ 6 < i → D2 i = D i) ∧ D2 5 = .slice none 0 0 ∧ D2 3 = .int .i64 (lit : Int) ∧ D2 4 = .int .i64 (if four then 4 else 1)) := by
        refine ⟨fun i hi => ?_, ?_, ?_, ?_⟩
        · rw [hD2, HD1.out, upV_other _ _ _ _ (by omega), upV_other _ _ _ _ (by omega)]
        · rw [hD2, HD1.out, upV_other _ _ _ _ (by omega), upV_other _ _ _ _ (by omega)]; exact HC.out.2
        · rw [hD2, HD1.out, upV_other _ _ _ _ (by omega), upV_same]
        · rw [hD2, upV_same]
      have hfw := HFN.out wc hL.step
      have HBad : Hid (∀ w1, Wc w1 b (upV C 15 (.int .i64 (errN e0 8))) → Upd b wc w1 → LitQ b k Y s limit a t C D w (.returned (.int .i64 0)) w1) := fun w1 h1 h2 => HL.out.bad h1 h2 hbk HD2.out.1 HD2.out.2.1
      clear hL hD2 HS3 HS4 c1 k3 k4 f4 hkc hkc1 hB hFI hF0 hsz0 hlg
      go_wp2_with fail
      refine (most_any f Wn _ hfw).mono ?_
      rintro x w5 ⟨rfl, hw5⟩
      rw [hw5]
      obtain ⟨m, hm⟩ : ∃ m, m = mostN Wn := ⟨_, rfl⟩
      rw [← hm]
      have hm2 : m ≤ 131072 := by rw [hm]; unfold mostN; split <;> omega
      clear hm hw5
      by_cases h1 : t.size < nn
      · have hd1 : decide ((t.size : Int) < (nn : Int)) = true := decide_eq_true (by omega)
        go_wp2_with fail
        refine (bad_any b C e0 8 _ HL.out.st.wc HC.out.1).mono ?_
        rintro x w3 ⟨rfl, hW3, hU3⟩
        have HG : Hid (LitQ b k Y s limit a t C D w (.returned (.int .i64 0)) w3) := HBad.out w3 hW3 hU3
        clear hW3 hU3
        go_wp2_with fail
        go_ret
        exact HG.out
      · have hd1 : decide ((t.size : Int) < (nn : Int)) = false := decide_eq_false (by omega)
        by_cases h2 : m < (size : Int)
        · have hd2 : decide (m < (size : Int)) = true := decide_eq_true h2
          go_wp2_with fail
          refine (bad_any b C e0 8 _ HL.out.st.wc HC.out.1).mono ?_
          rintro x w3 ⟨rfl, hW3, hU3⟩
          have HG : Hid (LitQ b k Y s limit a t C D w (.returned (.int .i64 0)) w3) := HBad.out w3 hW3 hU3
          clear hW3 hU3
          go_wp2_with fail
          go_ret
          exact HG.out
        · have hd2 : decide (m < (size : Int)) = false := decide_eq_false h2
          have k6 := HL.out.bc.c 6 (by omega)
          have f6 := HL.out.bc.fz 6
          obtain ⟨W6, hW6⟩ : ∃ W6, W6 = wc.setCell ⟨k, 6, none⟩ (.int .i64 (packed : Int)) := ⟨_, rfl⟩
          obtain ⟨D3, hD3⟩ : ∃ D3, D3 = upV D2 6 (.int .i64 (packed : Int)) := ⟨_, rfl⟩
          have HL6 : Hid (LS w W6 b k Y s limit a C D3) := by rw [hW6, hD3]; exact HL.out.store HYk.out 6 (by omega) _
          have HD3 : Hid ((∀ i, i < 3 ∨ 6 < i → D3 i = D i) ∧ D3 5 = .slice none 0 0 ∧ D3 3 = .int .i64 (lit : Int) ∧ D3 4 = .int .i64 (if four then 4 else 1)) := by
            refine ⟨fun i hi => ?_, ?_, ?_, ?_⟩
            · rw [hD3, upV_other _ _ _ _ (by omega)]; exact HD2.out.1 i hi
            · rw [hD3, upV_other _ _ _ _ (by omega)]; exact HD2.out.2.1
            · rw [hD3, upV_other _ _ _ _ (by omega)]; exact HD2.out.2.2.1
            · rw [hD3, upV_other _ _ _ _ (by omega)]; exact HD2.out.2.2.2
          have HBad6 : Hid (∀ w1, Wc w1 b (upV C 15 (.int .i64 (errN e0 8))) → Upd b W6 w1 → LitQ b k Y s limit a t C D w (.returned (.int .i64 0)) w1) := fun w1 h1 h2 => HL6.out.bad h1 h2 hbk HD3.out.1 HD3.out.2.1
          go_upto_region 24 with fail
          rw [← hW6]
          clear hW6 hD3 HBad HD2 HL k6 f6 hfw hd1 hd2
          have k3 := HL6.out.bc.c 3 (by omega)
          rw [HD3.out.2.2.1] at k3
          have k4 := HL6.out.bc.c 4 (by omega)
          rw [HD3.out.2.2.2] at k4
          have k5 := HL6.out.bc.c 5 (by omega)
          rw [HD3.out.2.1] at k5
          have f5 := HL6.out.bc.fz 5
          have hk6 : k < W6.heap.size := HL6.out.bc.lt
          rcases (show lit = 0 ∨ lit = 1 ∨ (lit = 2 ∨ lit = 3) by omega) with hl | hl | hl
          · subst hl
            by_cases h3 : t.size < nn + size
            · have hd3 : decide ((t.size : Int) < (nn : Int) + (size : Int)) = true := decide_eq_true (by omega)
              go_wp2_with fail
              refine (bad_any b C e0 8 _ HL6.out.st.wc HC.out.1).mono ?_
              rintro x w3 ⟨rfl, hW3, hU3⟩
              have HG : Hid (LitQ b k Y s limit a t C D w (.returned (.int .i64 0)) w3) := HBad6.out w3 hW3 hU3
              clear hW3 hU3
              go_wp2_with fail
              go_ret
              exact HG.out
            · have hd3 : decide ((t.size : Int) < (nn : Int) + (size : Int)) = false := decide_eq_false (by omega)
              have kc := fun (w : World) (s : ByteArray) => Lib.run_convert_string_bytes (P := Try.prog) w 9 33 5 s Try.underlying9 Try.underlying33 Try.underlying5
              have ko := fun (p : ByteArray) => (Lib.bytesWorld_old W6 5 p ⟨k, 5, none⟩ hk6).trans k5
              have kz := fun (p : ByteArray) => (World.frozen?_of_block (w := W6) (a := ⟨k, 5, none⟩) (Lib.bytesWorld_at_old W6 5 p k hk6)).trans f5
              have hp1 : (nn : Int) ≤ (nn : Int) + (size : Int) := by omega
              have hp2 : (nn : Int) + (size : Int) ≤ (t.size : Int) := by omega
              go_wp2_with fail
              go_ret
              have hby := bytes_bya W6 (t.extract nn (nn + size)) (grownCap W6 (t.extract nn (nn + size)).size 0 5) (grownCap_ge _ _ _ _)
              have hst := (HL6.out.below (bytes_below W6 5 (t.extract nn (nn + size)))).store HYk.out 5 (by omega) (.slice (some ⟨W6.heap.size, 0, none⟩) (t.extract nn (nn + size)).size (grownCap W6 (t.extract nn (nn + size)).size 0 5))
              have hlen : (bytesL (t.extract nn (nn + size))).length ≤ 4194304 := by rw [bytesL_len, ByteArray.size_extract]; omega
              rw [ByteArray.size_extract] at hby hst
              refine ⟨C, _, bytesL (t.extract nn (nn + size)), W6.heap.size, nn + size, by go_num, by omega, hst.st, hst.step, fun _ _ _ _ => rfl, hst.bc, fun i hi => by rw [upV_other _ _ _ _ (by omega)]; exact HD3.out.1 i hi, ?_, fun _ => HL6.out.step.upd.size, hlen⟩
              rw [upV_same]
              exact hby.keep (fun _ => Below.heap_setCell _ _ _ _ (by show W6.heap.size ≠ k; omega))
          · have hn0 : ((lit : Int) == 0) = false := by rw [beq_eq_false_iff_ne]; omega
            have hn1 : ((lit : Int) == 1) = true := by rw [beq_iff_eq]; omega
            clear hl
            by_cases h3 : t.size < nn + 1
            · have hd3 : decide ((t.size : Int) < (nn : Int) + 1) = true := decide_eq_true (by omega)
              go_wp2_with fail
              refine (bad_any b C e0 8 _ HL6.out.st.wc HC.out.1).mono ?_
              rintro x w3 ⟨rfl, hW3, hU3⟩
              have HG : Hid (LitQ b k Y s limit a t C D w (.returned (.int .i64 0)) w3) := HBad6.out w3 hW3 hU3
              clear hW3 hU3
              go_wp2_with fail
              go_ret
              exact HG.out
            · have hd3 : decide ((t.size : Int) < (nn : Int) + 1) = false := decide_eq_false (by omega)
              have hix : ∀ wz, (Instr.index 9 (.string t) (.int .i64 (nn : Int))).run Try.prog wz = .ok (.int .u8 ((gOf t nn : Nat) : Int)) wz := run_at t _ nn rfl (by omega)
              have HI6 : Hid (LS w W6 b k Y s limit a C (upV D3 5 (.slice none 0 0))) := by rw [upV_id HD3.out.2.1]; exact HL6.out
              clear k4 k5 f5
              go_wp2_with fail
              go_loopw [19] (fun iv wr => ∃ (i : Nat) (v : Value) (l : List Nat), iv = .int .i64 (i : Int) ∧ i ≤ size ∧ l.length = i ∧ LS w wr b k Y s limit a C (upV D3 5 v) ∧ wr.ownsRow w.heap.size 5 1 v l.length (bvs l)) (fun iv _ => (size - intOf iv).toNat)
              case atStart => exact ⟨0, _, [], rfl, Nat.zero_le _, rfl, HI6.out, World.ownsRow_nil _ _ _ _⟩
              case round =>
                clear HI6
                obtain ⟨i, v, l, rfl, hi, hl, hLr, hrow⟩ := hrel
                have HLr : Hid (LS w wr b k Y s limit a C (upV D3 5 v) ∧ wr.ownsRow w.heap.size 5 1 v l.length (bvs l) ∧ l.length = i) := ⟨hLr, hrow, hl⟩
                have hll : l.length ≤ 16777216 := by omega
                obtain ⟨pv, gv, cv, hv, _⟩ := row_open hrow
                subst hv
                have k5 := hLr.bc.c 5 (by omega)
                rw [upV_same] at k5
                have f5 := hLr.bc.fz 5
                have hkr : k < wr.heap.size := hLr.bc.lt
                have HNB : Hid ((Value.slice pv l.length cv).ownBlock ≠ some k) := fun e => by have := (row_lt hrow k e).1; omega
                have HO : Hid (OutAt wr (.slice pv l.length cv) l) := ⟨row_mono hrow (Nat.zero_le _)⟩
                clear hLr hrow hl
                by_cases hin : i < size
                · have hiI : decide ((i : Int) < (size : Int)) = true := decide_eq_true (by omega)
                  go_wp2_with fail
                  go_region_law ((refine oc_step (r := k) (j := 5) (y := gOf t nn) (by rfl) (.tmp 145) (.tmp 149) (by rfl) (by first | rfl | simp) (gb := wr.heap.size) (by simp [Act.eval]) HO.out k5 f5 HNB.out (by omega) (by repeat (first | exact Below.refl _ _ | refine Below.drew ?_ | refine Below.alloc ?_ (by simp <;> omega) _)) (by simp) ?_; intro pa5 cap5 w5 hfin k9 kf))
                  all_goals
                    go_wp2_with fail
                    have hvb : ∀ g, (Value.slice pa5 (l.length + 1) cap5).ownBlock = some g → w.heap.size ≤ g := by
                      intro g hg
                      rcases hfin.out.2.2 with e | ⟨q, e, hq⟩
                      · exact (row_lt HLr.out.2.1 g (by rw [← e]; exact hg)).1
                      · rw [e] at hg; injection hg with hg; have := HLr.out.1.step.upd.size; omega
                    have hrow5 : w5.ownsRow w.heap.size 5 1 (.slice pa5 (l.length + 1) cap5) (l ++ [gOf t nn]).length (bvs (l ++ [gOf t nn])) := row_raise hfin.out.1.row hvb
                    have hU5 : UpdS (fun q => w.heap.size ≤ q) wr w5 := hfin.out.2.1.sub (fun q _ e => (row_lt HLr.out.2.1 q e).1)
                    refine ⟨⟨i + 1, _, l ++ [gOf t nn], by go_num, by omega, by rw [List.length_append, HLr.out.2.2, List.length_singleton], ?_, row_same hrow5 (fun g hg => Below.heap_setCell _ _ _ _ (by have := hvb g hg; show g ≠ k; omega))⟩, by simp [intOf]; omega⟩
                    have := (HLr.out.1.grow hkl hU5).store HYk.out 5 (by omega) (.slice pa5 (l.length + 1) cap5)
                    rw [upV_upV] at this
                    exact this
                · have hiI : decide ((i : Int) < (size : Int)) = false := decide_eq_false (by omega)
                  go_wp2_with fail
                  go_ret
                  obtain ⟨gx, hbx, hgx⟩ := row_bya HLr.out.2.1
                  exact ⟨C, _, l, gx, nn + 1, by go_num, by omega, HLr.out.1.st, HLr.out.1.step, fun _ _ _ _ => rfl, HLr.out.1.bc, fun i hi => by rw [upV_other _ _ _ _ (by omega)]; exact HD3.out.1 i hi, by rw [upV_same]; exact hbx, fun h => (row_lt HLr.out.2.1 gx (hgx h)).1, by have := HLr.out.2.2; omega⟩
          · have hn0 : ((lit : Int) == 0) = false := by rw [beq_eq_false_iff_ne]; omega
            have hn1 : ((lit : Int) == 1) = false := by rw [beq_eq_false_iff_ne]; omega
            have HLit : Hid (lit = 2 ∨ lit = 3) := hl
            clear hl
            by_cases h3 : t.size < nn + packed
            · have hd3 : decide ((t.size : Int) < (nn : Int) + (packed : Int)) = true := decide_eq_true (by omega)
              go_wp2_with fail
              refine (bad_any b C e0 8 _ HL6.out.st.wc HC.out.1).mono ?_
              rintro x w3 ⟨rfl, hW3, hU3⟩
              have HG : Hid (LitQ b k Y s limit a t C D w (.returned (.int .i64 0)) w3) := HBad6.out w3 hW3 hU3
              clear hW3 hU3
              go_wp2_with fail
              go_ret
              exact HG.out
            · have hd3 : decide ((t.size : Int) < (nn : Int) + (packed : Int)) = false := decide_eq_false (by omega)
              by_cases h4 : four = true ∧ size < 6
              · obtain ⟨rfl, h4⟩ := h4
                have hd4 : decide ((size : Int) < 6) = true := decide_eq_true (by omega)
                simp only [if_true] at k4
                go_wp2_with fail
                refine (bad_any b C e0 8 _ HL6.out.st.wc HC.out.1).mono ?_
                rintro x w3 ⟨rfl, hW3, hU3⟩
                have HG : Hid (LitQ b k Y s limit a t C D w (.returned (.int .i64 0)) w3) := HBad6.out w3 hW3 hU3
                clear hW3 hU3
                go_wp2_with fail
                go_ret
                exact HG.out
              · have hp1 : (nn : Int) ≤ (nn : Int) + (packed : Int) := by omega
                have hp2 : (nn : Int) + (packed : Int) ≤ (t.size : Int) := by omega
                have HCo := coded_w b k lit four (Xs b (C 3) Y) C D3 (t.extract nn (nn + packed)) size e0 W6 HL6.out.st.wc HL6.out.bc hbk (.inl rfl) (.inr (.inr HYk.out)) (fun j hj => by
                  rcases hj with e | e | e
                  · rw [e]; exact HL6.out.st.wc.lt
                  · obtain ⟨o, ho, _⟩ := HL6.out.st.out
                    exact (row_lt ho.row j e).2
                  · exact HL6.out.st.yb j e) HL6.out.st.tree HC.out.1 HLit.out HD3.out.2.2.1 HD3.out.2.2.2 HD3.out.2.1 (by rw [ByteArray.size_extract]; omega) (by omega) (fun h => by
                  rcases Nat.lt_or_ge size 6 with h' | h'
                  · exact absurd ⟨h, h'⟩ h4
                  · exact h')
                have HCH : Hid (Calls Try.prog 67 #[.pointer (some ⟨b, 0, none⟩), .string (t.extract nn (nn + packed)), .int .i64 (size : Int), .pointer (some ⟨k, 0, none⟩)] W6 fun x w' => CodedW b k (Xs b (C 3) Y) C D3 W6 x w') := HCo
                clear HCo
                have HT4 : Hid (∀ (w1 : World) (x : Ending), CodedW b k (Xs b (C 3) Y) C D3 W6 x w1 → x = .returned (.tuple #[]) ∧ LitQ b k Y s limit a t C D w (.returned (.int .i64 ((nn + packed : Nat) : Int))) w1) := by
                  intro w1 x hq
                  obtain ⟨C', D', l, hx, h1, h2, h3, h4, h5, h6, h7⟩ := HL6.out.st.coded HYk.out hq
                  obtain ⟨gx, hbx, hgx⟩ := row_bya h6
                  refine ⟨hx, C', D', l, gx, nn + packed, rfl, by omega, h1, HL6.out.step.trans h2, h3, h4, fun i hi => (h5 i (by omega)).trans (HD3.out.1 i hi), hbx, fun h => ?_, h7⟩
                  have := (row_lt h6 gx (hgx h)).1
                  have := HL6.out.step.upd.size
                  omega
                by_cases h5 : size < 6
                · have hfo : four = false := by
                    cases four with
                    | true => exact absurd ⟨rfl, h5⟩ h4
                    | false => rfl
                  subst hfo
                  have hd4 : decide ((size : Int) < 6) = true := decide_eq_true (by omega)
                  simp only [Bool.false_eq_true, if_false] at k4
                  clear h4
                  go_wp2_with fail
                  refine HCH.out.mono ?_
                  intro x w7 hq
                  obtain ⟨rfl, hq2⟩ := HT4.out w7 x hq
                  have HQ : Hid (LitQ b k Y s limit a t C D w (.returned (.int .i64 ((nn + packed : Nat) : Int))) w7) := hq2
                  clear hq hq2
                  go_wp2_with fail
                  go_ret
                  exact HQ.out
                · have hd4 : decide ((size : Int) < 6) = false := decide_eq_false (by omega)
                  clear h4
                  go_wp2_with fail
                  refine HCH.out.mono ?_
                  intro x w7 hq
                  obtain ⟨rfl, hq2⟩ := HT4.out w7 x hq
                  have HQ : Hid (LitQ b k Y s limit a t C D w (.returned (.int .i64 ((nn + packed : Nat) : Int))) w7) := hq2
                  clear hq hq2
                  go_wp2_with fail
                  go_ret
                  exact HQ.out
end Go.Proofs.Ytkfilgfcgmohlaa
