import Derived.Test.YtkfilgfcgmohlaaJ24
import Derived.WalkKit
import Derived.WalkSpells
import Derived.WalkLawsBesides
import Derived.Deep.CutRange
namespace Go.Proofs.Ytkfilgfcgmohlaa
open Go.RowKit
/-- a frame's header at block f: its seven cells -/
structure Fc (w : World) (f : Nat) (D : Nat → Value) : Prop where
  c : ∀ i, i < 7 → w.cell? ⟨f, i, none⟩ = some (D i)
  fz : ∀ i, w.frozen? ⟨f, i, none⟩ = false
theorem Fc.lt {w : World} {f : Nat} {D : Nat → Value} (h : Fc w f D) : f < w.heap.size := block_lt_of_cell (h.c 0 (by omega))
theorem Fc.keep {w w' : World} {f : Nat} {D : Nat → Value} (h : Fc w f D) (hb : w'.heap[f]? = w.heap[f]?) : Fc w' f D :=
  ⟨fun i hi => (World.cell?_of_block (w := w) (a := ⟨f, i, none⟩) hb).trans (h.c i hi), fun i => (World.frozen?_of_block (w := w) (a := ⟨f, i, none⟩) hb).trans (h.fz i)⟩
theorem Fc.upd {w w' : World} {f b : Nat} {D : Nat → Value} (h : Fc w f D) (hu : Upd b w w') (hne : f ≠ b) : Fc w' f D := h.keep (hu.block f h.lt hne)
theorem Fc.set {w : World} {f : Nat} {D : Nat → Value} (h : Fc w f D) (k : Nat) (hk : k < 7) (v : Value) : Fc (w.setCell ⟨f, k, none⟩ v) f (upV D k v) := by
  refine ⟨fun i hi => ?_, fun i => by rw [World.frozen?_setCell]; exact h.fz i⟩
  by_cases e : i = k
  · subst e; rw [upV_same]; exact cs_same (h.c i hi)
  · rw [upV_other _ _ _ _ e, cs_other (addr_ne (by omega))]; exact h.c i hi
theorem Wc.other {w : World} {b : Nat} {C : Nat → Value} (h : Wc w b C) (p : Addr) (v : Value) (hp : b ≠ p.block) : Wc (w.setCell p v) b C := h.keep (Below.heap_setCell _ _ _ _ hp)
theorem takeV_byte (s : ByteArray) (p : Nat) (e0 : Int) : ∃ T : Nat, T < 256 ∧ takeV s p e0 1 = (T : Int) := by
  unfold takeV
  split
  · exact ⟨0, by omega, rfl⟩
  · have h := numN_lt (gOf s) (gOf_lt s) 1 p
    exact ⟨numN (gOf s) p 1, by omega, by unfold wrap64; omega⟩
end Go.Proofs.Ytkfilgfcgmohlaa
namespace Go.Proofs.Ytkfilgfcgmohlaa
open Go.RowKit
/-- the world's cells when the place and the error have turned -/
def CC (C : Nat → Value) (p : Nat) (e : Int) : Nat → Value := upV (upV C 15 (.int .i64 e)) 1 (.int .i64 (p : Int))
theorem CC_take (C : Nat → Value) (p p' : Nat) (e e' : Int) : upV (upV (CC C p e) 15 (.int .i64 e')) 1 (.int .i64 (p' : Int)) = CC C p' e' := by
  funext i; unfold CC upV; by_cases h1 : i = 1 <;> by_cases h2 : i = 15 <;> simp [h1, h2]
theorem CC_bad (C : Nat → Value) (p : Nat) (e e' : Int) : upV (CC C p e) 15 (.int .i64 e') = CC C p e' := by
  funext i; unfold CC upV; by_cases h1 : i = 1 <;> by_cases h2 : i = 15 <;> simp [h1, h2]
theorem CC_1 (C : Nat → Value) (p : Nat) (e : Int) : CC C p e 1 = .int .i64 (p : Int) := by unfold CC; rw [upV_same]
theorem CC_15 (C : Nat → Value) (p : Nat) (e : Int) : CC C p e 15 = .int .i64 e := by unfold CC; rw [upV_other _ _ _ _ (by omega), upV_same]
theorem CC_0 (C : Nat → Value) (p : Nat) (e : Int) : CC C p e 0 = C 0 := by unfold CC; rw [upV_other _ _ _ _ (by omega), upV_other _ _ _ _ (by omega)]
/-- a frame's cells -/
def DD (win size : Int) (single told chk : Bool) : Nat → Value
  | 0 => .int .i64 win
  | 1 => .int .i64 size
  | 2 => .bool single
  | 3 => .bool told
  | 4 => .bool chk
  | 5 => .slice none 0 0
  | _ => .int .i64 0
theorem DD_0 (win size win' : Int) (single told chk : Bool) : upV (DD win size single told chk) 0 (.int .i64 win') = DD win' size single told chk := by
  funext i; unfold upV; match i with | 0 => rfl | 1 => rfl | 2 => rfl | 3 => rfl | 4 => rfl | 5 => rfl | _ + 6 => rfl
theorem DD_1 (win size size' : Int) (single told chk : Bool) : upV (DD win size single told chk) 1 (.int .i64 size') = DD win size' single told chk := by
  funext i; unfold upV; match i with | 0 => rfl | 1 => rfl | 2 => rfl | 3 => rfl | 4 => rfl | 5 => rfl | _ + 6 => rfl
theorem DD_2 (win size : Int) (single told chk x : Bool) : upV (DD win size single told chk) 2 (.bool x) = DD win size x told chk := by
  funext i; unfold upV; match i with | 0 => rfl | 1 => rfl | 2 => rfl | 3 => rfl | 4 => rfl | 5 => rfl | _ + 6 => rfl
theorem DD_3 (win size : Int) (single told chk x : Bool) : upV (DD win size single told chk) 3 (.bool x) = DD win size single x chk := by
  funext i; unfold upV; match i with | 0 => rfl | 1 => rfl | 2 => rfl | 3 => rfl | 4 => rfl | 5 => rfl | _ + 6 => rfl
theorem DD_4 (win size : Int) (single told chk x : Bool) : upV (DD win size single told chk) 4 (.bool x) = DD win size single told x := by
  funext i; unfold upV; match i with | 0 => rfl | 1 => rfl | 2 => rfl | 3 => rfl | 4 => rfl | 5 => rfl | _ + 6 => rfl
/-- the world while a header is read -/
structure HSt (w wx : World) (b f : Nat) (C : Nat → Value) (p : Nat) (e win size : Int) (single told chk : Bool) : Prop where
  wc : Wc wx b (CC C p e)
  fc : Fc wx f (DD win size single told chk)
  upd : Upd b w wx
  new : w.heap.size ≤ f
  old : b < w.heap.size
theorem HSt.take {w wx w1 : World} {b f : Nat} {C : Nat → Value} {p p' : Nat} {e e' win size : Int} {single told chk : Bool} (h : HSt w wx b f C p e win size single told chk) (hW : Wc w1 b (CC C p' e')) (hU : Upd b wx w1) : HSt w w1 b f C p' e' win size single told chk :=
  ⟨hW, h.fc.upd hU (by have := h.new; have := h.old; omega), h.upd.trans hU, h.new, h.old⟩
theorem HSt.store {w wx : World} {b f : Nat} {C : Nat → Value} {p : Nat} {e win size win' size' : Int} {single told chk single' told' chk' : Bool} (h : HSt w wx b f C p e win size single told chk) (k : Nat) (hk : k < 7) (v : Value) (hv : upV (DD win size single told chk) k v = DD win' size' single' told' chk') : HSt w (wx.setCell ⟨f, k, none⟩ v) b f C p e win' size' single' told' chk' :=
  ⟨h.wc.other _ _ (by have := h.new; have := h.old; show b ≠ f; omega), by rw [← hv]; exact h.fc.set k hk v, ⟨h.upd.os, h.upd.tape, h.upd.output, by rw [World.size_setCell]; exact h.upd.size, fun i h1 h2 => (Below.heap_setCell _ _ _ _ (by have := h.new; show i ≠ f; omega)).trans (h.upd.block i h1 h2)⟩, h.new, h.old⟩
theorem HSt.alloc {w wx : World} {b f : Nat} {C : Nat → Value} {p : Nat} {e win size : Int} {single told chk : Bool} (h : HSt w wx b f C p e win size single told chk) (o : Obj) : HSt w (wx.alloc o) b f C p e win size single told chk :=
  ⟨h.wc.keep (Below.heap_alloc _ _ _ h.wc.lt), h.fc.keep (Below.heap_alloc _ _ _ h.fc.lt), h.upd.alloc o, h.new, h.old⟩
theorem HSt.start {w : World} {b : Nat} {C : Nat → Value} {p : Nat} {e : Int} (h : Wc w b (CC C p e)) (t : TypeId) : HSt w (w.alloc (Obj.cells #[.int .i64 0, .int .i64 0, .bool false, .bool false, .bool false, .slice none 0 0, .int .i64 0] t)) b w.heap.size C p e 0 0 false false false := by
  refine ⟨h.keep (Below.heap_alloc _ _ _ h.lt), ⟨fun i hi => ?_, fun i => by simp⟩, (Upd.refl b w).alloc _, Nat.le_refl _, h.lt⟩
  rw [World.cell?_alloc_new]
  match i, hi with | 0, _ => rfl | 1, _ => rfl | 2, _ => rfl | 3, _ => rfl | 4, _ => rfl | 5, _ => rfl | 6, _ => rfl
/-- what a frame's header says, step by step -/
structure HdV where
  T : Nat
  p1 : Nat
  e1 : Int
  e2 : Int
  sg : Bool
  ck : Bool
  X : Nat
  p2 : Nat
  e3 : Int
  win0 : Int
  dn : Nat
  dict : Int
  p3 : Nat
  e4 : Int
  n0 : Nat
  n : Nat
  sz : Int
  p4 : Nat
  e5 : Int
  sz2 : Int
  win : Int
  e6 : Int
  e7 : Int
structure HeadRel (s : ByteArray) (p : Nat) (e0 : Int) (v : HdV) : Prop where
  first : takeV s p e0 1 = (v.T : Int) ∧ v.T < 256 ∧ v.p1 = takeP s p e0 1 ∧ v.e1 = takeE s p e0 1
  e2 : v.e2 = if v.e1 = 0 ∧ v.T / 8 % 2 = 1 then 4 else v.e1
  sg : ((v.T : Int) / 32 % 2 == 1) = v.sg
  ck : ((v.T : Int) / 4 % 2 == 1) = v.ck
  win0 : v.p2 = (if v.sg then v.p1 else takeP s v.p1 v.e2 1) ∧ v.e3 = (if v.sg then v.e2 else takeE s v.p1 v.e2 1) ∧ v.win0 = (if v.sg then 0 else (wideW v.X : Int)) ∧ takeV s v.p1 v.e2 1 = (v.X : Int)
  dn : v.dn = [0, 1, 2, 4].getD (v.T % 4) 0
  dict : v.p3 = takeP s v.p2 v.e3 v.dn ∧ v.e4 = takeE s v.p2 v.e3 v.dn ∧ v.dict = takeV s v.p2 v.e3 v.dn
  n0 : v.n0 = [0, 2, 4, 8].getD (v.T / 64) 0
  n : v.n = if v.sg = true ∧ v.n0 = 0 then 1 else v.n0
  size : v.p4 = takeP s v.p3 v.e4 v.n ∧ v.e5 = takeE s v.p3 v.e4 v.n ∧ v.sz = takeV s v.p3 v.e4 v.n
  sz2 : v.sz2 = if v.n = 2 then v.sz + 256 else v.sz
  win : v.win = if v.sg then v.sz2 else v.win0
  e6 : v.e6 = if v.dict ≠ 0 then errN v.e5 5 else v.e5
  e7 : v.e7 = if 134217728 < v.win ∨ v.win < 0 then errN v.e6 6 else v.e6
def HeaderQ (b : Nat) (C : Nat → Value) (s : ByteArray) (p : Nat) (e0 : Int) (w : World) (x : Ending) (w' : World) : Prop :=
  ∃ v : HdV, HeadRel s p e0 v ∧ x = .returned (.pointer (some ⟨w.heap.size, 0, none⟩)) ∧ HSt w w' b w.heap.size C v.p4 v.e7 v.win v.sz2 v.sg (decide (0 < v.n)) v.ck
set_option maxRecDepth 100000 in
set_option maxHeartbeats 4000000 in
theorem header_w (b : Nat) (C : Nat → Value) (s : ByteArray) (p : Nat) (e0 : Int) (w : World) (h : Wc w b (CC C p e0)) (h0 : C 0 = .string s) (hs : s.size ≤ 1048576) (hp : p ≤ 1048576) :
    Calls Try.prog 28 #[.pointer (some ⟨b, 0, none⟩)] w fun x w' => HeaderQ b C s p e0 w x w' := by
  have hb0 := h.lt
  have HS0 : Hid (HSt w (w.alloc (Obj.cells #[.int .i64 0, .int .i64 0, .bool false, .bool false, .bool false, .slice none 0 0, .int .i64 0] 45)) b w.heap.size C p e0 0 0 false false false) := HSt.start h _
  have HC0 : Hid (C 0 = .string s) := h0
  clear h h0
  go_enter Try.func28, Try.ntmps28
  go_wp2_with fail
  refine (take_any b (CC C p e0) s p e0 1 _ HS0.out.wc (by rw [CC_0]; exact HC0.out) (CC_1 _ _ _) (CC_15 _ _ _) hs (by omega) (by omega)).mono ?_
  rintro x w1 ⟨rfl, hW1, hU1⟩
  rw [CC_take] at hW1
  have HS1 : Hid (HSt w w1 b w.heap.size C (takeP s p e0 1) (takeE s p e0 1) 0 0 false false false) := HS0.out.take hW1 hU1
  obtain ⟨T, hT, hTe⟩ := takeV_byte s p e0
  rw [hTe]
  have c15 := hW1.c 15 (by omega)
  rw [CC_15] at c15
  obtain ⟨e1, he1⟩ : ∃ e1, e1 = takeE s p e0 1 := ⟨_, rfl⟩
  obtain ⟨p1, hp1⟩ : ∃ p1, p1 = takeP s p e0 1 := ⟨_, rfl⟩
  rw [← he1, ← hp1] at HS1
  have H1 : Hid (takeV s p e0 1 = (T : Int) ∧ T < 256 ∧ p1 = takeP s p e0 1 ∧ e1 = takeE s p e0 1) := ⟨hTe, hT, hp1, he1⟩
  rw [← he1] at c15
  have hp1b : p1 ≤ 1048577 := by rw [hp1]; unfold takeP; split <;> omega
  clear hW1 hU1 hTe he1 hp1 HS0
  obtain ⟨e2, he2⟩ : ∃ e2 : Int, e2 = if e1 = 0 ∧ T / 8 % 2 = 1 then 4 else e1 := ⟨_, rfl⟩
  have HE2 : Hid (e2 = if e1 = 0 ∧ T / 8 % 2 = 1 then 4 else e1) := he2
  clear he2
  go_upto_region 3 with fail
  go_cut [24] from 14 to 24 (fun v wx => v = .bool (decide (e1 = 0 ∧ T / 8 % 2 = 1)) ∧ wx = w1)
  case first =>
    by_cases hz : e1 = 0
    · subst hz
      by_cases h8 : T / 8 % 2 = 1
      · have hb8 : ((T : Int) / 8 % 2 == 1) = true := by rw [beq_iff_eq]; omega
        have hm8 : ((T : Int) / 8) % 2 = 1 := by omega
        have ht8 : ((T : Int) / 8).tmod 2 = 1 := by rw [Int.tmod_eq_emod_of_nonneg (by omega)]; omega
        go_wp2_with fail
        go_meet
        exact ⟨by simp [h8], rfl⟩
      · have hb8 : ((T : Int) / 8 % 2 == 1) = false := by rw [beq_eq_false_iff_ne]; omega
        have hm8 : ((T : Int) / 8) % 2 = 0 := by omega
        have ht8 : ((T : Int) / 8).tmod 2 = 0 := by rw [Int.tmod_eq_emod_of_nonneg (by omega)]; omega
        go_wp2_with fail
        go_meet
        exact ⟨by simp [h8], rfl⟩
    · have hzb : (e1 == 0) = false := by rw [beq_eq_false_iff_ne]; exact hz
      go_wp2_with fail
      go_meet
      exact ⟨by rw [decide_eq_false (p := e1 = 0 ∧ T / 8 % 2 = 1) (fun h => hz h.1)], rfl⟩
  case rest =>
    obtain ⟨rfl, rfl⟩ := hcut
    go_upto_if 24 with fail
    go_cut [26] from 14 to 26 (fun _ wx => HSt w wx b w.heap.size C p1 e2 0 0 false false false)
    case first =>
      by_cases hc : e1 = 0 ∧ T / 8 % 2 = 1
      · have hcd : decide (e1 = 0 ∧ T / 8 % 2 = 1) = true := decide_eq_true hc
        rw [hcd]
        rw [if_pos hc] at HE2
        go_wp2_with fail
        refine (bad_any b _ e1 4 _ HS1.out.wc (CC_15 _ _ _)).mono ?_
        rintro x w2 ⟨rfl, hW2, hU2⟩
        rw [CC_bad] at hW2
        have HF : Hid (HSt w w2 b w.heap.size C p1 e2 0 0 false false false) := by
          rw [HE2.out]
          have := HS1.out.take hW2 hU2
          rw [show errN e1 4 = 4 by unfold errN; rw [if_pos hc.1]] at this
          exact this
        clear hW2 hU2
        go_wp2_with fail
        go_meet
        exact HF.out
      · have hcd : decide (e1 = 0 ∧ T / 8 % 2 = 1) = false := decide_eq_false hc
        rw [hcd]
        rw [if_neg hc] at HE2
        go_wp2_with fail
        go_meet
        rw [HE2.out]; exact HS1.out
    case rest =>
      have HS2 : Hid (HSt w wc b w.heap.size C p1 e2 0 0 false false false) := hcut
      clear hcut HS1 c15
      obtain ⟨sg, hsg⟩ : ∃ sg : Bool, ((T : Int) / 32 % 2 == 1) = sg := ⟨_, rfl⟩
      obtain ⟨ck, hck⟩ : ∃ ck : Bool, ((T : Int) / 4 % 2 == 1) = ck := ⟨_, rfl⟩
      have HSG : Hid (((T : Int) / 32 % 2 == 1) = sg ∧ ((T : Int) / 4 % 2 == 1) = ck) := ⟨hsg, hck⟩
      have hsgt : ((T : Int) / 32).tmod 2 = (T : Int) / 32 % 2 := by rw [Int.tmod_eq_emod_of_nonneg (by omega)]
      have hckt : ((T : Int) / 4).tmod 2 = (T : Int) / 4 % 2 := by rw [Int.tmod_eq_emod_of_nonneg (by omega)]
      have d2 := HS2.out.fc.c 2 (by omega)
      have d4 := HS2.out.fc.c 4 (by omega)
      have f2 := HS2.out.fc.fz 2
      have f4 := HS2.out.fc.fz 4
      go_upto_region 7 with fail
      have HS4 : Hid (HSt w ((wc.setCell ⟨w.heap.size, 2, none⟩ (.bool sg)).setCell ⟨w.heap.size, 4, none⟩ (.bool ck)) b w.heap.size C p1 e2 0 0 sg false ck) := (HS2.out.store 2 (by omega) (.bool sg) (DD_2 _ _ _ _ _ _)).store 4 (by omega) (.bool ck) (DD_4 _ _ _ _ _ _)
      generalize ((wc.setCell ⟨w.heap.size, 2, none⟩ (.bool sg)).setCell ⟨w.heap.size, 4, none⟩ (.bool ck)) = W4 at HS4 ⊢
      clear HS2 d2 d4 f2 f4
      have d2 := HS4.out.fc.c 2 (by omega)
      rw [show DD 0 0 sg false ck 2 = .bool sg from rfl] at d2
      have d0 := HS4.out.fc.c 0 (by omega)
      have f0 := HS4.out.fc.fz 0
      obtain ⟨X, hX, hXe⟩ := takeV_byte s p1 e2
      obtain ⟨p2, hp2⟩ : ∃ p2, p2 = if sg then p1 else takeP s p1 e2 1 := ⟨_, rfl⟩
      obtain ⟨e3, he3⟩ : ∃ e3, e3 = if sg then e2 else takeE s p1 e2 1 := ⟨_, rfl⟩
      obtain ⟨win0, hwin0⟩ : ∃ win0 : Int, win0 = if sg then 0 else (wideW X : Int) := ⟨_, rfl⟩
      have H2 : Hid (p2 = (if sg then p1 else takeP s p1 e2 1) ∧ e3 = (if sg then e2 else takeE s p1 e2 1) ∧ win0 = (if sg then 0 else (wideW X : Int)) ∧ takeV s p1 e2 1 = (X : Int)) := ⟨hp2, he3, hwin0, hXe⟩
      have hp2b : p2 ≤ 1048578 := by rw [hp2]; unfold takeP; split <;> (try split) <;> omega
      clear hp2 he3 hwin0 hXe
      go_upto_if 45 with fail
      go_cut [5] from 27 to 52 (fun _ wx => HSt w wx b w.heap.size C p2 e3 win0 0 sg false ck)
      case first =>
        cases sg with
        | true =>
          go_wp2_with fail
          go_meet
          rw [H2.out.1, H2.out.2.1, H2.out.2.2.1]; exact HS4.out
        | false =>
          go_wp2_with fail
          refine (take_any b (CC C p1 e2) s p1 e2 1 _ HS4.out.wc (by rw [CC_0]; exact HC0.out) (CC_1 _ _ _) (CC_15 _ _ _) hs (by omega) (by omega)).mono ?_
          rintro x w5 ⟨rfl, hW5, hU5⟩
          rw [CC_take] at hW5
          have HS5 : Hid (HSt w w5 b w.heap.size C p2 e3 0 0 false false ck) := by rw [H2.out.1, H2.out.2.1]; exact HS4.out.take hW5 hU5
          rw [H2.out.2.2.2]
          clear hW5 hU5 d0 f0 d2
          go_wp2_with fail
          refine (wideW_any X _ hX).mono ?_
          rintro x w6 ⟨rfl, hw6⟩
          rw [hw6]
          clear hw6
          have d0 := HS5.out.fc.c 0 (by omega)
          have f0 := HS5.out.fc.fz 0
          go_wp2_with fail
          go_meet
          rw [H2.out.2.2.1]
          exact HS5.out.store 0 (by omega) _ (DD_0 _ _ _ _ _ _)
      case rest =>
        have HS5 : Hid (HSt w wc b w.heap.size C p2 e3 win0 0 sg false ck) := hcut
        clear hcut HS4 d0 d2 f0
        obtain ⟨j, hj⟩ : ∃ j, j = T % 4 := ⟨_, rfl⟩
        have hj4 : j < 4 := by omega
        have hjI : (T : Int) % 4 = (j : Int) := by omega
        have hjt : (T : Int).tmod 4 = (j : Int) := by rw [Int.tmod_eq_emod_of_nonneg (by omega)]; omega
        obtain ⟨dn, hdn⟩ : ∃ dn, dn = [0, 1, 2, 4].getD j 0 := ⟨_, rfl⟩
        have hdn4 : dn ≤ 4 := by
          rw [hdn]
          match j, hj4 with | 0, _ => decide | 1, _ => decide | 2, _ => decide | 3, _ => decide
        have cd : (wc.alloc (Obj.cells #[.int .i64 0, .int .i64 1, .int .i64 2, .int .i64 4] 3)).cell? ⟨wc.heap.size, j, none⟩ = some (.int .i64 (dn : Int)) := by
          rw [World.cell?_alloc_new, hdn]
          match j, hj4 with | 0, _ => rfl | 1, _ => rfl | 2, _ => rfl | 3, _ => rfl
        have hjl : (j : Int) < 4 := by omega
        have HDN : Hid (dn = [0, 1, 2, 4].getD (T % 4) 0) := by rw [← hj]; exact hdn
        clear hj hdn
        go_wp2_with fail
        refine (take_any b (CC C p2 e3) s p2 e3 dn _ (HS5.out.alloc _).wc (by rw [CC_0]; exact HC0.out) (CC_1 _ _ _) (CC_15 _ _ _) hs (by omega) (by omega)).mono ?_
        rintro x w6 ⟨rfl, hW6, hU6⟩
        rw [CC_take] at hW6
        obtain ⟨p3, hp3⟩ : ∃ p3, p3 = takeP s p2 e3 dn := ⟨_, rfl⟩
        obtain ⟨e4, he4⟩ : ∃ e4, e4 = takeE s p2 e3 dn := ⟨_, rfl⟩
        obtain ⟨dict, hdict⟩ : ∃ dict, dict = takeV s p2 e3 dn := ⟨_, rfl⟩
        rw [← hp3, ← he4] at hW6
        rw [← hdict]
        have HS6 : Hid (HSt w w6 b w.heap.size C p3 e4 win0 0 sg false ck) := (HS5.out.alloc _).take hW6 hU6
        have H3 : Hid (p3 = takeP s p2 e3 dn ∧ e4 = takeE s p2 e3 dn ∧ dict = takeV s p2 e3 dn) := ⟨hp3, he4, hdict⟩
        have hp3b : p3 ≤ 1048582 := by rw [hp3]; unfold takeP; split <;> omega
        clear hW6 hU6 hp3 he4 hdict cd
        obtain ⟨q, hq⟩ : ∃ q, q = T / 64 := ⟨_, rfl⟩
        have hq4 : q < 4 := by omega
        have hqI : (T : Int) / 64 = (q : Int) := by omega
        obtain ⟨n0, hn0⟩ : ∃ n0, n0 = [0, 2, 4, 8].getD q 0 := ⟨_, rfl⟩
        have hn08 : n0 ≤ 8 := by
          rw [hn0]
          match q, hq4 with | 0, _ => decide | 1, _ => decide | 2, _ => decide | 3, _ => decide
        have cs : (w6.alloc (Obj.cells #[.int .i64 0, .int .i64 2, .int .i64 4, .int .i64 8] 3)).cell? ⟨w6.heap.size, q, none⟩ = some (.int .i64 (n0 : Int)) := by
          rw [World.cell?_alloc_new, hn0]
          match q, hq4 with | 0, _ => rfl | 1, _ => rfl | 2, _ => rfl | 3, _ => rfl
        have hql : (q : Int) < 4 := by omega
        have HN0 : Hid (n0 = [0, 2, 4, 8].getD (T / 64) 0) := by rw [← hq]; exact hn0
        clear hq hn0
        go_upto_region 14 with fail
        have HS7 : Hid (HSt w (w6.alloc (Obj.cells #[.int .i64 0, .int .i64 2, .int .i64 4, .int .i64 8] 3)) b w.heap.size C p3 e4 win0 0 sg false ck) := HS6.out.alloc _
        generalize (w6.alloc (Obj.cells #[.int .i64 0, .int .i64 2, .int .i64 4, .int .i64 8] 3)) = W7 at HS7 cs ⊢
        clear HS6 HS5 cs
        have d2 := HS7.out.fc.c 2 (by omega)
        rw [show DD win0 0 sg false ck 2 = .bool sg from rfl] at d2
        obtain ⟨n, hn⟩ : ∃ n, n = if sg = true ∧ n0 = 0 then 1 else n0 := ⟨_, rfl⟩
        have HNN : Hid (n = if sg = true ∧ n0 = 0 then 1 else n0) := hn
        have hn8 : n ≤ 8 := by rw [hn]; split <;> omega
        clear hn
        go_cut [74] from 62 to 74 (fun v wx => v = .bool (decide (sg = true ∧ n0 = 0)) ∧ wx = W7)
        case first =>
          cases sg with
          | false =>
            go_wp2_with fail
            go_meet
            exact ⟨by simp, rfl⟩
          | true =>
            by_cases hz : n0 = 0
            · subst hz
              go_wp2_with fail
              go_meet
              exact ⟨by simp, rfl⟩
            · have hzb : ((n0 : Int) == 0) = false := by rw [beq_eq_false_iff_ne]; omega
              go_wp2_with fail
              go_meet
              exact ⟨by simp [hz], rfl⟩
        case rest =>
          obtain ⟨rfl, rfl⟩ := hcut
          go_upto_if 74 with fail
          go_cut [9] from 62 to 74 (fun v wx => v = .int .i64 (n : Int) ∧ HSt w wx b w.heap.size C p3 e4 win0 0 sg false ck)
          case first =>
            by_cases hc : sg = true ∧ n0 = 0
            · rw [if_pos hc] at HNN
              rw [decide_eq_true hc]
              go_wp2_with fail
              go_meet
              exact ⟨by rw [HNN.out]; rfl, HS7.out⟩
            · rw [if_neg hc] at HNN
              rw [decide_eq_false hc]
              go_wp2_with fail
              go_meet
              exact ⟨by rw [HNN.out], HS7.out⟩
          case rest =>
            obtain ⟨rfl, hS⟩ := hcut
            have HS8 : Hid (HSt w wc b w.heap.size C p3 e4 win0 0 sg false ck) := hS
            clear hS HS7 d2
            go_wp2_with fail
            refine (take_any b (CC C p3 e4) s p3 e4 n _ HS8.out.wc (by rw [CC_0]; exact HC0.out) (CC_1 _ _ _) (CC_15 _ _ _) hs (by omega) (by omega)).mono ?_
            rintro x w9 ⟨rfl, hW9, hU9⟩
            rw [CC_take] at hW9
            obtain ⟨p4, hp4⟩ : ∃ p4, p4 = takeP s p3 e4 n := ⟨_, rfl⟩
            obtain ⟨e5, he5⟩ : ∃ e5, e5 = takeE s p3 e4 n := ⟨_, rfl⟩
            obtain ⟨sz, hsz⟩ : ∃ sz, sz = takeV s p3 e4 n := ⟨_, rfl⟩
            have hsz2 : n = 2 → 0 ≤ sz ∧ sz < 65536 := by
              intro h2
              rw [hsz, h2]
              unfold takeV
              split
              · omega
              · have := numN_lt (gOf s) (gOf_lt s) 2 p3
                unfold wrap64; omega
            rw [← hp4, ← he5] at hW9
            rw [← hsz]
            have HS9 : Hid (HSt w w9 b w.heap.size C p4 e5 win0 0 sg false ck) := HS8.out.take hW9 hU9
            have H4 : Hid (p4 = takeP s p3 e4 n ∧ e5 = takeE s p3 e4 n ∧ sz = takeV s p3 e4 n) := ⟨hp4, he5, hsz⟩
            clear hW9 hU9 hp4 he5 hsz HS8
            have d1 := HS9.out.fc.c 1 (by omega)
            have f1 := HS9.out.fc.fz 1
            go_upto_if 82 with fail
            have HS10 : Hid (HSt w (w9.setCell ⟨w.heap.size, 1, none⟩ (.int .i64 sz)) b w.heap.size C p4 e5 win0 sz sg false ck) := HS9.out.store 1 (by omega) _ (DD_1 _ _ _ _ _ _)
            generalize (w9.setCell ⟨w.heap.size, 1, none⟩ (.int .i64 sz)) = W10 at HS10 ⊢
            clear HS9 d1 f1
            have d1 := HS10.out.fc.c 1 (by omega)
            rw [show DD win0 sz sg false ck 1 = .int .i64 sz from rfl] at d1
            have f1 := HS10.out.fc.fz 1
            obtain ⟨sz2, hs2⟩ : ∃ sz2 : Int, sz2 = if n = 2 then sz + 256 else sz := ⟨_, rfl⟩
            have H5 : Hid (sz2 = if n = 2 then sz + 256 else sz) := hs2
            clear hs2
            go_cut [90] from 75 to 90 (fun _ wx => HSt w wx b w.heap.size C p4 e5 win0 sz2 sg false ck)
            case first =>
              by_cases h2 : n = 2
              · have := hsz2 h2
                rw [if_pos h2] at H5
                subst h2
                go_wp2_with fail
                go_meet
                rw [H5.out]
                exact HS10.out.store 1 (by omega) _ (DD_1 _ _ _ _ _ _)
              · rw [if_neg h2] at H5
                have h2b : ((n : Int) == 2) = false := by rw [beq_eq_false_iff_ne]; omega
                go_wp2_with fail
                go_meet
                rw [H5.out]
                exact HS10.out
            case rest =>
              have HS11 : Hid (HSt w wc b w.heap.size C p4 e5 win0 sz2 sg false ck) := hcut
              clear hcut HS10 d1 f1 hsz2
              have d3 := HS11.out.fc.c 3 (by omega)
              have f3 := HS11.out.fc.fz 3
              have d2 := HS11.out.fc.c 2 (by omega)
              rw [show DD win0 sz2 sg false ck 2 = .bool sg from rfl] at d2
              obtain ⟨tl, htl⟩ : ∃ tl : Bool, decide (0 < n) = tl := ⟨_, rfl⟩
              have HTL : Hid (tl = decide (0 < n)) := htl.symm
              have htlI : decide ((0 : Int) < (n : Int)) = tl := by rw [← htl]; exact decide_eq_decide.2 (by omega)
              go_upto_region 20 with fail
              have HS12 : Hid (HSt w (wc.setCell ⟨w.heap.size, 3, none⟩ (.bool tl)) b w.heap.size C p4 e5 win0 sz2 sg tl ck) := HS11.out.store 3 (by omega) _ (DD_3 _ _ _ _ _ _)
              generalize (wc.setCell ⟨w.heap.size, 3, none⟩ (.bool tl)) = W12 at HS12 ⊢
              clear HS11 d3 f3 d2 htl htlI
              have d2 := HS12.out.fc.c 2 (by omega)
              rw [show DD win0 sz2 sg tl ck 2 = .bool sg from rfl] at d2
              have d1 := HS12.out.fc.c 1 (by omega)
              rw [show DD win0 sz2 sg tl ck 1 = .int .i64 sz2 from rfl] at d1
              have d0 := HS12.out.fc.c 0 (by omega)
              have f0 := HS12.out.fc.fz 0
              obtain ⟨win, hwin⟩ : ∃ win : Int, win = if sg then sz2 else win0 := ⟨_, rfl⟩
              have H6 : Hid (win = if sg then sz2 else win0) := hwin
              clear hwin
              go_upto_if 99 with fail
              go_cut [106] from 96 to 106 (fun _ wx => HSt w wx b w.heap.size C p4 e5 win sz2 sg tl ck)
              case first =>
                cases sg with
                | true =>
                  go_wp2_with fail
                  go_meet
                  rw [H6.out]
                  exact HS12.out.store 0 (by omega) _ (DD_0 _ _ _ _ _ _)
                | false =>
                  go_wp2_with fail
                  go_meet
                  rw [H6.out]
                  exact HS12.out
              case rest =>
                have HS13 : Hid (HSt w wc b w.heap.size C p4 e5 win sz2 sg tl ck) := hcut
                clear hcut HS12 d0 d1 d2 f0
                obtain ⟨e6, he6⟩ : ∃ e6 : Int, e6 = if dict ≠ 0 then errN e5 5 else e5 := ⟨_, rfl⟩
                have H7 : Hid (e6 = if dict ≠ 0 then errN e5 5 else e5) := he6
                clear he6
                go_upto_if 108 with fail
                go_cut [110] from 107 to 110 (fun _ wx => HSt w wx b w.heap.size C p4 e6 win sz2 sg tl ck)
                case first =>
                  by_cases hd : dict = 0
                  · subst hd
                    rw [if_neg (by simp)] at H7
                    go_wp2_with fail
                    go_meet
                    rw [H7.out]
                    exact HS13.out
                  · rw [if_pos hd] at H7
                    have hdb : (dict != 0) = true := by simp [hd]
                    go_wp2_with fail
                    refine (bad_any b _ e5 5 _ HS13.out.wc (CC_15 _ _ _)).mono ?_
                    rintro x w2 ⟨rfl, hW2, hU2⟩
                    rw [CC_bad] at hW2
                    have HF : Hid (HSt w w2 b w.heap.size C p4 e6 win sz2 sg tl ck) := by rw [H7.out]; exact HS13.out.take hW2 hU2
                    clear hW2 hU2
                    go_wp2_with fail
                    go_meet
                    exact HF.out
                case rest =>
                  have HS14 : Hid (HSt w wc b w.heap.size C p4 e6 win sz2 sg tl ck) := hcut
                  clear hcut HS13
                  have d0 := HS14.out.fc.c 0 (by omega)
                  rw [show DD win sz2 sg tl ck 0 = .int .i64 win from rfl] at d0
                  obtain ⟨W14, hW14⟩ : ∃ W14, W14 = wc := ⟨_, rfl⟩
                  subst hW14
                  go_upto_region 24 with fail
                  go_cut [122] from 111 to 122 (fun v wx => v = .bool (decide (134217728 < win ∨ win < 0)) ∧ wx = W14)
                  case first =>
                    by_cases ha : 134217728 < win
                    · have hab : decide (134217728 < win) = true := decide_eq_true ha
                      go_wp2_with fail
                      go_meet
                      exact ⟨by rw [decide_eq_true (p := 134217728 < win ∨ win < 0) (Or.inl ha)], rfl⟩
                    · have hab : decide (134217728 < win) = false := decide_eq_false ha
                      by_cases hb : win < 0
                      · have hbb : decide (win < 0) = true := decide_eq_true hb
                        go_wp2_with fail
                        go_meet
                        exact ⟨by rw [decide_eq_true (p := 134217728 < win ∨ win < 0) (Or.inr hb)], rfl⟩
                      · have hbb : decide (win < 0) = false := decide_eq_false hb
                        go_wp2_with fail
                        go_meet
                        exact ⟨by rw [decide_eq_false (p := 134217728 < win ∨ win < 0) (by omega)], rfl⟩
                  case rest =>
                    obtain ⟨rfl, rfl⟩ := hcut
                    obtain ⟨e7, he7⟩ : ∃ e7 : Int, e7 = if 134217728 < win ∨ win < 0 then errN e6 6 else e6 := ⟨_, rfl⟩
                    have H8 : Hid (e7 = if 134217728 < win ∨ win < 0 then errN e6 6 else e6) := he7
                    have HV : Hid (HeadRel s p e0 ⟨T, p1, e1, e2, sg, ck, X, p2, e3, win0, dn, dict, p3, e4, n0, n, sz, p4, e5, sz2, win, e6, e7⟩) :=
                      ⟨H1.out, HE2.out, HSG.out.1, HSG.out.2, H2.out, HDN.out, H3.out, HN0.out, HNN.out, H4.out, H5.out, H6.out, H7.out, he7⟩
                    clear he7
                    by_cases hc : 134217728 < win ∨ win < 0
                    · rw [if_pos hc] at H8
                      rw [decide_eq_true hc]
                      go_wp2_with fail
                      refine (bad_any b _ e6 6 _ HS14.out.wc (CC_15 _ _ _)).mono ?_
                      rintro x w2 ⟨rfl, hW2, hU2⟩
                      rw [CC_bad] at hW2
                      have HF : Hid (HSt w w2 b w.heap.size C p4 e7 win sz2 sg tl ck) := by rw [H8.out]; exact HS14.out.take hW2 hU2
                      clear hW2 hU2
                      go_wp2_with fail
                      go_ret
                      exact ⟨_, HV.out, rfl, by rw [← HTL.out]; exact HF.out⟩
                    · rw [if_neg hc] at H8
                      rw [decide_eq_false hc]
                      have HF : Hid (HSt w wc b w.heap.size C p4 e7 win sz2 sg tl ck) := by rw [H8.out]; exact HS14.out
                      go_wp2_with fail
                      go_ret
                      exact ⟨_, HV.out, rfl, by rw [← HTL.out]; exact HF.out⟩
end Go.Proofs.Ytkfilgfcgmohlaa
namespace Go.Proofs.Ytkfilgfcgmohlaa
open Go.RowKit
/-- a block at block k: its twelve cells -/
structure Bc (w : World) (k : Nat) (D : Nat → Value) : Prop where
  c : ∀ i, i < 12 → w.cell? ⟨k, i, none⟩ = some (D i)
  fz : ∀ i, w.frozen? ⟨k, i, none⟩ = false
  one : ∀ i, i < 12 → (D i).oneCell' = true
theorem row_one {w : World} {B e size : Nat} {v : Value} {n : Nat} {xs : List Value} (h : w.ownsRow B e size v n xs) : v.oneCell' = true := by
  rcases h.2 with ⟨rfl, _⟩ | ⟨g, cap, cur, rfl, _⟩ <;> rfl
theorem Bc.lt {w : World} {k : Nat} {D : Nat → Value} (h : Bc w k D) : k < w.heap.size := block_lt_of_cell (h.c 0 (by omega))
theorem Bc.keep {w w' : World} {k : Nat} {D : Nat → Value} (h : Bc w k D) (hb : w'.heap[k]? = w.heap[k]?) : Bc w' k D :=
  ⟨fun i hi => (World.cell?_of_block (w := w) (a := ⟨k, i, none⟩) hb).trans (h.c i hi), fun i => (World.frozen?_of_block (w := w) (a := ⟨k, i, none⟩) hb).trans (h.fz i), h.one⟩
theorem Bc.set {w : World} {k : Nat} {D : Nat → Value} (h : Bc w k D) (j : Nat) (hj : j < 12) (v : Value) (hv : v.oneCell' = true := by rfl) : Bc (w.setCell ⟨k, j, none⟩ v) k (upV D j v) := by
  refine ⟨fun i hi => ?_, fun i => by rw [World.frozen?_setCell]; exact h.fz i, fun i hi => ?_⟩
  · by_cases e : i = j
    · subst e; rw [upV_same]; exact cs_same (h.c i hi)
    · rw [upV_other _ _ _ _ e, cs_other (addr_ne (by omega))]; exact h.c i hi
  · by_cases e : i = j
    · subst e; rw [upV_same]; exact hv
    · rw [upV_other _ _ _ _ e]; exact h.one i hi
theorem Upd2.refl (b : Nat) (o : Option Nat) (w : World) : Upd2 b o w w := ⟨rfl, rfl, rfl, Nat.le_refl _, fun _ _ _ _ => rfl⟩
theorem Upd2.trans {b : Nat} {o : Option Nat} {w w1 w2 : World} (h : Upd2 b o w w1) (k : Upd2 b o w1 w2) : Upd2 b o w w2 :=
  ⟨k.os.trans h.os, k.tape.trans h.tape, k.output.trans h.output, Nat.le_trans h.size k.size, fun i h1 h2 h3 => (k.block i (Nat.lt_of_lt_of_le h1 h.size) h2 h3).trans (h.block i h1 h2 h3)⟩
theorem below_upd2 {w w1 : World} (h : Below w.heap.size w w1) (b : Nat) (o : Option Nat) : Upd2 b o w w1 := ⟨h.os, h.tape, h.output, h.size, fun i h1 _ _ => h.block i h1⟩
theorem Upd2.setB {b : Nat} {o : Option Nat} {w w1 : World} (h : Upd2 b o w w1) (i : Nat) (v : Value) : Upd2 b o w (w1.setCell ⟨b, i, none⟩ v) :=
  h.trans ⟨rfl, rfl, rfl, by simp [World.setCell], fun k _ hb _ => Below.heap_setCell _ _ _ _ hb⟩
theorem Upd2.setO {b k : Nat} {w w1 : World} (h : Upd2 b (some k) w w1) (i : Nat) (v : Value) : Upd2 b (some k) w (w1.setCell ⟨k, i, none⟩ v) :=
  h.trans ⟨rfl, rfl, rfl, by simp [World.setCell], fun j _ _ hk => Below.heap_setCell _ _ _ _ (fun e => hk (congrArg some e))⟩
/-- codes that are kept -/
structure CodeSt (w : World) (gc cap : Nat) (all : List Nat) (log : Nat) : Prop where
  cd : CdAt w gc all.length (wAt all) log
  whole : Whole (wAt all) all.length log
  pos : 0 < all.length
  small : all.length ≤ 256
/-- one stream of literals -/
def OneQ (b k : Nat) (C D : Nat → Value) (all : List Nat) (log : Nat) (s : ByteArray) (cnt : Nat) (e0 : Int) (w : World) (x : Ending) (w' : World) : Prop :=
  ∃ v l ok, x = .returned (.tuple #[]) ∧ SymsR (wAt all) all.length log s cnt l ok ∧ Wc w' b (upV C 15 (.int .i64 (if ok then e0 else errN e0 10))) ∧ Bc w' k (upV D 5 v) ∧ w'.ownsRow w.heap.size 5 1 v l.length (bvs l) ∧ Upd2 b (some k) w w'
set_option maxRecDepth 100000 in
set_option maxHeartbeats 2000000 in
theorem coded_31 (b k gc cap : Nat) (C D : Nat → Value) (all : List Nat) (log : Nat) (s : ByteArray) (cnt : Nat) (e0 : Int) (w : World) (hW : Wc w b C) (hB : Bc w k D) (hbk : b ≠ k) (h13 : C 13 = .slice (some ⟨gc, 0, none⟩) all.length cap) (h14 : C 14 = .bool true) (h15 : C 15 = .int .i64 e0) (d3 : D 3 = .int .i64 3) (d4 : D 4 = .int .i64 1) (hS : CodeSt w gc cap all log) (hs : s.size ≤ 1048576) (hcnt : cnt ≤ 1048576) :
    Calls Try.prog 67 #[.pointer (some ⟨b, 0, none⟩), .string s, .int .i64 (cnt : Int), .pointer (some ⟨k, 0, none⟩)] w fun x w' => OneQ b k C D all log s cnt e0 w x w' := by
  have HW : Hid (Wc w b C) := hW
  have HB : Hid (Bc w k D) := hB
  have HC : Hid (C 15 = .int .i64 e0) := h15
  have c13 := hW.c 13 (by omega)
  rw [h13] at c13
  have c14 := hW.c 14 (by omega)
  rw [h14] at c14
  have b3 := hB.c 3 (by omega)
  rw [d3] at b3
  have b4 := hB.c 4 (by omega)
  rw [d4] at b4
  have hbl := hW.lt
  have hkl := hB.lt
  clear hW hB h13 h14 h15 d3 d4
  go_enter Try.func67, Try.ntmps67
  go_wp2_with fail
  refine (symbols_any (wAt all) all.length log gc cap cnt s _ hS.whole hS.cd hS.pos hS.small (by omega) hcnt).mono ?_
  rintro x w1 ⟨v, l, ok, rfl, hR, hb1, hrow⟩
  obtain ⟨pa, g', cp, hv, _⟩ := row_open hrow
  subst hv
  have HR : Hid (SymsR (wAt all) all.length log s cnt l ok) := hR
  have HW1 : Hid (Wc w1 b C) := HW.out.below hb1 hbl
  have HB1 : Hid (Bc w1 k D) := HB.out.keep (hb1.block k hkl)
  have HO : Hid (w1.ownsRow w.heap.size 5 1 (.slice pa l.length cp) l.length (bvs l) ∧ Below w.heap.size w w1) := ⟨hrow, hb1⟩
  have k5 := HB1.out.c 5 (by omega)
  have f5 := HB1.out.fz 5
  have HW2 : Hid (Wc (w1.setCell ⟨k, 5, none⟩ (.slice pa l.length cp)) b C) := HW1.out.other _ _ hbk
  have HB2 : Hid (Bc (w1.setCell ⟨k, 5, none⟩ (.slice pa l.length cp)) k (upV D 5 (.slice pa l.length cp))) := HB1.out.set 5 (by omega) _
  have HO2 : Hid ((w1.setCell ⟨k, 5, none⟩ (.slice pa l.length cp)).ownsRow w.heap.size 5 1 (.slice pa l.length cp) l.length (bvs l)) := row_same HO.out.1 (fun g hg => Below.heap_setCell _ _ _ _ (by have := (row_lt HO.out.1 g hg).1; show g ≠ k; omega))
  have HU2 : Hid (Upd2 b (some k) w (w1.setCell ⟨k, 5, none⟩ (.slice pa l.length cp))) := (below_upd2 HO.out.2 b (some k)).setO 5 _
  clear hR hb1 hrow c13 c14 b3 b4 hS
  cases ok with
  | true =>
    go_wp2_with fail
    refine bodyPost_ret (results_none rfl _ _ _) rfl ⟨_, l, true, rfl, HR.out, ?_, HB2.out, HO2.out, HU2.out⟩
    rw [if_pos rfl, upV_id HC.out]; exact HW2.out
  | false =>
    go_wp2_with fail
    refine (bad_any b C e0 10 _ HW2.out HC.out).mono ?_
    rintro x w3 ⟨rfl, hW3, hU3⟩
    have HF : Hid (Wc w3 b (upV C 15 (.int .i64 (errN e0 10))) ∧ Bc w3 k (upV D 5 (.slice pa l.length cp)) ∧ w3.ownsRow w.heap.size 5 1 (.slice pa l.length cp) l.length (bvs l) ∧ Upd2 b (some k) w w3) :=
      ⟨hW3, HB2.out.keep (hU3.block k (HB2.out.lt) (Ne.symm hbk)), row_same HO2.out (fun g hg => hU3.block g (row_lt HO2.out g hg).2 (by have := (row_lt HO2.out g hg).1; omega)), HU2.out.trans (hU3.upd2 _)⟩
    clear hW3 hU3
    go_wp2_with fail
    exact bodyPost_ret (results_none rfl _ _ _) rfl ⟨_, l, false, rfl, HR.out, by rw [if_neg (by simp)]; exact HF.out.1, HF.out.2⟩
end Go.Proofs.Ytkfilgfcgmohlaa
namespace Go.Proofs.Ytkfilgfcgmohlaa
open Go.RowKit
/-- a new tree is none -/
def NoneQ (b k : Nat) (C D : Nat → Value) (e0 : Int) (w : World) (x : Ending) (w' : World) : Prop :=
  x = .returned (.tuple #[]) ∧ Wc w' b (upV (upV (upV C 13 (.slice none 0 0)) 14 (.bool false)) 15 (.int .i64 (errN e0 9))) ∧ Bc w' k D ∧ Upd2 b (some k) w w'
/-- a new tree, one stream -/
def NewOneQ (b k : Nat) (C D : Nat → Value) (s : ByteArray) (cnt : Nat) (e0 : Int) (w : World) (x : Ending) (w' : World) : Prop :=
  ∃ r, TreeR s r ∧ match r with
    | none => NoneQ b k C D e0 w x w'
    | some (all, log) => takenT s ≤ s.size ∧ ∃ gc cap v l ok, x = .returned (.tuple #[]) ∧ SymsR (wAt all) all.length log (s.extract (takenT s) s.size) cnt l ok ∧ Wc w' b (upV (upV (upV C 13 (.slice (some ⟨gc, 0, none⟩) all.length cap)) 14 (.bool true)) 15 (.int .i64 (if ok then e0 else errN e0 10))) ∧ Bc w' k (upV D 5 v) ∧ w'.ownsRow w.heap.size 5 1 v l.length (bvs l) ∧ Upd2 b (some k) w w' ∧ CodeSt w' gc cap all log ∧ w.heap.size ≤ gc ∧ gc < w'.heap.size
set_option maxRecDepth 100000 in
set_option maxHeartbeats 2000000 in
theorem coded_21 (b k : Nat) (C D : Nat → Value) (s : ByteArray) (cnt : Nat) (e0 : Int) (w : World) (hW : Wc w b C) (hB : Bc w k D) (hbk : b ≠ k) (h15 : C 15 = .int .i64 e0) (d3 : D 3 = .int .i64 2) (d4 : D 4 = .int .i64 1) (hs : s.size ≤ 1048576) (hcnt : cnt ≤ 1048576) :
    Calls Try.prog 67 #[.pointer (some ⟨b, 0, none⟩), .string s, .int .i64 (cnt : Int), .pointer (some ⟨k, 0, none⟩)] w fun x w' => NewOneQ b k C D s cnt e0 w x w' := by
  have HW : Hid (Wc w b C) := hW
  have HB : Hid (Bc w k D) := hB
  have HC : Hid (C 15 = .int .i64 e0) := h15
  have b3 := hB.c 3 (by omega)
  rw [d3] at b3
  have HD4 : Hid (D 4 = .int .i64 1) := d4
  have hbl := hW.lt
  have hkl := hB.lt
  clear hW hB h15 d3 d4
  go_enter Try.func67, Try.ntmps67
  go_wp2_with fail
  refine (tree_any s _ hs).mono ?_
  rintro x w1 ⟨r, hr, hb1, hq⟩
  have HW1 : Hid (Wc w1 b C) := HW.out.below hb1 hbl
  have HB1 : Hid (Bc w1 k D) := HB.out.keep (hb1.block k hkl)
  have HU1 : Hid (Upd2 b (some k) w w1) := below_upd2 hb1 b (some k)
  have hb1s : w.heap.size ≤ w1.heap.size := hb1.size
  have k13 := HW1.out.c 13 (by omega)
  have f13 := HW1.out.fz 13
  have k14 := HW1.out.c 14 (by omega)
  have f14 := HW1.out.fz 14
  clear hb1 b3
  cases r with
  | none =>
    obtain ⟨i, rfl⟩ := hq
    have HT : Hid (TreeR s none) := hr
    clear hr
    have HW2 : Hid (Wc ((w1.setCell ⟨b, 13, none⟩ (.slice none 0 0)).setCell ⟨b, 14, none⟩ (.bool false)) b (upV (upV C 13 (.slice none 0 0)) 14 (.bool false))) := (HW1.out.set 13 (by omega) _).set 14 (by omega) _
    have HB2 : Hid (Bc ((w1.setCell ⟨b, 13, none⟩ (.slice none 0 0)).setCell ⟨b, 14, none⟩ (.bool false)) k D) := HB1.out.keep ((Below.heap_setCell _ _ _ _ (Ne.symm hbk)).trans (Below.heap_setCell _ _ _ _ (Ne.symm hbk)))
    have HU2 : Hid (Upd2 b (some k) w ((w1.setCell ⟨b, 13, none⟩ (.slice none 0 0)).setCell ⟨b, 14, none⟩ (.bool false))) := (HU1.out.setB 13 _).setB 14 _
    have c14 := HW2.out.c 14 (by omega)
    rw [upV_same] at c14
    go_wp2_with fail
    refine (bad_any b _ e0 9 _ HW2.out (by rw [upV_other _ _ _ _ (by omega), upV_other _ _ _ _ (by omega)]; exact HC.out)).mono ?_
    rintro x w3 ⟨rfl, hW3, hU3⟩
    have HF : Hid (NoneQ b k C D e0 w (.returned (.tuple #[])) w3) := ⟨rfl, hW3, HB2.out.keep (hU3.block k HB2.out.lt (Ne.symm hbk)), HU2.out.trans (hU3.upd2 _)⟩
    clear hW3 hU3
    go_wp2_with fail
    exact bodyPost_ret (results_none rfl _ _ _) rfl ⟨none, HT.out, HF.out⟩
  | some y =>
    obtain ⟨all, log⟩ := y
    obtain ⟨htk, gc, cap, rfl, hgc, hcd, hwh, hpos, h256⟩ := hq
    have HT : Hid (TreeR s (some (all, log)) ∧ takenT s ≤ s.size) := ⟨hr, htk⟩
    have hgb : gc ≠ b := by omega
    have hgk : gc ≠ k := by omega
    have hgl : gc < w1.heap.size := block_lt_of_cell (hcd.b 0 hpos)
    obtain ⟨W2, hW2⟩ : ∃ W2, W2 = (w1.setCell ⟨b, 13, none⟩ (.slice (some ⟨gc, 0, none⟩) all.length cap)).setCell ⟨b, 14, none⟩ (.bool true) := ⟨_, rfl⟩
    have HW2 : Hid (Wc W2 b (upV (upV C 13 (.slice (some ⟨gc, 0, none⟩) all.length cap)) 14 (.bool true))) := by rw [hW2]; exact (HW1.out.set 13 (by omega) _).set 14 (by omega) _
    have hk2 : ∀ q, q ≠ b → W2.heap[q]? = w1.heap[q]? := fun q hq => by rw [hW2]; exact (Below.heap_setCell _ _ _ _ hq).trans (Below.heap_setCell _ _ _ _ hq)
    have HB2 : Hid (Bc W2 k D) := HB1.out.keep (hk2 k (Ne.symm hbk))
    have HU2 : Hid (Upd2 b (some k) w W2) := by rw [hW2]; exact (HU1.out.setB 13 _).setB 14 _
    have hs2 : W2.heap.size = w1.heap.size := by rw [hW2, World.size_setCell, World.size_setCell]
    have hS2 : CodeSt W2 gc cap all log := ⟨⟨fun j hj => (World.cell?_of_block (w := w1) (a := ⟨gc, j * 2, none⟩) (hk2 gc hgb)).trans (hcd.b j hj), fun j hj => (World.cell?_of_block (w := w1) (a := ⟨gc, j * 2 + 1, none⟩) (hk2 gc hgb)).trans (hcd.v j hj)⟩, hwh, hpos, h256⟩
    have HS2 : Hid (CodeSt W2 gc cap all log) := hS2
    have c13 := HW2.out.c 13 (by omega)
    rw [upV_other _ _ _ _ (by omega), upV_same] at c13
    have c14 := HW2.out.c 14 (by omega)
    rw [upV_same] at c14
    have b4 := HB2.out.c 4 (by omega)
    rw [HD4.out] at b4
    have htI : (takenT s : Int) ≤ (s.size : Int) := by omega
    obtain ⟨tk, htke⟩ : ∃ tk, tk = takenT s := ⟨_, rfl⟩
    have HTK : Hid (tk = takenT s) := htke
    rw [← htke] at htI ⊢
    clear hr hcd hwh hS2 htke hk2 htk
    go_upto_region 4 with fail
    rw [← hW2]
    clear hW2 k13 k14 f13 f14
    go_wp2_with fail
    refine (symbols_any (wAt all) all.length log gc cap cnt (s.extract tk s.size) _ HS2.out.whole HS2.out.cd hpos h256 (by rw [ByteArray.size_extract]; omega) hcnt).mono ?_
    rintro x w3 ⟨v, l, ok, rfl, hR, hb3, hrow⟩
    obtain ⟨pa, g', cp, hv, _⟩ := row_open hrow
    subst hv
    have hb2 : b < W2.heap.size := HW2.out.lt
    have hk2' : k < W2.heap.size := HB2.out.lt
    have HR : Hid (SymsR (wAt all) all.length log (s.extract (takenT s) s.size) cnt l ok) := by rw [← HTK.out]; exact hR
    have HW3 : Hid (Wc w3 b (upV (upV C 13 (.slice (some ⟨gc, 0, none⟩) all.length cap)) 14 (.bool true))) := HW2.out.below hb3 hb2
    have HB3 : Hid (Bc w3 k D) := HB2.out.keep (hb3.block k hk2')
    have HS3 : Hid (CodeSt w3 gc cap all log ∧ gc < w3.heap.size) := ⟨⟨HS2.out.cd.below hb3 (by omega), HS2.out.whole, hpos, h256⟩, Nat.lt_of_lt_of_le (by omega) hb3.size⟩
    have HO : Hid (w3.ownsRow w.heap.size 5 1 (.slice pa l.length cp) l.length (bvs l) ∧ Upd2 b (some k) w w3) := ⟨row_mono hrow (by omega), HU2.out.trans (below_upd2 hb3 b (some k))⟩
    have k5 := HB3.out.c 5 (by omega)
    have f5 := HB3.out.fz 5
    have HW4 : Hid (Wc (w3.setCell ⟨k, 5, none⟩ (.slice pa l.length cp)) b (upV (upV C 13 (.slice (some ⟨gc, 0, none⟩) all.length cap)) 14 (.bool true))) := HW3.out.other _ _ hbk
    have HB4 : Hid (Bc (w3.setCell ⟨k, 5, none⟩ (.slice pa l.length cp)) k (upV D 5 (.slice pa l.length cp))) := HB3.out.set 5 (by omega) _
    have HO4 : Hid ((w3.setCell ⟨k, 5, none⟩ (.slice pa l.length cp)).ownsRow w.heap.size 5 1 (.slice pa l.length cp) l.length (bvs l)) := row_same HO.out.1 (fun g hg => Below.heap_setCell _ _ _ _ (by have := (row_lt HO.out.1 g hg).1; show g ≠ k; omega))
    have HU4 : Hid (Upd2 b (some k) w (w3.setCell ⟨k, 5, none⟩ (.slice pa l.length cp))) := HO.out.2.setO 5 _
    have HS4 : Hid (CodeSt (w3.setCell ⟨k, 5, none⟩ (.slice pa l.length cp)) gc cap all log ∧ gc < (w3.setCell ⟨k, 5, none⟩ (.slice pa l.length cp)).heap.size) :=
      ⟨⟨⟨fun j hj => by rw [cs_other (blk_ne (Ne.symm hgk))]; exact HS3.out.1.cd.b j hj, fun j hj => by rw [cs_other (blk_ne (Ne.symm hgk))]; exact HS3.out.1.cd.v j hj⟩, HS3.out.1.whole, hpos, h256⟩, by rw [World.size_setCell]; exact HS3.out.2⟩
    have HC3 : Hid (upV (upV C 13 (.slice (some ⟨gc, 0, none⟩) all.length cap)) 14 (.bool true) 15 = .int .i64 e0) := by show _ = _; rw [upV_other _ _ _ _ (by omega), upV_other _ _ _ _ (by omega)]; exact HC.out
    clear hR hb3 hrow c13 c14 b4
    cases ok with
    | true =>
      go_wp2_with fail
      refine bodyPost_ret (results_none rfl _ _ _) rfl ⟨some (all, log), HT.out.1, HT.out.2, gc, cap, _, l, true, rfl, HR.out, ?_, HB4.out, HO4.out, HU4.out, HS4.out.1, hgc, HS4.out.2⟩
      rw [if_pos rfl, upV_id HC3.out]; exact HW4.out
    | false =>
      go_wp2_with fail
      refine (bad_any b _ e0 10 _ HW4.out HC3.out).mono ?_
      rintro x w5 ⟨rfl, hW5, hU5⟩
      have HF : Hid (Wc w5 b (upV (upV (upV C 13 (.slice (some ⟨gc, 0, none⟩) all.length cap)) 14 (.bool true)) 15 (.int .i64 (errN e0 10))) ∧ Bc w5 k (upV D 5 (.slice pa l.length cp)) ∧ w5.ownsRow w.heap.size 5 1 (.slice pa l.length cp) l.length (bvs l) ∧ Upd2 b (some k) w w5 ∧ CodeSt w5 gc cap all log ∧ w.heap.size ≤ gc ∧ gc < w5.heap.size) :=
        ⟨hW5, HB4.out.keep (hU5.block k HB4.out.lt (Ne.symm hbk)), row_same HO4.out (fun g hg => hU5.block g (row_lt HO4.out g hg).2 (by have := (row_lt HO4.out g hg).1; omega)), HU4.out.trans (hU5.upd2 _),
         ⟨HS4.out.1.cd.upd hU5 HS4.out.2 hgb, HS4.out.1.whole, hpos, h256⟩, hgc, Nat.lt_of_lt_of_le HS4.out.2 hU5.size⟩
      clear hW5 hU5
      go_wp2_with fail
      exact bodyPost_ret (results_none rfl _ _ _) rfl ⟨some (all, log), HT.out.1, HT.out.2, gc, cap, _, l, false, rfl, HR.out, by rw [if_neg (by simp)]; exact HF.out.1, HF.out.2⟩
end Go.Proofs.Ytkfilgfcgmohlaa
namespace Go.Proofs.Ytkfilgfcgmohlaa
open Go.RowKit
set_option maxRecDepth 100000 in
set_option maxHeartbeats 2000000 in
/-- a kept tree is asked for, and there is none -/
theorem coded_3n (b k : Nat) (C D : Nat → Value) (s : ByteArray) (cnt : Nat) (e0 : Int) (w : World) (hW : Wc w b C) (hB : Bc w k D) (hbk : b ≠ k) (h14 : C 14 = .bool false) (h15 : C 15 = .int .i64 e0) (d3 : D 3 = .int .i64 3) :
    Calls Try.prog 67 #[.pointer (some ⟨b, 0, none⟩), .string s, .int .i64 (cnt : Int), .pointer (some ⟨k, 0, none⟩)] w fun x w' => x = .returned (.tuple #[]) ∧ Wc w' b (upV C 15 (.int .i64 (errN e0 9))) ∧ Bc w' k D ∧ Upd b w w' := by
  have HW : Hid (Wc w b C) := hW
  have HB : Hid (Bc w k D) := hB
  have HC : Hid (C 15 = .int .i64 e0) := h15
  have c14 := hW.c 14 (by omega)
  rw [h14] at c14
  have b3 := hB.c 3 (by omega)
  rw [d3] at b3
  clear hW hB h14 h15 d3
  go_enter Try.func67, Try.ntmps67
  go_wp2_with fail
  refine (bad_any b C e0 9 _ HW.out HC.out).mono ?_
  rintro x w1 ⟨rfl, hW1, hU1⟩
  have HF : Hid (Wc w1 b (upV C 15 (.int .i64 (errN e0 9))) ∧ Bc w1 k D ∧ Upd b w w1) := ⟨hW1, HB.out.keep (hU1.block k HB.out.lt (Ne.symm hbk)), hU1⟩
  clear hW1 hU1
  go_wp2_with fail
  exact bodyPost_ret (results_none rfl _ _ _) rfl ⟨rfl, HF.out⟩
end Go.Proofs.Ytkfilgfcgmohlaa
