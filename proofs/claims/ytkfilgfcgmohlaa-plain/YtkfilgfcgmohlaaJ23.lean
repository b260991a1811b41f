import Derived.Test.YtkfilgfcgmohlaaJ22
import Derived.WalkKit
import Derived.WalkSpells
import Derived.WalkLawsBesides
namespace Go.Proofs.Ytkfilgfcgmohlaa
open Go.RowKit
/-- a state has gone on -/
structure OnQ (w w' : World) (r g m : Nat) (f : Nat → Nat) (pos ab t y : Nat) : Prop where
  rd : RdAt w' r g m f pos
  here : w'.cell? ⟨ab, t, none⟩ = some (.int .i64 (y : Int))
  others : ∀ i, i ≠ t → w'.cell? ⟨ab, i, none⟩ = w.cell? ⟨ab, i, none⟩
  fz : ∀ i, w'.frozen? ⟨ab, i, none⟩ = false
  upd : Upd2 r (some ab) w w'
theorem Upd.then2 {r ab i : Nat} {w w1 : World} (h : Upd r w w1) (v : Value) : Upd2 r (some ab) w (w1.setCell ⟨ab, i, none⟩ v) :=
  ⟨h.os, h.tape, h.output, by rw [World.size_setCell]; exact h.size, fun k h1 h2 h3 => (Below.heap_setCell _ _ _ _ (fun e => h3 (congrArg some e))).trans (h.block k h1 h2)⟩
theorem OnQ.sm {w w' w2 : World} {r g m : Nat} {f : Nat → Nat} {pos ab t y : Nat} (h : OnQ w w' r g m f pos ab t y) (hs : Sm w' w2) : OnQ w w2 r g m f pos ab t y :=
  ⟨h.rd.sm hs, (hs.cell _).trans h.here, fun i hi => (hs.cell _).trans (h.others i hi), fun i => (hs.frozen _).trans (h.fz i), ⟨hs.os.trans h.upd.os, hs.tape.trans h.upd.tape, hs.output.trans h.upd.output, by rw [hs.heap]; exact h.upd.size, fun k h1 h2 h3 => by rw [hs.heap]; exact h.upd.block k h1 h2 h3⟩⟩
set_option maxRecDepth 100000 in
set_option maxHeartbeats 2000000 in
theorem on_any (b r g m ab tb t lo hi size log x pos : Nat) (f F Bt L : Nat → Nat) (C : Nat → Value) (w : World) (ht : t < 3) (h : Wc w b C) (h7 : C (7 + t) = .pointer (some ⟨tb, 0, none⟩)) (hT : TabAt w lo hi tb size log F Bt L) (hR : RdAt w r g m f pos)
    (ha : w.cell? ⟨ab, t, none⟩ = some (.int .i64 (x : Int))) (haf : ∀ i, w.frozen? ⟨ab, i, none⟩ = false) (hx : x < size) (hb : Bt x ≤ 9) (hl : L x ≤ 512) (hbr : b ≠ r) (hab : ab ≠ r) (hag : 0 < m → g ≠ ab) (hh : hi ≤ w.heap.size) (hrt : r < lo ∨ hi ≤ r) :
    Calls Try.prog 87 #[.pointer (some ⟨b, 0, none⟩), .pointer (some ⟨r, 0, none⟩), .pointer (some ⟨ab, 0, none⟩), .int .i64 (t : Int)] w fun e w' => e = .returned (.tuple #[]) ∧ OnQ w w' r g m f (pos + Bt x) ab t (L x + highN m f pos (Bt x)) := by
  obtain ⟨gs, gb, gl, t0, t1, t2, t3, hs', hb', hl', q1, q2, q3, q4, q5, q6⟩ := hT.ex
  have bc := hb'.c x hx
  have lc := hl'.c x hx
  have HTT : Hid (lo ≤ tb ∧ tb < hi ∧ lo ≤ gb ∧ gb < hi ∧ lo ≤ gl ∧ gl < hi) := ⟨hT.tlo, hT.thi, q3, q4, q5, q6⟩
  have c7 := h.c (7 + t) (by omega)
  rw [h7] at c7
  have hf2 := hR.two
  have hbl : b < w.heap.size := h.lt
  have HA : Hid (∀ i, w.frozen? ⟨ab, i, none⟩ = false) := haf
  have hal : ab < w.heap.size := block_lt_of_cell ha
  have hxI : (x : Int) < (size : Int) := by omega
  have hx0 : (0 : Int) ≤ (x : Int) := by omega
  obtain ⟨B, hBe⟩ : ∃ B, B = Bt x := ⟨_, rfl⟩
  obtain ⟨lw, hlw⟩ : ∃ lw, lw = L x := ⟨_, rfl⟩
  rw [← hBe] at bc hb ⊢
  rw [← hlw] at lc hl ⊢
  clear hs' hb' hl' hT h h7 haf q1 q2 q3 q4 q5 q6 hBe hlw t0 t1
  have key : ∀ (w1 : World) (y : Nat), RdAt w1 r g m f (pos + B) → Upd r w w1 → y = lw + highN m f pos B → OnQ w (w1.setCell ⟨ab, t, none⟩ (.int .i64 (y : Int))) r g m f (pos + B) ab t (lw + highN m f pos B) := by
    intro w1 y hR1 hU1 hy
    refine ⟨hR1.keep (Below.heap_setCell _ _ _ _ (Ne.symm hab)) (fun hm => Below.heap_setCell _ _ _ _ (hag hm)), ?_, fun i hi => ?_, fun i => ?_, hU1.then2 _⟩
    · rw [cs_same ((hU1.cell (p := ⟨ab, t, none⟩) hal hab).trans ha), hy]
    · rw [cs_other (addr_ne (Ne.symm hi))]; exact hU1.cell (p := ⟨ab, i, none⟩) hal hab
    · rw [World.frozen?_setCell, hU1.frozen (p := ⟨ab, i, none⟩) hal hab]; exact HA.out i
  have KEY : Hid (∀ (w1 : World) (y : Nat), RdAt w1 r g m f (pos + B) → Upd r w w1 → y = lw + highN m f pos B → OnQ w (w1.setCell ⟨ab, t, none⟩ (.int .i64 (y : Int))) r g m f (pos + B) ab t (lw + highN m f pos B)) := key
  clear key
  rcases (show t = 0 ∨ t = 1 ∨ t = 2 by omega) with rfl | rfl | rfl
  all_goals
    go_enter Try.func87, Try.ntmps87
    go_wp2_with fail
    refine (rd_high r g m f pos B _ hR (by omega)).mono ?_
    rintro e w1 ⟨rfl, hR1, hU1⟩
    have HR1 : Hid (RdAt w1 r g m f (pos + B) ∧ Upd r w w1) := ⟨hR1, hU1⟩
    have hv := highN_lt m f hf2 pos B
    have h2b : 2 ^ B ≤ 2 ^ 9 := Nat.pow_le_pow_right (by omega) hb
    have d7 := (hU1.cell (p := ⟨b, _, none⟩) hbl hbr).trans c7
    have e3 := (hU1.cell (p := ⟨tb, 1 + 1 + 1, none⟩) (by have := HTT.out; show tb < _; omega) (by have := HTT.out; show tb ≠ r; omega)).trans t3
    have el := (hU1.cell (p := ⟨gl, x, none⟩) (by have := HTT.out; show gl < _; omega) (by have := HTT.out; show gl ≠ r; omega)).trans lc
    have ea := (hU1.cell (p := ⟨ab, _, none⟩) hal hab).trans ha
    have ef := fun i => (hU1.frozen (p := ⟨ab, i, none⟩) hal hab).trans (HA.out i)
    have ef0 := ef 0
    have ef1 := ef 1
    have ef2 := ef 2
    obtain ⟨v, hve⟩ : ∃ v, v = highN m f pos B := ⟨_, rfl⟩
    have HV : Hid (v = highN m f pos B) := hve
    rw [← hve] at hv ⊢
    clear hR1 hU1 c7 t2 t3 bc lc hve ef hR
    go_wp2_with fail
    go_region
    go_wp2_with fail
    have h := KEY.out w1 (lw + v) HR1.out.1 HR1.out.2 (by rw [HV.out])
    rw [Int.natCast_add] at h
    exact bodyPost_end (results_none rfl _ _ _) rfl ⟨rfl, h.sm ((Sm.refl _).drew)⟩
end Go.Proofs.Ytkfilgfcgmohlaa
namespace Go.Proofs.Ytkfilgfcgmohlaa
open Go.RowKit
/-- a table -/
structure Tb where
  size : Nat
  log : Nat
  F : Nat → Nat
  B : Nat → Nat
  L : Nat → Nat
def ofT (o : List Int) (log : Nat) : Tb := ⟨2 ^ log, log, symT o (2 ^ log), bitT o log, lowT o log⟩
def loneT (c : Nat) : Tb := ⟨1, 0, fun _ => c, fun _ => 0, fun _ => 0⟩
def TbAt (w : World) (lo hi t : Nat) (T : Tb) : Prop := TabAt w lo hi t T.size T.log T.F T.B T.L
/-- what a table's mode says -/
abbrev TRes := Option (Option (Tb × Nat))
abbrev TRes.bad : TRes := none
abbrev TRes.keep : TRes := some none
abbrev TRes.set (T : Tb) (n : Nat) : TRes := some (some (T, n))
theorem TRes.elim {motive : TRes → Prop} (bad : motive TRes.bad) (keep : motive TRes.keep) (set : ∀ T n, motive (TRes.set T n)) (r : TRes) : motive r := by
  rcases r with _ | (_ | ⟨T, n⟩)
  · exact bad
  · exact keep
  · exact set T n
def tableS (t mode : Nat) (s : ByteArray) (has : Bool) : TRes :=
  if mode = 0 then .set (ofT (usualO t) (logU t)) 0
  else if mode = 1 then (if s.size = 0 ∨ topN t < gOf s 0 then .bad else .set (loneT (gOf s 0)) 1)
  else if mode = 2 then (match headR s (accN t) (topN t) with
    | none => .bad
    | some (o, log, nb) => .set (ofT o log) nb)
  else if has then .keep else .bad
def TableQ (b t mode : Nat) (C : Nat → Value) (s : ByteArray) (has : Bool) (e0 : Int) (w : World) (x : Ending) (w' : World) : Prop :=
  Upd b w w' ∧ match tableS t mode s has with
    | none => x = .returned (.int .i64 0) ∧ Wc w' b (upV C 15 (.int .i64 (errN e0 12)))
    | some none => x = .returned (.int .i64 0) ∧ Wc w' b C
    | some (some (T, n)) => n ≤ s.size ∧ x = .returned (.int .i64 (n : Int)) ∧ ∃ tb hi, Wc w' b (upV C (7 + t) (.pointer (some ⟨tb, 0, none⟩))) ∧ TbAt w' w.heap.size hi tb T ∧ hi ≤ w'.heap.size
theorem top_small (t : Nat) : topN t ≤ 52 := by unfold topN; split <;> (try split) <;> omega
theorem acc_small (t : Nat) : accN t ≤ 9 := by unfold accN; split <;> omega
/-- a new table is laid into the world -/
theorem tb_set {w w1 : World} {b t k : Nat} {D : Nat → Value} {T : Tb} (hW : Wc w b D) (hb : Below w.heap.size w w1) (hO : TbAt w1 w.heap.size w1.heap.size t T) (hk : k < 16) :
    Upd b w (w1.setCell ⟨b, k, none⟩ (.pointer (some ⟨t, 0, none⟩))) ∧ Wc (w1.setCell ⟨b, k, none⟩ (.pointer (some ⟨t, 0, none⟩))) b (upV D k (.pointer (some ⟨t, 0, none⟩))) ∧ TbAt (w1.setCell ⟨b, k, none⟩ (.pointer (some ⟨t, 0, none⟩))) w.heap.size w1.heap.size t T := by
  have hbl := hW.lt
  refine ⟨⟨hb.os, hb.tape, hb.output, by rw [World.size_setCell]; exact hb.size, fun i h1 h2 => (Below.heap_setCell _ _ _ _ (show i ≠ b from h2)).trans (hb.block i h1)⟩, (hW.below hb hbl).set k hk _, ?_⟩
  exact hO.keep (fun i h1 _ => Below.heap_setCell _ _ _ _ (by show i ≠ b; omega))
theorem tableS_0 (t : Nat) (s : ByteArray) (has : Bool) : tableS t 0 s has = .set (ofT (usualO t) (logU t)) 0 := by unfold tableS; rw [if_pos rfl]
theorem OfW.tb {w w' : World} {t gs gb gl log : Nat} {o : List Int} (h : OfW w w' t gs gb gl (2 ^ log) log (symT o (2 ^ log)) (bitT o log) (lowT o log)) : TbAt w' w.heap.size w'.heap.size t (ofT o log) := h.tab (Nat.pow_pos (by omega))
theorem TbAt.lo {w : World} {lo lo' hi t : Nat} {T : Tb} (h : TbAt w lo hi t T) (hl : lo' ≤ lo) : TbAt w lo' hi t T := by
  obtain ⟨gs, gb, gl, h0, h1, h2, h3, h4, h5, h6, h7, h8, h9, h10, h11, h12⟩ := h.ex
  exact ⟨⟨gs, gb, gl, h0, h1, h2, h3, h4, h5, h6, by omega, h8, by omega, h10, by omega, h12⟩, Nat.le_trans hl h.tlo, h.thi⟩
theorem TbAt.sm {w w' : World} {lo hi t : Nat} {T : Tb} (h : TbAt w lo hi t T) (hs : Sm w w') : TbAt w' lo hi t T := h.keep (fun _ _ _ => by rw [hs.heap])
set_option maxRecDepth 100000 in
set_option maxHeartbeats 2000000 in
theorem table_0 (b t : Nat) (C : Nat → Value) (s : ByteArray) (has : Bool) (e0 : Int) (w : World) (ht : t < 3) (h : Wc w b C) :
    Calls Try.prog 68 #[.pointer (some ⟨b, 0, none⟩), .int .i64 (t : Int), .int .i64 0, .string s] w fun x w' => TableQ b t 0 C s has e0 w x w' := by
  have HW : Hid (Wc w b C) := h
  have hbl := h.lt
  have ht2 : t < 3 := ht
  clear h
  go_enter Try.func68, Try.ntmps68
  go_wp2_with fail
  refine (top_any t _ ht2).mono ?_
  rintro x w1 ⟨rfl, hw1⟩
  rw [hw1]
  clear hw1
  go_wp2_with fail
  refine (usual_any t _ ht2).mono ?_
  rintro x w2 ⟨v, rfl, hb2, hrow⟩
  have hdi := usual_dist t ht2
  obtain ⟨go, cp, rfl, hg1, hg2⟩ := hrow.form (dist_pos hdi (usual_size t).pos)
  have hoc := headR_row hrow
  have HW2 : Hid (Wc w2 b C) := HW.out.below hb2 hbl
  have HB2 : Hid (Below w.heap.size w w2) := hb2
  have HD : Hid (Dist (topN t) (usualO t) (2 ^ logU t)) := hdi
  have hlo9 : logU t ≤ 9 := by unfold logU; split <;> omega
  have hoc' : ∀ i, i < (usualO t).length → w2.drew.cell? ⟨go, i, none⟩ = some (.int .i64 (oAt (usualO t) i)) := fun i hi => by rw [World.cell?_drew]; exact hoc i hi
  clear hb2 hrow hdi hoc
  go_wp2_with fail
  rcases (show t = 0 ∨ t = 1 ∨ t = 2 by omega) with rfl | rfl | rfl
  · go_region_with (go_at_call 80; refine (of_any (usualO _) (logU _) go cp (topN _) _ hoc' HD.out (usual_size _) (by have := top_small 0; have := top_small 1; have := top_small 2; omega) hlo9).mono ?_; rintro x w3 ⟨tb, gs, gb, gl, rfl, hO⟩; have hW3 := (HW2.out.sm ((Sm.refl w2).drew)).below hO.bel (by have := HW2.out.lt; exact this); have k0 := hW3.c 7 (by omega); have k1 := hW3.c 8 (by omega); have k2 := hW3.c 9 (by omega); have f0 := hW3.fz 7; have f1 := hW3.fz 8; have f2 := hW3.fz 9)
    all_goals
      go_wp2_with fail
      go_ret
      have hB3 : Below w.heap.size w w3 := HB2.out.trans (Below.mono (((Below.refl w2.heap.size w2).drew).trans hO.bel) HB2.out.size)
      have hS := tb_set HW.out hB3 (hO.tb.lo HB2.out.size) (k := 7) (by omega)
      refine ⟨hS.1, ?_⟩
      rw [tableS_0]
      exact ⟨Nat.zero_le _, rfl, tb, w3.heap.size, hS.2.1, hS.2.2, by rw [World.size_setCell]; exact Nat.le_refl _⟩
  · go_region_with (go_at_call 80; refine (of_any (usualO _) (logU _) go cp (topN _) _ hoc' HD.out (usual_size _) (by have := top_small 0; have := top_small 1; have := top_small 2; omega) hlo9).mono ?_; rintro x w3 ⟨tb, gs, gb, gl, rfl, hO⟩; have hW3 := (HW2.out.sm ((Sm.refl w2).drew)).below hO.bel (by have := HW2.out.lt; exact this); have k0 := hW3.c 7 (by omega); have k1 := hW3.c 8 (by omega); have k2 := hW3.c 9 (by omega); have f0 := hW3.fz 7; have f1 := hW3.fz 8; have f2 := hW3.fz 9)
    all_goals
      go_wp2_with fail
      go_ret
      have hB3 : Below w.heap.size w w3 := HB2.out.trans (Below.mono (((Below.refl w2.heap.size w2).drew).trans hO.bel) HB2.out.size)
      have hS := tb_set HW.out hB3 (hO.tb.lo HB2.out.size) (k := 8) (by omega)
      refine ⟨hS.1, ?_⟩
      rw [tableS_0]
      exact ⟨Nat.zero_le _, rfl, tb, w3.heap.size, hS.2.1, hS.2.2, by rw [World.size_setCell]; exact Nat.le_refl _⟩
  · go_region_with (go_at_call 80; refine (of_any (usualO _) (logU _) go cp (topN _) _ hoc' HD.out (usual_size _) (by have := top_small 0; have := top_small 1; have := top_small 2; omega) hlo9).mono ?_; rintro x w3 ⟨tb, gs, gb, gl, rfl, hO⟩; have hW3 := (HW2.out.sm ((Sm.refl w2).drew)).below hO.bel (by have := HW2.out.lt; exact this); have k0 := hW3.c 7 (by omega); have k1 := hW3.c 8 (by omega); have k2 := hW3.c 9 (by omega); have f0 := hW3.fz 7; have f1 := hW3.fz 8; have f2 := hW3.fz 9)
    all_goals
      go_wp2_with fail
      go_ret
      have hB3 : Below w.heap.size w w3 := HB2.out.trans (Below.mono (((Below.refl w2.heap.size w2).drew).trans hO.bel) HB2.out.size)
      have hS := tb_set HW.out hB3 (hO.tb.lo HB2.out.size) (k := 9) (by omega)
      refine ⟨hS.1, ?_⟩
      rw [tableS_0]
      exact ⟨Nat.zero_le _, rfl, tb, w3.heap.size, hS.2.1, hS.2.2, by rw [World.size_setCell]; exact Nat.le_refl _⟩
end Go.Proofs.Ytkfilgfcgmohlaa
