import Derived.Test.YtipdjbkkpjlamaaGreatSU
import Derived.ProofKit
import Derived.OpenShut
import Derived.SizedLaws
import Derived.Carry
import Derived.Deep.Slices
import Derived.ChangeOld
import Derived.Below
namespace Go.Proofs.YtipdjbkkpjlamaaGreat
open Go.ChangeShapes Go.WideShapes Go.ChangeAt Go.RowKit
open Go.Deep (open_slice choose_lt add_add)
theorem Steps.later {w w' : World} {sb off : Nat} {l : List OpV} (h : Steps w sb off l) (hb : Below w.heap.size w w') : Steps w' sb off l :=
  ⟨fun i o ho => (hb.cell (p := ⟨sb, off + i * 5, none⟩) (block_lt_of_cell (h.c0 i o ho))).trans (h.c0 i o ho),
   fun i o ho => (hb.cell (p := ⟨sb, off + i * 5 + 1, none⟩) (block_lt_of_cell (h.c1 i o ho))).trans (h.c1 i o ho),
   fun i o ho => (hb.cell (p := ⟨sb, off + i * 5 + 1 + 1, none⟩) (block_lt_of_cell (h.c2 i o ho))).trans (h.c2 i o ho),
   fun i o ho => (hb.cell (p := ⟨sb, off + i * 5 + 1 + 1 + 1, none⟩) (block_lt_of_cell (h.c3 i o ho))).trans (h.c3 i o ho),
   fun i o ho => (hb.cell (p := ⟨sb, off + i * 5 + 4, none⟩) (block_lt_of_cell (h.c4 i o ho))).trans (h.c4 i o ho), h.ok⟩
set_option maxRecDepth 100000 in
set_option maxHeartbeats 2000000 in
theorem sumsLaw_any (sb off cap : Nat) (l : List OpV) (pa : Option Addr) (w : World) (hp : l ≠ [] → pa = some ⟨sb, off, none⟩) (hs : Steps w sb off l) (hl : l.length ≤ 140737488355328) :
    Calls Tryz.prog 3 #[.slice pa l.length cap] w fun e w' => e = .returned (.bool true) ∧ Below w.heap.size w w' := by
  have HX : Hid ((l ≠ [] → pa = some ⟨sb, off, none⟩) ∧ Steps w sb off l ∧ l.length ≤ 140737488355328) := ⟨hp, hs, hl⟩
  clear hp hs hl
  go_enter Tryz.func3, Tryz.ntmps3
  go_wp2_with fail
  refine (plays_any sb off cap w.heap.size l pa _ HX.out.1 (HX.out.2.1.later (bel_alloc (Below.refl _ _) _)) HX.out.2.2 (by simp) (fun j hj => ?_)).mono ?_
  · have : j = 0 ∨ j = 1 ∨ j = 2 ∨ j = 3 := by omega
    rcases this with rfl | rfl | rfl | rfl <;> simp [ks]
  · rintro e w1 ⟨rfl, hb⟩
    have HF : Hid (Below w.heap.size w w1) := (bel_alloc (Below.refl _ _) _).trans (hb.mono (by simp))
    clear hb
    go_wp2
    go_ret
    exact ⟨rfl, HF.out⟩
theorem Tryz.cellsOp : Tryz.prog.cellsOf 28 = 5 := by kernel_rfl
theorem Tryz.cellsInt : Tryz.prog.cellsOf 3 = 1 := by kernel_rfl
theorem Tryz.cellsStr : Tryz.prog.cellsOf 9 = 1 := by kernel_rfl
theorem Tryz.bytesOp : Tryz.prog.bytesOf 28 = 48 := by kernel_rfl
theorem wAll_mem {H : Type} {P : Program} {e : TypeId} : ∀ (l : List (DataW H)) (d : DataW H) (x : Nat), d ∈ l → x ∈ DataW.weights P e d → x ∈ DataW.weightsAll P e l
  | [], d, x, h, _ => by simp at h
  | q :: l, d, x, h, hx => by
    unfold DataW.weightsAll
    rcases List.mem_cons.1 h with rfl | h
    · exact List.mem_append_left _ hx
    · exact List.mem_append_right _ (wAll_mem l d x h hx)
set_option maxRecDepth 100000 in
/-- an argument of type []Op, opened -/
theorem open_ops {H : Type} {enc : TypeId × Value → H} {W : World} {fuel : Nat} {a0 : Option Addr} {len cap : Nat} {d : DataW H} {ps : List MemPlace} (hf : DataW.trod enc Tryz.prog W 0 (fun _ => true) true fuel 22 [.slice a0 len cap] = some (d, ps))
    (hsz : (DataW.weightsEach Tryz.prog [22] [d]).all (· ≤ reachBytes) = true) :
    ∃ (l : List OpV) (sb off : Nat), l.length = len ∧ (l ≠ [] → a0 = some ⟨sb, off, none⟩) ∧ Steps W sb off l ∧ l.length ≤ 140737488355328 := by
  have inh : Inhabited OpV := ⟨⟨0, 0, 0, 0, ByteArray.empty⟩⟩
  rcases open_slice Tryz.underlying22 hf with ⟨h1, _⟩ | ⟨a, len', cap', m, n, D, Pl, h1, _, hlc, hcm, hm, hx, hel⟩
  · simp at h1
    obtain ⟨rfl, rfl, rfl⟩ := h1
    exact ⟨[], 0, 0, rfl, fun h => absurd rfl h, ⟨by intro i o h; simp at h, by intro i o h; simp at h, by intro i o h; simp at h, by intro i o h; simp at h, by intro i o h; simp at h, by intro o h; simp at h⟩, by simp⟩
  · simp at h1
    obtain ⟨rfl, rfl, rfl⟩ := h1
    simp only [Prod.mk.injEq] at hx
    obtain ⟨rfl, rfl⟩ := hx
    simp at hm
    subst hm
    rw [Tryz.cellsOp] at hel
    have hsl := sized_slice hsz (j := 0) (t := 22) (e := 28) rfl rfl Tryz.underlying22
    rw [Tryz.bytesOp] at hsl
    simp only [List.length_map, List.length_range, reachBytes] at hsl
    have each : ∀ i, i < len → ∃ o : OpV, OpOk o ∧ W.cell? (a.add (i * 5)) = some (.int .i64 o.kind) ∧ W.cell? (a.add (i * 5 + 1)) = some (.int .i64 o.a) ∧ W.cell? (a.add (i * 5 + 2)) = some (.int .i64 o.b) ∧ W.cell? (a.add (i * 5 + 3)) = some (.int .i64 o.c) ∧ W.cell? (a.add (i * 5 + 4)) = some (.string o.s) := by
      intro i hi
      obtain ⟨cs', hc, ht⟩ := hel i (by omega)
      obtain ⟨_, hlen, hcell⟩ := World.cells?_some hc
      obtain ⟨xs, q, hq, hxy, _, hxl, hfld⟩ := DataW.trod_struct Tryz.underlying28 ht
      match xs, hxl, cs', hlen with
      | [y0, y1, y2, y3, y4], _, [v0, v1, v2, v3, v4], _ =>
        have g0 := hfld 0 _ rfl
        have g1 := hfld 1 _ rfl
        have g2 := hfld 2 _ rfl
        have g3 := hfld 3 _ rfl
        have g4 := hfld 4 _ rfl
        simp [Tryz.cellsInt, Tryz.cellsStr] at g0 g1 g2 g3 g4
        obtain ⟨k0, e0, x0, w0⟩ := DataW.trod_int Tryz.underlying3 g0
        obtain ⟨k1, e1, x1, w1⟩ := DataW.trod_int Tryz.underlying3 g1
        obtain ⟨k2, e2, x2, w2⟩ := DataW.trod_int Tryz.underlying3 g2
        obtain ⟨k3, e3, x3, w3⟩ := DataW.trod_int Tryz.underlying3 g3
        obtain ⟨s, e4, x4, w4⟩ := DataW.trod_string Tryz.underlying9 g4
        simp at e0 e1 e2 e3 e4
        subst e0 e1 e2 e3 e4 x0 x1 x2 x3 x4
        have hD : D i = .agg [.lit (.int .i64 k0), .lit (.int .i64 k1), .lit (.int .i64 k2), .lit (.int .i64 k3), .lit (.string s.data.toList)] := by
          simp only [Prod.mk.injEq] at hxy
          simpa using hxy.1
        have hs : s.data.toList.length ≤ reachBytes := by
          have h1 : s.data.toList.length ∈ DataW.weights Tryz.prog 28 (D i) := by
            rw [hD]
            simp [DataW.weights, Tryz.underlying28, DataW.weightsEach]
          have h2 := wAll_mem ((List.range len).map D) (D i) _ (List.mem_map.2 ⟨i, List.mem_range.2 hi, rfl⟩) h1
          have h3 := List.all_eq_true.1 hsz s.data.toList.length (by
            unfold DataW.weightsEach
            refine List.mem_append_left _ ?_
            unfold DataW.weights
            rw [Tryz.underlying22]
            exact List.mem_cons_of_mem _ (List.mem_append_left _ h2))
          simpa using h3
        have hl : s.data.toList.length = s.size := by rw [Array.length_toList]; rfl
        have c0 := hcell 0 (by omega)
        have c1 := hcell 1 (by omega)
        have c2 := hcell 2 (by omega)
        have c3 := hcell 3 (by omega)
        have c4 := hcell 4 (by omega)
        rw [add_add] at c0 c1 c2 c3 c4
        refine ⟨⟨k0, k1, k2, k3, s⟩, ⟨w1, w2, w3, by unfold reachBytes at hs; dsimp only; omega⟩, by simpa using c0, by simpa using c1, by simpa using c2, by simpa using c3, by simpa using c4⟩
    obtain ⟨f, hf'⟩ := choose_lt each
    have hget : ∀ i o, ((List.range len).map f)[i]? = some o → i < len ∧ o = f i := by
      intro i o h
      rw [List.getElem?_map] at h
      by_cases hi : i < len
      · rw [List.getElem?_range hi] at h
        simp at h
        exact ⟨hi, h.symm⟩
      · rw [List.getElem?_eq_none (by simpa using hi)] at h
        cases h
    obtain ⟨sb, off, spot⟩ := a
    have hspot : 0 < len → spot = none := fun h0 => by simpa [Addr.add] using World.cell?_spot (hf' 0 h0).2.1
    refine ⟨(List.range len).map f, sb, off, by simp, fun hne => ?_, ⟨fun i o ho => ?_, fun i o ho => ?_, fun i o ho => ?_, fun i o ho => ?_, fun i o ho => ?_, fun o ho => ?_⟩, by simp; omega⟩
    · rw [hspot (Nat.pos_of_ne_zero fun e => hne (by rw [e]; rfl))]
    · obtain ⟨hi, rfl⟩ := hget i o ho
      obtain rfl := hspot (by omega)
      have := (hf' i hi).2.1
      rwa [Go.WideShapes.add_plain] at this
    · obtain ⟨hi, rfl⟩ := hget i o ho
      obtain rfl := hspot (by omega)
      have := (hf' i hi).2.2.1
      rwa [Go.WideShapes.add_plain] at this
    · obtain ⟨hi, rfl⟩ := hget i o ho
      obtain rfl := hspot (by omega)
      have := (hf' i hi).2.2.2.1
      rwa [Go.WideShapes.add_plain] at this
    · obtain ⟨hi, rfl⟩ := hget i o ho
      obtain rfl := hspot (by omega)
      have := (hf' i hi).2.2.2.2.1
      rwa [Go.WideShapes.add_plain] at this
    · obtain ⟨hi, rfl⟩ := hget i o ho
      obtain rfl := hspot (by omega)
      have := (hf' i hi).2.2.2.2.2
      rwa [Go.WideShapes.add_plain] at this
    · obtain ⟨i, hi, rfl⟩ := List.mem_map.1 ho
      exact (hf' i (List.mem_range.1 hi)).1
theorem sums_own : ownKnob Tryz.prog.godebug = none := by kernel_rfl
theorem sums_laidOut : laidOutB Tryz.prog = true := by kernel_rfl
set_option maxRecDepth 100000 in
theorem sums_lifted (os : Os) (started : os.Started) (H : Type) (enc : TypeId × Value → H) :
    ReturnsInHanded {} Tryz.checked os 3 .any (Rows.sumsSpec.pre6 enc Tryz.prog Tryz.f3 Rows.sumsRow.domain false) (Rows.sumsSpec.post enc Tryz.prog Tryz.f3 false true false false) := by
  refine returnsInHanded_of_change_sized (C := Tryz.checked) sums_own started (by kernel_rfl) Tryz.func3
    (ChangeSpec.witness6 (enc := enc) (C := Tryz.checked) false ⟨#[], #[.slice none 0 0], []⟩ 8 (by kernel_rfl) (by kernel_rfl) (by kernel_rfl) (by kernel_rfl)) ?_
  intro W base args ds gs before hval0 hW _ hsz0 _
  have hsz : (DataW.weightsEach Tryz.prog (Tryz.f3.params.toList ++ Rows.sumsSpec.plain.varTypes Tryz.prog) (ds ++ gs)).all (· ≤ reachBytes) = true := hsz0
  clear hsz0
  have hval : ∀ (j : Nat) t v, Tryz.f3.params[j]? = some t → args[j]? = some v → Value.okWide Tryz.prog W .any base t v := hval0
  have hW' := hW
  obtain ⟨p, q, hA0, hV, rfl, _, _⟩ := hW
  have hA : DataW.TrodAll enc Tryz.prog W 0 (fun _ => true) true Tryz.f3.params.toList args.toList ds p := hA0
  rw [Tryz.params3] at hA hval hsz
  obtain ⟨v0, vs0, d0, ds0, p0, q0, hargs, rfl, rfl, h0, r0⟩ := trodAll_cons hA
  obtain ⟨rfl, rfl, rfl⟩ := trodAll_nil r0
  obtain rfl : args = #[v0] := by cases args; simp_all
  obtain ⟨rfl, rfl⟩ := trodVars_none hV
  obtain ⟨a0, len, cap, rfl⟩ := okWide_slice Tryz.underlying22 (hval 0 22 v0 rfl rfl)
  have h0k := h0
  obtain ⟨fuel, hf⟩ := h0
  clear hA0 hval0
  simp only [List.append_nil] at hW'
  have hlt : ∀ x ∈ p0, x.block < W.heap.size := fun x hx => by simpa using hW'.lt x hx
  obtain ⟨l, sb, off, hll, hp, hst, hl⟩ := open_ops (by simpa [Value.cells] using hf) hsz
  subst hll
  refine (sumsLaw_any sb off cap l a0 W hp hst hl).mono fun e W' ⟨he, bel⟩ => ?_
  subst he
  exact ⟨_, rfl, _, _, _, [], p0 ++ [], [], hW', trodAll_mk1 (shut_bool Tryz.underlying4 _), trodAll_cons_mk (Below.trod sums_laidOut (by kernel_rfl) (of_decide_eq_true (by kernel_rfl)) h0k bel hlt) trodAll_mk0, rfl, bel.frame _, fun h => by cases h⟩
theorem sums_over : Rows.sumsRow.holds Tryz.pinned (OpenSpec.ofChange Rows.sumsSpec) :=
  OpenClaim.holds_of_wide 3 Tryz.f3 rfl rfl rfl rfl rfl rfl rfl ⟨rfl, rfl, rfl, rfl, rfl⟩ rfl rfl rfl rfl rfl (by kernel_rfl) Tryz.func3 (by kernel_rfl)
    (of_decide_eq_true (by kernel_rfl)) (by unfold Func.isWrapper; first | (rw [if_pos (by decide +kernel)]; kernel_rfl) | (rw [if_neg (by decide +kernel)]; exact ⟨rfl, rfl⟩))
    (fun os started H enc _ => sums_lifted os started H enc)
theorem sums_holds : Rows.SumsSaid := sums_over
end Go.Proofs.YtipdjbkkpjlamaaGreat
