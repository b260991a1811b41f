import Derived.Test.YtkfilgfcgmohlaaJ27
import Derived.WalkKit
import Derived.WalkSpells
import Derived.WalkLawsBesides
import Derived.Deep.AppendLies
import Derived.Laws.OwnMore
import Derived.Deep.RegionLaw
import Derived.Deep.QuietTactic
import Derived.BigQuiet
namespace Go.Proofs.Ytkfilgfcgmohlaa
open Go.RowKit
/-- one byte more for a row that a cell keeps: run -/
theorem oc_run {wr W : World} {r j : Nat} {vo : Value} {out : List Nat} {gb y : Nat} (h : OutAt wr vo out) (hc : wr.cell? ⟨r, j, none⟩ = some vo) (hz : wr.frozen? ⟨r, j, none⟩ = false) (hne : vo.ownBlock ≠ some r) (hb : Below wr.heap.size wr W) (hn : W.cell? ⟨gb, 0, none⟩ = some (.int .u8 (y : Int))) (ho : out.length ≤ 1099511627) (ty : TypeId) :
    ∃ pa' cap' w2, (Builtin.append_ #[33, 33] ty #[vo, .slice (some ⟨gb, 0, none⟩) 1 1]).run Try.prog W = .ok (.slice pa' (out.length + 1) cap') w2 ∧
      OutAt w2 (.slice pa' (out.length + 1) cap') (out ++ [y]) ∧ UpdS (fun q => vo.ownBlock = some q) wr w2 ∧ Moved wr vo (.slice pa' (out.length + 1) cap') ∧ w2.cell? ⟨r, j, none⟩ = some vo ∧ w2.frozen? ⟨r, j, none⟩ = false := by
  have hr : r < wr.heap.size := block_lt_of_cell hc
  have hO : OutAt W vo out := ⟨row_below h.row hb⟩
  have hB : ByA W (.slice (some ⟨gb, 0, none⟩) 1 1) gb [y] := ⟨some ⟨gb, 0, none⟩, 1, 0, rfl, by simp, fun _ => rfl, fun i hi => by
    have : i = 0 := by simp at hi; exact hi
    subst this
    exact hn⟩
  obtain ⟨vo', w2, hrun, h1, h2, h3⟩ := out_run hO hB ho (by simp) ty
  obtain ⟨pa', cap', rfl⟩ := h1.shape
  rw [List.length_append, List.length_singleton] at hrun h1 h3
  have hU : UpdS (fun q => vo.ownBlock = some q) wr w2 := (below_updS hb _).same ((grown_updS h2 (fun k e => e)).sub (fun _ _ e => e))
  have hblk : w2.heap[r]? = wr.heap[r]? := hU.block r hr hne
  refine ⟨pa', cap', w2, hrun, h1, hU, ?_, (World.cell?_of_block (w := wr) (a := ⟨r, j, none⟩) hblk).trans hc, (World.frozen?_of_block (w := wr) (a := ⟨r, j, none⟩) hblk).trans hz⟩
  rcases h3 with e | ⟨k, e, hk⟩
  · exact .inl e
  · exact .inr ⟨k, e, Nat.le_trans hb.size hk⟩
/-- at a region that draws -/
theorem oc_step {wr W : World} {r j : Nat} {vo : Value} {out : List Nat} {y : Nat} {ops : Array Oper} {o : Oper} {a : Act} {K : Act → World → Prop} {Q : Exit → Act → World → Prop} {E : Prop} (hgd : o.guard = none) (s x : Operand)
    (ho : o.op = .call { callee := .builtin .append, args := #[s, x], argTypes := #[33, 33] }) (hs : a.eval s = vo) {gb : Nat} (hx : a.eval x = .slice (some ⟨gb, 0, none⟩) 1 1)
    (h : OutAt wr vo out) (hc : wr.cell? ⟨r, j, none⟩ = some vo) (hz : wr.frozen? ⟨r, j, none⟩ = false) (hne : vo.ownBlock ≠ some r) (hm : out.length ≤ 1099511627) (hb : Below wr.heap.size wr W) (hn : W.cell? ⟨gb, 0, none⟩ = some (.int .u8 (y : Int)))
    (hK : ∀ pa' cap' w2, Hid (OutAt w2 (.slice pa' (out.length + 1) cap') (out ++ [y]) ∧ UpdS (fun q => vo.ownBlock = some q) wr w2 ∧ Moved wr vo (.slice pa' (out.length + 1) cap')) → w2.cell? ⟨r, j, none⟩ = some vo → w2.frozen? ⟨r, j, none⟩ = false → K (a.put o.dst (.slice pa' (out.length + 1) cap')) w2) :
    if Region.wanted o (yielded ops a.tmps) = true then Oper.wp Try.prog o a W K Q else E := by
  have hw : Region.wanted o (yielded ops a.tmps) = true := by simp [Region.wanted, hgd]
  rw [if_pos hw]
  obtain ⟨pa', cap', w2, hr, h2, h3, h4, h5, h6⟩ := oc_run h hc hz hne hb hn hm o.type
  unfold Oper.wp execOp
  simp only [ho, resolve, invoke, builtin, Sem.run_bind, Sem.run_pure, Result.andThen_ok, List.map_toArray, List.map_cons, List.map_nil, hs, hx, hr]
  exact hK pa' cap' w2 ⟨h2, h3, h4⟩ h5 h6
/-- while bytes are copied -/
structure CpI (w wr : World) (b box : Nat) (Y : Nat → Prop) (s : ByteArray) (limit : Int) (a : Nat) (C : Nat → Value) (R : Int) (N : Nat) (v : Value) (out : List Nat) : Prop where
  st : CSt wr b Y s limit a (upV (upV C 15 (.int .i64 0)) 3 v)
  step : CStep w wr b Z0 C (upV (upV C 15 (.int .i64 0)) 3 v)
  out : OutAt wr v out
  x2 : wr.cell? ⟨box, 2, none⟩ = some (.int .i64 R)
  x3 : wr.cell? ⟨box, 3, none⟩ = some (.int .i64 (N : Int))
  ne : v.ownBlock ≠ some box
  nb : box ≠ b
theorem CpI.more {w wr w2 : World} {b box : Nat} {Y : Nat → Prop} {s : ByteArray} {limit : Int} {a : Nat} {C : Nat → Value} {R : Int} {N : Nat} {v v' : Value} {out out' : List Nat} (h : CpI w wr b box Y s limit a C R N v out) (hO : OutAt w2 v' out') (hU : UpdS (fun q => v.ownBlock = some q) wr w2) (hM : Moved wr v v') (h1 : a ≤ out'.length) (h2 : out'.length ≤ a + 131072) : CpI w (w2.setCell ⟨b, 3, none⟩ v') b box Y s limit a C R N v' out' := by
  have e3 : upV (upV C 15 (.int .i64 0)) 3 v 3 = v := upV_same _ _ _
  have hob := h.st.ob
  rw [e3] at hob
  have hbl := h.st.wc.lt
  have hxl : box < wr.heap.size := block_lt_of_cell h.x2
  have hvb : v.ownBlock ≠ some b := fun e => (hob b e).1 rfl
  have hv'b : v'.ownBlock ≠ some b := by
    rcases hM with e | ⟨q, e, hq⟩
    · rw [e]; exact hvb
    · rw [e]; intro e'; injection e' with e'; omega
  have hW : Wc (w2.setCell ⟨b, 3, none⟩ v') b (upV (upV C 15 (.int .i64 0)) 3 v') := by
    have := (h.st.wc.keep (hU.block b hbl hvb)).set 3 (by omega) v'
    rw [upV_upV] at this
    exact this
  have hO' : OutAt (w2.setCell ⟨b, 3, none⟩ v') v' out' := ⟨row_same hO.row (fun g hg => Below.heap_setCell _ _ _ _ (fun e => hv'b (by rw [hg, e])))⟩
  have hU' : UpdS (fun q => q = b ∨ (upV (upV C 15 (.int .i64 0)) 3 v 3).ownBlock = some q) wr (w2.setCell ⟨b, 3, none⟩ v') := by
    rw [e3]
    exact (hU.sub (fun _ _ e => .inr e)).setCell _ _ (fun _ => .inl rfl)
  have hW' : Wc (w2.setCell ⟨b, 3, none⟩ v') b (upV (upV (upV C 15 (.int .i64 0)) 3 v) 3 v') := by rw [upV_upV]; exact hW
  obtain ⟨hs1, hs2⟩ := h.st.grow hW' hO' h1 h2 (by rw [e3]; exact hM) hU'
  rw [upV_upV] at hs1 hs2
  have hkx : (w2.setCell ⟨b, 3, none⟩ v').heap[box]? = wr.heap[box]? := (Below.heap_setCell _ _ _ _ (show box ≠ b from h.nb)).trans (hU.block box hxl h.ne)
  refine ⟨hs1, h.step.trans hs2, hO', (World.cell?_of_block (w := wr) (a := ⟨box, 2, none⟩) hkx).trans h.x2, (World.cell?_of_block (w := wr) (a := ⟨box, 3, none⟩) hkx).trans h.x3, ?_, h.nb⟩
  rcases hM with e | ⟨q, e, hq⟩
  · rw [e]; exact h.ne
  · rw [e]; intro e'; injection e' with e'; omega
theorem CSt.sm {w w' : World} {b : Nat} {Y : Nat → Prop} {s : ByteArray} {limit : Int} {a : Nat} {C : Nat → Value} (h : CSt w b Y s limit a C) (hs : Sm w w') : CSt w' b Y s limit a C := h.upd (sm_updS hs Y)
theorem CStep.sm {w w1 w2 : World} {b : Nat} {Z : Nat → Prop} {C C' : Nat → Value} (h : CStep w w1 b Z C C') (hs : Sm w1 w2) : CStep w w2 b Z C C' := h.trans ⟨sm_updS hs _, .inl rfl, rfl, rfl, rfl⟩
theorem OutAt.sm {w w' : World} {v : Value} {out : List Nat} (h : OutAt w v out) (hs : Sm w w') : OutAt w' v out := ⟨row_same h.row (fun g _ => by rw [hs.heap])⟩
theorem CpI.sm {w wr w2 : World} {b box : Nat} {Y : Nat → Prop} {s : ByteArray} {limit : Int} {a : Nat} {C : Nat → Value} {R : Int} {N : Nat} {v : Value} {out : List Nat} (h : CpI w wr b box Y s limit a C R N v out) (hs : Sm wr w2) : CpI w w2 b box Y s limit a C R N v out :=
  ⟨h.st.sm hs, h.step.sm hs, h.out.sm hs, (hs.cell _).trans h.x2, (hs.cell _).trans h.x3, h.ne, h.nb⟩
/-- what a step within a compressed block answers -/
def StepQ (b : Nat) (Y : Nat → Prop) (s : ByteArray) (limit : Int) (a : Nat) (C : Nat → Value) (w : World) (x : Ending) (w' : World) : Prop :=
  ∃ C', x = .returned (.tuple #[]) ∧ CSt w' b Y s limit a C' ∧ CStep w w' b Z0 C C'
/-- what 'copy' answers -/
def CopyQ (b : Nat) (Y : Nat → Prop) (s : ByteArray) (limit : Int) (a : Nat) (R : Int) (C : Nat → Value) (w : World) (x : Ending) (w' : World) : Prop :=
  ∃ C', x = .returned (.tuple #[]) ∧ CSt w' b Y s limit a C' ∧ CStep w w' b Z0 C C' ∧ (∀ i, i ≠ 3 → i ≠ 15 → C' i = C i) ∧ (C' 15 = .int .i64 0 → 0 < R)
theorem roomE_ok {L a n : Nat} {W limit : Int} {e0 : Int} (h : roomE L a n W limit e0 = 0) : L + n ≤ a + 131072 := by
  unfold roomE at h
  split at h
  · exact absurd h (errN_ne (by omega))
  · unfold roomE1 at h
    split at h
    · exact absurd h (errN_ne (by omega))
    · rename_i h1
      unfold mostN at h1
      split at h1 <;> omega
end Go.Proofs.Ytkfilgfcgmohlaa
namespace Go.Proofs.Ytkfilgfcgmohlaa
open Go.RowKit
/-- 'append(l, x)' of a row of one's own, whatever its members: run -/
theorem apg_run {W : World} {T E size bytes : Nat} {z v : Value} {m : Nat} {xs : List Value} (ht : Try.prog.underlying T = some (.slice E)) (hi : (Try.prog.info? E).map (fun i => (i.zero, i.size, i.bytes)) = some (some z, size, bytes)) (hz : z.cells.size = size) (h0 : 0 < size)
    (h : W.ownsRow 0 E size v m xs) (hm : (m + 1) * bytes ≤ 140737488355328) (hm2 : m ≤ 17179869184) {gb : Nat} (news : List Value) (hl : news.length = 1 * size) (hn : ∀ j u, news[j]? = some u → W.cell? ((⟨gb, 0, none⟩ : Addr).add j) = some u) (h1 : ∀ u ∈ news, u.oneCell' = true) (ty : TypeId) :
    ∃ g1 cap1 w2, (Builtin.append_ #[T, T] ty #[v, .slice (some ⟨gb, 0, none⟩) 1 1]).run Try.prog W = .ok (.slice (some ⟨g1, 0, none⟩) (m + 1) cap1) w2 ∧
      w2.ownsRow 0 E size (.slice (some ⟨g1, 0, none⟩) (m + 1) cap1) (m + 1) (xs ++ news) ∧ W.grownBy w2 v.ownBlock ∧ Moved W v (.slice (some ⟨g1, 0, none⟩) (m + 1) cap1) := by
  obtain ⟨i0, hi0, hz0, hz1, hz2⟩ := fInfo hi
  obtain ⟨g1, cap1, w2, hrun, hown, hgrow, hat, hlt⟩ := run_append_lies (P := Try.prog) W T ty 0 E i0 z size bytes ht hi0 hz0 hz1 hz2 hz h0 v m xs h ⟨gb, 0, none⟩ 1 1 news hl hn h1 (by decide) (by unfold maxLen; omega) hm (Nat.zero_le _) _ rfl
  refine ⟨g1, cap1, w2, hrun, hown, hgrow, ?_⟩
  rcases hat with e | e
  · exact .inl (by rw [e]; rfl)
  · exact .inr ⟨g1, rfl, by omega⟩
/-- the same for a row that a cell keeps, at a region that draws -/
theorem apg_step {wr W : World} {T E size bytes : Nat} {z v : Value} {m : Nat} {xs : List Value} {ops : Array Oper} {o : Oper} {a : Act} {K : Act → World → Prop} {Q : Exit → Act → World → Prop} {F : Prop} (ht : Try.prog.underlying T = some (.slice E)) (hi : (Try.prog.info? E).map (fun i => (i.zero, i.size, i.bytes)) = some (some z, size, bytes)) (hz : z.cells.size = size) (h0 : 0 < size) (hgd : o.guard = none) (s x : Operand)
    (ho : o.op = .call { callee := .builtin .append, args := #[s, x], argTypes := #[T, T] }) (hs : a.eval s = v) {gb : Nat} (hx : a.eval x = .slice (some ⟨gb, 0, none⟩) 1 1)
    (h : wr.ownsRow 0 E size v m xs) (hm : (m + 1) * bytes ≤ 140737488355328) (hm2 : m ≤ 17179869184) (hb : Below wr.heap.size wr W) (news : List Value) (hl : news.length = 1 * size) (hn : ∀ j u, news[j]? = some u → W.cell? ((⟨gb, 0, none⟩ : Addr).add j) = some u) (h1 : ∀ u ∈ news, u.oneCell' = true)
    (hK : ∀ g1 cap1 w2, Hid (w2.ownsRow 0 E size (.slice (some ⟨g1, 0, none⟩) (m + 1) cap1) (m + 1) (xs ++ news) ∧ UpdS (fun q => v.ownBlock = some q) wr w2 ∧ Moved wr v (.slice (some ⟨g1, 0, none⟩) (m + 1) cap1)) → K (a.put o.dst (.slice (some ⟨g1, 0, none⟩) (m + 1) cap1)) w2) :
    if Region.wanted o (yielded ops a.tmps) = true then Oper.wp Try.prog o a W K Q else F := by
  have hw : Region.wanted o (yielded ops a.tmps) = true := by simp [Region.wanted, hgd]
  rw [if_pos hw]
  obtain ⟨g1, cap1, w2, hr, h2, h3, h4⟩ := apg_run ht hi hz h0 (row_below h hb) hm hm2 news hl hn h1 o.type
  unfold Oper.wp execOp
  simp only [ho, resolve, invoke, builtin, Sem.run_bind, Sem.run_pure, Result.andThen_ok, List.map_toArray, List.map_cons, List.map_nil, hs, hx, hr]
  refine hK g1 cap1 w2 ⟨h2, (below_updS hb _).same (grown_updS h3 (fun k e => e)), ?_⟩
  rcases h4 with e | ⟨k, e, hk⟩
  · exact .inl e
  · exact .inr ⟨k, e, Nat.le_trans hb.size hk⟩
end Go.Proofs.Ytkfilgfcgmohlaa
