import Derived.Test.YtkfilgfcgmohlaaJ02
import Derived.WalkKit
import Derived.WalkSpells
import Derived.WalkLawsBesides
import Derived.Deep.AppendLies
import Derived.Laws.OwnMore
import Derived.Deep.RegionLaw
namespace Go.Proofs.Ytkfilgfcgmohlaa
open Go.RowKit
theorem fInfo {P : Program} {t : TypeId} {z : Value} {a b : Nat} (h : (P.info? t).map (fun i => (i.zero, i.size, i.bytes)) = some (some z, a, b)) : ∃ i, P.info? t = some i ∧ i.zero = some z ∧ i.size = a ∧ i.bytes = b := by
  cases e : P.info? t with
  | none => rw [e] at h; simp at h
  | some i => rw [e] at h; simp at h; exact ⟨i, rfl, h.1, h.2.1, h.2.2⟩
theorem fInt : (Try.prog.info? 3).map (fun i => (i.zero, i.size, i.bytes)) = some (some (.int .i64 0), 1, 8) := by kernel_rfl
theorem row_same {w w' : World} {B e size : Nat} {v : Value} {n : Nat} {xs : List Value} (h : w.ownsRow B e size v n xs) (hs : ∀ g, v.ownBlock = some g → w'.heap[g]? = w.heap[g]?) : w'.ownsRow B e size v n xs := by
  refine ⟨h.1, ?_⟩
  rcases h.2 with hn | ⟨g, cap, cur, hv, hb, hg, rest⟩
  · exact .inl hn
  · exact .inr ⟨g, cap, cur, hv, hb, (hs g (by rw [hv]; rfl)).trans hg, rest⟩
theorem row_lt {w : World} {B e size : Nat} {v : Value} {n : Nat} {xs : List Value} (h : w.ownsRow B e size v n xs) (g : Nat) (hg : v.ownBlock = some g) : B ≤ g ∧ g < w.heap.size := World.ownsRow.lt h g hg
theorem row_below {w w' : World} {B e size : Nat} {v : Value} {n : Nat} {xs : List Value} (h : w.ownsRow B e size v n xs) (hb : Below w.heap.size w w') : w'.ownsRow B e size v n xs := row_same h (fun g hg => hb.block g (row_lt h g hg).2)
/-- bits as values -/
def bitsV (f : Nat → Nat) (m : Nat) : List Value := (List.range m).map fun j => .int .i64 (f j : Int)
theorem bitsV_len (f : Nat → Nat) (m : Nat) : (bitsV f m).length = m := by simp [bitsV]
theorem bitsV_succ (f : Nat → Nat) (m : Nat) : bitsV f (m + 1) = bitsV f m ++ [.int .i64 (f m : Int)] := by simp [bitsV, List.range_succ]
theorem bitsV_at (f : Nat → Nat) (m i : Nat) (h : i < m) : (bitsV f m)[i]? = some (.int .i64 (f i : Int)) := by simp [bitsV, h]
/-- a reader in the making: m bits so far -/
structure RdMk (w wr : World) (r : Nat) (f : Nat → Nat) (m : Nat) : Prop where
  v : ∃ v, wr.cell? ⟨r, 0, none⟩ = some v ∧ wr.ownsRow (r + 1) 3 1 v m (bitsV f m)
  c1 : wr.cell? ⟨r, 1, none⟩ = some (.int .i64 0)
  c2 : wr.cell? ⟨r, 2, none⟩ = some (.bool false)
  fz : ∀ i, wr.frozen? ⟨r, i, none⟩ = false
  bel : Below r w wr
  two : ∀ i, f i < 2
theorem RdMk.lt {w wr : World} {r : Nat} {f : Nat → Nat} {m : Nat} (h : RdMk w wr r f m) : r < wr.heap.size := block_lt_of_cell h.c1
theorem RdMk.later {w wr w' : World} {r : Nat} {f : Nat → Nat} {m : Nat} (h : RdMk w wr r f m) (hb : Below wr.heap.size wr w') : RdMk w w' r f m := by
  obtain ⟨v, h1, h2⟩ := h.v
  have hl := h.lt
  exact ⟨⟨v, (hb.cell (p := ⟨r, 0, none⟩) hl).trans h1, row_below h2 hb⟩, (hb.cell (p := ⟨r, 1, none⟩) hl).trans h.c1, (hb.cell (p := ⟨r, 2, none⟩) hl).trans h.c2, fun i => (hb.frozen (p := ⟨r, i, none⟩) hl).trans (h.fz i), h.bel.trans (hb.mono (by omega)), h.two⟩
theorem RdMk.made {w wr : World} {r : Nat} {f : Nat → Nat} {m : Nat} (h : RdMk w wr r f m) (hm : m ≤ 1099511627776) : ∃ g, RdAt wr r g m f 0 := by
  obtain ⟨v, h1, h2⟩ := h.v
  by_cases h0 : 0 < m
  · obtain ⟨g, cap, rfl, hB, hlt⟩ := h2.form h0
    exact ⟨g, ⟨_, _, h1, fun _ => rfl⟩, fun i hi => by rw [World.ownsRow.cellAt h2 i (by omega)]; exact bitsV_at f m i hi, by rw [Nat.zero_min]; exact h.c1, by rw [show decide (m < 0) = false by simp]; exact h.c2, h.fz, by omega, h.two, hm⟩
  · obtain rfl : m = 0 := by omega
    have hv : ∃ pa cap, v = .slice pa 0 cap := by
      rcases h2.2 with ⟨hv, _⟩ | ⟨g, cap, cur, hv, _⟩
      · exact ⟨none, 0, hv⟩
      · exact ⟨_, cap, hv⟩
    obtain ⟨pa, cap, rfl⟩ := hv
    exact ⟨r + 1, ⟨_, _, h1, fun h => absurd h (by omega)⟩, fun i hi => absurd hi (by omega), h.c1, h.c2, h.fz, by omega, h.two, hm⟩
/-- 'append(r.b, x)', run -/
theorem rd_run {w W : World} {r : Nat} {f : Nat → Nat} {m : Nat} (h : RdMk w W r f m) (hm : m ≤ 17179869184) {vt : Value} (h0 : W.cell? ⟨r, 0, none⟩ = some vt) {gb : Nat} {x : Int} (hx : x = (f m : Int)) (hn : W.cell? ⟨gb, 0, none⟩ = some (.int .i64 x)) (ty : TypeId) :
    ∃ g1 cap1 w2, (Builtin.append_ #[83, 83] ty #[vt, .slice (some ⟨gb, 0, none⟩) 1 1]).run Try.prog W = .ok (.slice (some ⟨g1, 0, none⟩) (m + 1) cap1) w2 ∧
      RdMk w (w2.setCell ⟨r, 0, none⟩ (.slice (some ⟨g1, 0, none⟩) (m + 1) cap1)) r f (m + 1) ∧ w2.cell? ⟨r, 0, none⟩ = some vt ∧ w2.frozen? ⟨r, 0, none⟩ = false := by
  obtain ⟨v, h0', hr⟩ := h.v
  obtain rfl : v = vt := by rw [h0] at h0'; simpa using h0'.symm
  obtain ⟨i0, hi0, hz0, hz1, hz2⟩ := fInfo fInt
  have hl := h.lt
  obtain ⟨g1, cap1, w2, hrun, hown, hgrow, hat, hlt⟩ := run_append_lies (P := Try.prog) W 83 ty (r + 1) 3 i0 (.int .i64 0) 1 8 Try.underlying83 hi0 hz0 hz1 hz2 rfl (by decide) v m (bitsV f m) hr ⟨gb, 0, none⟩ 1 1 [.int .i64 x] rfl
    (by
      intro j u hj
      have : j = 0 := by
        rcases Nat.eq_zero_or_pos j with h0 | h0
        · exact h0
        · rw [List.getElem?_eq_none (by simp; omega)] at hj; cases hj
      subst this
      simp at hj
      subst hj
      exact hn) (by intro v hv; simp at hv; subst hv; rfl) (by decide) (by unfold maxLen; omega) (by omega) (by omega) _ rfl
  have hrV : some r ≠ v.ownBlock := fun e => by have := row_lt hr r e.symm; omega
  have k0 := hgrow.cell_far ⟨r, 0, none⟩ hl hrV
  have g1r : g1 ≠ r := by
    have := row_lt hown g1 rfl; omega
  refine ⟨g1, cap1, w2, hrun, ⟨⟨_, cs_same (k0.trans h0), ?_⟩, ?_, ?_, fun i => ?_, ?_, h.two⟩, k0.trans h0, (hgrow.frozen_far ⟨r, 0, none⟩ hl hrV).trans (h.fz 0)⟩
  · rw [bitsV_succ, ← hx]
    exact row_same hown (fun g hg => Below.heap_setCell _ _ _ _ (by have := row_lt hown g hg; show g ≠ r; omega))
  · rw [cs_other (addr_ne (by omega))]; exact (hgrow.cell_far ⟨r, 1, none⟩ hl hrV).trans h.c1
  · rw [cs_other (addr_ne (by omega))]; exact (hgrow.cell_far ⟨r, 2, none⟩ hl hrV).trans h.c2
  · rw [World.frozen?_setCell]; exact (hgrow.frozen_far ⟨r, i, none⟩ hl hrV).trans (h.fz i)
  · have hb2 : Below r W w2 := ⟨hgrow.os, hgrow.tape, hgrow.output, hgrow.size, fun k hk => hgrow.block k (by omega) (fun e => by have := row_lt hr k e.symm; omega)⟩
    exact h.bel.trans (hb2.setCell (Nat.le_refl _) _)
/-- at a region that draws -/
theorem rd_step {w wr W : World} {r : Nat} {f : Nat → Nat} {m : Nat} {ops : Array Oper} {o : Oper} {a : Act} {K : Act → World → Prop} {Q : Exit → Act → World → Prop} {E : Prop} (hgd : o.guard = none) (s x : Operand)
    (ho : o.op = .call { callee := .builtin .append, args := #[s, x], argTypes := #[83, 83] }) {vt : Value} (hs : a.eval s = vt) {gb : Nat} (hx : a.eval x = .slice (some ⟨gb, 0, none⟩) 1 1)
    {y : Int} (hy : y = (f m : Int)) (hm : m ≤ 17179869184) (h : RdMk w wr r f m) (h0 : wr.cell? ⟨r, 0, none⟩ = some vt) (hb : Below wr.heap.size wr W) (hn : W.cell? ⟨gb, 0, none⟩ = some (.int .i64 y))
    (hK : ∀ g1 cap1 w2, Hid (RdMk w (w2.setCell ⟨r, 0, none⟩ (.slice (some ⟨g1, 0, none⟩) (m + 1) cap1)) r f (m + 1)) → w2.cell? ⟨r, 0, none⟩ = some vt → w2.frozen? ⟨r, 0, none⟩ = false → K (a.put o.dst (.slice (some ⟨g1, 0, none⟩) (m + 1) cap1)) w2) :
    if Region.wanted o (yielded ops a.tmps) = true then Oper.wp Try.prog o a W K Q else E := by
  have hw : Region.wanted o (yielded ops a.tmps) = true := by simp [Region.wanted, hgd]
  rw [if_pos hw]
  obtain ⟨g1, cap1, w2, hr, h2, h4, h5⟩ := rd_run (h.later hb) hm ((hb.cell (p := ⟨r, 0, none⟩) h.lt).trans h0) hy hn o.type
  unfold Oper.wp execOp
  simp only [ho, resolve, invoke, builtin, Sem.run_bind, Sem.run_pure, Result.andThen_ok, List.map_toArray, List.map_cons, List.map_nil, hs, hx, hr]
  exact hK g1 cap1 w2 h2 h4 h5
/-- at a plain region's list -/
theorem rd_list {w wr W : World} {r : Nat} {f : Nat → Nat} {m : Nat} {ops : Array Oper} {rest : List Oper} {o : Oper} {a : Act} {Q : Exit → Act → World → Prop} (hgd : o.guard = none) (s x : Operand)
    (ho : o.op = .call { callee := .builtin .append, args := #[s, x], argTypes := #[83, 83] }) {vt : Value} (hs : a.eval s = vt) {gb : Nat} (hx : a.eval x = .slice (some ⟨gb, 0, none⟩) 1 1)
    {y : Int} (hy : y = (f m : Int)) (hm : m ≤ 17179869184) (h : RdMk w wr r f m) (h0 : wr.cell? ⟨r, 0, none⟩ = some vt) (hb : Below wr.heap.size wr W) (hn : W.cell? ⟨gb, 0, none⟩ = some (.int .i64 y))
    (hK : ∀ g1 cap1 w2, Hid (RdMk w (w2.setCell ⟨r, 0, none⟩ (.slice (some ⟨g1, 0, none⟩) (m + 1) cap1)) r f (m + 1)) → w2.cell? ⟨r, 0, none⟩ = some vt → w2.frozen? ⟨r, 0, none⟩ = false → wpList Try.prog ops Q rest (a.put o.dst (.slice (some ⟨g1, 0, none⟩) (m + 1) cap1)) w2) :
    wpList Try.prog ops Q (o :: rest) a W := by
  refine wpList_plain hgd fun _ hKK => ?_
  obtain ⟨g1, cap1, w2, hr, h2, h4, h5⟩ := rd_run (h.later hb) hm ((hb.cell (p := ⟨r, 0, none⟩) h.lt).trans h0) hy hn o.type
  unfold Oper.wp execOp
  simp only [ho, resolve, invoke, builtin, Sem.run_bind, Sem.run_pure, Result.andThen_ok, List.map_toArray, List.map_cons, List.map_nil, hs, hx, hr]
  exact hKK _ _ (hK g1 cap1 w2 h2 h4 h5)
theorem shr_bit (g k : Nat) (hg : g < 256) : bits .and .i64 ((g : Int) / 2 ^ k) 1 = ((g / 2 ^ k % 2 : Nat) : Int) := by
  have hle : g / 2 ^ k ≤ g := Nat.div_le_self _ _
  rw [show ((g : Int) / 2 ^ k) = ((g / 2 ^ k : Nat) : Int) by norm_cast]
  generalize g / 2 ^ k = y at *
  rw [i64_mask1 _ (by omega) (by omega)]
  omega
set_option maxRecDepth 100000 in
set_option maxHeartbeats 1000000 in
theorem forward_any (s : ByteArray) (w : World) (hs : s.size ≤ 1073741824) :
    Calls Try.prog 97 #[.string s] w fun e w' => ∃ r g, e = .returned (.pointer (some ⟨r, 0, none⟩)) ∧ RdAt w' r g (8 * s.size) (fbit s) 0 ∧ Below w.heap.size w w' ∧ w.heap.size ≤ r := by
  go_enter Try.func97, Try.ntmps97
  go_wp2
  go_loopw [4] (fun iv wr => ∃ i : Nat, i ≤ s.size ∧ iv = .int .i64 i ∧ RdMk w wr w.heap.size (fbit s) (8 * i)) (fun iv _ => (s.size - intOf iv).toNat)
  case atStart => exact ⟨0, by omega, rfl, ⟨⟨_, by simp, World.ownsRow_nil _ _ _ _⟩, by simp, by simp, by simp, (Below.refl _ _).alloc (Nat.le_refl _) _, fbit_lt s⟩⟩
  case round =>
    obtain ⟨i, hi, rfl, hm⟩ := hrel
    have HM : Hid (RdMk w wr w.heap.size (fbit s) (8 * i)) := hm
    clear hm
    by_cases hlt : i < s.size
    · have hix : ∀ wz, (Instr.index 9 (.string s) (.int .i64 (i : Int))).run Try.prog wz = .ok (.int .u8 ((gOf s i : Nat) : Int)) wz := run_at s _ i rfl hlt
      have hgl := gOf_lt s i
      have hw8 : IntKind.i64.wrap (gOf s i : Int) = (gOf s i : Int) := i64_id _ (by omega) (by omega)
      go_wp2
      go_loopw [5] (fun kv wr => ∃ k : Nat, k ≤ 8 ∧ kv = .int .i64 k ∧ RdMk w wr w.heap.size (fbit s) (8 * i + k)) (fun kv _ => (8 - intOf kv).toNat)
      case atStart => exact ⟨0, by omega, rfl, HM.out⟩
      case round =>
        clear HM
        obtain ⟨k, hk, rfl, hm⟩ := hrel
        have HM : Hid (RdMk w wr w.heap.size (fbit s) (8 * i + k)) := hm
        obtain ⟨vt, h0, _⟩ := hm.v
        have f0 := hm.fz 0
        have hwl := hm.lt
        clear hm
        by_cases hk8 : k < 8
        · have HE : Hid (bits .and .i64 ((gOf s i : Int) / 2 ^ k) 1 = (fbit s (8 * i + k) : Int)) := by
            show _ = _
            rw [shr_bit _ k hgl]; unfold fbit
            rw [show (8 * i + k) / 8 = i by omega, show (8 * i + k) % 8 = k by omega]
          go_wp2_with fail
          go_region_law ((refine rd_step (by rfl) (.tmp 22) (.tmp 30) (by rfl) (by first | rfl | simp) (gb := wr.heap.size) (by simp [Act.eval]) HE.out (by omega) HM.out h0 (by repeat (first | exact Below.refl _ _ | refine Below.drew ?_ | refine Below.alloc ?_ (by simp <;> omega) _)) (by simp <;> rw [hw8]) ?_; intro g1 cap1 w2 hfin c3 e3))
          all_goals
            go_wp2_with fail
            exact ⟨⟨k + 1, by omega, by go_num, hfin.out⟩, by simp [intOf]; omega⟩
        · obtain rfl : k = 8 := by omega
          go_wp2_with fail
          exact ⟨⟨i + 1, by omega, by go_num, HM.out⟩, by simp [intOf]; omega⟩
    · obtain rfl : i = s.size := by omega
      go_wp2_with fail
      go_ret
      obtain ⟨g, hg⟩ := HM.out.made (by omega)
      exact ⟨_, g, rfl, hg, HM.out.bel, Nat.le_refl _⟩
end Go.Proofs.Ytkfilgfcgmohlaa
namespace Go.Proofs.Ytkfilgfcgmohlaa
open Go.RowKit
/-- z noughts, then a bit that is set, in the last byte -/
structure Lead (s : ByteArray) (z : Nat) : Prop where
  lt : z < 8
  some : 0 < s.size
  one : bbit s z = 1
  nought : ∀ j, j < z → bbit s j = 0
/-- the last byte has no bit that is set, or there is none -/
def NoLead (s : ByteArray) : Prop := s.size = 0 ∨ ∀ j, j < 8 → bbit s j = 0
theorem Lead.uniq {s : ByteArray} {z y : Nat} (h : Lead s z) (k : Lead s y) : z = y := by
  rcases Nat.lt_trichotomy z y with h' | h' | h'
  · have := k.nought z h'; have := h.one; omega
  · exact h'
  · have := h.nought y h'; have := k.one; omega
theorem Lead.no {s : ByteArray} {z : Nat} (h : Lead s z) (k : NoLead s) : False := by
  rcases k with k | k
  · have := h.some; omega
  · have := k z h.lt; have := h.one; omega
theorem lead_or (s : ByteArray) : (∃ z, Lead s z) ∨ NoLead s := by
  by_cases h0 : s.size = 0
  · exact .inr (.inl h0)
  · have key : ∀ n, n ≤ 8 → (∃ z, Lead s z) ∨ ∀ j, j < n → bbit s j = 0 := by
      intro n
      induction n with
      | zero => intro _; exact .inr (fun j hj => absurd hj (by omega))
      | succ n ih =>
        intro hn
        rcases ih (by omega) with h | h
        · exact .inl h
        · by_cases e : bbit s n = 1
          · exact .inl ⟨n, by omega, by omega, e, h⟩
          · refine .inr (fun j hj => ?_)
            rcases Nat.lt_or_ge j n with h' | h'
            · exact h j h'
            · obtain rfl : j = n := by omega
              have := bbit_lt s j; omega
    rcases key 8 (Nat.le_refl _) with h | h
    · exact .inl h
    · exact .inr (.inr h)
/-- how many bits stand behind the first that is set; which -/
def bkN (s : ByteArray) (z : Nat) : Nat := 8 * s.size - (z + 1)
def bkF (s : ByteArray) (z : Nat) (k : Nat) : Nat := bbit s (z + 1 + k)
theorem RdMk.none {w wr : World} {r : Nat} {f : Nat → Nat} (h : RdMk w wr r f 0) (f' : Nat → Nat) (h2 : ∀ i, f' i < 2) : RdMk w wr r f' 0 := ⟨h.v, h.c1, h.c2, h.fz, h.bel, h2⟩
/-- J bits were looked at -/
def BkAt (w wr : World) (s : ByteArray) (J : Nat) : Bool → Prop
  | false => J ≤ 8 ∧ (∀ j, j < J → bbit s j = 0) ∧ RdMk w wr w.heap.size (fun _ => 0) 0
  | true => ∃ z, z < J ∧ Lead s z ∧ RdMk w wr w.heap.size (bkF s z) (J - (z + 1))
/-- what Backward answers -/
def BackQ (s : ByteArray) (w : World) (e : Ending) (w' : World) : Prop :=
  ∃ r ok, e = .returned (.tuple #[.pointer (some ⟨r, 0, none⟩), .bool ok]) ∧ Below w.heap.size w w' ∧ w.heap.size ≤ r ∧
    ((ok = false ∧ NoLead s) ∨ (ok = true ∧ ∃ z g, Lead s z ∧ RdAt w' r g (bkN s z) (bkF s z) 0))
set_option maxRecDepth 100000 in
set_option maxHeartbeats 2000000 in
theorem backward_any (s : ByteArray) (w : World) (hs : s.size ≤ 1073741824) :
    Calls Try.prog 84 #[.string s] w fun e w' => BackQ s w e w' := by
  go_enter Try.func84, Try.ntmps84
  go_wp2
  go_loopw [5, 6] (fun bv iv wr => ∃ (a : Nat) (bg : Bool), a ≤ s.size ∧ iv = .int .i64 ((s.size : Int) - 1 - a) ∧ bv = .bool bg ∧ BkAt w wr s (8 * a) bg ∧ (bg = false → a = 0)) (fun _ iv _ => (intOf iv + 1).toNat)
  case atStart => exact ⟨0, false, by omega, by simp, rfl, ⟨by omega, fun j hj => absurd hj (by omega), ⟨⟨_, by simp, World.ownsRow_nil _ _ _ _⟩, by simp, by simp, by simp, (Below.refl _ _).alloc (Nat.le_refl _) _, fun _ => by omega⟩⟩, fun _ => rfl⟩
  case round =>
    obtain ⟨a, bg, ha, rfl, rfl, hm, hbg⟩ := hrel
    have HM : Hid (BkAt w wr s (8 * a) bg ∧ (bg = false → a = 0)) := ⟨hm, hbg⟩
    clear hm hbg
    by_cases hlt : a < s.size
    · obtain ⟨i, hi⟩ : ∃ i : Nat, i = s.size - 1 - a := ⟨_, rfl⟩
      have HI : Hid (i + a + 1 = s.size) := by show _ = _; omega
      have hil : i < s.size := by omega
      rw [show ((s.size : Int) - 1 - a) = (i : Int) by omega]
      have hix : ∀ wz, (Instr.index 9 (.string s) (.int .i64 (i : Int))).run Try.prog wz = .ok (.int .u8 ((gOf s i : Nat) : Int)) wz := run_at s _ i rfl hil
      have hgl := gOf_lt s i
      have hw8 : IntKind.i64.wrap (gOf s i : Int) = (gOf s i : Int) := i64_id _ (by omega) (by omega)
      clear hi
      go_wp2_with fail
      go_loopw [5, 7] (fun bv kv wr => ∃ (b : Nat) (bg : Bool), b ≤ 8 ∧ kv = .int .i64 (7 - b) ∧ bv = .bool bg ∧ BkAt w wr s (8 * a + b) bg ∧ (bg = false → a = 0)) (fun _ kv _ => (intOf kv + 1).toNat)
      case atStart => exact ⟨0, bg, by omega, rfl, rfl, HM.out.1, HM.out.2⟩
      case round =>
        clear HM
        obtain ⟨b, bg, hb, rfl, rfl, hm, hbg⟩ := hrel
        by_cases hb8 : b < 8
        · obtain ⟨k, hk⟩ : ∃ k : Nat, k = 7 - b := ⟨_, rfl⟩
          have hk7 : k ≤ 7 := by omega
          have hE : bits .and .i64 ((gOf s i : Int) / 2 ^ k) 1 = (bbit s (8 * a + b) : Int) := by
            rw [shr_bit _ k hgl]; unfold bbit
            have := HI.out
            rw [show s.size - 1 - (8 * a + b) / 8 = i by omega, show 7 - (8 * a + b) % 8 = k by omega]
          rw [show ((7 : Int) - b) = (k : Int) by omega]
          have HK : Hid (k = 7 - b) := hk
          have hx2 := bbit_lt s (8 * a + b)
          obtain ⟨x, hx⟩ : ∃ x, x = bbit s (8 * a + b) := ⟨_, rfl⟩
          have HX : Hid (x = bbit s (8 * a + b)) := hx
          rw [← hx] at hE hx2
          clear hx hk
          cases bg with
          | true =>
            obtain ⟨z, hz, hL, hM⟩ := hm
            have HM : Hid (RdMk w wr w.heap.size (bkF s z) (8 * a + b - (z + 1))) := hM
            have HL : Hid (Lead s z) := hL
            have HY : Hid ((x : Int) = (bkF s z (8 * a + b - (z + 1)) : Int)) := by
              show _ = _
              unfold bkF
              rw [HX.out, show z + 1 + (8 * a + b - (z + 1)) = 8 * a + b by omega]
            obtain ⟨vt, h0, _⟩ := hM.v
            have f0 := hM.fz 0
            have hwl := hM.lt
            clear hM hL hbg
            go_wp2_with (at_builtin; refine rd_list (by rfl) (.tmp 34) (.tmp 36) (by rfl) (by first | rfl | simp) (gb := wr.heap.size) (by simp [Act.eval]) HY.out (by omega) HM.out h0 (by repeat (first | exact Below.refl _ _ | refine Below.drew ?_ | refine Below.alloc ?_ (by simp <;> omega) _)) (by simp) ?_; intro g1 cap1 w2 hfin c3 e3)
            refine ⟨⟨b + 1, true, by omega, ?_, rfl, ⟨z, by omega, HL.out, ?_⟩, fun h => by cases h⟩, ?_⟩
            · have := HK.out; go_num
            · rw [show 8 * a + (b + 1) - (z + 1) = 8 * a + b - (z + 1) + 1 by omega]
              exact hfin.out
            · simp [intOf]
          | false =>
            obtain ⟨hJ, hn, hM⟩ := hm
            obtain rfl : a = 0 := hbg rfl
            have HM : Hid (RdMk w wr w.heap.size (fun _ => 0) 0) := hM
            have HN : Hid (∀ j, j < 8 * 0 + b → bbit s j = 0) := hn
            clear hM hn hbg hJ
            by_cases hx1 : x = 1
            · subst hx1
              have hb1 : (((1 : Nat) : Int) == 1) = true := rfl
              go_wp2_with fail
              refine ⟨⟨b + 1, true, by omega, ?_, rfl, ⟨b, by omega, ⟨by omega, by omega, ?_, fun j hj => HN.out j (by omega)⟩, ?_⟩, fun h => by cases h⟩, ?_⟩
              · have := HK.out; go_num
              · rw [show b = 8 * 0 + b by omega]; exact HX.out.symm
              · rw [show 8 * 0 + (b + 1) - (b + 1) = 0 by omega]
                exact HM.out.none _ (fun i => bbit_lt s _)
              · simp [intOf]
            · obtain rfl : x = 0 := by omega
              have hb1 : (((0 : Nat) : Int) == 1) = false := rfl
              go_wp2_with fail
              refine ⟨⟨b + 1, false, by omega, ?_, rfl, ⟨by omega, fun j hj => ?_, HM.out⟩, fun _ => trivial⟩, ?_⟩
              · have := HK.out; go_num
              · rcases Nat.lt_or_ge j (8 * 0 + b) with h' | h'
                · exact HN.out j h'
                · obtain rfl : j = 8 * 0 + b := by omega
                  exact HX.out.symm
              · simp [intOf]
        · obtain rfl : b = 8 := by omega
          have HM : Hid (BkAt w wr s (8 * a + 8) bg ∧ (bg = false → a = 0)) := ⟨hm, hbg⟩
          clear hm hbg
          cases bg with
          | true =>
            go_wp2_with fail
            refine ⟨⟨a + 1, true, by omega, ?_, rfl, HM.out.1, fun h => by cases h⟩, ?_⟩
            · have := HI.out; go_num
            · simp [intOf]
          | false =>
            go_wp2_with fail
            go_ret2
            obtain ⟨⟨_, hn, hM⟩, ha0⟩ := HM.out
            obtain rfl : a = 0 := ha0 trivial
            exact ⟨w.heap.size, false, rfl, hM.bel, Nat.le_refl _, .inl ⟨rfl, .inr (fun j hj => hn j (by omega))⟩⟩
    · obtain rfl : a = s.size := by omega
      cases bg with
      | true =>
        go_wp2_with fail
        go_ret2
        obtain ⟨⟨z, hz, hL, hM⟩, _⟩ := HM.out
        obtain ⟨g, hg⟩ := hM.made (by omega)
        exact ⟨w.heap.size, true, rfl, hM.bel, Nat.le_refl _, .inr ⟨rfl, z, g, hL, hg⟩⟩
      | false =>
        go_wp2_with fail
        go_ret2
        obtain ⟨⟨_, hn, hM⟩, ha0⟩ := HM.out
        exact ⟨w.heap.size, false, rfl, hM.bel, Nat.le_refl _, .inl ⟨rfl, .inl (ha0 trivial)⟩⟩
end Go.Proofs.Ytkfilgfcgmohlaa
namespace Go.Proofs.Ytkfilgfcgmohlaa
open Go.RowKit
/-- 'append(l, x)' of a row of one's own, run -/
theorem ap_run {W : World} {B T E size bytes : Nat} {z v : Value} {m : Nat} {xs : List Value} (ht : Try.prog.underlying T = some (.slice E)) (hi : (Try.prog.info? E).map (fun i => (i.zero, i.size, i.bytes)) = some (some z, size, bytes)) (hz : z.cells.size = size) (h0 : 0 < size)
    (h : W.ownsRow B E size v m xs) (hm : (m + 1) * bytes ≤ 140737488355328) (hm2 : m ≤ 17179869184) (hB : B ≤ W.heap.size) {gb : Nat} (news : List Value) (hl : news.length = 1 * size) (hn : ∀ j u, news[j]? = some u → W.cell? ((⟨gb, 0, none⟩ : Addr).add j) = some u) (h1 : ∀ u ∈ news, u.oneCell' = true) (ty : TypeId) :
    ∃ g1 cap1 w2, (Builtin.append_ #[T, T] ty #[v, .slice (some ⟨gb, 0, none⟩) 1 1]).run Try.prog W = .ok (.slice (some ⟨g1, 0, none⟩) (m + 1) cap1) w2 ∧
      w2.ownsRow B E size (.slice (some ⟨g1, 0, none⟩) (m + 1) cap1) (m + 1) (xs ++ news) ∧ Below B W w2 := by
  obtain ⟨i0, hi0, hz0, hz1, hz2⟩ := fInfo hi
  obtain ⟨g1, cap1, w2, hrun, hown, hgrow, hat, hlt⟩ := run_append_lies (P := Try.prog) W T ty B E i0 z size bytes ht hi0 hz0 hz1 hz2 hz h0 v m xs h ⟨gb, 0, none⟩ 1 1 news hl hn h1 (by decide) (by unfold maxLen; omega) hm hB _ rfl
  exact ⟨g1, cap1, w2, hrun, hown, hgrow.os, hgrow.tape, hgrow.output, hgrow.size, fun k hk => hgrow.block k (by omega) (fun e => by have := row_lt h k e.symm; omega)⟩
theorem one_new {W : World} {gb : Nat} {x : Value} (h : W.cell? ⟨gb, 0, none⟩ = some x) : ∀ j u, [x][j]? = some u → W.cell? ((⟨gb, 0, none⟩ : Addr).add j) = some u := by
  intro j u hj
  have : j = 0 := by
    rcases Nat.eq_zero_or_pos j with h0 | h0
    · exact h0
    · rw [List.getElem?_eq_none (by simp; omega)] at hj; cases hj
  subst this
  simp at hj
  subst hj
  exact h
/-- numbers: at a region that draws -/
theorem ia_step {wr W : World} {B : Nat} {v : Value} {m : Nat} {xs : List Value} {ops : Array Oper} {o : Oper} {a : Act} {K : Act → World → Prop} {Q : Exit → Act → World → Prop} {E : Prop} (hgd : o.guard = none) (s x : Operand)
    (ho : o.op = .call { callee := .builtin .append, args := #[s, x], argTypes := #[83, 83] }) (hs : a.eval s = v) {gb : Nat} (hx : a.eval x = .slice (some ⟨gb, 0, none⟩) 1 1)
    {y : Int} (hm : m ≤ 1099511627) (h : wr.ownsRow B 3 1 v m xs) (hB : B ≤ wr.heap.size) (hb : Below wr.heap.size wr W) (hn : W.cell? ⟨gb, 0, none⟩ = some (.int .i64 y))
    (hK : ∀ g1 cap1 w2, Hid (w2.ownsRow B 3 1 (.slice (some ⟨g1, 0, none⟩) (m + 1) cap1) (m + 1) (xs ++ [.int .i64 y]) ∧ Below B wr w2) → K (a.put o.dst (.slice (some ⟨g1, 0, none⟩) (m + 1) cap1)) w2) :
    if Region.wanted o (yielded ops a.tmps) = true then Oper.wp Try.prog o a W K Q else E := by
  have hw : Region.wanted o (yielded ops a.tmps) = true := by simp [Region.wanted, hgd]
  rw [if_pos hw]
  obtain ⟨g1, cap1, w2, hr, h2, h4⟩ := ap_run Try.underlying83 fInt rfl (by decide) (row_below h hb) (by omega) (by omega) (Nat.le_trans hB hb.size) [.int .i64 y] rfl (one_new hn) (by intro v hv; simp at hv; subst hv; rfl) o.type
  unfold Oper.wp execOp
  simp only [ho, resolve, invoke, builtin, Sem.run_bind, Sem.run_pure, Result.andThen_ok, List.map_toArray, List.map_cons, List.map_nil, hs, hx, hr]
  exact hK g1 cap1 w2 ⟨h2, (hb.mono hB).trans h4⟩
/-- numbers: at a plain region's list -/
theorem ia_list {wr W : World} {B : Nat} {v : Value} {m : Nat} {xs : List Value} {ops : Array Oper} {rest : List Oper} {o : Oper} {a : Act} {Q : Exit → Act → World → Prop} (hgd : o.guard = none) (s x : Operand)
    (ho : o.op = .call { callee := .builtin .append, args := #[s, x], argTypes := #[83, 83] }) (hs : a.eval s = v) {gb : Nat} (hx : a.eval x = .slice (some ⟨gb, 0, none⟩) 1 1)
    {y : Int} (hm : m ≤ 1099511627) (h : wr.ownsRow B 3 1 v m xs) (hB : B ≤ wr.heap.size) (hb : Below wr.heap.size wr W) (hn : W.cell? ⟨gb, 0, none⟩ = some (.int .i64 y))
    (hK : ∀ g1 cap1 w2, Hid (w2.ownsRow B 3 1 (.slice (some ⟨g1, 0, none⟩) (m + 1) cap1) (m + 1) (xs ++ [.int .i64 y]) ∧ Below B wr w2) → wpList Try.prog ops Q rest (a.put o.dst (.slice (some ⟨g1, 0, none⟩) (m + 1) cap1)) w2) :
    wpList Try.prog ops Q (o :: rest) a W := by
  refine wpList_plain hgd fun _ hKK => ?_
  obtain ⟨g1, cap1, w2, hr, h2, h4⟩ := ap_run Try.underlying83 fInt rfl (by decide) (row_below h hb) (by omega) (by omega) (Nat.le_trans hB hb.size) [.int .i64 y] rfl (one_new hn) (by intro v hv; simp at hv; subst hv; rfl) o.type
  unfold Oper.wp execOp
  simp only [ho, resolve, invoke, builtin, Sem.run_bind, Sem.run_pure, Result.andThen_ok, List.map_toArray, List.map_cons, List.map_nil, hs, hx, hr]
  exact hKK _ _ (hK g1 cap1 w2 ⟨h2, (hb.mono hB).trans h4⟩)
/-- how many bits a number has; at most n -/
def widF : Nat → Nat → Nat
  | 0, _ => 0
  | n + 1, v => if v = 0 then 0 else widF n (v / 2) + 1
theorem widF_any : ∀ (n m v : Nat), v ≤ n → v ≤ m → widF n v = widF m v := by
  intro n
  induction n with
  | zero =>
    intro m v h1 _
    cases m with
    | zero => rfl
    | succ m => rw [widF, widF, if_pos (by omega)]
  | succ n ih =>
    intro m v h1 h2
    cases m with
    | zero => rw [widF, widF, if_pos (by omega)]
    | succ m =>
      rw [widF, widF]
      by_cases h0 : v = 0
      · rw [if_pos h0, if_pos h0]
      · rw [if_neg h0, if_neg h0, ih m (v / 2) (by omega) (by omega)]
/-- how many bits a number has -/
def wid (v : Nat) : Nat := widF v v
theorem wid_zero : wid 0 = 0 := rfl
theorem wid_pos {v : Nat} (h : 0 < v) : wid v = wid (v / 2) + 1 := by
  unfold wid
  rw [widF_any v (v + 1) v (Nat.le_refl _) (by omega), widF, if_neg (by omega), widF_any v (v / 2) (v / 2) (by omega) (Nat.le_refl _)]
theorem wid_lt : ∀ (k v : Nat), v < 2 ^ k → wid v ≤ k
  | 0, v, h => by simp at h; subst h; simp [wid_zero]
  | k + 1, v, h => by
    rcases Nat.eq_zero_or_pos v with h0 | h0
    · subst h0; simp [wid_zero]
    · rw [wid_pos h0]
      have := wid_lt k (v / 2) (by rw [Nat.pow_succ] at h; omega)
      omega
theorem wid_up (v : Nat) : v < 2 ^ wid v := by
  induction v using Nat.strongRecOn with
  | ind v ih =>
    rcases Nat.eq_zero_or_pos v with h0 | h0
    · subst h0; simp [wid_zero]
    · have := ih (v / 2) (by omega)
      rw [wid_pos h0, Nat.pow_succ]; omega
theorem wid_low (v : Nat) (h : 0 < v) : 2 ^ (wid v - 1) ≤ v := by
  induction v using Nat.strongRecOn with
  | ind v ih =>
    rw [wid_pos h, Nat.add_sub_cancel]
    rcases Nat.eq_zero_or_pos (v / 2) with h0 | h0
    · rw [h0]; simp [wid_zero]; omega
    · have := ih (v / 2) (by omega) h0
      have e : wid (v / 2) = wid (v / 2) - 1 + 1 := by rw [wid_pos h0]; omega
      rw [e, Nat.pow_succ]; omega
set_option maxHeartbeats 1000000 in
theorem wide_any (v : Nat) (w : World) (hv : v ≤ 4611686018427387904) :
    Calls Try.prog 104 #[.int .i64 (v : Int)] w fun e w' => e = .returned (.int .i64 ((wid v : Nat) : Int)) ∧ w' = w := by
  have hb : Hid (wid v ≤ 63) := wid_lt 63 v (by omega)
  go_enter Try.func104, Try.ntmps104
  go_wp2
  go_loop [0, 3] (fun vv nv => ∃ x k : Nat, vv = .int .i64 x ∧ nv = .int .i64 k ∧ k + wid x = wid v ∧ x ≤ v) (fun vv _ => (intOf vv).toNat)
  case atStart => exact ⟨v, 0, rfl, rfl, by omega, Nat.le_refl _⟩
  case round =>
    obtain ⟨x, k, rfl, rfl, hk, hx⟩ := hrel
    have HK : Hid (k + wid x = wid v) := hk
    have hk63 : k ≤ 63 := by have := hb.out; omega
    clear hk
    by_cases h0 : 0 < x
    · go_wp2
      go_round
      case rel =>
        refine ⟨x / 2, k + 1, ?_, by go_num, ?_, by omega⟩
        · go_num
        · have := HK.out; have := wid_pos h0; omega
      case measure => simp [intOf]; omega
    · obtain rfl : x = 0 := by omega
      go_wp2
      go_ret
      have := HK.out
      simp [wid_zero] at this
      exact ⟨ret_int (by omega), rfl⟩
end Go.Proofs.Ytkfilgfcgmohlaa
namespace Go.Proofs.Ytkfilgfcgmohlaa
open Go.RowKit
/-- a number of 0 .. max: its value; where the reader stands behind it -/
def valN (n : Nat) (f : Nat → Nat) (pos max : Nat) : Nat :=
  let v := lowN n f pos (wid max - 1)
  let spare := 2 ^ wid max - 1 - max
  if v < spare then v else if rb n f (pos + (wid max - 1)) = 1 then v + 2 ^ (wid max - 1) - spare else v
def valP (n : Nat) (f : Nat → Nat) (pos max : Nat) : Nat :=
  if lowN n f pos (wid max - 1) < 2 ^ wid max - 1 - max then pos + (wid max - 1) else pos + (wid max - 1) + 1
theorem valN_le (n : Nat) (f : Nat → Nat) (hf : ∀ i, f i < 2) (pos max : Nat) (hm : 0 < max) : valN n f pos max ≤ max := by
  have h1 := lowN_lt n f hf pos (wid max - 1)
  have h2 := wid_low max hm
  have h3 := wid_up max
  have e : wid max = wid max - 1 + 1 := by rw [wid_pos hm]; omega
  have h4 : 2 ^ wid max = 2 ^ (wid max - 1) * 2 := by rw [e, Nat.pow_succ]; simp
  unfold valN
  simp only
  split
  · omega
  · split <;> omega
set_option maxRecDepth 100000 in
set_option maxHeartbeats 1000000 in
theorem value_any (r g n : Nat) (f : Nat → Nat) (pos : Nat) (max : Nat) (w : World) (h : RdAt w r g n f pos) (hm : 0 < max) (hm2 : max ≤ 4096) :
    Calls Try.prog 99 #[.pointer (some ⟨r, 0, none⟩), .int .i64 (max : Int)] w fun e w' => e = .returned (.int .i64 ((valN n f pos max : Nat) : Int)) ∧ RdAt w' r g n f (valP n f pos max) ∧ Upd r w w' := by
  have hf := h.two
  have HR : Hid (RdAt w r g n f pos) := h
  have h1 := lowN_lt n f hf pos (wid max - 1)
  have h2 := wid_low max hm
  have h3 := wid_up max
  have h5 := wid_lt 13 max (by omega)
  have e : wid max = wid max - 1 + 1 := by rw [wid_pos hm]; omega
  obtain ⟨j, hj⟩ : ∃ j, wid max = j + 1 := ⟨_, e⟩
  have HJ : Hid (wid max = j + 1) := hj
  rw [hj] at h1 h2 h3 h5
  rw [Nat.add_sub_cancel] at h1 h2
  obtain ⟨q, hq⟩ : ∃ q, q = 2 ^ j := ⟨_, rfl⟩
  have hp1 : (2 : Int) ^ (j + 1) = ((2 * q : Nat) : Int) := by rw [hq, Nat.mul_comm, ← Nat.pow_succ]; norm_cast
  have hp0 : (2 : Int) ^ j = (q : Int) := by rw [hq]; norm_cast
  have h3' : max < 2 * q := by rw [Nat.pow_succ] at h3; omega
  have h2' : q ≤ max := by omega
  obtain ⟨v, hv⟩ : ∃ v, v = lowN n f pos j := ⟨_, rfl⟩
  have h1' : v < q := by rw [hv, hq]; exact h1
  have hx2 := rb_lt n f hf (pos + j)
  obtain ⟨x, hx⟩ : ∃ x, x = rb n f (pos + j) := ⟨_, rfl⟩
  have HN : Hid (valN n f pos max = if v < 2 * q - 1 - max then v else if x = 1 then v + q - (2 * q - 1 - max) else v) := by
    show _ = _
    unfold valN; simp only
    rw [hj, Nat.add_sub_cancel, ← hv, ← hx, Nat.pow_succ, ← hq, Nat.mul_comm q 2]
  have HP : Hid (valP n f pos max = if v < 2 * q - 1 - max then pos + j else pos + j + 1) := by
    show _ = _
    unfold valP
    rw [hj, Nat.add_sub_cancel, ← hv, Nat.pow_succ, ← hq, Nat.mul_comm q 2]
  have HV : Hid (v = lowN n f pos j) := hv
  have HX : Hid (x = rb n f (pos + j)) := hx
  rw [← hx] at hx2
  clear h hj h1 h2 h3 hq hv hx hf e
  go_enter Try.func99, Try.ntmps99
  go_wp2_with fail
  refine (wide_any max _ (by omega)).mono ?_
  rintro e w1 ⟨rfl, hw1⟩
  rw [hw1, HJ.out]
  clear hw1
  go_wp2_with fail
  refine (rd_low r g n f pos j _ HR.out (by omega)).mono ?_
  rintro e w2 ⟨rfl, hR, hU⟩
  have HR2 : Hid (RdAt w2 r g n f (pos + j)) := hR
  have HU : Hid (Upd r w w2) := hU
  rw [← HV.out]
  clear hR hU
  by_cases hvs : v < 2 * q - 1 - max
  · rw [if_pos hvs] at HN HP
    go_wp2_with fail
    go_ret
    exact ⟨ret_int (by rw [HN.out]), by rw [HP.out]; exact HR2.out, HU.out⟩
  · rw [if_neg hvs] at HN HP
    go_wp2_with fail
    refine (rd_bit r g n f (pos + j) _ HR2.out).mono ?_
    rintro e w3 ⟨rfl, hR, hU⟩
    have HR3 : Hid (RdAt w3 r g n f (pos + j + 1)) := hR
    have HU3 : Hid (Upd r w w3) := HU.out.trans hU
    rw [← HX.out]
    clear hR hU
    by_cases hx1 : x = 1
    · rw [if_pos hx1] at HN
      subst hx1
      go_wp2_with fail
      go_ret
      exact ⟨ret_int (by rw [HN.out]; omega), by rw [HP.out]; exact HR3.out, HU3.out⟩
    · rw [if_neg hx1] at HN
      obtain rfl : x = 0 := by omega
      go_wp2_with fail
      go_ret
      exact ⟨ret_int (by rw [HN.out]), by rw [HP.out]; exact HR3.out, HU3.out⟩
end Go.Proofs.Ytkfilgfcgmohlaa
namespace Go.Proofs.Ytkfilgfcgmohlaa
open Go.RowKit
/-- numbers as values -/
def ivs (l : List Int) : List Value := l.map (Value.int .i64)
theorem ivs_len (l : List Int) : (ivs l).length = l.length := by simp [ivs]
theorem ivs_append (l : List Int) (x : Int) : ivs (l ++ [x]) = ivs l ++ [.int .i64 x] := by simp [ivs]
theorem ivs_at (l : List Int) (i : Nat) (h : i < l.length) : (ivs l)[i]? = some (.int .i64 (l.getD i 0)) := by simp [ivs, List.getD_eq_getElem?_getD, h]
def sLen : Value → Nat
  | .slice _ n _ => n
  | _ => 0
theorem row_sLen {w : World} {B e size : Nat} {v : Value} {n : Nat} {xs : List Value} (h : w.ownsRow B e size v n xs) : sLen v = n := by
  rcases h.2 with ⟨rfl, rfl⟩ | ⟨g, cap, cur, rfl, _⟩ <;> rfl
theorem row_mono {w : World} {B B' e size : Nat} {v : Value} {n : Nat} {xs : List Value} (h : w.ownsRow B e size v n xs) (hb : B' ≤ B) : w.ownsRow B' e size v n xs := by
  refine ⟨h.1, ?_⟩
  rcases h.2 with hn | ⟨g, cap, cur, hv, hB, rest⟩
  · exact .inl hn
  · exact .inr ⟨g, cap, cur, hv, Nat.le_trans hb hB, rest⟩
theorem row_upd {w w' : World} {r B e size : Nat} {v : Value} {n : Nat} {xs : List Value} (h : w.ownsRow B e size v n xs) (hu : Upd r w w') (hr : r < B) : w'.ownsRow B e size v n xs :=
  row_same h (fun g hg => hu.block g (row_lt h g hg).2 (by have := (row_lt h g hg).1; omega))
/-- a run of symbols that have no state -/
def zrun (n : Nat) (f : Nat → Nat) (top : Nat) : Nat → List Int → Nat → Option (List Int × Nat)
  | 0, _, _ => none
  | k + 1, o, pos =>
    if top + 1 < (o ++ List.replicate (lowN n f pos 2) 0).length then none
    else if lowN n f pos 2 = 3 then zrun n f top k (o ++ List.replicate (lowN n f pos 2) 0) (pos + 2) else some (o ++ List.replicate (lowN n f pos 2) 0, pos + 2)
/-- how many states are left -/
def leftN (left v : Nat) : Nat := if v = 0 then left - 1 else left - (v - 1)
/-- how often each symbol stands -/
def hdr (n : Nat) (f : Nat → Nat) (top : Nat) : Nat → Nat → List Int → Nat → Option (List Int × Nat)
  | 0, _, _, _ => none
  | k + 1, left, o, pos =>
    if left = 0 then some (o, pos)
    else if valN n f pos (left + 1) = 1 then
      (zrun n f top (top + 3) (o ++ [(valN n f pos (left + 1) : Int) - 1]) (valP n f pos (left + 1))).bind fun x => hdr n f top k (leftN left (valN n f pos (left + 1))) x.1 x.2
    else if top + 1 < (o ++ [(valN n f pos (left + 1) : Int) - 1]).length then none
    else hdr n f top k (leftN left (valN n f pos (left + 1))) (o ++ [(valN n f pos (left + 1) : Int) - 1]) (valP n f pos (left + 1))
def absS : List Int → Nat
  | [] => 0
  | x :: l => x.natAbs + absS l
theorem absS_append (l m : List Int) : absS (l ++ m) = absS l + absS m := by
  induction l with
  | nil => simp [absS]
  | cons x l ih => simp only [List.cons_append, absS]; omega
theorem absS_zero (k : Nat) : absS (List.replicate k 0) = 0 := by
  induction k with
  | zero => rfl
  | succ k ih => rw [List.replicate_succ, absS, ih]; rfl
/-- a distribution in the making -/
structure Dist (top : Nat) (o : List Int) (sum : Nat) : Prop where
  len : o.length ≤ top + 1
  low : ∀ x ∈ o, -1 ≤ x
  sum : absS o = sum
theorem zrun_dist (n : Nat) (f : Nat → Nat) (top : Nat) : ∀ (k : Nat) (o : List Int) (pos : Nat) (x : List Int × Nat) (c : Nat), zrun n f top k o pos = some x → (∀ y ∈ o, -1 ≤ y) → absS o = c → Dist top x.1 c := by
  intro k
  induction k with
  | zero => intro o pos x c h; simp [zrun] at h
  | succ k ih =>
    intro o pos x c h h1 h2
    have h1' : ∀ y ∈ o ++ List.replicate (lowN n f pos 2) 0, -1 ≤ y := by
      intro y hy
      rcases List.mem_append.1 hy with h' | h'
      · exact h1 y h'
      · have := List.eq_of_mem_replicate h'; omega
    have h2' : absS (o ++ List.replicate (lowN n f pos 2) 0) = c := by rw [absS_append, absS_zero]; omega
    unfold zrun at h
    split at h
    · cases h
    · rename_i hlen
      split at h
      · exact ih _ _ _ _ h h1' h2'
      · simp at h
        subst h
        exact ⟨Nat.le_of_not_lt hlen, h1', h2'⟩
theorem hdr_dist (n : Nat) (f : Nat → Nat) (hf : ∀ i, f i < 2) (top : Nat) (c : Nat) : ∀ (k left : Nat) (o : List Int) (pos : Nat) (x : List Int × Nat), hdr n f top k left o pos = some x → o.length ≤ top + 1 → (∀ y ∈ o, -1 ≤ y) → absS o + left = c → Dist top x.1 c := by
  intro k
  induction k with
  | zero => intro left o pos x h; simp [hdr] at h
  | succ k ih =>
    intro left o pos x h h0 h1 h2
    unfold hdr at h
    split at h
    · simp at h; subst h; exact ⟨h0, h1, by simpa using (by omega : absS o = c)⟩
    · rename_i hl
      have hv := valN_le n f hf pos (left + 1) (by omega)
      have h1' : ∀ y ∈ o ++ [(valN n f pos (left + 1) : Int) - 1], -1 ≤ y := by
        intro y hy
        rcases List.mem_append.1 hy with h' | h'
        · exact h1 y h'
        · simp at h'; omega
      have h2' : absS (o ++ [(valN n f pos (left + 1) : Int) - 1]) + leftN left (valN n f pos (left + 1)) = c := by
        rw [absS_append]; unfold leftN; simp only [absS]
        split <;> omega
      split at h
      · cases e : zrun n f top (top + 3) (o ++ [(valN n f pos (left + 1) : Int) - 1]) (valP n f pos (left + 1)) with
        | none => rw [e] at h; cases h
        | some y =>
          rw [e] at h
          have hd := zrun_dist n f top _ _ _ y _ e h1' rfl
          exact ih _ _ _ _ h hd.len hd.low (by rw [hd.sum]; exact h2')
      · split at h
        · cases h
        · exact ih _ _ _ _ h (by omega) h1' h2'
/-- a table's header -/
def cut300 (s : ByteArray) : ByteArray := if 300 < s.size then s.extract 0 300 else s
def logR (s : ByteArray) : Nat := lowN (8 * (cut300 s).size) (fbit (cut300 s)) 0 4 + 5
def headR (s : ByteArray) (most top : Nat) : Option (List Int × Nat × Nat) :=
  if most < logR s then none
  else (hdr (8 * (cut300 s).size) (fbit (cut300 s)) top (top + 3) (2 ^ logR s) [] 4).bind fun x => if 8 * (cut300 s).size < x.2 then none else some (x.1, logR s, (x.2 + 7) / 8)
theorem cut300_le (s : ByteArray) : (cut300 s).size ≤ 300 ∧ (cut300 s).size ≤ s.size := by
  unfold cut300; split
  · rw [ByteArray.size_extract]; omega
  · omega
theorem headR_ok {s : ByteArray} {most top : Nat} {o : List Int} {log nb : Nat} (h : headR s most top = some (o, log, nb)) : 5 ≤ log ∧ log ≤ most ∧ nb ≤ s.size ∧ Dist top o (2 ^ log) := by
  unfold headR at h
  split at h
  · cases h
  · rename_i hm
    cases e : hdr (8 * (cut300 s).size) (fbit (cut300 s)) top (top + 3) (2 ^ logR s) [] 4 with
    | none => rw [e] at h; cases h
    | some x =>
      rw [e] at h
      simp only [Option.bind_some] at h
      split at h
      · cases h
      · simp at h
        obtain ⟨rfl, rfl, rfl⟩ := h
        have := cut300_le s
        exact ⟨by unfold logR; omega, by omega, by omega, hdr_dist _ _ (fbit_lt _) _ _ _ _ _ _ _ e (by simp) (by simp) (by simp [absS])⟩
/-- what Header answers -/
def HeadQ (s : ByteArray) (most top : Nat) (w : World) (e : Ending) (w' : World) : Prop :=
  Below w.heap.size w w' ∧ match headR s most top with
    | none => ∃ v a b, e = .returned (.tuple #[v, .int .i64 a, .int .i64 b, .bool false])
    | some (o, log, nb) => ∃ v, e = .returned (.tuple #[v, .int .i64 (log : Int), .int .i64 (nb : Int), .bool true]) ∧ w'.ownsRow w.heap.size 3 1 v o.length (ivs o)
theorem results_tmp4 {fn : Func} {t u v x : Tmp} (h : fn.results = #[.tmp t, .tmp u, .tmp v, .tmp x]) (tmps : Array Value) (P : Program) (w : World) :
    (results fn tmps).run P w = .ok (.tuple #[tmps.getD t undef, tmps.getD u undef, tmps.getD v undef, tmps.getD x undef]) w := by
  simp [results, h]
end Go.Proofs.Ytkfilgfcgmohlaa
