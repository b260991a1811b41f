import Derived.Test.YtkfilgfcgmohlaaJ03
import Derived.WalkKit
import Derived.WalkSpells
import Derived.WalkLawsBesides
import Derived.Deep.AppendLies
import Derived.Laws.OwnMore
import Derived.Deep.RegionLaw
namespace Go.Proofs.Ytkfilgfcgmohlaa
open Go.RowKit
/-- 'append(l, x)' of a row of one's own, run -/
theorem ap_run {W : World} {B T E size bytes : Nat} {z v : Value} {m : Nat} {xs : List Value} (ht : Try.prog.underlying T = some (.slice E)) (hi : (Try.prog.info? E).map (fun i => (i.zero, i.size, i.bytes)) = some (some z, size, bytes)) (hz : z.cells.size = size) (h0 : 0 < size)
    (h : W.ownsRow B E size v m xs) (hm : (m + 1) * bytes ≤ 140737488355328) (hm2 : m ≤ 17179869184) (hB : B ≤ W.heap.size) {gb : Nat} (news : List Value) (hl : news.length = 1 * size) (hn : ∀ j u, news[j]? = some u → W.cell? ((⟨gb, 0, none⟩ : Addr).add j) = some u) (h1 : ∀ u ∈ news, u.oneCell' = true) (ty : TypeId) :
    ∃ g1 cap1 w2, (Builtin.append_ #[T, T] ty #[v, .slice (some ⟨gb, 0, none⟩) 1 1]).run Try.prog W = .ok (.slice (some ⟨g1, 0, none⟩) (m + 1) cap1) w2 ∧
      w2.ownsRow B E size (.slice (some ⟨g1, 0, none⟩) (m + 1) cap1) (m + 1) (xs ++ news) ∧ Below B W w2 := by
  obtain ⟨i0, hi0, hz0, hz1, hz2⟩ := fInfo hi
  obtain ⟨g1, cap1, w2, hrun, hown, hgrow, hat, hlt⟩ := run_append_lies (P := Try.prog) W T ty B E i0 z size bytes ht hi0 hz0 hz1 hz2 hz h0 v m xs h ⟨gb, 0, none⟩ 1 1 news hl hn h1 (by decide) (by unfold maxLen; omega) hm hB _ rfl
  exact ⟨g1, cap1, w2, hrun, hown, hgrow.os, hgrow.tape, hgrow.output, hgrow.size, fun k hk => hgrow.block k (by omega) (fun e => by have := row_lt h k e.symm; omega)⟩
theorem one_new {W : World} {gb : Nat} {x : Value} (h : W.cell? ⟨gb, 0, none⟩ = some x) : ∀ j u, [x][j]? = some u → W.cell? ((⟨gb, 0, none⟩ : Addr).add j) = some u := by
  intro j u hj
  have : j = 0 := by
    rcases Nat.eq_zero_or_pos j with h0 | h0
    · exact h0
    · rw [List.getElem?_eq_none (by simp; omega)] at hj; cases hj
  subst this
  simp at hj
  subst hj
  exact h
/-- numbers: at a region that draws -/
theorem ia_step {wr W : World} {B : Nat} {v : Value} {m : Nat} {xs : List Value} {ops : Array Oper} {o : Oper} {a : Act} {K : Act → World → Prop} {Q : Exit → Act → World → Prop} {E : Prop} (hgd : o.guard = none) (s x : Operand)
    (ho : o.op = .call { callee := .builtin .append, args := #[s, x], argTypes := #[83, 83] }) (hs : a.eval s = v) {gb : Nat} (hx : a.eval x = .slice (some ⟨gb, 0, none⟩) 1 1)
    {y : Int} (hm : m ≤ 1099511627) (h : wr.ownsRow B 3 1 v m xs) (hB : B ≤ wr.heap.size) (hb : Below wr.heap.size wr W) (hn : W.cell? ⟨gb, 0, none⟩ = some (.int .i64 y))
    (hK : ∀ g1 cap1 w2, Hid (w2.ownsRow B 3 1 (.slice (some ⟨g1, 0, none⟩) (m + 1) cap1) (m + 1) (xs ++ [.int .i64 y]) ∧ Below B wr w2) → K (a.put o.dst (.slice (some ⟨g1, 0, none⟩) (m + 1) cap1)) w2) :
    if Region.wanted o (yielded ops a.tmps) = true then Oper.wp Try.prog o a W K Q else E := by
  have hw : Region.wanted o (yielded ops a.tmps) = true := by simp [Region.wanted, hgd]
  rw [if_pos hw]
  obtain ⟨g1, cap1, w2, hr, h2, h4⟩ := ap_run Try.underlying83 fInt rfl (by decide) (row_below h hb) (by omega) (by omega) (Nat.le_trans hB hb.size) [.int .i64 y] rfl (one_new hn) (by intro v hv; simp at hv; subst hv; rfl) o.type
  unfold Oper.wp execOp
  simp only [ho, resolve, invoke, builtin, Sem.run_bind, Sem.run_pure, Result.andThen_ok, List.map_toArray, List.map_cons, List.map_nil, hs, hx, hr]
  exact hK g1 cap1 w2 ⟨h2, (hb.mono hB).trans h4⟩
/-- numbers: at a plain region's list -/
theorem ia_list {wr W : World} {B : Nat} {v : Value} {m : Nat} {xs : List Value} {ops : Array Oper} {rest : List Oper} {o : Oper} {a : Act} {Q : Exit → Act → World → Prop} (hgd : o.guard = none) (s x : Operand)
    (ho : o.op = .call { callee := .builtin .append, args := #[s, x], argTypes := #[83, 83] }) (hs : a.eval s = v) {gb : Nat} (hx : a.eval x = .slice (some ⟨gb, 0, none⟩) 1 1)
    {y : Int} (hm : m ≤ 1099511627) (h : wr.ownsRow B 3 1 v m xs) (hB : B ≤ wr.heap.size) (hb : Below wr.heap.size wr W) (hn : W.cell? ⟨gb, 0, none⟩ = some (.int .i64 y))
    (hK : ∀ g1 cap1 w2, Hid (w2.ownsRow B 3 1 (.slice (some ⟨g1, 0, none⟩) (m + 1) cap1) (m + 1) (xs ++ [.int .i64 y]) ∧ Below B wr w2) → wpList Try.prog ops Q rest (a.put o.dst (.slice (some ⟨g1, 0, none⟩) (m + 1) cap1)) w2) :
    wpList Try.prog ops Q (o :: rest) a W := by
  refine wpList_plain hgd fun _ hKK => ?_
  obtain ⟨g1, cap1, w2, hr, h2, h4⟩ := ap_run Try.underlying83 fInt rfl (by decide) (row_below h hb) (by omega) (by omega) (Nat.le_trans hB hb.size) [.int .i64 y] rfl (one_new hn) (by intro v hv; simp at hv; subst hv; rfl) o.type
  unfold Oper.wp execOp
  simp only [ho, resolve, invoke, builtin, Sem.run_bind, Sem.run_pure, Result.andThen_ok, List.map_toArray, List.map_cons, List.map_nil, hs, hx, hr]
  exact hKK _ _ (hK g1 cap1 w2 ⟨h2, (hb.mono hB).trans h4⟩)
/-- how many bits a number has; at most n -/
def widF : Nat → Nat → Nat
  | 0, _ => 0
  | n + 1, v => if v = 0 then 0 else widF n (v / 2) + 1
theorem widF_any : ∀ (n m v : Nat), v ≤ n → v ≤ m → widF n v = widF m v := by
  intro n
  induction n with
  | zero =>
    intro m v h1 _
    cases m with
    | zero => rfl
    | succ m => rw [widF, widF, if_pos (by omega)]
  | succ n ih =>
    intro m v h1 h2
    cases m with
    | zero => rw [widF, widF, if_pos (by omega)]
    | succ m =>
      rw [widF, widF]
      by_cases h0 : v = 0
      · rw [if_pos h0, if_pos h0]
      · rw [if_neg h0, if_neg h0, ih m (v / 2) (by omega) (by omega)]
/-- how many bits a number has -/
def wid (v : Nat) : Nat := widF v v
theorem wid_zero : wid 0 = 0 := rfl
theorem wid_pos {v : Nat} (h : 0 < v) : wid v = wid (v / 2) + 1 := by
  unfold wid
  rw [widF_any v (v + 1) v (Nat.le_refl _) (by omega), widF, if_neg (by omega), widF_any v (v / 2) (v / 2) (by omega) (Nat.le_refl _)]
theorem wid_lt : ∀ (k v : Nat), v < 2 ^ k → wid v ≤ k
  | 0, v, h => by simp at h; subst h; simp [wid_zero]
  | k + 1, v, h => by
    rcases Nat.eq_zero_or_pos v with h0 | h0
    · subst h0; simp [wid_zero]
    · rw [wid_pos h0]
      have := wid_lt k (v / 2) (by rw [Nat.pow_succ] at h; omega)
      omega
theorem wid_up (v : Nat) : v < 2 ^ wid v := by
  induction v using Nat.strongRecOn with
  | ind v ih =>
    rcases Nat.eq_zero_or_pos v with h0 | h0
    · subst h0; simp [wid_zero]
    · have := ih (v / 2) (by omega)
      rw [wid_pos h0, Nat.pow_succ]; omega
theorem wid_low (v : Nat) (h : 0 < v) : 2 ^ (wid v - 1) ≤ v := by
  induction v using Nat.strongRecOn with
  | ind v ih =>
    rw [wid_pos h, Nat.add_sub_cancel]
    rcases Nat.eq_zero_or_pos (v / 2) with h0 | h0
    · rw [h0]; simp [wid_zero]; omega
    · have := ih (v / 2) (by omega) h0
      have e : wid (v / 2) = wid (v / 2) - 1 + 1 := by rw [wid_pos h0]; omega
      rw [e, Nat.pow_succ]; omega
set_option maxHeartbeats 1000000 in
theorem wide_any (v : Nat) (w : World) (hv : v ≤ 4611686018427387904) :
    Calls Try.prog 104 #[.int .i64 (v : Int)] w fun e w' => e = .returned (.int .i64 ((wid v : Nat) : Int)) ∧ w' = w := by
  have hb : Hid (wid v ≤ 63) := wid_lt 63 v (by omega)
  go_enter Try.func104, Try.ntmps104
  go_wp2
  go_loop [0, 3] (fun vv nv => ∃ x k : Nat, vv = .int .i64 x ∧ nv = .int .i64 k ∧ k + wid x = wid v ∧ x ≤ v) (fun vv _ => (intOf vv).toNat)
  case atStart => exact ⟨v, 0, rfl, rfl, by omega, Nat.le_refl _⟩
  case round =>
    obtain ⟨x, k, rfl, rfl, hk, hx⟩ := hrel
    have HK : Hid (k + wid x = wid v) := hk
    have hk63 : k ≤ 63 := by have := hb.out; omega
    clear hk
    by_cases h0 : 0 < x
    · go_wp2
      go_round
      case rel =>
        refine ⟨x / 2, k + 1, ?_, by go_num, ?_, by omega⟩
        · go_num
        · have := HK.out; have := wid_pos h0; omega
      case measure => simp [intOf]; omega
    · obtain rfl : x = 0 := by omega
      go_wp2
      go_ret
      have := HK.out
      simp [wid_zero] at this
      exact ⟨ret_int (by omega), rfl⟩
end Go.Proofs.Ytkfilgfcgmohlaa
namespace Go.Proofs.Ytkfilgfcgmohlaa
open Go.RowKit
/-- a number of 0 .. max: its value; where the reader stands behind it -/
def valN (n : Nat) (f : Nat → Nat) (pos max : Nat) : Nat :=
  let v := lowN n f pos (wid max - 1)
  let spare := 2 ^ wid max - 1 - max
  if v < spare then v else if rb n f (pos + (wid max - 1)) = 1 then v + 2 ^ (wid max - 1) - spare else v
def valP (n : Nat) (f : Nat → Nat) (pos max : Nat) : Nat :=
  if lowN n f pos (wid max - 1) < 2 ^ wid max - 1 - max then pos + (wid max - 1) else pos + (wid max - 1) + 1
theorem valN_le (n : Nat) (f : Nat → Nat) (hf : ∀ i, f i < 2) (pos max : Nat) (hm : 0 < max) : valN n f pos max ≤ max := by
  have h1 := lowN_lt n f hf pos (wid max - 1)
  have h2 := wid_low max hm
  have h3 := wid_up max
  have e : wid max = wid max - 1 + 1 := by rw [wid_pos hm]; omega
  have h4 : 2 ^ wid max = 2 ^ (wid max - 1) * 2 := by rw [e, Nat.pow_succ]; simp
  unfold valN
  simp only
  split
  · omega
  · split <;> omega
set_option maxRecDepth 100000 in
set_option maxHeartbeats 1000000 in
theorem value_any (r g n : Nat) (f : Nat → Nat) (pos : Nat) (max : Nat) (w : World) (h : RdAt w r g n f pos) (hm : 0 < max) (hm2 : max ≤ 4096) :
    Calls Try.prog 99 #[.pointer (some ⟨r, 0, none⟩), .int .i64 (max : Int)] w fun e w' => e = .returned (.int .i64 ((valN n f pos max : Nat) : Int)) ∧ RdAt w' r g n f (valP n f pos max) ∧ Upd r w w' := by
  have hf := h.two
  have HR : Hid (RdAt w r g n f pos) := h
  have h1 := lowN_lt n f hf pos (wid max - 1)
  have h2 := wid_low max hm
  have h3 := wid_up max
  have h5 := wid_lt 13 max (by omega)
  have e : wid max = wid max - 1 + 1 := by rw [wid_pos hm]; omega
  obtain ⟨j, hj⟩ : ∃ j, wid max = j + 1 := ⟨_, e⟩
  have HJ : Hid (wid max = j + 1) := hj
  rw [hj] at h1 h2 h3 h5
  rw [Nat.add_sub_cancel] at h1 h2
  obtain ⟨q, hq⟩ : ∃ q, q = 2 ^ j := ⟨_, rfl⟩
  have hp1 : (2 : Int) ^ (j + 1) = ((2 * q : Nat) : Int) := by rw [hq, Nat.mul_comm, ← Nat.pow_succ]; norm_cast
  have hp0 : (2 : Int) ^ j = (q : Int) := by rw [hq]; norm_cast
  have h3' : max < 2 * q := by rw [Nat.pow_succ] at h3; omega
  have h2' : q ≤ max := by omega
  obtain ⟨v, hv⟩ : ∃ v, v = lowN n f pos j := ⟨_, rfl⟩
  have h1' : v < q := by rw [hv, hq]; exact h1
  have hx2 := rb_lt n f hf (pos + j)
  obtain ⟨x, hx⟩ : ∃ x, x = rb n f (pos + j) := ⟨_, rfl⟩
  have HN : Hid (valN n f pos max = if v < 2 * q - 1 - max then v else if x = 1 then v + q - (2 * q - 1 - max) else v) := by
    show _ = _
    unfold valN; simp only
    rw [hj, Nat.add_sub_cancel, ← hv, ← hx, Nat.pow_succ, ← hq, Nat.mul_comm q 2]
  have HP : Hid (valP n f pos max = if v < 2 * q - 1 - max then pos + j else pos + j + 1) := by
    show _ = _
    unfold valP
    rw [hj, Nat.add_sub_cancel, ← hv, Nat.pow_succ, ← hq, Nat.mul_comm q 2]
  have HV : Hid (v = lowN n f pos j) := hv
  have HX : Hid (x = rb n f (pos + j)) := hx
  rw [← hx] at hx2
  clear h hj h1 h2 h3 hq hv hx hf e
  go_enter Try.func99, Try.ntmps99
  go_wp2_with fail
  refine (wide_any max _ (by omega)).mono ?_
  rintro e w1 ⟨rfl, hw1⟩
  rw [hw1, HJ.out]
  clear hw1
  go_wp2_with fail
  refine (rd_low r g n f pos j _ HR.out (by omega)).mono ?_
  rintro e w2 ⟨rfl, hR, hU⟩
  have HR2 : Hid (RdAt w2 r g n f (pos + j)) := hR
  have HU : Hid (Upd r w w2) := hU
  rw [← HV.out]
  clear hR hU
  by_cases hvs : v < 2 * q - 1 - max
  · rw [if_pos hvs] at HN HP
    go_wp2_with fail
    go_ret
    exact ⟨ret_int (by rw [HN.out]), by rw [HP.out]; exact HR2.out, HU.out⟩
  · rw [if_neg hvs] at HN HP
    go_wp2_with fail
    refine (rd_bit r g n f (pos + j) _ HR2.out).mono ?_
    rintro e w3 ⟨rfl, hR, hU⟩
    have HR3 : Hid (RdAt w3 r g n f (pos + j + 1)) := hR
    have HU3 : Hid (Upd r w w3) := HU.out.trans hU
    rw [← HX.out]
    clear hR hU
    by_cases hx1 : x = 1
    · rw [if_pos hx1] at HN
      subst hx1
      go_wp2_with fail
      go_ret
      exact ⟨ret_int (by rw [HN.out]; omega), by rw [HP.out]; exact HR3.out, HU3.out⟩
    · rw [if_neg hx1] at HN
      obtain rfl : x = 0 := by omega
      go_wp2_with fail
      go_ret
      exact ⟨ret_int (by rw [HN.out]), by rw [HP.out]; exact HR3.out, HU3.out⟩
end Go.Proofs.Ytkfilgfcgmohlaa
namespace Go.Proofs.Ytkfilgfcgmohlaa
open Go.RowKit
/-- numbers as values -/
def ivs (l : List Int) : List Value := l.map (Value.int .i64)
theorem ivs_len (l : List Int) : (ivs l).length = l.length := by simp [ivs]
theorem ivs_append (l : List Int) (x : Int) : ivs (l ++ [x]) = ivs l ++ [.int .i64 x] := by simp [ivs]
theorem ivs_at (l : List Int) (i : Nat) (h : i < l.length) : (ivs l)[i]? = some (.int .i64 (l.getD i 0)) := by simp [ivs, List.getD_eq_getElem?_getD, h]
def sLen : Value → Nat
  | .slice _ n _ => n
  | _ => 0
theorem row_sLen {w : World} {B e size : Nat} {v : Value} {n : Nat} {xs : List Value} (h : w.ownsRow B e size v n xs) : sLen v = n := by
  rcases h.2 with ⟨rfl, rfl⟩ | ⟨g, cap, cur, rfl, _⟩ <;> rfl
theorem row_mono {w : World} {B B' e size : Nat} {v : Value} {n : Nat} {xs : List Value} (h : w.ownsRow B e size v n xs) (hb : B' ≤ B) : w.ownsRow B' e size v n xs := by
  refine ⟨h.1, ?_⟩
  rcases h.2 with hn | ⟨g, cap, cur, hv, hB, rest⟩
  · exact .inl hn
  · exact .inr ⟨g, cap, cur, hv, Nat.le_trans hb hB, rest⟩
theorem row_upd {w w' : World} {r B e size : Nat} {v : Value} {n : Nat} {xs : List Value} (h : w.ownsRow B e size v n xs) (hu : Upd r w w') (hr : r < B) : w'.ownsRow B e size v n xs :=
  row_same h (fun g hg => hu.block g (row_lt h g hg).2 (by have := (row_lt h g hg).1; omega))
/-- a run of symbols that have no state -/
def zrun (n : Nat) (f : Nat → Nat) (top : Nat) : Nat → List Int → Nat → Option (List Int × Nat)
  | 0, _, _ => none
  | k + 1, o, pos =>
    if top + 1 < (o ++ List.replicate (lowN n f pos 2) 0).length then none
    else if lowN n f pos 2 = 3 then zrun n f top k (o ++ List.replicate (lowN n f pos 2) 0) (pos + 2) else some (o ++ List.replicate (lowN n f pos 2) 0, pos + 2)
/-- how many states are left -/
def leftN (left v : Nat) : Nat := if v = 0 then left - 1 else left - (v - 1)
/-- how often each symbol stands -/
def hdr (n : Nat) (f : Nat → Nat) (top : Nat) : Nat → Nat → List Int → Nat → Option (List Int × Nat)
  | 0, _, _, _ => none
  | k + 1, left, o, pos =>
    if left = 0 then some (o, pos)
    else if valN n f pos (left + 1) = 1 then
      (zrun n f top (top + 3) (o ++ [(valN n f pos (left + 1) : Int) - 1]) (valP n f pos (left + 1))).bind fun x => hdr n f top k (leftN left (valN n f pos (left + 1))) x.1 x.2
    else if top + 1 < (o ++ [(valN n f pos (left + 1) : Int) - 1]).length then none
    else hdr n f top k (leftN left (valN n f pos (left + 1))) (o ++ [(valN n f pos (left + 1) : Int) - 1]) (valP n f pos (left + 1))
def absS : List Int → Nat
  | [] => 0
  | x :: l => x.natAbs + absS l
theorem absS_append (l m : List Int) : absS (l ++ m) = absS l + absS m := by
  induction l with
  | nil => simp [absS]
  | cons x l ih => simp only [List.cons_append, absS]; omega
theorem absS_zero (k : Nat) : absS (List.replicate k 0) = 0 := by
  induction k with
  | zero => rfl
  | succ k ih => rw [List.replicate_succ, absS, ih]; rfl
/-- a distribution in the making -/
structure Dist (top : Nat) (o : List Int) (sum : Nat) : Prop where
  len : o.length ≤ top + 1
  low : ∀ x ∈ o, -1 ≤ x
  sum : absS o = sum
theorem zrun_dist (n : Nat) (f : Nat → Nat) (top : Nat) : ∀ (k : Nat) (o : List Int) (pos : Nat) (x : List Int × Nat) (c : Nat), zrun n f top k o pos = some x → (∀ y ∈ o, -1 ≤ y) → absS o = c → Dist top x.1 c := by
  intro k
  induction k with
  | zero => intro o pos x c h; simp [zrun] at h
  | succ k ih =>
    intro o pos x c h h1 h2
    have h1' : ∀ y ∈ o ++ List.replicate (lowN n f pos 2) 0, -1 ≤ y := by
      intro y hy
      rcases List.mem_append.1 hy with h' | h'
      · exact h1 y h'
      · have := List.eq_of_mem_replicate h'; omega
    have h2' : absS (o ++ List.replicate (lowN n f pos 2) 0) = c := by rw [absS_append, absS_zero]; omega
    unfold zrun at h
    split at h
    · cases h
    · rename_i hlen
      split at h
      · exact ih _ _ _ _ h h1' h2'
      · simp at h
        subst h
        exact ⟨Nat.le_of_not_lt hlen, h1', h2'⟩
theorem hdr_dist (n : Nat) (f : Nat → Nat) (hf : ∀ i, f i < 2) (top : Nat) (c : Nat) : ∀ (k left : Nat) (o : List Int) (pos : Nat) (x : List Int × Nat), hdr n f top k left o pos = some x → o.length ≤ top + 1 → (∀ y ∈ o, -1 ≤ y) → absS o + left = c → Dist top x.1 c := by
  intro k
  induction k with
  | zero => intro left o pos x h; simp [hdr] at h
  | succ k ih =>
    intro left o pos x h h0 h1 h2
    unfold hdr at h
    split at h
    · simp at h; subst h; exact ⟨h0, h1, by simpa using (by omega : absS o = c)⟩
    · rename_i hl
      have hv := valN_le n f hf pos (left + 1) (by omega)
      have h1' : ∀ y ∈ o ++ [(valN n f pos (left + 1) : Int) - 1], -1 ≤ y := by
        intro y hy
        rcases List.mem_append.1 hy with h' | h'
        · exact h1 y h'
        · simp at h'; omega
      have h2' : absS (o ++ [(valN n f pos (left + 1) : Int) - 1]) + leftN left (valN n f pos (left + 1)) = c := by
        rw [absS_append]; unfold leftN; simp only [absS]
        split <;> omega
      split at h
      · cases e : zrun n f top (top + 3) (o ++ [(valN n f pos (left + 1) : Int) - 1]) (valP n f pos (left + 1)) with
        | none => rw [e] at h; cases h
        | some y =>
          rw [e] at h
          have hd := zrun_dist n f top _ _ _ y _ e h1' rfl
          exact ih _ _ _ _ h hd.len hd.low (by rw [hd.sum]; exact h2')
      · split at h
        · cases h
        · exact ih _ _ _ _ h (by omega) h1' h2'
/-- a table's header -/
def cut300 (s : ByteArray) : ByteArray := if 300 < s.size then s.extract 0 300 else s
def logR (s : ByteArray) : Nat := lowN (8 * (cut300 s).size) (fbit (cut300 s)) 0 4 + 5
def headR (s : ByteArray) (most top : Nat) : Option (List Int × Nat × Nat) :=
  if most < logR s then none
  else (hdr (8 * (cut300 s).size) (fbit (cut300 s)) top (top + 3) (2 ^ logR s) [] 4).bind fun x => if 8 * (cut300 s).size < x.2 then none else some (x.1, logR s, (x.2 + 7) / 8)
theorem cut300_le (s : ByteArray) : (cut300 s).size ≤ 300 ∧ (cut300 s).size ≤ s.size := by
  unfold cut300; split
  · rw [ByteArray.size_extract]; omega
  · omega
theorem headR_ok {s : ByteArray} {most top : Nat} {o : List Int} {log nb : Nat} (h : headR s most top = some (o, log, nb)) : 5 ≤ log ∧ log ≤ most ∧ nb ≤ s.size ∧ Dist top o (2 ^ log) := by
  unfold headR at h
  split at h
  · cases h
  · rename_i hm
    cases e : hdr (8 * (cut300 s).size) (fbit (cut300 s)) top (top + 3) (2 ^ logR s) [] 4 with
    | none => rw [e] at h; cases h
    | some x =>
      rw [e] at h
      simp only [Option.bind_some] at h
      split at h
      · cases h
      · simp at h
        obtain ⟨rfl, rfl, rfl⟩ := h
        have := cut300_le s
        exact ⟨by unfold logR; omega, by omega, by omega, hdr_dist _ _ (fbit_lt _) _ _ _ _ _ _ _ e (by simp) (by simp) (by simp [absS])⟩
/-- what Header answers -/
def HeadQ (s : ByteArray) (most top : Nat) (w : World) (e : Ending) (w' : World) : Prop :=
  Below w.heap.size w w' ∧ match headR s most top with
    | none => ∃ v a b, e = .returned (.tuple #[v, .int .i64 a, .int .i64 b, .bool false])
    | some (o, log, nb) => ∃ v, e = .returned (.tuple #[v, .int .i64 (log : Int), .int .i64 (nb : Int), .bool true]) ∧ w'.ownsRow w.heap.size 3 1 v o.length (ivs o)
theorem results_tmp4 {fn : Func} {t u v x : Tmp} (h : fn.results = #[.tmp t, .tmp u, .tmp v, .tmp x]) (tmps : Array Value) (P : Program) (w : World) :
    (results fn tmps).run P w = .ok (.tuple #[tmps.getD t undef, tmps.getD u undef, tmps.getD v undef, tmps.getD x undef]) w := by
  simp [results, h]
end Go.Proofs.Ytkfilgfcgmohlaa
