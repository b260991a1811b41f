import Derived.Test.YtkfilgfcgmohlaaJ02
import Derived.Test.YtkfilgfcgmohlaaJ04
namespace Go.Proofs.Ytkfilgfcgmohlaa
/-- the step of a table of so many states, and what undoes it -/
def stp (size : Nat) : Nat := size / 2 + size / 8 + 3
def und (size : Nat) : Nat := if size = 32 then 7 else if size = 64 then 3 else if size = 128 then 91 else if size = 256 then 11 else 363
def visit (size j : Nat) : Nat := j * stp size % size
def back (size x : Nat) : Nat := x * und size % size
/-- a size that a table has -/
def isSize (size : Nat) : Prop := size = 32 ∨ size = 64 ∨ size = 128 ∨ size = 256 ∨ size = 512
theorem isSize.pos {size : Nat} (h : isSize size) : 0 < size := by unfold isSize at h; omega
theorem isSize.le {size : Nat} (h : isSize size) : size ≤ 512 := by unfold isSize at h; omega
theorem isSize.ge {size : Nat} (h : isSize size) : 32 ≤ size := by unfold isSize at h; omega
theorem isSize.one {size : Nat} (h : isSize size) : stp size * und size % size = 1 := by
  rcases h with rfl | rfl | rfl | rfl | rfl <;> rfl
theorem mul_mod_one {a m x : Nat} (h : a % m = 1) : x * a % m = x % m := by
  rw [Nat.mul_mod, h, Nat.mul_one, Nat.mod_mod]
theorem back_visit {size : Nat} (h : isSize size) (j : Nat) : back size (visit size j) = j % size := by
  unfold back visit
  rw [Nat.mul_mod, Nat.mod_mod, ← Nat.mul_mod, Nat.mul_assoc, mul_mod_one h.one]
theorem visit_back {size : Nat} (h : isSize size) (x : Nat) (hx : x < size) : visit size (back size x) = x := by
  unfold back visit
  rw [Nat.mul_mod, Nat.mod_mod, ← Nat.mul_mod, Nat.mul_assoc, Nat.mul_comm (und size), mul_mod_one h.one, Nat.mod_eq_of_lt hx]
theorem visit_succ (size j : Nat) : (visit size j + size / 2 + size / 8 + 3) % size = visit size (j + 1) := by
  unfold visit
  rw [show j * stp size % size + size / 2 + size / 8 + 3 = j * stp size % size + stp size by unfold stp; omega, Nat.mod_add_mod, Nat.add_mul, Nat.one_mul]
theorem visit_lt {size : Nat} (h : isSize size) (j : Nat) : visit size j < size := Nat.mod_lt _ h.pos
/-- how many below n are so -/
def cntP (p : Nat → Bool) : Nat → Nat
  | 0 => 0
  | n + 1 => cntP p n + if p n then 1 else 0
theorem cntP_le (p : Nat → Bool) : ∀ n, cntP p n ≤ n
  | 0 => Nat.le_refl _
  | n + 1 => by simp only [cntP]; have := cntP_le p n; split <;> omega
theorem cntP_mono (p : Nat → Bool) {n m : Nat} (h : n ≤ m) : cntP p n ≤ cntP p m := by
  induction m with
  | zero => obtain rfl : n = 0 := by omega
            exact Nat.le_refl _
  | succ m ih =>
    rcases Nat.lt_or_ge m n with h' | h'
    · obtain rfl : n = m + 1 := by omega
      exact Nat.le_refl _
    · exact Nat.le_trans (ih h') (by simp only [cntP]; omega)
theorem cntP_none (p : Nat → Bool) {n m : Nat} (h : n ≤ m) (hn : ∀ j, n ≤ j → j < m → p j = false) : cntP p m = cntP p n := by
  induction m with
  | zero => obtain rfl : n = 0 := by omega
            rfl
  | succ m ih =>
    rcases Nat.lt_or_ge m n with h' | h'
    · obtain rfl : n = m + 1 := by omega
      rfl
    · simp only [cntP]
      rw [ih h' (fun j h1 h2 => hn j h1 (by omega)), hn m h' (by omega)]; simp
theorem cntP_strict (p : Nat → Bool) {n m : Nat} (h : n < m) (hp : p n = true) : cntP p n < cntP p m := by
  have := cntP_mono p (show n + 1 ≤ m by omega)
  simp only [cntP, hp, if_true] at this
  omega
theorem cntP_one (k : Nat) : ∀ n, cntP (fun j => j == k) n = if k < n then 1 else 0
  | 0 => rfl
  | n + 1 => by
    simp only [cntP]; rw [cntP_one k n]
    by_cases h1 : n = k
    · subst h1; simp
    · simp only [beq_iff_eq, h1, if_false]
      by_cases h2 : k < n
      · rw [if_pos h2, if_pos (by omega)]
      · rw [if_neg h2, if_neg (by omega)]
theorem cntP_congr (p q : Nat → Bool) : ∀ n, (∀ j, j < n → p j = q j) → cntP p n = cntP q n
  | 0, _ => rfl
  | n + 1, h => by simp only [cntP]; rw [cntP_congr p q n (fun j hj => h j (by omega)), h n (by omega)]
theorem cntP_split (p q r : Nat → Bool) : ∀ n, (∀ j, j < n → (if p j then 1 else 0) = (if q j then 1 else 0) + (if r j then 1 else 0)) → cntP p n = cntP q n + cntP r n
  | 0, _ => rfl
  | n + 1, h => by
    simp only [cntP]; rw [cntP_split p q r n (fun j hj => h j (by omega)), h n (by omega)]; omega
/-- how many of the first j visits are below 'free' -/
def cntV (size free j : Nat) : Nat := cntP (fun j => decide (visit size j < free)) j
theorem cntV_all {size : Nat} (h : isSize size) : ∀ free, free ≤ size → cntV size free size = free
  | 0, _ => by
    unfold cntV
    rw [cntP_none _ (Nat.zero_le _) (fun j _ _ => by simp)]; rfl
  | free + 1, hf => by
    have ih := cntV_all h free (by omega)
    unfold cntV at ih ⊢
    rw [cntP_split _ (fun j => decide (visit size j < free)) (fun j => j == back size free) size, ih, cntP_one, if_pos (show back size free < size from Nat.mod_lt _ h.pos)]
    intro j hj
    by_cases e : j = back size free
    · have hv : visit size j = free := by rw [e]; exact visit_back h free (by omega)
      simp [e]
      rw [← e, hv]; simp
    · have hv : visit size j ≠ free := fun e' => e (by rw [← e', back_visit h, Nat.mod_eq_of_lt hj])
      simp [e]
      by_cases h2 : visit size j < free
      · rw [if_pos h2, if_pos (by omega)]
      · rw [if_neg h2, if_neg (by omega)]
/-- a visit of a place below 'free' is its place's own -/
theorem cntV_lt {size : Nat} (h : isSize size) (free : Nat) (hf : free ≤ size) (x : Nat) (hx : x < free) : cntV size free (back size x) < free := by
  have h1 := cntP_strict (fun j => decide (visit size j < free)) (n := back size x) (m := size) (Nat.mod_lt _ h.pos) (by simp; rw [visit_back h x (by omega)]; exact hx)
  have h2 := cntV_all h free hf
  unfold cntV at h2 ⊢
  omega
/-- behind as many visits below 'free' as there are places, all are done -/
theorem cntV_done {size : Nat} (h : isSize size) (free j : Nat) (hf : free ≤ size) (hj : cntV size free j = free) (x : Nat) (hx : x < free) : back size x < j := by
  rcases Nat.lt_or_ge (back size x) j with h' | h'
  · exact h'
  · have h1 := cntV_lt h free hf x hx
    have h2 := cntP_mono (fun j => decide (visit size j < free)) h'
    unfold cntV at h1 hj
    omega
/-- while places are left the visits are of the first lap -/
theorem cntV_first {size : Nat} (h : isSize size) (free j : Nat) (hf : free ≤ size) (hj : cntV size free j < free) : j < size := by
  rcases Nat.lt_or_ge j size with h' | h'
  · exact h'
  · have h1 := cntV_all h free hf
    have h2 := cntP_mono (fun j => decide (visit size j < free)) h'
    unfold cntV at h1 hj
    omega
/-- how many steps it is to place 0 -/
def toZero (size x : Nat) : Nat := (size - back size x) % size
theorem toZero_step {size : Nat} (h : isSize size) (x : Nat) (hx : x < size) (h0 : 0 < x) : toZero size ((x + size / 2 + size / 8 + 3) % size) < toZero size x := by
  have e : (x + size / 2 + size / 8 + 3) % size = visit size (back size x + 1) := by rw [← visit_succ, visit_back h x hx]
  have hb : 0 < back size x := by
    rcases Nat.eq_zero_or_pos (back size x) with h' | h'
    · have := visit_back h x hx
      rw [h'] at this; simp [visit] at this; omega
    · exact h'
  have hbl : back size x < size := Nat.mod_lt _ h.pos
  unfold toZero
  rw [e, back_visit h]
  rcases Nat.lt_or_ge (back size x + 1) size with h' | h'
  · rw [Nat.mod_eq_of_lt h', Nat.mod_eq_of_lt (show size - (back size x + 1) < size by omega), Nat.mod_eq_of_lt (show size - back size x < size by omega)]; omega
  · rw [show back size x + 1 = size by omega, Nat.mod_self, Nat.sub_zero, Nat.mod_self, Nat.mod_eq_of_lt (show size - back size x < size by omega)]; omega
end Go.Proofs.Ytkfilgfcgmohlaa
namespace Go.Proofs.Ytkfilgfcgmohlaa
def updN (F : Nat → Nat) (k v : Nat) : Nat → Nat := fun i => if i = k then v else F i
theorem updN_same (F : Nat → Nat) (k v : Nat) : updN F k v k = v := by simp [updN]
theorem updN_other (F : Nat → Nat) (k v i : Nat) (h : i ≠ k) : updN F k v i = F i := by simp [updN, h]
def oAt (o : List Int) (s : Nat) : Int := o.getD s 0
/-- the rare symbols have the last states -/
def ph1 (o : List Int) (size : Nat) : Nat → Nat × (Nat → Nat)
  | 0 => (size, fun _ => 0)
  | s + 1 => if oAt o s = -1 then ((ph1 o size s).1 - 1, updN (ph1 o size s).2 ((ph1 o size s).1 - 1) s) else ph1 o size s
def freeT (o : List Int) (size : Nat) : Nat := (ph1 o size o.length).1
/-- on to a state that is free -/
def skipT (size free : Nat) : Nat → Nat → Nat
  | 0, x => x
  | k + 1, x => if free ≤ x ∧ 0 < free then skipT size free k ((x + size / 2 + size / 8 + 3) % size) else x
def nextT (size free x : Nat) : Nat := skipT size free size ((x + size / 2 + size / 8 + 3) % size)
/-- a symbol is laid k times -/
def plcT (size free s : Nat) : Nat → Nat × (Nat → Nat) → Nat × (Nat → Nat)
  | 0, x => x
  | k + 1, x => plcT size free s k (nextT size free x.1, updN x.2 x.1 s)
theorem plcT_succ (size free s : Nat) : ∀ k x, plcT size free s (k + 1) x = (nextT size free (plcT size free s k x).1, updN (plcT size free s k x).2 (plcT size free s k x).1 s)
  | 0, x => rfl
  | k + 1, x => by rw [plcT, plcT_succ size free s k]; rfl
/-- all symbols are laid -/
def ph2 (o : List Int) (size : Nat) : Nat → Nat × (Nat → Nat)
  | 0 => (0, (ph1 o size o.length).2)
  | s + 1 => plcT size (freeT o size) s (oAt o s).toNat (ph2 o size s)
def symT (o : List Int) (size : Nat) : Nat → Nat := (ph2 o size o.length).2
/-- the number of a state; how many bits lead on; whereto -/
def numT (o : List Int) (size x : Nat) : Nat := (if oAt o (symT o size x) < 0 then 1 else (oAt o (symT o size x)).toNat) + cntP (fun y => symT o size y == symT o size x) x
def bitT (o : List Int) (log x : Nat) : Nat := log + 1 - wid (numT o (2 ^ log) x)
def lowT (o : List Int) (log x : Nat) : Nat := numT o (2 ^ log) x * 2 ^ bitT o log x - 2 ^ log
/-- how often the first s symbols stand that are not rare -/
def posS (o : List Int) : Nat → Nat
  | 0 => 0
  | s + 1 => posS o s + (oAt o s).toNat
def rareS (o : List Int) : Nat → Nat
  | 0 => 0
  | s + 1 => rareS o s + if oAt o s = -1 then 1 else 0
theorem absS_take (o : List Int) (h : ∀ x ∈ o, -1 ≤ x) : ∀ s, s ≤ o.length → posS o s + rareS o s = absS (o.take s)
  | 0, _ => by simp [posS, rareS, absS]
  | s + 1, hs => by
    have ih := absS_take o h s (by omega)
    have hx : o[s]? = some o[s] := List.getElem?_eq_getElem (by omega)
    have e : oAt o s = o[s] := by unfold oAt; rw [List.getD_eq_getElem?_getD, hx]; rfl
    have hl := h o[s] (List.getElem_mem _)
    rw [List.take_add_one, hx, absS_append]
    simp only [posS, rareS, Option.toList_some, absS]
    rw [e]
    by_cases h1 : o[s] = -1
    · rw [if_pos h1, h1]; simp; omega
    · rw [if_neg h1]
      have : (o[s]).toNat = (o[s]).natAbs := by omega
      omega
theorem parts (o : List Int) {top size : Nat} (h : Dist top o size) : posS o o.length + rareS o o.length = size := by
  rw [absS_take o h.low o.length (Nat.le_refl _), List.take_length, h.sum]
theorem posS_mono (o : List Int) {a b : Nat} (h : a ≤ b) : posS o a ≤ posS o b := by
  induction b with
  | zero => obtain rfl : a = 0 := by omega
            exact Nat.le_refl _
  | succ b ih =>
    rcases Nat.lt_or_ge b a with h' | h'
    · obtain rfl : a = b + 1 := by omega
      exact Nat.le_refl _
    · exact Nat.le_trans (ih h') (by simp only [posS]; omega)
theorem rareS_mono (o : List Int) {a b : Nat} (h : a ≤ b) : rareS o a ≤ rareS o b := by
  induction b with
  | zero => obtain rfl : a = 0 := by omega
            exact Nat.le_refl _
  | succ b ih =>
    rcases Nat.lt_or_ge b a with h' | h'
    · obtain rfl : a = b + 1 := by omega
      exact Nat.le_refl _
    · exact Nat.le_trans (ih h') (by simp only [rareS]; omega)
theorem ph1_free (o : List Int) {size : Nat} : ∀ s, rareS o s ≤ size → (ph1 o size s).1 + rareS o s = size
  | 0, _ => by simp [ph1, rareS]
  | s + 1, h => by
    have h' : rareS o s ≤ size := Nat.le_trans (rareS_mono o (Nat.le_succ s)) h
    have ih := ph1_free o s h'
    simp only [rareS] at h ⊢
    rw [ph1]
    by_cases h1 : oAt o s = -1
    · rw [if_pos h1] at h ⊢; rw [if_pos h1]; simp only; omega
    · rw [if_neg h1]; rw [if_neg h1]; omega
theorem ph1_sym (o : List Int) {size : Nat} : ∀ s, rareS o s ≤ size → ∀ x, (ph1 o size s).1 ≤ x → x < size → (ph1 o size s).2 x < s ∧ oAt o ((ph1 o size s).2 x) = -1
  | 0, _, x, h1, h2 => by simp [ph1] at h1; omega
  | s + 1, h, x, h1, h2 => by
    have h' : rareS o s ≤ size := Nat.le_trans (rareS_mono o (Nat.le_succ s)) h
    have ih := ph1_sym o s h' x
    have hf := ph1_free o s h'
    simp only [rareS] at h
    rw [ph1] at h1 ⊢
    by_cases hr : oAt o s = -1
    · rw [if_pos hr] at h1 ⊢
      rw [if_pos hr] at h
      simp only at h1 ⊢
      by_cases e : x = (ph1 o size s).1 - 1
      · rw [e, updN_same]; exact ⟨by omega, hr⟩
      · rw [updN_other _ _ _ _ e]
        have := ih (by omega) h2
        exact ⟨by omega, this.2⟩
    · rw [if_neg hr] at h1 ⊢
      have := ih h1 h2
      exact ⟨by omega, this.2⟩
/-- i states are laid, in their order -/
structure Cov (o : List Int) (size free : Nat) (st : Nat × (Nat → Nat)) (i : Nat) : Prop where
  ex : ∃ j, st.1 = visit size j ∧ cntV size free j = i ∧ ∀ x, x < free → back size x < j → st.2 x < o.length ∧ 0 < oAt o (st.2 x)
  tgt : 0 < free → st.1 < free
  rare : ∀ x, free ≤ x → x < size → st.2 x < o.length ∧ oAt o (st.2 x) = -1
theorem skip_far {size : Nat} (h : isSize size) (free : Nat) : ∀ k j, toZero size (visit size j) ≤ k → ∃ j', skipT size free k (visit size j) = visit size j' ∧ j ≤ j' ∧ (0 < free → visit size j' < free) ∧ (∀ q, j ≤ q → q < j' → ¬ visit size q < free)
  | 0, j, hz => by
    refine ⟨j, rfl, Nat.le_refl _, fun hf => ?_, fun q h1 h2 => by omega⟩
    have hb : back size (visit size j) = 0 := by
      unfold toZero at hz
      have hl : back size (visit size j) < size := Nat.mod_lt _ h.pos
      rcases Nat.eq_zero_or_pos (back size (visit size j)) with h' | h'
      · exact h'
      · rw [Nat.mod_eq_of_lt (by omega)] at hz; omega
    have := visit_back h (visit size j) (visit_lt h j)
    rw [hb] at this
    simp [visit] at this ⊢
    omega
  | k + 1, j, hz => by
    rw [skipT]
    by_cases hc : free ≤ visit size j ∧ 0 < free
    · rw [if_pos hc, visit_succ]
      have hs := toZero_step h (visit size j) (visit_lt h j) (by omega)
      rw [visit_succ] at hs
      obtain ⟨j', h1, h2, h3, h4⟩ := skip_far h free k (j + 1) (by omega)
      refine ⟨j', h1, by omega, h3, fun q hq hq' => ?_⟩
      rcases Nat.eq_or_lt_of_le hq with e | e
      · subst e; omega
      · exact h4 q e hq'
    · rw [if_neg hc]
      exact ⟨j, rfl, Nat.le_refl _, fun hf => by omega, fun q h1 h2 => by omega⟩
theorem toZero_lt {size : Nat} (h : isSize size) (x : Nat) : toZero size x < size := Nat.mod_lt _ h.pos
theorem Cov.step {o : List Int} {size free i s : Nat} {st : Nat × (Nat → Nat)} (hsz : isSize size) (hf : free ≤ size) (h : Cov o size free st i) (hi : i < free) (hs : s < o.length) (ho : 0 < oAt o s) :
    Cov o size free (nextT size free st.1, updN st.2 st.1 s) (i + 1) := by
  obtain ⟨j, hj, hc, hcov⟩ := h.ex
  have hat := h.tgt (by omega)
  have hjs : j < size := cntV_first hsz free j hf (by omega)
  obtain ⟨j', h1, h2, h3, h4⟩ := skip_far hsz free size (j + 1) (Nat.le_of_lt (toZero_lt hsz _))
  have hn : nextT size free st.1 = visit size j' := by unfold nextT; rw [hj, visit_succ]; exact h1
  have hbj : back size st.1 = j := by rw [hj, back_visit hsz, Nat.mod_eq_of_lt hjs]
  refine ⟨⟨j', hn, ?_, fun x hx hb => ?_⟩, fun hp => by show nextT size free st.1 < free; rw [hn]; exact h3 hp, fun x h5 h6 => ?_⟩
  · have e1 : cntV size free (j + 1) = i + 1 := by
      unfold cntV at hc ⊢
      rw [cntP, hc, if_pos (by simp; rw [← hj]; exact hat)]
    rw [← e1]
    unfold cntV
    exact cntP_none _ h2 (fun q hq hq' => by simp; have := h4 q hq hq'; omega)
  · by_cases e : x = st.1
    · show updN st.2 st.1 s x < _ ∧ 0 < oAt o (updN st.2 st.1 s x)
      rw [e, updN_same]; exact ⟨hs, ho⟩
    · show updN st.2 st.1 s x < _ ∧ 0 < oAt o (updN st.2 st.1 s x)
      rw [updN_other _ _ _ _ e]
      have hxs : x < size := by omega
      have hvb := visit_back hsz x hxs
      rcases Nat.lt_trichotomy (back size x) j with hlt | heq | hgt
      · exact hcov x hx hlt
      · exact absurd (by rw [← hvb, heq, hj]) e
      · exact absurd (show visit size (back size x) < free by rw [hvb]; exact hx) (h4 _ hgt hb)
  · show updN st.2 st.1 s x < _ ∧ oAt o (updN st.2 st.1 s x) = -1
    rw [updN_other _ _ _ _ (by omega)]; exact h.rare x h5 h6
theorem Cov.many {o : List Int} {size free s : Nat} (hsz : isSize size) (hf : free ≤ size) (hs : s < o.length) (ho : 0 < oAt o s) : ∀ k i st, Cov o size free st i → i + k ≤ free → Cov o size free (plcT size free s k st) (i + k)
  | 0, _, _, h, _ => h
  | k + 1, i, st, h, hk => by
    rw [plcT]
    have := Cov.many hsz hf hs ho k (i + 1) _ (h.step hsz hf (by omega) hs ho) (by omega)
    rw [show i + (k + 1) = i + 1 + k by omega]; exact this
theorem free_pos (o : List Int) {top size : Nat} (h : Dist top o size) : freeT o size = posS o o.length := by
  have h1 := parts o h
  have h2 := ph1_free o (size := size) o.length (by omega)
  unfold freeT; omega
theorem ph2_cov (o : List Int) {top size : Nat} (hsz : isSize size) (h : Dist top o size) : ∀ s, s ≤ o.length → Cov o size (freeT o size) (ph2 o size s) (posS o s)
  | 0, _ => by
    have h1 := parts o h
    refine ⟨⟨0, by simp [ph2, visit], rfl, fun x _ hb => by omega⟩, fun hp => hp, fun x h5 h6 => ?_⟩
    exact ph1_sym o o.length (by omega) x h5 h6
  | s + 1, hs => by
    have ih := ph2_cov o hsz h s (by omega)
    have hf := free_pos o h
    have hp := parts o h
    have hm := posS_mono o hs
    simp only [posS] at hm ⊢
    rw [ph2]
    by_cases ho : 0 < oAt o s
    · exact Cov.many hsz (by omega) (by omega) ho _ _ _ ih (by omega)
    · rw [show (oAt o s).toNat = 0 by omega]; exact ih
/-- every state has a symbol that stands -/
theorem sym_ok (o : List Int) {top size : Nat} (hsz : isSize size) (h : Dist top o size) (x : Nat) (hx : x < size) : symT o size x < o.length ∧ oAt o (symT o size x) ≠ 0 ∧ -1 ≤ oAt o (symT o size x) ∧ oAt o (symT o size x) ≤ size := by
  have hc := ph2_cov o hsz h o.length (Nat.le_refl _)
  have hf := free_pos o h
  have hp := parts o h
  have hb : ∀ s, s < o.length → oAt o s ≤ size := by
    intro s hs
    have := posS_mono o (show s + 1 ≤ o.length by omega)
    simp only [posS] at this
    omega
  by_cases hxf : x < freeT o size
  · obtain ⟨j, hj, hcn, hcov⟩ := hc.ex
    have := hcov x hxf (cntV_done hsz _ j (by omega) (by rw [hcn, hf]) x hxf)
    exact ⟨this.1, by unfold symT; omega, by unfold symT; omega, hb _ this.1⟩
  · have := hc.rare x (by omega) hx
    exact ⟨this.1, by unfold symT; omega, by unfold symT; omega, hb _ this.1⟩
theorem num_ok (o : List Int) {top size : Nat} (hsz : isSize size) (h : Dist top o size) (x : Nat) (hx : x < size) : 1 ≤ numT o size x ∧ numT o size x < 2 * size := by
  have h1 := sym_ok o hsz h x hx
  have h2 := cntP_le (fun y => symT o size y == symT o size x) x
  unfold numT
  split <;> omega
theorem shl_lt (n b log : Nat) (hn : 1 ≤ n) : n * 2 ^ b < 2 ^ log ↔ b + wid n ≤ log := by
  have h1 := wid_up n
  have h2 := wid_low n hn
  have h0 : 1 ≤ wid n := by rw [wid_pos (by omega)]; omega
  constructor
  · intro h
    have h3 : 2 ^ (wid n - 1) * 2 ^ b ≤ n * 2 ^ b := Nat.mul_le_mul_right _ h2
    rw [← Nat.pow_add] at h3
    have h4 : 2 ^ (wid n - 1 + b) < 2 ^ log := by omega
    have h5 := (Nat.pow_lt_pow_iff_right (a := 2) (by omega)).1 h4
    omega
  · intro h
    have h3 : n * 2 ^ b < 2 ^ wid n * 2 ^ b := Nat.mul_lt_mul_of_pos_right h1 (Nat.pow_pos (by omega))
    rw [← Nat.pow_add] at h3
    have h4 : 2 ^ (wid n + b) ≤ 2 ^ log := Nat.pow_le_pow_right (by omega) (by omega)
    omega
/-- where a state leads to is a state -/
theorem low_ok (o : List Int) {top log : Nat} (hsz : isSize (2 ^ log)) (h : Dist top o (2 ^ log)) (x : Nat) (hx : x < 2 ^ log) : bitT o log x ≤ log ∧ 2 ^ log ≤ numT o (2 ^ log) x * 2 ^ bitT o log x ∧ lowT o log x + 2 ^ bitT o log x ≤ 2 ^ log := by
  obtain ⟨h1, h2⟩ := num_ok o hsz h x hx
  have hw : 1 ≤ wid (numT o (2 ^ log) x) := by rw [wid_pos (by omega)]; omega
  have h3 : ¬ numT o (2 ^ log) x * 2 ^ bitT o log x < 2 ^ log := by
    rw [shl_lt _ _ _ h1]; unfold bitT; omega
  refine ⟨by unfold bitT; omega, by omega, ?_⟩
  unfold lowT
  by_cases hb : bitT o log x = 0
  · rw [hb] at h3 ⊢; simp at h3 ⊢; omega
  · obtain ⟨b, hb'⟩ : ∃ b, bitT o log x = b + 1 := ⟨bitT o log x - 1, by omega⟩
    have h4 : numT o (2 ^ log) x * 2 ^ b < 2 ^ log := by
      rw [shl_lt _ _ _ h1]; unfold bitT at hb'; omega
    have hbl : b ≤ log := by unfold bitT at hb'; omega
    obtain ⟨d, hd⟩ : ∃ d, 2 ^ log = d * 2 ^ b := ⟨2 ^ (log - b), by rw [← Nat.pow_add]; congr 1; omega⟩
    rw [hb'] at h3 ⊢
    rw [Nat.pow_succ] at h3 ⊢
    generalize numT o (2 ^ log) x = n at *
    rw [hd] at h4 h3 ⊢
    have h5 : n < d := Nat.lt_of_mul_lt_mul_right h4
    have h6 : (n + 1) * 2 ^ b ≤ d * 2 ^ b := Nat.mul_le_mul_right _ h5
    rw [Nat.add_mul, Nat.one_mul] at h6
    have h7 : n * (2 ^ b * 2) = n * 2 ^ b * 2 := by rw [Nat.mul_assoc]
    rw [h7] at h3 ⊢
    omega
end Go.Proofs.Ytkfilgfcgmohlaa
