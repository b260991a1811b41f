import Derived.Test.YtkfilgfcgmohlaaJ07
namespace Go.Proofs.Ytkfilgfcgmohlaa
/-- the share of a weight -/
def shW (k : Nat) : Nat := 2 ^ k / 2
theorem shW_zero : shW 0 = 0 := rfl
theorem shW_succ (k : Nat) : shW (k + 1) = 2 ^ k := by unfold shW; rw [Nat.pow_succ]; omega
theorem shW_pos {k : Nat} (h : 1 ≤ k) : shW k = 2 ^ (k - 1) := by
  obtain ⟨j, rfl⟩ : ∃ j, k = j + 1 := ⟨k - 1, by omega⟩
  rw [shW_succ]; rfl
def sumN (g : Nat → Nat) : Nat → Nat
  | 0 => 0
  | n + 1 => sumN g n + g n
theorem sumN_congr {g h : Nat → Nat} : ∀ n, (∀ t, t < n → g t = h t) → sumN g n = sumN h n
  | 0, _ => rfl
  | n + 1, e => by simp only [sumN]; rw [sumN_congr n (fun t ht => e t (by omega)), e n (by omega)]
theorem sumN_one {g h : Nat → Nat} {i d : Nat} : ∀ n, i < n → (∀ t, t < n → t ≠ i → g t = h t) → g i = h i + d → sumN g n = sumN h n + d
  | 0, hi, _, _ => by omega
  | n + 1, hi, e, ed => by
    simp only [sumN]
    by_cases hn : i = n
    · subst hn; rw [sumN_congr i (fun t ht => e t (by omega) (by omega)), ed]; omega
    · rw [sumN_one n (by omega) (fun t ht => e t (by omega)) ed, e n (by omega) (by omega)]; omega
theorem sumN_dvd {g : Nat → Nat} {d : Nat} : ∀ n, (∀ t, t < n → d ∣ g t) → d ∣ sumN g n
  | 0, _ => Nat.dvd_zero _
  | n + 1, h => Nat.dvd_add (sumN_dvd n (fun t ht => h t (by omega))) (h n (by omega))
theorem sumN_add {g h k : Nat → Nat} : ∀ n, (∀ t, t < n → g t + h t = k t) → sumN g n + sumN h n = sumN k n
  | 0, _ => rfl
  | n + 1, e => by
    have := sumN_add n (fun t ht => e t (by omega))
    have := e n (by omega)
    simp only [sumN]; omega
theorem sumN_zero {g : Nat → Nat} (n : Nat) (h : ∀ t, t < n → g t = 0) : sumN g n = 0 := by
  induction n with
  | zero => rfl
  | succ n ih => simp only [sumN]; rw [ih (fun t ht => h t (by omega)), h n (by omega)]
theorem sumN_ge {g : Nat → Nat} {i : Nat} : ∀ n, i < n → g i ≤ sumN g n
  | 0, h => by omega
  | n + 1, h => by
    simp only [sumN]
    by_cases e : i = n
    · subst e; omega
    · have := sumN_ge n (show i < n by omega) (g := g); omega
theorem sumN_le {g : Nat → Nat} {c : Nat} : ∀ n, (∀ t, t < n → g t ≤ c) → sumN g n ≤ n * c
  | 0, _ => by simp [sumN]
  | n + 1, h => by
    have := sumN_le n (fun t ht => h t (by omega))
    have := h n (by omega)
    simp only [sumN]
    rw [Nat.add_mul]; omega
theorem between {f : Nat → Nat} {V : Nat} : ∀ n, f 0 ≤ V → V < f n → ∃ i, i < n ∧ f i ≤ V ∧ V < f (i + 1)
  | 0, h1, h2 => by omega
  | n + 1, h1, h2 => by
    by_cases h : V < f n
    · obtain ⟨i, hi, h3⟩ := between n h1 h
      exact ⟨i, by omega, h3⟩
    · exact ⟨n, by omega, by omega, h2⟩
/-- what is ahead of place i among those of weight W -/
def ahT (a : Nat → Nat) (W i t : Nat) : Nat := if a t < W ∨ (a t = W ∧ t < i) then shW (a t) else 0
def ahA (a : Nat → Nat) (n W i : Nat) : Nat := sumN (ahT a W i) n
theorem code_found (a : Nat → Nat) (n log : Nat) (htot : sumN (fun t => shW (a t)) n = 2 ^ log) (h11 : ∀ t, t < n → a t ≤ 11) (hlt : ∀ t, t < n → shW (a t) < 2 ^ log) (V : Nat) (hV : V < 2 ^ log) :
    ∃ s, s < n ∧ 1 ≤ a s ∧ a s ≤ log ∧ V / 2 ^ (a s - 1) = ahA a n (a s) s / 2 ^ (a s - 1) := by
  have h0 : ahA a n 0 0 ≤ V := by
    unfold ahA
    rw [sumN_zero n (fun t _ => by unfold ahT; rw [if_neg (by omega)])]; omega
  have h12 : V < ahA a n 12 0 := by
    unfold ahA
    rw [sumN_congr n (h := fun t => shW (a t)) (fun t ht => by unfold ahT; rw [if_pos (Or.inl (by have := h11 t ht; omega))]), htot]; exact hV
  obtain ⟨W, hW, hW1, hW2⟩ := between (f := fun W => ahA a n W 0) 12 h0 h12
  have e1 : ahA a n (W + 1) 0 = ahA a n W n := by
    unfold ahA
    refine sumN_congr n (fun t ht => ?_)
    unfold ahT
    by_cases h : a t < W ∨ a t = W
    · rw [if_pos (by omega), if_pos (by omega)]
    · rw [if_neg (by omega), if_neg (by omega)]
  rw [e1] at hW2
  obtain ⟨i, hi, hi1, hi2⟩ := between (f := fun i => ahA a n W i) n hW1 hW2
  have haw : a i = W := by
    rcases Nat.decEq (a i) W with h | h
    · exfalso
      have : ahA a n W (i + 1) = ahA a n W i := by
        unfold ahA
        refine sumN_congr n (fun t ht => ?_)
        unfold ahT
        by_cases e : t = i
        · subst e
          by_cases h' : a t < W
          · rw [if_pos (by omega), if_pos (by omega)]
          · rw [if_neg (by omega), if_neg (by omega)]
        · by_cases h' : a t < W ∨ (a t = W ∧ t < i)
          · rw [if_pos (by omega), if_pos h']
          · rw [if_neg (by omega), if_neg h']
      omega
    · exact h
  have hnx : ahA a n W (i + 1) = ahA a n W i + shW W := by
    unfold ahA
    refine sumN_one n hi (fun t ht hne => ?_) ?_
    · unfold ahT
      by_cases h' : a t < W ∨ (a t = W ∧ t < i)
      · rw [if_pos (by omega), if_pos h']
      · rw [if_neg (by omega), if_neg h']
    · unfold ahT
      rw [if_pos (by omega), if_neg (by omega), haw]; omega
  rw [hnx] at hi2
  have hW1' : 1 ≤ W := by
    rcases Nat.eq_zero_or_pos W with h | h
    · subst h; rw [shW_zero] at hi2; omega
    · exact h
  have hsh := shW_pos hW1'
  have hWl : W ≤ log := by
    have := hlt i hi
    rw [haw, hsh] at this
    have := (Nat.pow_lt_pow_iff_right (a := 2) (by omega)).1 this
    omega
  have hdv : 2 ^ (W - 1) ∣ ahA a n W i := by
    have hsum : ahA a n W i + sumN (fun t => if a t < W ∨ (a t = W ∧ t < i) then 0 else shW (a t)) n = 2 ^ log := by
      rw [← htot]
      unfold ahA
      refine sumN_add n (fun t ht => ?_)
      unfold ahT
      by_cases h' : a t < W ∨ (a t = W ∧ t < i)
      · rw [if_pos h', if_pos h']; omega
      · rw [if_neg h', if_neg h']; omega
    have h2 : 2 ^ (W - 1) ∣ sumN (fun t => if a t < W ∨ (a t = W ∧ t < i) then 0 else shW (a t)) n := by
      refine sumN_dvd n (fun t ht => ?_)
      split
      · exact Nat.dvd_zero _
      · rw [shW_pos (by omega)]; exact Nat.pow_dvd_pow 2 (by omega)
    have h3 : 2 ^ (W - 1) ∣ 2 ^ log := Nat.pow_dvd_pow 2 (by omega)
    rw [← hsum] at h3
    exact (Nat.dvd_add_iff_left h2).2 h3
  refine ⟨i, hi, by omega, by omega, ?_⟩
  rw [haw]
  obtain ⟨q, hq⟩ := hdv
  rw [hsh] at hi2
  have hp : 0 < 2 ^ (W - 1) := Nat.pow_pos (by omega)
  rw [hq] at hi1 hi2 ⊢
  rw [Nat.mul_div_cancel_left q hp]
  have h1 : q ≤ V / 2 ^ (W - 1) := (Nat.le_div_iff_mul_le hp).2 (by rw [Nat.mul_comm]; exact hi1)
  have h2 : V / 2 ^ (W - 1) < q + 1 := (Nat.div_lt_iff_lt_mul hp).2 (by rw [Nat.add_mul, Nat.one_mul, Nat.mul_comm]; exact hi2)
  omega
theorem highN_div (n : Nat) (f : Nat → Nat) (hf : ∀ i, f i < 2) (pos k : Nat) : ∀ j, highN n f pos (k + j) / 2 ^ j = highN n f pos k
  | 0 => by simp
  | j + 1 => by
    rw [show k + (j + 1) = (k + j) + 1 by omega, highN, Nat.pow_succ, Nat.mul_comm (2 ^ j) 2, ← Nat.div_div_eq_div_mul]
    have := rb_lt n f hf (pos + (k + j))
    rw [show (2 * highN n f pos (k + j) + rb n f (pos + (k + j))) / 2 = highN n f pos (k + j) by omega]
    exact highN_div n f hf pos k j
/-- the codes of weights -/
def cBit (a : Nat → Nat) (log s : Nat) : Nat := if a s = 0 then 0 else log + 1 - a s
def cVal (a : Nat → Nat) (n s : Nat) : Nat := if a s = 0 then 0 else ahA a n (a s) s / 2 ^ (a s - 1)
/-- the codes are whole: every row of bits begins with one -/
def Whole (a : Nat → Nat) (n log : Nat) : Prop := log ≤ 11 ∧ sumN (fun t => shW (a t)) n = 2 ^ log ∧ (∀ t, t < n → a t ≤ 11) ∧ ∀ t, t < n → shW (a t) < 2 ^ log
theorem Whole.found {a : Nat → Nat} {n log : Nat} (h : Whole a n log) (m : Nat) (f : Nat → Nat) (hf : ∀ i, f i < 2) (pos : Nat) : ∃ k s, 1 ≤ k ∧ k ≤ 11 ∧ s < n ∧ cBit a log s = k ∧ cVal a n s = highN m f pos k := by
  obtain ⟨s, hs, h1, h2, h3⟩ := code_found a n log h.2.1 h.2.2.1 h.2.2.2 (highN m f pos log) (highN_lt m f hf pos log)
  have hl := h.1
  refine ⟨log + 1 - a s, s, by omega, by omega, hs, by unfold cBit; rw [if_neg (by omega)], ?_⟩
  unfold cVal
  rw [if_neg (by omega), ← h3]
  have := highN_div m f hf pos (log + 1 - a s) (a s - 1)
  rw [show log + 1 - a s + (a s - 1) = log by omega] at this
  exact this
/-- the least of its kind -/
theorem least {P : Nat → Prop} : ∀ n, P n → ∃ k, k ≤ n ∧ P k ∧ ∀ j, j < k → ¬ P j := by
  intro n
  induction n using Nat.strongRecOn with
  | ind n ih =>
    intro h
    by_cases h' : ∃ j, j < n ∧ P j
    · obtain ⟨j, hj, hp⟩ := h'
      obtain ⟨k, h1, h2, h3⟩ := ih j hj hp
      exact ⟨k, by omega, h2, h3⟩
    · exact ⟨n, Nat.le_refl _, h, fun j hj hp => h' ⟨j, hj, hp⟩⟩
/-- the weight of the last symbol -/
def lastK (sum log : Nat) : Nat → Nat
  | 0 => 0
  | k + 1 => if sum + shW (k + 1) = 2 ^ log then k + 1 else lastK sum log k
theorem lastK_ok (sum log : Nat) : ∀ k, lastK sum log k ≠ 0 → sum + shW (lastK sum log k) = 2 ^ log ∧ lastK sum log k ≤ k
  | 0, h => absurd rfl h
  | k + 1, h => by
    unfold lastK at h ⊢
    split
    · rename_i e; exact ⟨e, Nat.le_refl _⟩
    · rename_i e
      rw [if_neg e] at h
      have := lastK_ok sum log k h
      exact ⟨this.1, by omega⟩
def wAt (l : List Nat) (s : Nat) : Nat := l.getD s 0
def sumW (l : List Nat) (n : Nat) : Nat := sumN (fun t => shW (wAt l t)) n
/-- the weights of all symbols, the greatest number of bits; or none -/
def codesR (l : List Nat) : Option (List Nat × Nat) :=
  if ∃ i, i < l.length ∧ 11 < wAt l i then none
  else if sumW l l.length = 0 ∨ 255 < l.length then none
  else if lastK (sumW l l.length) (wid (sumW l l.length)) (wid (sumW l l.length)) = 0 ∨ 11 < wid (sumW l l.length) then none
  else if ¬ ∃ i, i < l.length + 1 ∧ wAt (l ++ [lastK (sumW l l.length) (wid (sumW l l.length)) (wid (sumW l l.length))]) i = 1 then none
  else some (l ++ [lastK (sumW l l.length) (wid (sumW l l.length)) (wid (sumW l l.length))], wid (sumW l l.length))
theorem wAt_app (l : List Nat) (x i : Nat) (h : i < l.length) : wAt (l ++ [x]) i = wAt l i := by
  unfold wAt; rw [List.getD_eq_getElem?_getD, List.getD_eq_getElem?_getD, List.getElem?_append_left h]
theorem wAt_end (l : List Nat) (x : Nat) : wAt (l ++ [x]) l.length = x := by
  unfold wAt; rw [List.getD_eq_getElem?_getD, List.getElem?_append_right (Nat.le_refl _)]; simp
theorem codesR_ok {l all : List Nat} {log : Nat} (h : codesR l = some (all, log)) : Whole (wAt all) all.length log ∧ all.length = l.length + 1 ∧ all.length ≤ 256 := by
  unfold codesR at h
  split at h
  · cases h
  · rename_i h1
    split at h
    · cases h
    · rename_i h2
      split at h
      · cases h
      · rename_i h3
        split at h
        · cases h
        · simp at h
          obtain ⟨rfl, rfl⟩ := h
          generalize hS : sumW l l.length = S at *
          generalize hL : wid S = L at *
          obtain ⟨e, hle⟩ := lastK_ok S L L (fun h => h3 (Or.inl h))
          generalize hK : lastK S L L = K at *
          have hlen : (l ++ [K]).length = l.length + 1 := by simp
          have hKp : 1 ≤ K := by
            rcases Nat.eq_zero_or_pos K with h0 | h0
            · exact absurd (Or.inl h0) h3
            · exact h0
          have hsh : 1 ≤ shW K := by rw [shW_pos hKp]; exact Nat.pow_pos (by omega)
          have hge : ∀ t, t < l.length → shW (wAt l t) ≤ S := fun t ht => by rw [← hS]; exact sumN_ge (g := fun t => shW (wAt l t)) l.length ht
          refine ⟨⟨by omega, ?_, fun t ht => ?_, fun t ht => ?_⟩, hlen, by omega⟩
          · rw [hlen]
            simp only [sumN]
            rw [wAt_end, sumN_congr (h := fun t => shW (wAt l t)) l.length (fun t ht => by rw [wAt_app _ _ _ ht])]
            show sumW l l.length + _ = _
            rw [hS]; exact e
          · rw [hlen] at ht
            by_cases hx : t < l.length
            · rw [wAt_app _ _ _ hx]
              rcases Nat.lt_or_ge 11 (wAt l t) with h' | h'
              · exact absurd ⟨t, hx, h'⟩ h1
              · exact h'
            · obtain rfl : t = l.length := by omega
              rw [wAt_end]; omega
          · rw [hlen] at ht
            by_cases hx : t < l.length
            · rw [wAt_app _ _ _ hx]; have := hge t hx; omega
            · obtain rfl : t = l.length := by omega
              rw [wAt_end]; omega
end Go.Proofs.Ytkfilgfcgmohlaa
