import Derived.Test.YtbdndhiamihloaaRows
import Derived.WalkKit
import Derived.Laws.Bits64
namespace Go.Proofs.Ytbdndhiamihloaa.Xi
/-! The checksum, in the walk's own words: over Int, each operation wrapped as the program wraps it. -/
def rol (x : Int) (k : Nat) : Int := bits .or .u64 (IntKind.u64.wrap (x * 2 ^ k)) (x / 2 ^ (64 - k))
def lap (v x : Int) : Int := IntKind.u64.wrap (rol (IntKind.u64.wrap (v + IntKind.u64.wrap (x * 14029467366897019727))) 31 * 11400714785074694791)
def mix (h v : Int) : Int := IntKind.u64.wrap (IntKind.u64.wrap (bits .xor .u64 h (lap 0 v) * 11400714785074694791) + 9650029242287828579)
def join0 (a b c d : Int) : Int := IntKind.u64.wrap (IntKind.u64.wrap (IntKind.u64.wrap (rol a 1 + rol b 7) + rol c 12) + rol d 18)
def mixTo (L : Nat → Int) (h : Int) : Nat → Int
  | 0 => h
  | k + 1 => mix (mixTo L h k) (L k)
def joined (L : Nat → Int) : Int := mixTo L (join0 (L 0) (L 1) (L 2) (L 3)) 4
def step8 (h x : Int) : Int := IntKind.u64.wrap (IntKind.u64.wrap (rol (bits .xor .u64 h (lap 0 x)) 27 * 11400714785074694791) + 9650029242287828579)
def step4 (h x : Int) : Int := IntKind.u64.wrap (IntKind.u64.wrap (rol (bits .xor .u64 h (IntKind.u64.wrap (x * 11400714785074694791))) 23 * 14029467366897019727) + 1609587929392839161)
def step1 (h x : Int) : Int := IntKind.u64.wrap (rol (bits .xor .u64 h (IntKind.u64.wrap (x * 2870177450012600261))) 11 * 11400714785074694791)
def fin1 (h : Int) : Int := IntKind.u64.wrap (bits .xor .u64 h (h / 8589934592) * 14029467366897019727)
def fin2 (h : Int) : Int := IntKind.u64.wrap (bits .xor .u64 h (h / 536870912) * 1609587929392839161)
def fin (h : Int) : Int := bits .xor .u64 (fin2 (fin1 h)) (fin2 (fin1 h) / 4294967296)
/-- the number of the n cells of g from place p on, behind j of them (the highest come first) -/
def numTo (g : Nat → Int) (p n : Nat) : Nat → Int
  | 0 => 0
  | j + 1 => bits .or .u64 (IntKind.u64.wrap (numTo g p n j * 256)) (g (p + (n - 1 - j)))
theorem numTo_step (g : Nat → Int) (p n k : Nat) (h : k + 1 ≤ n) : numTo g p n (n - k) = bits .or .u64 (IntKind.u64.wrap (numTo g p n (n - (k + 1)) * 256)) (g (p + k)) := by
  rw [show n - k = (n - (k + 1)) + 1 by omega]
  simp only [numTo]
  rw [show n - 1 - (n - (k + 1)) = k by omega]
def num (g : Nat → Int) (p n : Nat) : Int := numTo g p n n
theorem numTo_congr (g g' : Nat → Int) (p p' n : Nat) : ∀ j, j ≤ n → (∀ i, i < n → g (p + i) = g' (p' + i)) → numTo g p n j = numTo g' p' n j
  | 0, _, _ => rfl
  | j + 1, hj, h => by
    simp only [numTo]
    rw [numTo_congr g g' p p' n j (by omega) h, h (n - 1 - j) (by omega)]
theorem num_congr (g g' : Nat → Int) (p p' n : Nat) (h : ∀ i, i < n → g (p + i) = g' (p' + i)) : num g p n = num g' p' n :=
  numTo_congr g g' p p' n n (Nat.le_refl _) h
def lane0 (k : Nat) : Int := if k = 0 then IntKind.u64.wrap 25430182151971714518 else if k = 1 then 14029467366897019727 else if k = 2 then 0 else IntKind.u64.wrap (-11400714785074694791)
def lane (g : Nat → Int) (k : Nat) : Nat → Int
  | 0 => lane0 k
  | m + 1 => lap (lane g k m) (num g (32 * m + 8 * k) 8)
def eights (g : Nat → Int) (p : Nat) (h : Int) : Nat → Int
  | 0 => h
  | j + 1 => step8 (eights g p h j) (num g (p + 8 * j) 8)
def ones (g : Nat → Int) (p : Nat) (h : Int) : Nat → Int
  | 0 => h
  | j + 1 => step1 (ones g p h j) (num g (p + j) 1)
/-- the n cells of g from place p on, brought into h -/
def rest (g : Nat → Int) (p n : Nat) (h : Int) : Int :=
  if 8 * (n / 8) + 4 ≤ n then ones g (p + 8 * (n / 8) + 4) (step4 (eights g p h (n / 8)) (num g (p + 8 * (n / 8)) 4)) (n - 8 * (n / 8) - 4)
  else ones g (p + 8 * (n / 8)) (eights g p h (n / 8)) (n - 8 * (n / 8))
def head (g : Nat → Int) (n : Nat) : Int := if 32 ≤ n then joined (fun k => lane g k (n / 32)) else 2870177450012600261
def xxh (g : Nat → Int) (n : Nat) : Int := fin (rest g (32 * (n / 32)) (n % 32) (IntKind.u64.wrap (head g n + n)))
theorem lane_congr (g g' : Nat → Int) (k : Nat) (hk : k < 4) : ∀ m, (∀ i, i < 32 * m → g i = g' i) → lane g k m = lane g' k m
  | 0, _ => rfl
  | m + 1, h => by
    simp only [lane]
    rw [lane_congr g g' k hk m (fun i hi => h i (by omega)), num_congr g g' (32 * m + 8 * k) (32 * m + 8 * k) 8 (fun i hi => h _ (by omega))]
theorem eights_congr (g g' : Nat → Int) (p p' : Nat) (h : Int) : ∀ j, (∀ i, i < 8 * j → g (p + i) = g' (p' + i)) → eights g p h j = eights g' p' h j
  | 0, _ => rfl
  | j + 1, H => by
    simp only [eights]
    rw [eights_congr g g' p p' h j (fun i hi => H i (by omega)), num_congr g g' (p + 8 * j) (p' + 8 * j) 8 (fun i hi => by rw [Nat.add_assoc, Nat.add_assoc]; exact H _ (by omega))]
theorem ones_congr (g g' : Nat → Int) (p p' : Nat) (h : Int) : ∀ j, (∀ i, i < j → g (p + i) = g' (p' + i)) → ones g p h j = ones g' p' h j
  | 0, _ => rfl
  | j + 1, H => by
    simp only [ones]
    rw [ones_congr g g' p p' h j (fun i hi => H i (by omega)), num_congr g g' (p + j) (p' + j) 1 (fun i hi => by rw [Nat.add_assoc, Nat.add_assoc]; exact H _ (by omega))]
theorem rest_congr (g g' : Nat → Int) (p p' n : Nat) (h : Int) (H : ∀ i, i < n → g (p + i) = g' (p' + i)) : rest g p n h = rest g' p' n h := by
  unfold rest
  have e8 := eights_congr g g' p p' h (n / 8) (fun i hi => H i (by omega))
  by_cases c : 8 * (n / 8) + 4 ≤ n
  · rw [if_pos c, if_pos c, e8, num_congr g g' (p + 8 * (n / 8)) (p' + 8 * (n / 8)) 4 (fun i hi => by rw [Nat.add_assoc, Nat.add_assoc]; exact H _ (by omega))]
    exact ones_congr g g' _ _ _ _ (fun i hi => by rw [Nat.add_assoc, Nat.add_assoc, Nat.add_assoc, Nat.add_assoc]; exact H _ (by omega))
  · rw [if_neg c, if_neg c, e8]
    exact ones_congr g g' _ _ _ _ (fun i hi => by rw [Nat.add_assoc, Nat.add_assoc]; exact H _ (by omega))
theorem rest_four (g : Nat → Int) (n j m : Nat) (h : Int) (e : j = n / 8) (h4 : 8 * j + 4 ≤ n) (hm : ¬ 8 * j + 4 + m < n) (hm' : 8 * j + 4 + m ≤ n) :
    ones g (8 * j + 4) (step4 (eights g 0 h j) (num g (8 * j) 4)) m = rest g 0 n h := by
  unfold rest
  subst e
  rw [if_pos h4, Nat.zero_add, show n - 8 * (n / 8) - 4 = m by omega]
theorem rest_none (g : Nat → Int) (n j m : Nat) (h : Int) (e : j = n / 8) (h4 : ¬ 8 * j + 4 ≤ n) (hm : ¬ 8 * j + m < n) (hm' : 8 * j + m ≤ n) :
    ones g (8 * j) (eights g 0 h j) m = rest g 0 n h := by
  unfold rest
  subst e
  rw [if_neg h4, Nat.zero_add, show n - 8 * (n / 8) = m by omega]
theorem joined_congr (L L' : Nat → Int) (h : ∀ k, k < 4 → L k = L' k) : joined L = joined L' := by
  unfold joined
  simp only [mixTo]
  rw [h 0 (by omega), h 1 (by omega), h 2 (by omega), h 3 (by omega)]
/-- byte i of a text -/
def byte (l : List UInt8) (i : Nat) : Int := ((l.getD i 0).toNat : Int)
def sum (l : List UInt8) : Int := xxh (byte l) l.length
end Go.Proofs.Ytbdndhiamihloaa.Xi
namespace Go.Proofs.Ytbdndhiamihloaa
open Go.RowKit
theorem ret_int {k : IntKind} {a b : Int} (h : a = b) : Ending.returned (.int k a) = .returned (.int k b) := by rw [h]
/-- the cells of a sum under way, at the head of block b -/
structure SumAt (w : World) (b : Nat) (L R : Nat → Int) (c : Int) : Prop where
  lane : ∀ k, k < 4 → w.cell? ⟨b, k, none⟩ = some (.int .u64 (L k))
  rest : ∀ i, i < 32 → w.cell? ⟨b, 4 + i, none⟩ = some (.int .u8 (R i))
  count : w.cell? ⟨b, 36, none⟩ = some (.int .u64 c)
  free : ∀ i, w.frozen? ⟨b, i, none⟩ = false
  small : ∀ i, 0 ≤ R i ∧ R i < 256
/-- the sum at block b has taken the bytes l -/
structure Rep (w : World) (b : Nat) (l : List UInt8) (L R : Nat → Int) : Prop where
  cells : SumAt w b L R l.length
  lanes : 32 ≤ l.length → ∀ k, k < 4 → L k = Xi.lane (Xi.byte l) k (l.length / 32)
  tail : ∀ i, i < l.length % 32 → R i = Xi.byte l (32 * (l.length / 32) + i)
theorem Rep.long {w : World} {b : Nat} {l : List UInt8} {L R : Nat → Int} {n : Nat} (h : Rep w b l L R) (hn : n = l.length) (h32 : 32 ≤ n) :
    Xi.fin (Xi.rest R 0 (n % 32) (IntKind.u64.wrap (Xi.joined L + n))) = Xi.sum l := by
  subst hn
  unfold Xi.sum Xi.xxh Xi.head
  rw [if_pos h32, Xi.joined_congr L _ (h.lanes h32)]
  rw [Xi.rest_congr R (Xi.byte l) 0 (32 * (l.length / 32)) _ _ (fun i hi => by rw [Nat.zero_add]; exact h.tail i hi)]
theorem Rep.short {w : World} {b : Nat} {l : List UInt8} {L R : Nat → Int} {n : Nat} (h : Rep w b l L R) (hn : n = l.length) (h32 : ¬ 32 ≤ n) :
    Xi.fin (Xi.rest R 0 (n % 32) (IntKind.u64.wrap (2870177450012600261 + n))) = Xi.sum l := by
  subst hn
  unfold Xi.sum Xi.xxh Xi.head
  rw [if_neg h32]
  rw [Xi.rest_congr R (Xi.byte l) 0 (32 * (l.length / 32)) _ _ (fun i hi => by rw [Nat.zero_add]; exact h.tail i hi)]
theorem Rep.bare {w : World} {b : Nat} {l : List UInt8} {L R : Nat → Int} {n : Nat} (h : Rep w b l L R) (hn : n = l.length) (h32 : ¬ 32 ≤ n) :
    Xi.fin (Xi.rest R 0 (n % 32) (2870177450012600261 + n)) = Xi.sum l := by
  rw [← h.short hn h32, IntKind.wrap_u64, Int.emod_eq_of_lt (by omega) (by omega)]
end Go.Proofs.Ytbdndhiamihloaa
