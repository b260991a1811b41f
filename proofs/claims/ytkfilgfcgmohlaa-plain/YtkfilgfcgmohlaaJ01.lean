import Derived.Test.YtkfilgfcgmohlaaRows
import Derived.WalkKit
import Derived.Laws.Bits64
import Derived.Deep.MidRow
import Derived.Laws.BitsAllLaws
import Derived.WalkSpells
import Derived.WalkLawsBesides
namespace Go.Proofs.Ytkfilgfcgmohlaa.Xi
/-! The checksum, in the walk's own words: over Int, each operation wrapped as the program wraps it. -/
def rol (x : Int) (k : Nat) : Int := bits .or .u64 (IntKind.u64.wrap (x * 2 ^ k)) (x / 2 ^ (64 - k))
def lap (v x : Int) : Int := IntKind.u64.wrap (rol (IntKind.u64.wrap (v + IntKind.u64.wrap (x * 14029467366897019727))) 31 * 11400714785074694791)
def mix (h v : Int) : Int := IntKind.u64.wrap (IntKind.u64.wrap (bits .xor .u64 h (lap 0 v) * 11400714785074694791) + 9650029242287828579)
def join0 (a b c d : Int) : Int := IntKind.u64.wrap (IntKind.u64.wrap (IntKind.u64.wrap (rol a 1 + rol b 7) + rol c 12) + rol d 18)
def mixTo (L : Nat → Int) (h : Int) : Nat → Int
  | 0 => h
  | k + 1 => mix (mixTo L h k) (L k)
def joined (L : Nat → Int) : Int := mixTo L (join0 (L 0) (L 1) (L 2) (L 3)) 4
def step8 (h x : Int) : Int := IntKind.u64.wrap (IntKind.u64.wrap (rol (bits .xor .u64 h (lap 0 x)) 27 * 11400714785074694791) + 9650029242287828579)
def step4 (h x : Int) : Int := IntKind.u64.wrap (IntKind.u64.wrap (rol (bits .xor .u64 h (IntKind.u64.wrap (x * 11400714785074694791))) 23 * 14029467366897019727) + 1609587929392839161)
def step1 (h x : Int) : Int := IntKind.u64.wrap (rol (bits .xor .u64 h (IntKind.u64.wrap (x * 2870177450012600261))) 11 * 11400714785074694791)
def fin1 (h : Int) : Int := IntKind.u64.wrap (bits .xor .u64 h (h / 8589934592) * 14029467366897019727)
def fin2 (h : Int) : Int := IntKind.u64.wrap (bits .xor .u64 h (h / 536870912) * 1609587929392839161)
def fin (h : Int) : Int := bits .xor .u64 (fin2 (fin1 h)) (fin2 (fin1 h) / 4294967296)
/-- the number of the n cells of g from place p on, behind j of them (the highest come first) -/
def numTo (g : Nat → Int) (p n : Nat) : Nat → Int
  | 0 => 0
  | j + 1 => bits .or .u64 (IntKind.u64.wrap (numTo g p n j * 256)) (g (p + (n - 1 - j)))
theorem numTo_step (g : Nat → Int) (p n k : Nat) (h : k + 1 ≤ n) : numTo g p n (n - k) = bits .or .u64 (IntKind.u64.wrap (numTo g p n (n - (k + 1)) * 256)) (g (p + k)) := by
  rw [show n - k = (n - (k + 1)) + 1 by omega]
  simp only [numTo]
  rw [show n - 1 - (n - (k + 1)) = k by omega]
def num (g : Nat → Int) (p n : Nat) : Int := numTo g p n n
theorem numTo_congr (g g' : Nat → Int) (p p' n : Nat) : ∀ j, j ≤ n → (∀ i, i < n → g (p + i) = g' (p' + i)) → numTo g p n j = numTo g' p' n j
  | 0, _, _ => rfl
  | j + 1, hj, h => by
    simp only [numTo]
    rw [numTo_congr g g' p p' n j (by omega) h, h (n - 1 - j) (by omega)]
theorem num_congr (g g' : Nat → Int) (p p' n : Nat) (h : ∀ i, i < n → g (p + i) = g' (p' + i)) : num g p n = num g' p' n :=
  numTo_congr g g' p p' n n (Nat.le_refl _) h
def lane0 (k : Nat) : Int := if k = 0 then IntKind.u64.wrap 25430182151971714518 else if k = 1 then 14029467366897019727 else if k = 2 then 0 else IntKind.u64.wrap (-11400714785074694791)
def lane (g : Nat → Int) (k : Nat) : Nat → Int
  | 0 => lane0 k
  | m + 1 => lap (lane g k m) (num g (32 * m + 8 * k) 8)
def eights (g : Nat → Int) (p : Nat) (h : Int) : Nat → Int
  | 0 => h
  | j + 1 => step8 (eights g p h j) (num g (p + 8 * j) 8)
def ones (g : Nat → Int) (p : Nat) (h : Int) : Nat → Int
  | 0 => h
  | j + 1 => step1 (ones g p h j) (num g (p + j) 1)
/-- the n cells of g from place p on, brought into h -/
def rest (g : Nat → Int) (p n : Nat) (h : Int) : Int :=
  if 8 * (n / 8) + 4 ≤ n then ones g (p + 8 * (n / 8) + 4) (step4 (eights g p h (n / 8)) (num g (p + 8 * (n / 8)) 4)) (n - 8 * (n / 8) - 4)
  else ones g (p + 8 * (n / 8)) (eights g p h (n / 8)) (n - 8 * (n / 8))
def head (g : Nat → Int) (n : Nat) : Int := if 32 ≤ n then joined (fun k => lane g k (n / 32)) else 2870177450012600261
def xxh (g : Nat → Int) (n : Nat) : Int := fin (rest g (32 * (n / 32)) (n % 32) (IntKind.u64.wrap (head g n + n)))
theorem lane_congr (g g' : Nat → Int) (k : Nat) (hk : k < 4) : ∀ m, (∀ i, i < 32 * m → g i = g' i) → lane g k m = lane g' k m
  | 0, _ => rfl
  | m + 1, h => by
    simp only [lane]
    rw [lane_congr g g' k hk m (fun i hi => h i (by omega)), num_congr g g' (32 * m + 8 * k) (32 * m + 8 * k) 8 (fun i hi => h _ (by omega))]
theorem eights_congr (g g' : Nat → Int) (p p' : Nat) (h : Int) : ∀ j, (∀ i, i < 8 * j → g (p + i) = g' (p' + i)) → eights g p h j = eights g' p' h j
  | 0, _ => rfl
  | j + 1, H => by
    simp only [eights]
    rw [eights_congr g g' p p' h j (fun i hi => H i (by omega)), num_congr g g' (p + 8 * j) (p' + 8 * j) 8 (fun i hi => by rw [Nat.add_assoc, Nat.add_assoc]; exact H _ (by omega))]
theorem ones_congr (g g' : Nat → Int) (p p' : Nat) (h : Int) : ∀ j, (∀ i, i < j → g (p + i) = g' (p' + i)) → ones g p h j = ones g' p' h j
  | 0, _ => rfl
  | j + 1, H => by
    simp only [ones]
    rw [ones_congr g g' p p' h j (fun i hi => H i (by omega)), num_congr g g' (p + j) (p' + j) 1 (fun i hi => by rw [Nat.add_assoc, Nat.add_assoc]; exact H _ (by omega))]
theorem rest_congr (g g' : Nat → Int) (p p' n : Nat) (h : Int) (H : ∀ i, i < n → g (p + i) = g' (p' + i)) : rest g p n h = rest g' p' n h := by
  unfold rest
  have e8 := eights_congr g g' p p' h (n / 8) (fun i hi => H i (by omega))
  by_cases c : 8 * (n / 8) + 4 ≤ n
  · rw [if_pos c, if_pos c, e8, num_congr g g' (p + 8 * (n / 8)) (p' + 8 * (n / 8)) 4 (fun i hi => by rw [Nat.add_assoc, Nat.add_assoc]; exact H _ (by omega))]
    exact ones_congr g g' _ _ _ _ (fun i hi => by rw [Nat.add_assoc, Nat.add_assoc, Nat.add_assoc, Nat.add_assoc]; exact H _ (by omega))
  · rw [if_neg c, if_neg c, e8]
    exact ones_congr g g' _ _ _ _ (fun i hi => by rw [Nat.add_assoc, Nat.add_assoc]; exact H _ (by omega))
theorem rest_four (g : Nat → Int) (n j m : Nat) (h : Int) (e : j = n / 8) (h4 : 8 * j + 4 ≤ n) (hm : ¬ 8 * j + 4 + m < n) (hm' : 8 * j + 4 + m ≤ n) :
    ones g (8 * j + 4) (step4 (eights g 0 h j) (num g (8 * j) 4)) m = rest g 0 n h := by
  unfold rest
  subst e
  rw [if_pos h4, Nat.zero_add, show n - 8 * (n / 8) - 4 = m by omega]
theorem rest_none (g : Nat → Int) (n j m : Nat) (h : Int) (e : j = n / 8) (h4 : ¬ 8 * j + 4 ≤ n) (hm : ¬ 8 * j + m < n) (hm' : 8 * j + m ≤ n) :
    ones g (8 * j) (eights g 0 h j) m = rest g 0 n h := by
  unfold rest
  subst e
  rw [if_neg h4, Nat.zero_add, show n - 8 * (n / 8) = m by omega]
theorem joined_congr (L L' : Nat → Int) (h : ∀ k, k < 4 → L k = L' k) : joined L = joined L' := by
  unfold joined
  simp only [mixTo]
  rw [h 0 (by omega), h 1 (by omega), h 2 (by omega), h 3 (by omega)]
/-- byte i of a text -/
def byte (l : List UInt8) (i : Nat) : Int := ((l.getD i 0).toNat : Int)
def sum (l : List UInt8) : Int := xxh (byte l) l.length
end Go.Proofs.Ytkfilgfcgmohlaa.Xi
namespace Go.Proofs.Ytkfilgfcgmohlaa
open Go.RowKit
theorem ret_int {k : IntKind} {a b : Int} (h : a = b) : Ending.returned (.int k a) = .returned (.int k b) := by rw [h]
/-- the cells of a sum under way, at the head of block b -/
structure SumAt (w : World) (b : Nat) (L R : Nat → Int) (c : Int) : Prop where
  lane : ∀ k, k < 4 → w.cell? ⟨b, k, none⟩ = some (.int .u64 (L k))
  rest : ∀ i, i < 32 → w.cell? ⟨b, 4 + i, none⟩ = some (.int .u8 (R i))
  count : w.cell? ⟨b, 36, none⟩ = some (.int .u64 c)
  free : ∀ i, w.frozen? ⟨b, i, none⟩ = false
  small : ∀ i, 0 ≤ R i ∧ R i < 256
/-- the sum at block b has taken the bytes l -/
structure Rep (w : World) (b : Nat) (l : List UInt8) (L R : Nat → Int) : Prop where
  cells : SumAt w b L R l.length
  lanes : 32 ≤ l.length → ∀ k, k < 4 → L k = Xi.lane (Xi.byte l) k (l.length / 32)
  tail : ∀ i, i < l.length % 32 → R i = Xi.byte l (32 * (l.length / 32) + i)
theorem Rep.long {w : World} {b : Nat} {l : List UInt8} {L R : Nat → Int} {n : Nat} (h : Rep w b l L R) (hn : n = l.length) (h32 : 32 ≤ n) :
    Xi.fin (Xi.rest R 0 (n % 32) (IntKind.u64.wrap (Xi.joined L + n))) = Xi.sum l := by
  subst hn
  unfold Xi.sum Xi.xxh Xi.head
  rw [if_pos h32, Xi.joined_congr L _ (h.lanes h32)]
  rw [Xi.rest_congr R (Xi.byte l) 0 (32 * (l.length / 32)) _ _ (fun i hi => by rw [Nat.zero_add]; exact h.tail i hi)]
theorem Rep.short {w : World} {b : Nat} {l : List UInt8} {L R : Nat → Int} {n : Nat} (h : Rep w b l L R) (hn : n = l.length) (h32 : ¬ 32 ≤ n) :
    Xi.fin (Xi.rest R 0 (n % 32) (IntKind.u64.wrap (2870177450012600261 + n))) = Xi.sum l := by
  subst hn
  unfold Xi.sum Xi.xxh Xi.head
  rw [if_neg h32]
  rw [Xi.rest_congr R (Xi.byte l) 0 (32 * (l.length / 32)) _ _ (fun i hi => by rw [Nat.zero_add]; exact h.tail i hi)]
theorem Rep.bare {w : World} {b : Nat} {l : List UInt8} {L R : Nat → Int} {n : Nat} (h : Rep w b l L R) (hn : n = l.length) (h32 : ¬ 32 ≤ n) :
    Xi.fin (Xi.rest R 0 (n % 32) (2870177450012600261 + n)) = Xi.sum l := by
  rw [← h.short hn h32, IntKind.wrap_u64, Int.emod_eq_of_lt (by omega) (by omega)]
end Go.Proofs.Ytkfilgfcgmohlaa
namespace Go.Proofs.Ytkfilgfcgmohlaa
open Go.RowKit
/-- w' is w but for block b and new blocks. -/
structure Upd (b : Nat) (w w' : World) : Prop where
  os : w'.os = w.os
  tape : w'.tape = w.tape
  output : w'.output = w.output
  size : w.heap.size ≤ w'.heap.size
  block : ∀ k, k < w.heap.size → k ≠ b → w'.heap[k]? = w.heap[k]?
theorem Upd.refl (b : Nat) (w : World) : Upd b w w := ⟨rfl, rfl, rfl, Nat.le_refl _, fun _ _ _ => rfl⟩
theorem Upd.trans {b : Nat} {w w1 w2 : World} (h : Upd b w w1) (k : Upd b w1 w2) : Upd b w w2 :=
  ⟨k.os.trans h.os, k.tape.trans h.tape, k.output.trans h.output, Nat.le_trans h.size k.size, fun i hi hb => (k.block i (Nat.lt_of_lt_of_le hi h.size) hb).trans (h.block i hi hb)⟩
theorem Upd.drew {b : Nat} {w w1 : World} (h : Upd b w w1) : Upd b w w1.drew := ⟨h.os, h.tape, h.output, h.size, h.block⟩
theorem Upd.alloc {b : Nat} {w w1 : World} (h : Upd b w w1) (o : Obj) : Upd b w (w1.alloc o) :=
  h.trans ⟨rfl, rfl, rfl, by simp, fun k hk _ => Below.heap_alloc _ _ _ hk⟩
theorem Upd.setCell {b : Nat} {w w1 : World} (h : Upd b w w1) (i : Nat) (v : Value) : Upd b w (w1.setCell ⟨b, i, none⟩ v) :=
  h.trans ⟨rfl, rfl, rfl, by simp [World.setCell], fun k _ hb => Below.heap_setCell _ _ _ _ hb⟩
theorem Upd.setCells {b : Nat} {w : World} : ∀ (vs : List Value) (o : Nat) {w1 : World}, Upd b w w1 → Upd b w (w1.setCells b o vs)
  | [], _, _, h => h
  | v :: r, o, _, h => by rw [World.setCells]; exact Upd.setCells r (o + 1) (h.setCell o v)
theorem Upd.below {b B : Nat} {w w1 : World} (h : Upd b w w1) (hB : B ≤ b) (hs : B ≤ w.heap.size) : Below B w w1 :=
  ⟨h.os, h.tape, h.output, h.size, fun k hk => h.block k (by omega) (by omega)⟩
theorem Upd.cell {b : Nat} {w w1 : World} (h : Upd b w w1) {p : Addr} (hp : p.block < w.heap.size) (hb : p.block ≠ b) : w1.cell? p = w.cell? p := World.cell?_of_block (w := w) (h.block p.block hp hb)
theorem Upd.frozen {b : Nat} {w w1 : World} (h : Upd b w w1) {p : Addr} (hp : p.block < w.heap.size) (hb : p.block ≠ b) : w1.frozen? p = w.frozen? p := World.frozen?_of_block (w := w) (h.block p.block hp hb)
def upd (f : Nat → Int) (k : Nat) (v : Int) : Nat → Int := fun i => if i = k then v else f i
theorem upd_same (f : Nat → Int) (k : Nat) (v : Int) : upd f k v k = v := by simp [upd]
theorem upd_other (f : Nat → Int) (k : Nat) (v : Int) (i : Nat) (h : i ≠ k) : upd f k v i = f i := by simp [upd, h]
theorem SumAt.lt {w : World} {b : Nat} {L R : Nat → Int} {c : Int} (h : SumAt w b L R c) : b < w.heap.size := block_lt_of_cell h.count
theorem SumAt.of_cells {w w' : World} {b : Nat} {L R : Nat → Int} {c : Int} (h : SumAt w b L R c) (hb : w'.heap[b]? = w.heap[b]?) : SumAt w' b L R c :=
  ⟨fun k hk => (World.cell?_of_block (w := w) (a := ⟨b, k, none⟩) hb).trans (h.lane k hk), fun i hi => (World.cell?_of_block (w := w) (a := ⟨b, 4 + i, none⟩) hb).trans (h.rest i hi),
   (World.cell?_of_block (w := w) (a := ⟨b, 36, none⟩) hb).trans h.count, fun i => (World.frozen?_of_block (w := w) (a := ⟨b, i, none⟩) hb).trans (h.free i), h.small⟩
theorem SumAt.drew {w : World} {b : Nat} {L R : Nat → Int} {c : Int} (h : SumAt w b L R c) : SumAt w.drew b L R c := h.of_cells rfl
theorem SumAt.alloc {w : World} {b : Nat} {L R : Nat → Int} {c : Int} (h : SumAt w b L R c) (o : Obj) : SumAt (w.alloc o) b L R c := h.of_cells (Below.heap_alloc _ _ _ h.lt)
theorem SumAt.other {w : World} {b : Nat} {L R : Nat → Int} {c : Int} (h : SumAt w b L R c) (p : Addr) (v : Value) (hp : b ≠ p.block) : SumAt (w.setCell p v) b L R c := h.of_cells (Below.heap_setCell _ _ _ _ hp)
theorem SumAt.kept {w w' : World} {b b' : Nat} {L R : Nat → Int} {c : Int} (h : SumAt w b L R c) (hu : Upd b' w w') (hne : b ≠ b') : SumAt w' b L R c := h.of_cells (hu.block b h.lt hne)
theorem cs_same {w : World} {a : Addr} {v u : Value} (h : w.cell? a = some u) : (w.setCell a v).cell? a = some v := World.cell?_setCell_same' w a v (by rw [h]; rfl)
theorem cs_other {w : World} {a b : Addr} {v : Value} (h : a ≠ b) : (w.setCell a v).cell? b = w.cell? b := by apply World.cell?_setCell_other; exact h
theorem addr_ne {b i j : Nat} (h : i ≠ j) : (⟨b, i, none⟩ : Addr) ≠ ⟨b, j, none⟩ := fun e => h (by injection e)
theorem SumAt.setLane {w : World} {b : Nat} {L R : Nat → Int} {c : Int} (h : SumAt w b L R c) (k : Nat) (hk : k < 4) (v : Int) : SumAt (w.setCell ⟨b, k, none⟩ (.int .u64 v)) b (upd L k v) R c where
  lane i hi := by
    by_cases e : i = k
    · subst e; rw [upd_same]; exact cs_same (h.lane i hi)
    · rw [upd_other _ _ _ _ e, cs_other (addr_ne (by omega))]; exact h.lane i hi
  rest i hi := by rw [cs_other (addr_ne (by omega))]; exact h.rest i hi
  count := by rw [cs_other (addr_ne (by omega))]; exact h.count
  free i := by rw [World.frozen?_setCell]; exact h.free i
  small := h.small
theorem SumAt.setRest {w : World} {b : Nat} {L R : Nat → Int} {c : Int} (h : SumAt w b L R c) (k : Nat) (hk : k < 32) (v : Int) (hv : 0 ≤ v ∧ v < 256) : SumAt (w.setCell ⟨b, 4 + k, none⟩ (.int .u8 v)) b L (upd R k v) c where
  lane i hi := by rw [cs_other (addr_ne (by omega))]; exact h.lane i hi
  rest i hi := by
    by_cases e : i = k
    · subst e; rw [upd_same]; exact cs_same (h.rest i hi)
    · rw [upd_other _ _ _ _ e, cs_other (addr_ne (by omega))]; exact h.rest i hi
  count := by rw [cs_other (addr_ne (by omega))]; exact h.count
  free i := by rw [World.frozen?_setCell]; exact h.free i
  small i := by
    by_cases e : i = k
    · subst e; rw [upd_same]; exact hv
    · rw [upd_other _ _ _ _ e]; exact h.small i
theorem SumAt.setCount {w : World} {b : Nat} {L R : Nat → Int} {c : Int} (h : SumAt w b L R c) (v : Int) : SumAt (w.setCell ⟨b, 36, none⟩ (.int .u64 v)) b L R v where
  lane i hi := by rw [cs_other (addr_ne (by omega))]; exact h.lane i hi
  rest i hi := by rw [cs_other (addr_ne (by omega))]; exact h.rest i hi
  count := cs_same h.count
  free i := by rw [World.frozen?_setCell]; exact h.free i
  small := h.small
/-- the block that firstLanes lays -/
def lanes0 : Array Value := #[.int .u64 (IntKind.u64.wrap 25430182151971714518), .int .u64 14029467366897019727, .int .u64 0, .int .u64 (IntKind.u64.wrap (-11400714785074694791))]
theorem SumAt.there {w : World} {b : Nat} {L R : Nat → Int} {c : Int} (h : SumAt w b L R c) (n : Nat) (hn : n ≤ 37) : w.there b 0 n := fun j hj => by
  rw [Nat.zero_add]
  refine ⟨?_, h.free j⟩
  by_cases h4 : j < 4
  · rw [h.lane j h4]; rfl
  · by_cases h36 : j = 36
    · subst h36; rw [h.count]; rfl
    · have := h.rest (j - 4) (by omega)
      rw [show 4 + (j - 4) = j by omega] at this
      rw [this]; rfl
theorem lanes0_len : lanes0.toList.length = 4 := by simp [lanes0]
theorem lanes0_at (i : Nat) (hi : i < 4) : lanes0.toList[i]? = some (.int .u64 (Xi.lane0 i)) := by
  match i, hi with
  | 0, _ => simp [lanes0, Xi.lane0]
  | 1, _ => simp [lanes0, Xi.lane0]
  | 2, _ => simp [lanes0, Xi.lane0]
  | 3, _ => simp [lanes0, Xi.lane0]
theorem SumAt.setLanes {w : World} {b : Nat} {L R : Nat → Int} {c : Int} (h : SumAt w b L R c) : SumAt (w.setCells b 0 lanes0.toList) b Xi.lane0 R c where
  lane i hi := by
    have hl := lanes0_len
    have := World.cell?_setCells_in b lanes0.toList 0 w (fun j hj => (h.there 4 (by omega) j (by omega)).1) i (by omega)
    rw [Nat.zero_add] at this
    rw [this, ← lanes0_at i hi, List.getElem?_eq_getElem]
  rest i hi := by rw [World.cell?_setCells_out _ _ _ _ _ (fun _ _ => Or.inr (by rw [lanes0_len]; dsimp only; omega))]; exact h.rest i hi
  count := by rw [World.cell?_setCells_out _ _ _ _ _ (fun _ _ => Or.inr (by rw [lanes0_len]; dsimp only; omega))]; exact h.count
  free i := by rw [World.frozen?_setCells]; exact h.free i
  small := h.small
/-- the cells of a sum that has taken nothing -/
def zeros : Array Value := (List.replicate 4 (Value.int .u64 0) ++ List.replicate 32 (Value.int .u8 0) ++ [Value.int .u64 0]).toArray
theorem zeros_size : zeros.size = 37 := by decide
theorem zeros_lane (i : Nat) (hi : i < 4) : zeros[i]? = some (.int .u64 0) := by
  match i, hi with
  | 0, _ => rfl
  | 1, _ => rfl
  | 2, _ => rfl
  | 3, _ => rfl
theorem zeros_rest (i : Nat) (hi : i < 32) : zeros[4 + i]? = some (.int .u8 0) := by
  unfold zeros
  rw [List.getElem?_toArray, List.append_assoc, List.getElem?_append_right (by simp), List.getElem?_append_left (by simp; omega), List.getElem?_replicate]
  simp; omega
theorem zeros_count : zeros[36]? = some (.int .u64 0) := rfl
/-- a block of those cells is the sum of nothing -/
theorem Rep.zero {w : World} {b : Nat} (hc : ∀ i, i < 37 → w.cell? ⟨b, i, none⟩ = zeros[i]?) (hf : ∀ i, w.frozen? ⟨b, i, none⟩ = false) : Rep w b [] (fun _ => 0) (fun _ => 0) where
  cells := ⟨fun k hk => by rw [hc k (by omega), zeros_lane k hk], fun i hi => by rw [hc _ (by omega), zeros_rest i hi], by rw [hc 36 (by omega), zeros_count]; rfl, hf, fun _ => ⟨by omega, by omega⟩⟩
  lanes h := by simp at h
  tail i hi := by simp at hi
theorem SumAt.restart {w : World} {b : Nat} {L R : Nat → Int} {c : Int} (h : SumAt w b L R c) : Rep (w.setCells b 0 zeros.toList) b [] (fun _ => 0) (fun _ => 0) :=
  Rep.zero (fun i hi => by
    have hs := zeros_size
    have := World.cell?_setCells_in b zeros.toList 0 w (fun j hj => (h.there 37 (by omega) j (by simp at hj; omega)).1) i (by simp; omega)
    rw [Nat.zero_add] at this
    rw [this]; simp [hi, hs]) (fun i => by rw [World.frozen?_setCells]; exact h.free i)
theorem Rep.of_cells {w w' : World} {b : Nat} {l : List UInt8} {L R : Nat → Int} (h : Rep w b l L R) (hb : w'.heap[b]? = w.heap[b]?) : Rep w' b l L R := ⟨h.cells.of_cells hb, h.lanes, h.tail⟩
theorem Rep.lt {w : World} {b : Nat} {l : List UInt8} {L R : Nat → Int} (h : Rep w b l L R) : b < w.heap.size := h.cells.lt
theorem Rep.kept {w w' : World} {b b' : Nat} {l : List UInt8} {L R : Nat → Int} (h : Rep w b l L R) (hu : Upd b' w w') (hne : b ≠ b') : Rep w' b l L R := h.of_cells (hu.block b h.lt hne)
theorem Rep.alloc {w : World} {b : Nat} {l : List UInt8} {L R : Nat → Int} (h : Rep w b l L R) (o : Obj) : Rep (w.alloc o) b l L R := h.of_cells (Below.heap_alloc _ _ _ h.lt)
/-- the lanes behind j laps -/
def lapped (L R : Nat → Int) (j : Nat) : Nat → Int := fun i => if i < j then Xi.lap (L i) (Xi.num R (8 * i) 8) else L i
theorem lapped_at (L R : Nat → Int) (j : Nat) : lapped L R j j = L j := by simp [lapped]
theorem SumAt.lap {w : World} {b : Nat} {L R : Nat → Int} {c : Int} {j : Nat} (h : SumAt w b (lapped L R j) R c) (hj : j < 4) :
    SumAt (w.setCell ⟨b, j, none⟩ (.int .u64 (Xi.lap (L j) (Xi.num R (8 * j) 8)))) b (lapped L R (j + 1)) R c := by
  have := h.setLane j hj (Xi.lap (L j) (Xi.num R (8 * j) 8))
  rwa [show upd (lapped L R j) j (Xi.lap (L j) (Xi.num R (8 * j) 8)) = lapped L R (j + 1) from funext fun i => by
    unfold upd lapped
    by_cases e : i = j
    · subst e; simp
    · by_cases e2 : i < j
      · simp [e, e2, show i < j + 1 by omega]
      · simp [e, e2, show ¬ i < j + 1 by omega]] at this
theorem lapped_zero (L R : Nat → Int) : lapped L R 0 = L := funext fun i => by simp [lapped]
theorem byte_left (l m : List UInt8) (i : Nat) (h : i < l.length) : Xi.byte (l ++ m) i = Xi.byte l i := by
  unfold Xi.byte
  rw [List.getD_eq_getElem?_getD, List.getD_eq_getElem?_getD, List.getElem?_append_left h]
theorem byte_last (l : List UInt8) (x : UInt8) : Xi.byte (l ++ [x]) l.length = (x.toNat : Int) := by
  unfold Xi.byte
  rw [List.getD_eq_getElem?_getD, List.getElem?_append_right (Nat.le_refl _)]
  simp
theorem byte_small (x : UInt8) : 0 ≤ (x.toNat : Int) ∧ (x.toNat : Int) < 256 := by have := x.toNat_lt; omega
theorem push_small {w w' : World} {b : Nat} {l : List UInt8} {L R : Nat → Int} {x : UInt8} (h : Rep w b l L R) (h31 : l.length % 32 ≠ 31)
    (hs : SumAt w' b L (upd R (l.length % 32) x.toNat) ((l.length : Int) + 1)) : Rep w' b (l ++ [x]) L (upd R (l.length % 32) x.toNat) where
  cells := by rw [show ((l ++ [x]).length : Int) = (l.length : Int) + 1 by simp]; exact hs
  lanes h32 k hk := by
    have e : (l ++ [x]).length = l.length + 1 := by simp
    rw [e] at h32 ⊢
    rw [h.lanes (by omega) k hk, show (l.length + 1) / 32 = l.length / 32 by omega]
    exact Xi.lane_congr _ _ k hk _ (fun i hi => (byte_left l [x] i (by omega)).symm)
  tail i hi := by
    have e : (l ++ [x]).length = l.length + 1 := by simp
    rw [e] at hi ⊢
    rw [show (l.length + 1) / 32 = l.length / 32 by omega]
    by_cases e2 : i = l.length % 32
    · subst e2
      rw [upd_same, show 32 * (l.length / 32) + l.length % 32 = l.length by omega, byte_last]
    · rw [upd_other _ _ _ _ e2, h.tail i (by omega), byte_left _ _ _ (by omega)]
theorem push_full {w w' : World} {b : Nat} {l : List UInt8} {L L' R : Nat → Int} {x : UInt8} (h : Rep w b l L R) (h31 : l.length % 32 = 31)
    (hL : l.length + 1 = 32 ∧ L' = Xi.lane0 ∨ 32 < l.length + 1 ∧ L' = L)
    (hs : SumAt w' b (lapped L' (upd R 31 x.toNat) 4) (upd R 31 x.toNat) ((l.length : Int) + 1)) : Rep w' b (l ++ [x]) (lapped L' (upd R 31 x.toNat) 4) (upd R 31 x.toNat) where
  cells := by rw [show ((l ++ [x]).length : Int) = (l.length : Int) + 1 by simp]; exact hs
  lanes h32 k hk := by
    have e : (l ++ [x]).length = l.length + 1 := by simp
    rw [e, show (l.length + 1) / 32 = l.length / 32 + 1 by omega]
    simp only [Xi.lane, lapped, if_pos hk]
    have e1 : L' k = Xi.lane (Xi.byte (l ++ [x])) k (l.length / 32) := by
      rcases hL with ⟨h1, rfl⟩ | ⟨h1, rfl⟩
      · rw [show l.length / 32 = 0 by omega]; rfl
      · rw [h.lanes (by omega) k hk]
        exact Xi.lane_congr _ _ k hk _ (fun i hi => (byte_left l [x] i (by omega)).symm)
    rw [e1, Xi.num_congr (upd R 31 x.toNat) (Xi.byte (l ++ [x])) (8 * k) (32 * (l.length / 32) + 8 * k) 8 (fun i hi => by
      by_cases e2 : 8 * k + i = 31
      · rw [e2, upd_same, show 32 * (l.length / 32) + 8 * k + i = l.length by omega, byte_last]
      · rw [upd_other _ _ _ _ e2, h.tail _ (by omega), byte_left _ _ _ (by omega), Nat.add_assoc])]
  tail i hi := by
    have e : (l ++ [x]).length = l.length + 1 := by simp
    rw [e] at hi
    omega
theorem take_step (m : List UInt8) (j : Nat) (h : j < m.length) : ∃ x : UInt8, m.take (j + 1) = m.take j ++ [x] ∧ Xi.byte m j = (x.toNat : Int) :=
  ⟨m[j], by rw [List.take_succ_eq_append_getElem h], by unfold Xi.byte; rw [List.getD_eq_getElem?_getD, List.getElem?_eq_getElem h]; rfl⟩
theorem Rep.push {w : World} {b n j : Nat} {l m : List UInt8} {L R : Nat → Int} (h : Rep w b (l ++ m.take j) L R) (hn : n = (l ++ m.take j).length) (hj : j < m.length) (h31 : n % 32 ≠ 31) :
    ∃ L' R', Rep ((w.setCell ⟨b, 4 + n % 32, none⟩ (.int .u8 (Xi.byte m j))).setCell ⟨b, 36, none⟩ (.int .u64 ((n : Int) + 1))).drew b (l ++ m.take (j + 1)) L' R' := by
  obtain ⟨x, e1, e2⟩ := take_step m j hj
  subst hn
  rw [e1, e2, ← List.append_assoc]
  exact ⟨L, _, push_small h h31 ((h.cells.setRest _ (by omega) _ (byte_small x)).setCount _).drew⟩
theorem Rep.brim {w : World} {b n j : Nat} {l m : List UInt8} {L R : Nat → Int} (h : Rep w b (l ++ m.take j) L R) (hn : n = (l ++ m.take j).length) (hj : j < m.length) :
    SumAt ((w.setCell ⟨b, 4 + n % 32, none⟩ (.int .u8 (Xi.byte m j))).setCell ⟨b, 36, none⟩ (.int .u64 ((n : Int) + 1))).drew b L (upd R (n % 32) (Xi.byte m j)) ((n + 1 : Nat) : Int) := by
  obtain ⟨x, e1, e2⟩ := take_step m j hj
  subst hn
  rw [e2]
  exact ((h.cells.setRest _ (by omega) _ (byte_small x)).setCount _).drew
theorem Rep.full {w w' : World} {b n j : Nat} {l m : List UInt8} {L L' R : Nat → Int} (h : Rep w b (l ++ m.take j) L R) (hn : n = (l ++ m.take j).length) (hj : j < m.length) (h31 : n % 32 = 31)
    (hL : n + 1 = 32 ∧ L' = Xi.lane0 ∨ 32 < n + 1 ∧ L' = L) (hs : SumAt w' b (lapped L' (upd R (n % 32) (Xi.byte m j)) 4) (upd R (n % 32) (Xi.byte m j)) ((n + 1 : Nat) : Int)) :
    ∃ L' R', Rep w' b (l ++ m.take (j + 1)) L' R' := by
  obtain ⟨x, e1, e2⟩ := take_step m j hj
  subst hn
  rw [e1, ← List.append_assoc]
  rw [e2, h31] at hs
  exact ⟨_, _, push_full h h31 hL hs⟩
end Go.Proofs.Ytkfilgfcgmohlaa
namespace Go.Proofs.Ytkfilgfcgmohlaa
theorem i64_id (n : Int) (h1 : -9223372036854775808 ≤ n) (h2 : n ≤ 9223372036854775807) : IntKind.i64.wrap n = n := by
  rw [IntKind.wrap_i64]; omega
theorem ofInt_i64 (a : Nat) (ha : a < 9223372036854775808) : (BitVec.ofInt 64 (a : Int)).toNat = a := by
  rw [BitVec.ofInt_natCast, BitVec.toNat_ofNat]; exact Nat.mod_eq_of_lt (by omega)
theorem i64_and (a b : Nat) (ha : a < 9223372036854775808) (hb : b < 9223372036854775808) : bits .and .i64 (a : Int) (b : Int) = ((a &&& b : Nat) : Int) := by
  have hx : a &&& b < 2 ^ 63 := Nat.and_lt_two_pow _ (by omega)
  show IntKind.i64.wrap ((BitVec.ofInt 64 (a : Int) &&& BitVec.ofInt 64 (b : Int)).toNat : Int) = _
  rw [BitVec.toNat_and, ofInt_i64 a ha, ofInt_i64 b hb, i64_id _ (by omega) (by omega)]
theorem i64_or (a b : Nat) (ha : a < 9223372036854775808) (hb : b < 9223372036854775808) : bits .or .i64 (a : Int) (b : Int) = ((a ||| b : Nat) : Int) := by
  have hx : a ||| b < 2 ^ 63 := Nat.or_lt_two_pow (by omega) (by omega)
  show IntKind.i64.wrap ((BitVec.ofInt 64 (a : Int) ||| BitVec.ofInt 64 (b : Int)).toNat : Int) = _
  rw [BitVec.toNat_or, ofInt_i64 a ha, ofInt_i64 b hb, i64_id _ (by omega) (by omega)]
theorem i64_xor (a b : Nat) (ha : a < 9223372036854775808) (hb : b < 9223372036854775808) : bits .xor .i64 (a : Int) (b : Int) = ((a ^^^ b : Nat) : Int) := by
  have hx : a ^^^ b < 2 ^ 63 := Nat.xor_lt_two_pow (by omega) (by omega)
  show IntKind.i64.wrap ((BitVec.ofInt 64 (a : Int) ^^^ BitVec.ofInt 64 (b : Int)).toNat : Int) = _
  rw [BitVec.toNat_xor, ofInt_i64 a ha, ofInt_i64 b hb, i64_id _ (by omega) (by omega)]
theorem i64_mask32 (x : Int) (h1 : 0 ≤ x) (h2 : x < 9223372036854775808) : bits .and .i64 x 4294967295 = x % 4294967296 := by
  obtain ⟨a, rfl⟩ := Int.eq_ofNat_of_zero_le h1
  rw [show (4294967295 : Int) = ((4294967295 : Nat) : Int) from rfl, i64_and a 4294967295 (by omega) (by omega), show (4294967295 : Nat) = 2 ^ 32 - 1 from rfl, Nat.and_two_pow_sub_one_eq_mod]
  omega
theorem i64_mask16 (x : Int) (h1 : 0 ≤ x) (h2 : x < 9223372036854775808) : bits .and .i64 x 65535 = x % 65536 := by
  obtain ⟨a, rfl⟩ := Int.eq_ofNat_of_zero_le h1
  rw [show (65535 : Int) = ((65535 : Nat) : Int) from rfl, i64_and a 65535 (by omega) (by omega), show (65535 : Nat) = 2 ^ 16 - 1 from rfl, Nat.and_two_pow_sub_one_eq_mod]
  omega
theorem i64_mask1 (x : Int) (h1 : 0 ≤ x) (h2 : x < 9223372036854775808) : bits .and .i64 x 1 = x % 2 := by
  obtain ⟨a, rfl⟩ := Int.eq_ofNat_of_zero_le h1
  rw [show (1 : Int) = ((1 : Nat) : Int) from rfl, i64_and a 1 (by omega) (by omega), show (1 : Nat) = 2 ^ 1 - 1 from rfl, Nat.and_two_pow_sub_one_eq_mod]
  omega
/-- two halves of a number of 64 bits -/
structure IsH (h l : Int) (n : Nat) : Prop where
  hi : h = ((n / 4294967296 : Nat) : Int)
  lo : l = ((n % 4294967296 : Nat) : Int)
  lt : n < 18446744073709551616
theorem IsH.bds {h l : Int} {n : Nat} (k : IsH h l n) : 0 ≤ h ∧ h < 4294967296 ∧ 0 ≤ l ∧ l < 4294967296 := by
  have := k.hi; have := k.lo; have := k.lt; omega
theorem IsH.mk2 {h l : Int} {n : Nat} (a b : Nat) (ha : h = (a : Int)) (hb : l = (b : Int)) (hn : n = a * 4294967296 + b) (h1 : a < 4294967296) (h2 : b < 4294967296) : IsH h l n :=
  ⟨by omega, by omega, by omega⟩
theorem isH_plus {ah al bh bl : Int} {a b : Nat} (ha : IsH ah al a) (hb : IsH bh bl b) :
    IsH (bits .and .i64 (ah + bh + (al + bl) / 4294967296) 4294967295) (bits .and .i64 (al + bl) 4294967295) ((a + b) % 18446744073709551616) := by
  have h1 := ha.bds; have h2 := hb.bds
  rw [i64_mask32 _ (by omega) (by omega), i64_mask32 _ (by omega) (by omega)]
  have := ha.hi; have := ha.lo; have := ha.lt; have := hb.hi; have := hb.lo; have := hb.lt
  exact ⟨by omega, by omega, by omega⟩
theorem isH_mixed {ah al bh bl : Int} {a b : Nat} (ha : IsH ah al a) (hb : IsH bh bl b) :
    IsH (bits .xor .i64 ah bh) (bits .xor .i64 al bl) (a ^^^ b) := by
  have := ha.lt; have := hb.lt
  rw [ha.hi, ha.lo, hb.hi, hb.lo, i64_xor _ _ (by omega) (by omega), i64_xor _ _ (by omega) (by omega)]
  refine ⟨?_, ?_, Nat.xor_lt_two_pow (n := 64) (by omega) (by omega)⟩
  · congr 1
    rw [show (4294967296 : Nat) = 2 ^ 32 from rfl, ← Nat.shiftRight_eq_div_pow, ← Nat.shiftRight_eq_div_pow, ← Nat.shiftRight_eq_div_pow, Nat.shiftRight_xor_distrib]
  · congr 1
    rw [show (4294967296 : Nat) = 2 ^ 32 from rfl, Nat.xor_mod_two_pow]
theorem isH_bit_low {h l : Int} {n : Nat} (k : IsH h l n) (i : Nat) (hi : i < 32) : bits .and .i64 (l / 2 ^ i) 1 = ((n / 2 ^ i % 2 : Nat) : Int) := by
  have hb := k.bds
  have e : l / 2 ^ i = ((n % 4294967296 / 2 ^ i : Nat) : Int) := by rw [k.lo]; norm_cast
  have hle : n % 4294967296 / 2 ^ i ≤ n % 4294967296 := Nat.div_le_self _ _
  have key : n % 4294967296 / 2 ^ i % 2 = n / 2 ^ i % 2 := by
    have h1 : (n % 2 ^ 32).testBit i = n.testBit i := by rw [Nat.testBit_mod_two_pow]; simp [hi]
    rw [Nat.testBit_eq_decide_div_mod_eq, Nat.testBit_eq_decide_div_mod_eq] at h1
    have a1 : n % 2 ^ 32 / 2 ^ i % 2 < 2 := Nat.mod_lt _ (by omega)
    have a2 : n / 2 ^ i % 2 < 2 := Nat.mod_lt _ (by omega)
    show n % 2 ^ 32 / 2 ^ i % 2 = _
    have := decide_eq_decide.1 h1
    omega
  have hlt := k.lt
  obtain ⟨q, hq⟩ : ∃ q : Nat, n % 4294967296 / 2 ^ i = q := ⟨_, rfl⟩
  rw [hq] at e hle key
  rw [e, i64_mask1 _ (by omega) (by omega), ← key]
  omega
theorem isH_bit_high {h l : Int} {n : Nat} (k : IsH h l n) (i : Nat) (hi : 32 ≤ i) : bits .and .i64 (h / 2 ^ (i - 32)) 1 = ((n / 2 ^ i % 2 : Nat) : Int) := by
  have hb := k.bds
  have e : h / 2 ^ (i - 32) = ((n / 4294967296 / 2 ^ (i - 32) : Nat) : Int) := by rw [k.hi]; norm_cast
  have hle : n / 4294967296 / 2 ^ (i - 32) ≤ n / 4294967296 := Nat.div_le_self _ _
  have key : n / 4294967296 / 2 ^ (i - 32) = n / 2 ^ i := by
    rw [Nat.div_div_eq_div_mul, show (4294967296 : Nat) = 2 ^ 32 from rfl, ← Nat.pow_add, show 32 + (i - 32) = i by omega]
  have hlt := k.lt
  rw [key] at e hle
  obtain ⟨q, hq⟩ : ∃ q : Nat, n / 2 ^ i = q := ⟨_, rfl⟩
  rw [hq] at e hle ⊢
  rw [e, i64_mask1 _ (by omega) (by omega)]
  omega
end Go.Proofs.Ytkfilgfcgmohlaa
namespace Go.Proofs.Ytkfilgfcgmohlaa
open Go.RowKit
set_option maxHeartbeats 400000 in
theorem plus_any (ah al bh bl : Int) (a b : Nat) (w : World) (ha : IsH ah al a) (hb : IsH bh bl b) :
    Calls Try.prog 42 #[.agg #[.int .i64 ah, .int .i64 al], .agg #[.int .i64 bh, .int .i64 bl]] w fun e w' =>
      ∃ h l, e = .returned (.agg #[.int .i64 h, .int .i64 l]) ∧ IsH h l ((a + b) % 18446744073709551616) ∧ Below w.heap.size w w' := by
  have HF : Hid (IsH _ _ _) := isH_plus ha hb
  obtain ⟨h1, h2, h3, h4⟩ := ha.bds
  obtain ⟨h5, h6, h7, h8⟩ := hb.bds
  clear ha hb
  go_enter Try.func42, Try.ntmps42
  go_wp2
  exact bodyPost_ret (v := .agg #[.int .i64 _, .int .i64 _]) (by simp [results, Try.results42, go_sem]) rfl ⟨_, _, rfl, HF.out, (((Below.refl _ _).alloc (Nat.le_refl _) _).alloc (by simp) _).alloc (by simp; omega) _⟩
set_option maxHeartbeats 400000 in
theorem mixed_any (ah al bh bl : Int) (a b : Nat) (w : World) (ha : IsH ah al a) (hb : IsH bh bl b) :
    Calls Try.prog 59 #[.agg #[.int .i64 ah, .int .i64 al], .agg #[.int .i64 bh, .int .i64 bl]] w fun e w' =>
      ∃ h l, e = .returned (.agg #[.int .i64 h, .int .i64 l]) ∧ IsH h l (a ^^^ b) ∧ Below w.heap.size w w' := by
  have HF : Hid (IsH _ _ _) := isH_mixed ha hb
  clear ha hb
  go_enter Try.func59, Try.ntmps59
  go_wp2
  exact bodyPost_ret (v := .agg #[.int .i64 _, .int .i64 _]) (by simp [results, Try.results59, go_sem]) rfl ⟨_, _, rfl, HF.out, (((Below.refl _ _).alloc (Nat.le_refl _) _).alloc (by simp) _).alloc (by simp; omega) _⟩
set_option maxHeartbeats 400000 in
theorem bitOf_any (h l : Int) (n i : Nat) (w : World) (k : IsH h l n) (hi : i < 64) :
    Calls Try.prog 70 #[.agg #[.int .i64 h, .int .i64 l], .int .i64 i] w fun e w' => e = .returned (.int .i64 ((n / 2 ^ i % 2 : Nat) : Int)) ∧ Below w.heap.size w w' := by
  obtain ⟨h1, h2, h3, h4⟩ := k.bds
  have HK : Hid (IsH h l n) := k
  clear k
  by_cases h32 : i < 32
  · go_enter Try.func70, Try.ntmps70
    go_wp2
    go_ret
    exact ⟨ret_int (isH_bit_low HK.out i h32), (Below.refl _ _).alloc (Nat.le_refl _) _⟩
  · go_enter Try.func70, Try.ntmps70
    go_wp2
    go_ret
    exact ⟨ret_int (isH_bit_high HK.out i (by omega)), (Below.refl _ _).alloc (Nat.le_refl _) _⟩
end Go.Proofs.Ytkfilgfcgmohlaa
namespace Go.Proofs.Ytkfilgfcgmohlaa
/-- what 'moved' has made behind i of its rounds -/
def mv (a k : Nat) (r : Bool) : Nat → Nat
  | 0 => 0
  | i + 1 => if k ≤ i then mv a k r i ||| (a / 2 ^ i % 2) * 2 ^ (i - k) else if r = true then mv a k r i ||| (a / 2 ^ i % 2) * 2 ^ (i + 64 - k) else mv a k r i
theorem bit_lt (a i : Nat) : a / 2 ^ i % 2 < 2 := Nat.mod_lt _ (by omega)
theorem testBit_bit (a i j t : Nat) : ((a / 2 ^ i % 2) * 2 ^ j).testBit t = (decide (t = j) && a.testBit i) := by
  rw [Nat.testBit_eq_decide_div_mod_eq (x := a)]
  have h := bit_lt a i
  obtain ⟨b, hb⟩ : ∃ b, a / 2 ^ i % 2 = b := ⟨_, rfl⟩
  rw [hb] at h ⊢
  rw [Nat.testBit_mul_two_pow]
  match b, h with
  | 0, _ => simp
  | 1, _ =>
    by_cases e : t = j
    · subst e; simp
    · by_cases e2 : j ≤ t
      · obtain ⟨m, hm⟩ : ∃ m, t - j = m + 1 := ⟨t - j - 1, by omega⟩
        rw [hm, Nat.testBit_succ]
        simp [e]
      · simp [e, e2]
theorem mv_testBit (a k : Nat) (r : Bool) (hk : k < 64) : ∀ i, i ≤ 64 → ∀ t, (mv a k r i).testBit t = (decide (t < 64) && (if t + k < 64 then decide (t + k < i) && a.testBit (t + k) else r && decide (t + k - 64 < i) && a.testBit (t + k - 64)))
  | 0, _, t => by simp [mv]
  | i + 1, hi, t => by
    have ih := mv_testBit a k r hk i (by omega) t
    simp only [mv]
    by_cases h1 : k ≤ i
    · rw [if_pos h1, Nat.testBit_or, testBit_bit, ih]
      by_cases e : t = i - k
      · have e1 : t < 64 := by omega
        have e2 : t + k < 64 := by omega
        have e3 : t + k = i := by omega
        have d1 : decide (t < 64) = true := decide_eq_true e1
        have d2 : decide (t = i - k) = true := decide_eq_true e
        rw [d1, d2, if_pos e2, if_pos e2, e3]
        simp
      · by_cases c : t + k < 64
        · have : decide (t + k < i + 1) = decide (t + k < i) := by simp; omega
          simp [e, c, this]
        · have : decide (t + k - 64 < i + 1) = decide (t + k - 64 < i) ∨ ¬ t < 64 := by
            by_cases c2 : t < 64
            · left; simp; omega
            · right; exact c2
          rcases this with h | h
          · simp [e, c, h]
          · simp [e, c, h]
    · rw [if_neg h1]
      cases r with
      | false =>
        simp only [Bool.false_eq_true, if_false]
        rw [ih]
        by_cases c : t + k < 64
        · have : decide (t + k < i + 1) = decide (t + k < i) := by simp; omega
          simp [c, this]
        · simp [c]
      | true =>
        simp only [if_true]
        rw [Nat.testBit_or, testBit_bit, ih]
        by_cases e : t = i + 64 - k
        · have e1 : t < 64 := by omega
          have e2 : ¬ t + k < 64 := by omega
          have e3 : t + k - 64 = i := by omega
          simp [e1, e2, e3]
          simp [e]
        · by_cases c : t + k < 64
          · have : decide (t + k < i + 1) = decide (t + k < i) := by simp; omega
            simp [e, c, this]
          · have : decide (t + k - 64 < i + 1) = decide (t + k - 64 < i) := by simp; omega
            simp [e, c, this]
theorem mv_lt (a k : Nat) (r : Bool) (hk : k < 64) (i : Nat) (hi : i ≤ 64) : mv a k r i < 18446744073709551616 := by
  show _ < 2 ^ 64
  exact Nat.lt_pow_two_of_testBit _ (fun t ht => by rw [mv_testBit a k r hk i hi]; simp; omega)
theorem mv_down (a k : Nat) (ha : a < 18446744073709551616) (hk : k < 64) : mv a k false 64 = a / 2 ^ k := by
  apply Nat.eq_of_testBit_eq
  intro t
  rw [mv_testBit a k false hk 64 (by omega), ← Nat.shiftRight_eq_div_pow, Nat.testBit_shiftRight, Nat.add_comm k t]
  by_cases c : t + k < 64
  · have : t < 64 := by omega
    simp [c, this]
  · have : a.testBit (t + k) = false := Nat.testBit_lt_two_pow (Nat.lt_of_lt_of_le ha (Nat.pow_le_pow_right (n := 2) (by omega) (show 64 ≤ t + k by omega)))
    simp [c, this]
/-- the bits turned k places up -/
def rolN (x k : Nat) : Nat := x * 2 ^ k % 18446744073709551616 ||| x / 2 ^ (64 - k)
theorem mv_round (a k : Nat) (ha : a < 18446744073709551616) (h1 : 1 ≤ k) (h2 : k ≤ 63) : mv a (64 - k) true 64 = rolN a k := by
  apply Nat.eq_of_testBit_eq
  intro t
  unfold rolN
  rw [mv_testBit a (64 - k) true (by omega) 64 (by omega), Nat.testBit_or, show (18446744073709551616 : Nat) = 2 ^ 64 from rfl, Nat.testBit_mod_two_pow, Nat.testBit_mul_two_pow, ← Nat.shiftRight_eq_div_pow, Nat.testBit_shiftRight]
  by_cases c : t + (64 - k) < 64
  · have c1 : t < 64 := by omega
    have c2 : ¬ k ≤ t := by omega
    simp [c, c1, c2, Nat.add_comm]
  · by_cases c1 : t < 64
    · have c2 : k ≤ t := by omega
      have c3 : t + (64 - k) - 64 = t - k := by omega
      have c4 : t - k < 64 := by omega
      have : a.testBit (64 - k + t) = false := Nat.testBit_lt_two_pow (Nat.lt_of_lt_of_le ha (Nat.pow_le_pow_right (n := 2) (by omega) (show 64 ≤ 64 - k + t by omega)))
      simp [c, c1, c2, c3, c4, this]
    · have : a.testBit (64 - k + t) = false := Nat.testBit_lt_two_pow (Nat.lt_of_lt_of_le ha (Nat.pow_le_pow_right (n := 2) (by omega) (show 64 ≤ 64 - k + t by omega)))
      simp [c1, this]
theorem rolN_lt (x k : Nat) (h : x < 18446744073709551616) : rolN x k < 18446744073709551616 := by
  unfold rolN
  exact Nat.or_lt_two_pow (n := 64) (Nat.mod_lt _ (by omega)) (Nat.lt_of_le_of_lt (Nat.div_le_self _ _) h)
theorem isH_or_low {h l : Int} {n : Nat} (k : IsH h l n) (b j : Nat) (hb : b < 2) (hj : j < 32) : IsH h (bits .or .i64 l ((b : Int) * 2 ^ j)) (n ||| b * 2 ^ j) := by
  have hlt := k.lt
  have h2 : 2 ^ j ≤ 2 ^ 31 := Nat.pow_le_pow_right (by omega) (by omega)
  have hs : b * 2 ^ j < 4294967296 := by
    match b, hb with
    | 0, _ => omega
    | 1, _ => omega
  have e : ((b : Int) * 2 ^ j) = ((b * 2 ^ j : Nat) : Int) := by norm_cast
  rw [k.lo, e, i64_or _ _ (by omega) (by omega)]
  refine ⟨?_, ?_, Nat.or_lt_two_pow (n := 64) hlt (by omega)⟩
  · rw [k.hi]; congr 1
    rw [show (4294967296 : Nat) = 2 ^ 32 from rfl, ← Nat.shiftRight_eq_div_pow, ← Nat.shiftRight_eq_div_pow, Nat.shiftRight_or_distrib, Nat.shiftRight_eq_div_pow (b * 2 ^ j), Nat.div_eq_of_lt (a := b * 2 ^ j) hs, Nat.or_zero]
  · congr 1
    rw [show (4294967296 : Nat) = 2 ^ 32 from rfl, Nat.or_mod_two_pow, Nat.mod_eq_of_lt (a := b * 2 ^ j) hs]
theorem isH_or_high {h l : Int} {n : Nat} (k : IsH h l n) (b j : Nat) (hb : b < 2) (hj : 32 ≤ j) (hj2 : j < 64) : IsH (bits .or .i64 h ((b : Int) * 2 ^ (j - 32))) l (n ||| b * 2 ^ j) := by
  have hlt := k.lt
  have h2 : 2 ^ (j - 32) ≤ 2 ^ 31 := Nat.pow_le_pow_right (by omega) (by omega)
  have hs : b * 2 ^ (j - 32) < 4294967296 := by
    match b, hb with
    | 0, _ => omega
    | 1, _ => omega
  have e : ((b : Int) * 2 ^ (j - 32)) = ((b * 2 ^ (j - 32) : Nat) : Int) := by norm_cast
  have e2 : b * 2 ^ j = b * 2 ^ (j - 32) * 2 ^ 32 := by rw [Nat.mul_assoc, ← Nat.pow_add, show j - 32 + 32 = j by omega]
  rw [k.hi, e, i64_or _ _ (by omega) (by omega), e2]
  refine ⟨?_, ?_, Nat.or_lt_two_pow (n := 64) hlt (by omega)⟩
  · congr 1
    rw [show (4294967296 : Nat) = 2 ^ 32 from rfl, ← Nat.shiftRight_eq_div_pow, ← Nat.shiftRight_eq_div_pow, Nat.shiftRight_or_distrib, Nat.shiftRight_eq_div_pow (b * 2 ^ (j - 32) * 2 ^ 32), Nat.mul_div_cancel _ (by omega)]
  · rw [k.lo]; congr 1
    rw [show (4294967296 : Nat) = 2 ^ 32 from rfl, Nat.or_mod_two_pow, Nat.mul_mod_left, Nat.or_zero]
end Go.Proofs.Ytkfilgfcgmohlaa
namespace Go.Proofs.Ytkfilgfcgmohlaa
open Go.RowKit
/-- what 'moved' holds in memory behind some rounds -/
structure MvAt (B : Nat) (w wr : World) (ah al : Int) (n : Nat) : Prop where
  a0 : wr.cell? ⟨B, 0, none⟩ = some (.int .i64 ah)
  a1 : wr.cell? ⟨B, 1, none⟩ = some (.int .i64 al)
  r0 : wr.cell? ⟨B + 1, 0, none⟩ = some (.int .i64 0)
  r1 : wr.cell? ⟨B + 1, 1, none⟩ = some (.int .i64 0)
  rf : ∀ i, wr.frozen? ⟨B + 1, i, none⟩ = false
  of : ∀ i, wr.frozen? ⟨B + 1 + 1, i, none⟩ = false
  out : ∃ h l, wr.cell? ⟨B + 1 + 1, 0, none⟩ = some (.int .i64 h) ∧ wr.cell? ⟨B + 1 + 1, 1, none⟩ = some (.int .i64 l) ∧ IsH h l n
  bel : Below B w wr
  size : B + 3 ≤ wr.heap.size
theorem MvAt.later {B : Nat} {w wr w1 : World} {ah al : Int} {n : Nat} (h : MvAt B w wr ah al n) (hb : Below wr.heap.size wr w1) : MvAt B w w1 ah al n := by
  have hs := h.size
  obtain ⟨x, y, o0, o1, hH⟩ := h.out
  exact ⟨(hb.cell (p := ⟨B, 0, none⟩) (by dsimp only; omega)).trans h.a0, (hb.cell (p := ⟨B, 1, none⟩) (by dsimp only; omega)).trans h.a1, (hb.cell (p := ⟨B + 1, 0, none⟩) (by dsimp only; omega)).trans h.r0, (hb.cell (p := ⟨B + 1, 1, none⟩) (by dsimp only; omega)).trans h.r1,
    fun i => (hb.frozen (p := ⟨B + 1, i, none⟩) (by dsimp only; omega)).trans (h.rf i), fun i => (hb.frozen (p := ⟨B + 1 + 1, i, none⟩) (by dsimp only; omega)).trans (h.of i),
    ⟨x, y, (hb.cell (p := ⟨B + 1 + 1, 0, none⟩) (by dsimp only; omega)).trans o0, (hb.cell (p := ⟨B + 1 + 1, 1, none⟩) (by dsimp only; omega)).trans o1, hH⟩, h.bel.trans (hb.mono (by omega)), Nat.le_trans hs hb.size⟩
theorem blk_ne {b c i j : Nat} (h : b ≠ c) : (⟨b, i, none⟩ : Addr) ≠ ⟨c, j, none⟩ := fun e => h (by injection e)
theorem MvAt.set {B : Nat} {w wr : World} {ah al : Int} {n : Nat} (h : MvAt B w wr ah al n) (i : Nat) (v : Value) (m : Nat)
    (ho : ∃ x y, (wr.setCell ⟨B + 1 + 1, i, none⟩ v).cell? ⟨B + 1 + 1, 0, none⟩ = some (.int .i64 x) ∧ (wr.setCell ⟨B + 1 + 1, i, none⟩ v).cell? ⟨B + 1 + 1, 1, none⟩ = some (.int .i64 y) ∧ IsH x y m) :
    MvAt B w (wr.setCell ⟨B + 1 + 1, i, none⟩ v).drew ah al m := by
  have hs := h.size
  exact ⟨by rw [World.cell?_drew, cs_other (blk_ne (by omega))]; exact h.a0, by rw [World.cell?_drew, cs_other (blk_ne (by omega))]; exact h.a1, by rw [World.cell?_drew, cs_other (blk_ne (by omega))]; exact h.r0, by rw [World.cell?_drew, cs_other (blk_ne (by omega))]; exact h.r1,
    fun j => by rw [World.frozen?_drew, World.frozen?_setCell]; exact h.rf j, fun j => by rw [World.frozen?_drew, World.frozen?_setCell]; exact h.of j, ho, (h.bel.setCell (by dsimp only; omega) _).drew, by rw [World.size_drew, World.size_setCell]; exact hs⟩
theorem MvAt.low {B : Nat} {w wr : World} {ah al x y : Int} {n : Nat} (h : MvAt B w wr ah al n) (o0 : wr.cell? ⟨B + 1 + 1, 0, none⟩ = some (.int .i64 x)) (o1 : wr.cell? ⟨B + 1 + 1, 1, none⟩ = some (.int .i64 y)) (hH : IsH x y n) (b j : Nat) (hb : b < 2) (hj : j < 32) :
    MvAt B w (wr.setCell ⟨B + 1 + 1, 1, none⟩ (.int .i64 (bits .or .i64 y ((b : Int) * 2 ^ j)))).drew ah al (n ||| b * 2 ^ j) :=
  h.set 1 _ _ ⟨x, _, by rw [cs_other (addr_ne (by omega))]; exact o0, cs_same o1, isH_or_low hH b j hb hj⟩
theorem MvAt.high {B : Nat} {w wr : World} {ah al x y : Int} {n : Nat} (h : MvAt B w wr ah al n) (o0 : wr.cell? ⟨B + 1 + 1, 0, none⟩ = some (.int .i64 x)) (o1 : wr.cell? ⟨B + 1 + 1, 1, none⟩ = some (.int .i64 y)) (hH : IsH x y n) (b j : Nat) (hb : b < 2) (hj : 32 ≤ j) (hj2 : j < 64) :
    MvAt B w (wr.setCell ⟨B + 1 + 1, 0, none⟩ (.int .i64 (bits .or .i64 x ((b : Int) * 2 ^ (j - 32))))).drew ah al (n ||| b * 2 ^ j) :=
  h.set 0 _ _ ⟨_, y, cs_same o0, by rw [cs_other (addr_ne (by omega))]; exact o1, isH_or_high hH b j hb hj hj2⟩
theorem MvAt.start (w : World) (ah al : Int) (t : TypeId) :
    MvAt w.heap.size w (((w.alloc (.cells #[.int .i64 ah, .int .i64 al] t)).alloc (.cells #[.int .i64 0, .int .i64 0] t)).alloc (.cells #[.int .i64 0, .int .i64 0] t)) ah al 0 := by
  refine ⟨?_, ?_, ?_, ?_, fun i => ?_, fun i => ?_, ⟨0, 0, ?_, ?_, ⟨by simp, by simp, by omega⟩⟩, (((Below.refl _ _).alloc (Nat.le_refl _) _).alloc (by simp) _).alloc (by simp; omega) _, by simp⟩
  · rw [World.cell?_alloc_past _ _ _ (by simp; omega), World.cell?_alloc_past _ _ _ (by simp), World.cell?_alloc_new]; rfl
  · rw [World.cell?_alloc_past _ _ _ (by simp; omega), World.cell?_alloc_past _ _ _ (by simp), World.cell?_alloc_new]; rfl
  · rw [World.cell?_alloc_past _ _ _ (by simp), World.cell?_alloc_at _ _ _ _ (by simp)]; rfl
  · rw [World.cell?_alloc_past _ _ _ (by simp), World.cell?_alloc_at _ _ _ _ (by simp)]; rfl
  · rw [World.frozen?_alloc_past _ _ _ (by simp), World.frozen?_alloc_at _ _ _ _ (by simp)]
  · rw [World.frozen?_alloc_at _ _ _ _ (by simp)]
  · rw [World.cell?_alloc_at _ _ _ _ (by simp)]; rfl
  · rw [World.cell?_alloc_at _ _ _ _ (by simp)]; rfl
theorem mv_ge (a k i : Nat) (r : Bool) (h : k ≤ i) : mv a k r (i + 1) = mv a k r i ||| (a / 2 ^ i % 2) * 2 ^ (i - k) := by simp [mv, h]
theorem mv_rd (a k i : Nat) (h : ¬ k ≤ i) : mv a k true (i + 1) = mv a k true i ||| (a / 2 ^ i % 2) * 2 ^ (i + 64 - k) := by simp [mv, h]
theorem mv_no (a k i : Nat) (h : ¬ k ≤ i) : mv a k false (i + 1) = mv a k false i := by simp [mv, h]
theorem wrap_shl (b j : Nat) (hb : b < 2) (hj : j < 32) : wrap64 ((b : Int) * 2 ^ j) = (b : Int) * 2 ^ j := by
  have h2 : 2 ^ j ≤ 2 ^ 31 := Nat.pow_le_pow_right (by omega) (by omega)
  have e : ((b : Int) * 2 ^ j) = ((b * 2 ^ j : Nat) : Int) := by norm_cast
  have hs : b * 2 ^ j < 4294967296 := by
    match b, hb with
    | 0, _ => omega
    | 1, _ => omega
  rw [e]; unfold wrap64; omega
set_option maxRecDepth 100000 in
set_option maxHeartbeats 1000000 in
theorem moved_any (ah al : Int) (a : Nat) (k : Int) (r : Bool) (w : World) (ha : IsH ah al a) (hk1 : 1 ≤ k) (hk2 : k ≤ 63) :
    Calls Try.prog 60 #[.agg #[.int .i64 ah, .int .i64 al], .int .i64 k, .bool r] w fun e w' =>
      ∃ h l, e = .returned (.agg #[.int .i64 h, .int .i64 l]) ∧ IsH h l (mv a k.toNat r 64) ∧ Below w.heap.size w w' := by
  obtain ⟨k, rfl⟩ := Int.eq_ofNat_of_zero_le (show 0 ≤ k by omega)
  rw [Int.toNat_natCast]
  have HA : Hid (IsH ah al a) := ha
  clear ha
  go_enter Try.func60, Try.ntmps60
  go_wp2
  go_loopw [8] (fun iv wr => ∃ i : Nat, i ≤ 64 ∧ iv = .int .i64 i ∧ MvAt w.heap.size w wr ah al (mv a k r i)) (fun iv _ => (64 - intOf iv).toNat)
  case atStart => exact ⟨0, by omega, rfl, MvAt.start w ah al _⟩
  case round =>
    obtain ⟨i, hi, rfl, hm⟩ := hrel
    by_cases hlt : i < 64
    · have c0 := hm.a0
      have c1 := hm.a1
      have HM : Hid (MvAt w.heap.size w wr ah al (mv a k r i)) := hm
      clear hm
      by_cases hki : k ≤ i
      · go_wp2_with fail
        refine (bitOf_any ah al a i _ HA.out (by omega)).mono ?_
        rintro e w1 ⟨rfl, hb⟩
        have hm := HM.out.later hb
        obtain ⟨x, y, o0, o1, hH⟩ := hm.out
        have f0 := hm.of 0
        have f1 := hm.of 1
        have HM2 : Hid (MvAt w.heap.size w w1 ah al (mv a k r i)) := hm
        have HH : Hid (IsH x y (mv a k r i)) := hH
        obtain ⟨bt, hbt⟩ : ∃ bt, bt = a / 2 ^ i % 2 := ⟨_, rfl⟩
        have hb2 : bt < 2 := by rw [hbt]; exact bit_lt a i
        have HE : Hid (mv a k r (i + 1) = mv a k r i ||| bt * 2 ^ (i - k)) := by rw [hbt]; exact mv_ge a k i r hki
        rw [← hbt]
        clear hbt hm hH hb c0 c1
        by_cases hj : i - k < 32
        · go_wp2
          go_region
          all_goals go_wp2
          rw [wrap_shl bt (i - k) hb2 hj]
          exact ⟨⟨i + 1, by omega, by go_num, by rw [HE.out]; exact HM2.out.low o0 o1 HH.out bt (i - k) hb2 hj⟩, by simp [intOf]; omega⟩
        · go_wp2
          go_region
          all_goals go_wp2
          rw [wrap_shl bt (i - k - 32) hb2 (by omega)]
          exact ⟨⟨i + 1, by omega, by go_num, by rw [HE.out]; exact HM2.out.high o0 o1 HH.out bt (i - k) hb2 (by omega) (by omega)⟩, by simp [intOf]; omega⟩
      · cases r with
        | false =>
          have HE : Hid (mv a k false (i + 1) = mv a k false i) := mv_no a k i hki
          go_wp2
          exact ⟨⟨i + 1, by omega, by go_num, by rw [HE.out]; exact HM.out⟩, by simp [intOf]; omega⟩
        | true =>
          go_wp2_with fail
          refine (bitOf_any ah al a i _ HA.out (by omega)).mono ?_
          rintro e w1 ⟨rfl, hb⟩
          have hm := HM.out.later hb
          obtain ⟨x, y, o0, o1, hH⟩ := hm.out
          have f0 := hm.of 0
          have f1 := hm.of 1
          have HM2 : Hid (MvAt w.heap.size w w1 ah al (mv a k true i)) := hm
          have HH : Hid (IsH x y (mv a k true i)) := hH
          obtain ⟨bt, hbt⟩ : ∃ bt, bt = a / 2 ^ i % 2 := ⟨_, rfl⟩
          have hb2 : bt < 2 := by rw [hbt]; exact bit_lt a i
          have HE : Hid (mv a k true (i + 1) = mv a k true i ||| bt * 2 ^ (i + 64 - k)) := by rw [hbt]; exact mv_rd a k i hki
          rw [← hbt]
          clear hbt hm hH hb c0 c1
          by_cases hj : i + 64 - k < 32
          · go_wp2
            go_region
            all_goals go_wp2
            rw [show ((i : Int) - (k : Int) + 64).toNat = i + 64 - k by omega, wrap_shl bt (i + 64 - k) hb2 hj]
            exact ⟨⟨i + 1, by omega, by go_num, by rw [HE.out]; exact HM2.out.low o0 o1 HH.out bt (i + 64 - k) hb2 hj⟩, by simp [intOf]; omega⟩
          · go_wp2
            go_region
            all_goals go_wp2
            rw [show ((i : Int) - (k : Int) + 64 - 32).toNat = i + 64 - k - 32 by omega, wrap_shl bt (i + 64 - k - 32) hb2 (by omega)]
            exact ⟨⟨i + 1, by omega, by go_num, by rw [HE.out]; exact HM2.out.high o0 o1 HH.out bt (i + 64 - k) hb2 (by omega) (by omega)⟩, by simp [intOf]; omega⟩
    · obtain rfl : i = 64 := by omega
      obtain ⟨x, y, o0, o1, hH⟩ := hm.out
      have r0 := hm.r0
      have r1 := hm.r1
      have f0 := hm.rf 0
      have f1 := hm.rf 1
      have HB : Hid (Below w.heap.size w wr) := hm.bel
      have HH : Hid (IsH x y (mv a k r 64)) := hH
      clear hm hH
      go_wp2
      have q0 : ((wr.setCell ⟨w.heap.size + 1, 0, none⟩ (.int .i64 x)).setCell ⟨w.heap.size + 1, 1, none⟩ (.int .i64 y)).cell? ⟨w.heap.size + 1, 0, none⟩ = some (.int .i64 x) := by
        rw [cs_other (addr_ne (by omega))]; exact cs_same r0
      have q1 : ((wr.setCell ⟨w.heap.size + 1, 0, none⟩ (.int .i64 x)).setCell ⟨w.heap.size + 1, 1, none⟩ (.int .i64 y)).cell? ⟨w.heap.size + 1, 1, none⟩ = some (.int .i64 y) := by
        exact cs_same (by rw [cs_other (addr_ne (by omega))]; exact r1)
      exact bodyPost_ret (v := .agg #[.int .i64 x, .int .i64 y]) (by simp [results, Try.results60, go_sem, q0, q1]) rfl ⟨x, y, rfl, HH.out, (HB.out.setCell (by dsimp only; omega) _).setCell (by dsimp only; omega) _⟩
end Go.Proofs.Ytkfilgfcgmohlaa
namespace Go.Proofs.Ytkfilgfcgmohlaa
open Go.RowKit
theorem bcell {W w1 : World} (hb : Below W.heap.size W w1) : (∀ b o, b < W.heap.size → w1.cell? ⟨b, o, none⟩ = W.cell? ⟨b, o, none⟩) ∧ (∀ b o, b < W.heap.size → w1.frozen? ⟨b, o, none⟩ = W.frozen? ⟨b, o, none⟩) :=
  ⟨fun b o h => hb.cell (p := ⟨b, o, none⟩) h, fun b o h => hb.frozen (p := ⟨b, o, none⟩) h⟩
def primeN (k : Nat) : Nat := if k = 1 then 11400714785074694791 else if k = 2 then 14029467366897019727 else if k = 3 then 1609587929392839161 else if k = 4 then 9650029242287828579 else 2870177450012600261
set_option maxRecDepth 100000 in
set_option maxHeartbeats 1000000 in
theorem prime_any (k : Int) (w : World) (h1 : 1 ≤ k) (h5 : k ≤ 5) :
    Calls Try.prog 40 #[.int .i64 k] w fun e w' =>
      ∃ h l, e = .returned (.agg #[.int .i64 h, .int .i64 l]) ∧ IsH h l (primeN k.toNat) ∧ Below w.heap.size w w' := by
  have hk : k = 1 ∨ k = 2 ∨ k = 3 ∨ k = 4 ∨ k = 5 := by omega
  clear h1 h5
  rcases hk with rfl | rfl | rfl | rfl | rfl
  · go_enter Try.func40, Try.ntmps40
    go_wp2
    exact bodyPost_ret (v := .agg #[.int .i64 2654435761, .int .i64 2246822535]) (by simp [results, Try.results40, go_sem]) rfl ⟨2654435761, 2246822535, rfl, ⟨by decide, by decide, by decide⟩, (Below.refl _ _).alloc (Nat.le_refl _) _⟩
  · go_enter Try.func40, Try.ntmps40
    go_wp2
    exact bodyPost_ret (v := .agg #[.int .i64 3266489917, .int .i64 668265295]) (by simp [results, Try.results40, go_sem]) rfl ⟨3266489917, 668265295, rfl, ⟨by decide, by decide, by decide⟩, (Below.refl _ _).alloc (Nat.le_refl _) _⟩
  · go_enter Try.func40, Try.ntmps40
    go_wp2
    exact bodyPost_ret (v := .agg #[.int .i64 374761393, .int .i64 2654435833]) (by simp [results, Try.results40, go_sem]) rfl ⟨374761393, 2654435833, rfl, ⟨by decide, by decide, by decide⟩, (Below.refl _ _).alloc (Nat.le_refl _) _⟩
  · go_enter Try.func40, Try.ntmps40
    go_wp2
    exact bodyPost_ret (v := .agg #[.int .i64 2246822519, .int .i64 3266489955]) (by simp [results, Try.results40, go_sem]) rfl ⟨2246822519, 3266489955, rfl, ⟨by decide, by decide, by decide⟩, (Below.refl _ _).alloc (Nat.le_refl _) _⟩
  · go_enter Try.func40, Try.ntmps40
    go_wp2
    exact bodyPost_ret (v := .agg #[.int .i64 668265263, .int .i64 374761413]) (by simp [results, Try.results40, go_sem]) rfl ⟨668265263, 374761413, rfl, ⟨by decide, by decide, by decide⟩, (Below.refl _ _).alloc (Nat.le_refl _) _⟩
set_option maxRecDepth 100000 in
set_option maxHeartbeats 1000000 in
theorem left_any (ah al : Int) (a : Nat) (k : Int) (w : World) (ha : IsH ah al a) (hk1 : 1 ≤ k) (hk2 : k ≤ 63) :
    Calls Try.prog 58 #[.agg #[.int .i64 ah, .int .i64 al], .int .i64 k] w fun e w' =>
      ∃ h l, e = .returned (.agg #[.int .i64 h, .int .i64 l]) ∧ IsH h l (rolN a k.toNat) ∧ Below w.heap.size w w' := by
  have HA : Hid (IsH ah al a) := ha
  have HR : Hid (mv a (64 - k).toNat true 64 = rolN a k.toNat) := by
    rw [show (64 - k).toNat = 64 - k.toNat by omega]; exact mv_round a k.toNat ha.lt (by omega) (by omega)
  clear ha
  go_enter Try.func58, Try.ntmps58
  go_wp2_with fail
  refine (moved_any ah al a _ true _ HA.out (by omega) (by omega)).mono ?_
  rintro e w1 ⟨h, l, rfl, hH, hb⟩
  rw [HR.out] at hH
  have HH : Hid (IsH h l (rolN a k.toNat)) := hH
  have hsz : w.heap.size + 1 < w1.heap.size := by have := hb.size; simp at this; omega
  obtain ⟨hc, hf⟩ := bcell hb
  have HB : Hid (Below w.heap.size w w1) := ((((Below.refl _ _).alloc (Nat.le_refl _) _).alloc (by simp) _)).trans (hb.mono (by simp; omega))
  clear hH hb
  go_wp2
  have r0 : w1.cell? ⟨w.heap.size + 1, 0, none⟩ = some (.int .i64 0) := by rw [hc _ _ (by simp)]; simp
  have r1 : w1.cell? ⟨w.heap.size + 1, 1, none⟩ = some (.int .i64 0) := by rw [hc _ _ (by simp)]; simp
  have q0 : ((w1.setCell ⟨w.heap.size + 1, 0, none⟩ (.int .i64 h)).setCell ⟨w.heap.size + 1, 1, none⟩ (.int .i64 l)).cell? ⟨w.heap.size + 1, 0, none⟩ = some (.int .i64 h) := by
    rw [cs_other (addr_ne (by omega))]; exact cs_same r0
  have q1 : ((w1.setCell ⟨w.heap.size + 1, 0, none⟩ (.int .i64 h)).setCell ⟨w.heap.size + 1, 1, none⟩ (.int .i64 l)).cell? ⟨w.heap.size + 1, 1, none⟩ = some (.int .i64 l) := by
    exact cs_same (by rw [cs_other (addr_ne (by omega))]; exact r1)
  exact bodyPost_ret (v := .agg #[.int .i64 h, .int .i64 l]) (by simp [results, Try.results58, go_sem, q0, q1]) rfl ⟨h, l, rfl, HH.out, (HB.out.setCell (by dsimp only; omega) _).setCell (by dsimp only; omega) _⟩
end Go.Proofs.Ytkfilgfcgmohlaa
