import Derived.Test.YtbdndhiamihloaaSpec
import Derived.WalkKit
import Derived.Deep.MidRow
namespace Go.Proofs.Ytbdndhiamihloaa
open Go.RowKit
/-- w' is w but for block b and new blocks. -/
structure Upd (b : Nat) (w w' : World) : Prop where
  os : w'.os = w.os
  tape : w'.tape = w.tape
  output : w'.output = w.output
  size : w.heap.size ≤ w'.heap.size
  block : ∀ k, k < w.heap.size → k ≠ b → w'.heap[k]? = w.heap[k]?
theorem Upd.refl (b : Nat) (w : World) : Upd b w w := ⟨rfl, rfl, rfl, Nat.le_refl _, fun _ _ _ => rfl⟩
theorem Upd.trans {b : Nat} {w w1 w2 : World} (h : Upd b w w1) (k : Upd b w1 w2) : Upd b w w2 :=
  ⟨k.os.trans h.os, k.tape.trans h.tape, k.output.trans h.output, Nat.le_trans h.size k.size, fun i hi hb => (k.block i (Nat.lt_of_lt_of_le hi h.size) hb).trans (h.block i hi hb)⟩
theorem Upd.drew {b : Nat} {w w1 : World} (h : Upd b w w1) : Upd b w w1.drew := ⟨h.os, h.tape, h.output, h.size, h.block⟩
theorem Upd.alloc {b : Nat} {w w1 : World} (h : Upd b w w1) (o : Obj) : Upd b w (w1.alloc o) :=
  h.trans ⟨rfl, rfl, rfl, by simp, fun k hk _ => Below.heap_alloc _ _ _ hk⟩
theorem Upd.setCell {b : Nat} {w w1 : World} (h : Upd b w w1) (i : Nat) (v : Value) : Upd b w (w1.setCell ⟨b, i, none⟩ v) :=
  h.trans ⟨rfl, rfl, rfl, by simp [World.setCell], fun k _ hb => Below.heap_setCell _ _ _ _ hb⟩
theorem Upd.setCells {b : Nat} {w : World} : ∀ (vs : List Value) (o : Nat) {w1 : World}, Upd b w w1 → Upd b w (w1.setCells b o vs)
  | [], _, _, h => h
  | v :: r, o, _, h => by rw [World.setCells]; exact Upd.setCells r (o + 1) (h.setCell o v)
theorem Upd.below {b B : Nat} {w w1 : World} (h : Upd b w w1) (hB : B ≤ b) (hs : B ≤ w.heap.size) : Below B w w1 :=
  ⟨h.os, h.tape, h.output, h.size, fun k hk => h.block k (by omega) (by omega)⟩
theorem Upd.cell {b : Nat} {w w1 : World} (h : Upd b w w1) {p : Addr} (hp : p.block < w.heap.size) (hb : p.block ≠ b) : w1.cell? p = w.cell? p := World.cell?_of_block (w := w) (h.block p.block hp hb)
theorem Upd.frozen {b : Nat} {w w1 : World} (h : Upd b w w1) {p : Addr} (hp : p.block < w.heap.size) (hb : p.block ≠ b) : w1.frozen? p = w.frozen? p := World.frozen?_of_block (w := w) (h.block p.block hp hb)
def upd (f : Nat → Int) (k : Nat) (v : Int) : Nat → Int := fun i => if i = k then v else f i
theorem upd_same (f : Nat → Int) (k : Nat) (v : Int) : upd f k v k = v := by simp [upd]
theorem upd_other (f : Nat → Int) (k : Nat) (v : Int) (i : Nat) (h : i ≠ k) : upd f k v i = f i := by simp [upd, h]
theorem SumAt.lt {w : World} {b : Nat} {L R : Nat → Int} {c : Int} (h : SumAt w b L R c) : b < w.heap.size := block_lt_of_cell h.count
theorem SumAt.of_cells {w w' : World} {b : Nat} {L R : Nat → Int} {c : Int} (h : SumAt w b L R c) (hb : w'.heap[b]? = w.heap[b]?) : SumAt w' b L R c :=
  ⟨fun k hk => (World.cell?_of_block (w := w) (a := ⟨b, k, none⟩) hb).trans (h.lane k hk), fun i hi => (World.cell?_of_block (w := w) (a := ⟨b, 4 + i, none⟩) hb).trans (h.rest i hi),
   (World.cell?_of_block (w := w) (a := ⟨b, 36, none⟩) hb).trans h.count, fun i => (World.frozen?_of_block (w := w) (a := ⟨b, i, none⟩) hb).trans (h.free i), h.small⟩
theorem SumAt.drew {w : World} {b : Nat} {L R : Nat → Int} {c : Int} (h : SumAt w b L R c) : SumAt w.drew b L R c := h.of_cells rfl
theorem SumAt.alloc {w : World} {b : Nat} {L R : Nat → Int} {c : Int} (h : SumAt w b L R c) (o : Obj) : SumAt (w.alloc o) b L R c := h.of_cells (Below.heap_alloc _ _ _ h.lt)
theorem SumAt.other {w : World} {b : Nat} {L R : Nat → Int} {c : Int} (h : SumAt w b L R c) (p : Addr) (v : Value) (hp : b ≠ p.block) : SumAt (w.setCell p v) b L R c := h.of_cells (Below.heap_setCell _ _ _ _ hp)
theorem SumAt.kept {w w' : World} {b b' : Nat} {L R : Nat → Int} {c : Int} (h : SumAt w b L R c) (hu : Upd b' w w') (hne : b ≠ b') : SumAt w' b L R c := h.of_cells (hu.block b h.lt hne)
theorem cs_same {w : World} {a : Addr} {v u : Value} (h : w.cell? a = some u) : (w.setCell a v).cell? a = some v := World.cell?_setCell_same' w a v (by rw [h]; rfl)
theorem cs_other {w : World} {a b : Addr} {v : Value} (h : a ≠ b) : (w.setCell a v).cell? b = w.cell? b := by apply World.cell?_setCell_other; exact h
theorem addr_ne {b i j : Nat} (h : i ≠ j) : (⟨b, i, none⟩ : Addr) ≠ ⟨b, j, none⟩ := fun e => h (by injection e)
theorem SumAt.setLane {w : World} {b : Nat} {L R : Nat → Int} {c : Int} (h : SumAt w b L R c) (k : Nat) (hk : k < 4) (v : Int) : SumAt (w.setCell ⟨b, k, none⟩ (.int .u64 v)) b (upd L k v) R c where
  lane i hi := by
    by_cases e : i = k
    · subst e; rw [upd_same]; exact cs_same (h.lane i hi)
    · rw [upd_other _ _ _ _ e, cs_other (addr_ne (by omega))]; exact h.lane i hi
  rest i hi := by rw [cs_other (addr_ne (by omega))]; exact h.rest i hi
  count := by rw [cs_other (addr_ne (by omega))]; exact h.count
  free i := by rw [World.frozen?_setCell]; exact h.free i
  small := h.small
theorem SumAt.setRest {w : World} {b : Nat} {L R : Nat → Int} {c : Int} (h : SumAt w b L R c) (k : Nat) (hk : k < 32) (v : Int) (hv : 0 ≤ v ∧ v < 256) : SumAt (w.setCell ⟨b, 4 + k, none⟩ (.int .u8 v)) b L (upd R k v) c where
  lane i hi := by rw [cs_other (addr_ne (by omega))]; exact h.lane i hi
  rest i hi := by
    by_cases e : i = k
    · subst e; rw [upd_same]; exact cs_same (h.rest i hi)
    · rw [upd_other _ _ _ _ e, cs_other (addr_ne (by omega))]; exact h.rest i hi
  count := by rw [cs_other (addr_ne (by omega))]; exact h.count
  free i := by rw [World.frozen?_setCell]; exact h.free i
  small i := by
    by_cases e : i = k
    · subst e; rw [upd_same]; exact hv
    · rw [upd_other _ _ _ _ e]; exact h.small i
theorem SumAt.setCount {w : World} {b : Nat} {L R : Nat → Int} {c : Int} (h : SumAt w b L R c) (v : Int) : SumAt (w.setCell ⟨b, 36, none⟩ (.int .u64 v)) b L R v where
  lane i hi := by rw [cs_other (addr_ne (by omega))]; exact h.lane i hi
  rest i hi := by rw [cs_other (addr_ne (by omega))]; exact h.rest i hi
  count := cs_same h.count
  free i := by rw [World.frozen?_setCell]; exact h.free i
  small := h.small
/-- the block that firstLanes lays -/
def lanes0 : Array Value := #[.int .u64 (IntKind.u64.wrap 25430182151971714518), .int .u64 14029467366897019727, .int .u64 0, .int .u64 (IntKind.u64.wrap (-11400714785074694791))]
theorem SumAt.there {w : World} {b : Nat} {L R : Nat → Int} {c : Int} (h : SumAt w b L R c) (n : Nat) (hn : n ≤ 37) : w.there b 0 n := fun j hj => by
  rw [Nat.zero_add]
  refine ⟨?_, h.free j⟩
  by_cases h4 : j < 4
  · rw [h.lane j h4]; rfl
  · by_cases h36 : j = 36
    · subst h36; rw [h.count]; rfl
    · have := h.rest (j - 4) (by omega)
      rw [show 4 + (j - 4) = j by omega] at this
      rw [this]; rfl
theorem lanes0_len : lanes0.toList.length = 4 := by simp [lanes0]
theorem lanes0_at (i : Nat) (hi : i < 4) : lanes0.toList[i]? = some (.int .u64 (Xi.lane0 i)) := by
  match i, hi with
  | 0, _ => simp [lanes0, Xi.lane0]
  | 1, _ => simp [lanes0, Xi.lane0]
  | 2, _ => simp [lanes0, Xi.lane0]
  | 3, _ => simp [lanes0, Xi.lane0]
theorem SumAt.setLanes {w : World} {b : Nat} {L R : Nat → Int} {c : Int} (h : SumAt w b L R c) : SumAt (w.setCells b 0 lanes0.toList) b Xi.lane0 R c where
  lane i hi := by
    have hl := lanes0_len
    have := World.cell?_setCells_in b lanes0.toList 0 w (fun j hj => (h.there 4 (by omega) j (by omega)).1) i (by omega)
    rw [Nat.zero_add] at this
    rw [this, ← lanes0_at i hi, List.getElem?_eq_getElem]
  rest i hi := by rw [World.cell?_setCells_out _ _ _ _ _ (fun _ _ => Or.inr (by rw [lanes0_len]; dsimp only; omega))]; exact h.rest i hi
  count := by rw [World.cell?_setCells_out _ _ _ _ _ (fun _ _ => Or.inr (by rw [lanes0_len]; dsimp only; omega))]; exact h.count
  free i := by rw [World.frozen?_setCells]; exact h.free i
  small := h.small
/-- the cells of a sum that has taken nothing -/
def zeros : Array Value := (List.replicate 4 (Value.int .u64 0) ++ List.replicate 32 (Value.int .u8 0) ++ [Value.int .u64 0]).toArray
theorem zeros_size : zeros.size = 37 := by decide
theorem zeros_lane (i : Nat) (hi : i < 4) : zeros[i]? = some (.int .u64 0) := by
  match i, hi with
  | 0, _ => rfl
  | 1, _ => rfl
  | 2, _ => rfl
  | 3, _ => rfl
theorem zeros_rest (i : Nat) (hi : i < 32) : zeros[4 + i]? = some (.int .u8 0) := by
  unfold zeros
  rw [List.getElem?_toArray, List.append_assoc, List.getElem?_append_right (by simp), List.getElem?_append_left (by simp; omega), List.getElem?_replicate]
  simp; omega
theorem zeros_count : zeros[36]? = some (.int .u64 0) := rfl
/-- a block of those cells is the sum of nothing -/
theorem Rep.zero {w : World} {b : Nat} (hc : ∀ i, i < 37 → w.cell? ⟨b, i, none⟩ = zeros[i]?) (hf : ∀ i, w.frozen? ⟨b, i, none⟩ = false) : Rep w b [] (fun _ => 0) (fun _ => 0) where
  cells := ⟨fun k hk => by rw [hc k (by omega), zeros_lane k hk], fun i hi => by rw [hc _ (by omega), zeros_rest i hi], by rw [hc 36 (by omega), zeros_count]; rfl, hf, fun _ => ⟨by omega, by omega⟩⟩
  lanes h := by simp at h
  tail i hi := by simp at hi
theorem SumAt.restart {w : World} {b : Nat} {L R : Nat → Int} {c : Int} (h : SumAt w b L R c) : Rep (w.setCells b 0 zeros.toList) b [] (fun _ => 0) (fun _ => 0) :=
  Rep.zero (fun i hi => by
    have hs := zeros_size
    have := World.cell?_setCells_in b zeros.toList 0 w (fun j hj => (h.there 37 (by omega) j (by simp at hj; omega)).1) i (by simp; omega)
    rw [Nat.zero_add] at this
    rw [this]; simp [hi, hs]) (fun i => by rw [World.frozen?_setCells]; exact h.free i)
theorem Rep.of_cells {w w' : World} {b : Nat} {l : List UInt8} {L R : Nat → Int} (h : Rep w b l L R) (hb : w'.heap[b]? = w.heap[b]?) : Rep w' b l L R := ⟨h.cells.of_cells hb, h.lanes, h.tail⟩
theorem Rep.lt {w : World} {b : Nat} {l : List UInt8} {L R : Nat → Int} (h : Rep w b l L R) : b < w.heap.size := h.cells.lt
theorem Rep.kept {w w' : World} {b b' : Nat} {l : List UInt8} {L R : Nat → Int} (h : Rep w b l L R) (hu : Upd b' w w') (hne : b ≠ b') : Rep w' b l L R := h.of_cells (hu.block b h.lt hne)
theorem Rep.alloc {w : World} {b : Nat} {l : List UInt8} {L R : Nat → Int} (h : Rep w b l L R) (o : Obj) : Rep (w.alloc o) b l L R := h.of_cells (Below.heap_alloc _ _ _ h.lt)
/-- the lanes behind j laps -/
def lapped (L R : Nat → Int) (j : Nat) : Nat → Int := fun i => if i < j then Xi.lap (L i) (Xi.num R (8 * i) 8) else L i
theorem lapped_at (L R : Nat → Int) (j : Nat) : lapped L R j j = L j := by simp [lapped]
theorem SumAt.lap {w : World} {b : Nat} {L R : Nat → Int} {c : Int} {j : Nat} (h : SumAt w b (lapped L R j) R c) (hj : j < 4) :
    SumAt (w.setCell ⟨b, j, none⟩ (.int .u64 (Xi.lap (L j) (Xi.num R (8 * j) 8)))) b (lapped L R (j + 1)) R c := by
  have := h.setLane j hj (Xi.lap (L j) (Xi.num R (8 * j) 8))
  rwa [show upd (lapped L R j) j (Xi.lap (L j) (Xi.num R (8 * j) 8)) = lapped L R (j + 1) from funext fun i => by
    unfold upd lapped
    by_cases e : i = j
    · subst e; simp
    · by_cases e2 : i < j
      · simp [e, e2, show i < j + 1 by omega]
      · simp [e, e2, show ¬ i < j + 1 by omega]] at this
theorem lapped_zero (L R : Nat → Int) : lapped L R 0 = L := funext fun i => by simp [lapped]
theorem byte_left (l m : List UInt8) (i : Nat) (h : i < l.length) : Xi.byte (l ++ m) i = Xi.byte l i := by
  unfold Xi.byte
  rw [List.getD_eq_getElem?_getD, List.getD_eq_getElem?_getD, List.getElem?_append_left h]
theorem byte_last (l : List UInt8) (x : UInt8) : Xi.byte (l ++ [x]) l.length = (x.toNat : Int) := by
  unfold Xi.byte
  rw [List.getD_eq_getElem?_getD, List.getElem?_append_right (Nat.le_refl _)]
  simp
theorem byte_small (x : UInt8) : 0 ≤ (x.toNat : Int) ∧ (x.toNat : Int) < 256 := by have := x.toNat_lt; omega
theorem push_small {w w' : World} {b : Nat} {l : List UInt8} {L R : Nat → Int} {x : UInt8} (h : Rep w b l L R) (h31 : l.length % 32 ≠ 31)
    (hs : SumAt w' b L (upd R (l.length % 32) x.toNat) ((l.length : Int) + 1)) : Rep w' b (l ++ [x]) L (upd R (l.length % 32) x.toNat) where
  cells := by rw [show ((l ++ [x]).length : Int) = (l.length : Int) + 1 by simp]; exact hs
  lanes h32 k hk := by
    have e : (l ++ [x]).length = l.length + 1 := by simp
    rw [e] at h32 ⊢
    rw [h.lanes (by omega) k hk, show (l.length + 1) / 32 = l.length / 32 by omega]
    exact Xi.lane_congr _ _ k hk _ (fun i hi => (byte_left l [x] i (by omega)).symm)
  tail i hi := by
    have e : (l ++ [x]).length = l.length + 1 := by simp
    rw [e] at hi ⊢
    rw [show (l.length + 1) / 32 = l.length / 32 by omega]
    by_cases e2 : i = l.length % 32
    · subst e2
      rw [upd_same, show 32 * (l.length / 32) + l.length % 32 = l.length by omega, byte_last]
    · rw [upd_other _ _ _ _ e2, h.tail i (by omega), byte_left _ _ _ (by omega)]
theorem push_full {w w' : World} {b : Nat} {l : List UInt8} {L L' R : Nat → Int} {x : UInt8} (h : Rep w b l L R) (h31 : l.length % 32 = 31)
    (hL : l.length + 1 = 32 ∧ L' = Xi.lane0 ∨ 32 < l.length + 1 ∧ L' = L)
    (hs : SumAt w' b (lapped L' (upd R 31 x.toNat) 4) (upd R 31 x.toNat) ((l.length : Int) + 1)) : Rep w' b (l ++ [x]) (lapped L' (upd R 31 x.toNat) 4) (upd R 31 x.toNat) where
  cells := by rw [show ((l ++ [x]).length : Int) = (l.length : Int) + 1 by simp]; exact hs
  lanes h32 k hk := by
    have e : (l ++ [x]).length = l.length + 1 := by simp
    rw [e, show (l.length + 1) / 32 = l.length / 32 + 1 by omega]
    simp only [Xi.lane, lapped, if_pos hk]
    have e1 : L' k = Xi.lane (Xi.byte (l ++ [x])) k (l.length / 32) := by
      rcases hL with ⟨h1, rfl⟩ | ⟨h1, rfl⟩
      · rw [show l.length / 32 = 0 by omega]; rfl
      · rw [h.lanes (by omega) k hk]
        exact Xi.lane_congr _ _ k hk _ (fun i hi => (byte_left l [x] i (by omega)).symm)
    rw [e1, Xi.num_congr (upd R 31 x.toNat) (Xi.byte (l ++ [x])) (8 * k) (32 * (l.length / 32) + 8 * k) 8 (fun i hi => by
      by_cases e2 : 8 * k + i = 31
      · rw [e2, upd_same, show 32 * (l.length / 32) + 8 * k + i = l.length by omega, byte_last]
      · rw [upd_other _ _ _ _ e2, h.tail _ (by omega), byte_left _ _ _ (by omega), Nat.add_assoc])]
  tail i hi := by
    have e : (l ++ [x]).length = l.length + 1 := by simp
    rw [e] at hi
    omega
theorem take_step (m : List UInt8) (j : Nat) (h : j < m.length) : ∃ x : UInt8, m.take (j + 1) = m.take j ++ [x] ∧ Xi.byte m j = (x.toNat : Int) :=
  ⟨m[j], by rw [List.take_succ_eq_append_getElem h], by unfold Xi.byte; rw [List.getD_eq_getElem?_getD, List.getElem?_eq_getElem h]; rfl⟩
theorem Rep.push {w : World} {b n j : Nat} {l m : List UInt8} {L R : Nat → Int} (h : Rep w b (l ++ m.take j) L R) (hn : n = (l ++ m.take j).length) (hj : j < m.length) (h31 : n % 32 ≠ 31) :
    ∃ L' R', Rep ((w.setCell ⟨b, 4 + n % 32, none⟩ (.int .u8 (Xi.byte m j))).setCell ⟨b, 36, none⟩ (.int .u64 ((n : Int) + 1))).drew b (l ++ m.take (j + 1)) L' R' := by
  obtain ⟨x, e1, e2⟩ := take_step m j hj
  subst hn
  rw [e1, e2, ← List.append_assoc]
  exact ⟨L, _, push_small h h31 ((h.cells.setRest _ (by omega) _ (byte_small x)).setCount _).drew⟩
theorem Rep.brim {w : World} {b n j : Nat} {l m : List UInt8} {L R : Nat → Int} (h : Rep w b (l ++ m.take j) L R) (hn : n = (l ++ m.take j).length) (hj : j < m.length) :
    SumAt ((w.setCell ⟨b, 4 + n % 32, none⟩ (.int .u8 (Xi.byte m j))).setCell ⟨b, 36, none⟩ (.int .u64 ((n : Int) + 1))).drew b L (upd R (n % 32) (Xi.byte m j)) ((n + 1 : Nat) : Int) := by
  obtain ⟨x, e1, e2⟩ := take_step m j hj
  subst hn
  rw [e2]
  exact ((h.cells.setRest _ (by omega) _ (byte_small x)).setCount _).drew
theorem Rep.full {w w' : World} {b n j : Nat} {l m : List UInt8} {L L' R : Nat → Int} (h : Rep w b (l ++ m.take j) L R) (hn : n = (l ++ m.take j).length) (hj : j < m.length) (h31 : n % 32 = 31)
    (hL : n + 1 = 32 ∧ L' = Xi.lane0 ∨ 32 < n + 1 ∧ L' = L) (hs : SumAt w' b (lapped L' (upd R (n % 32) (Xi.byte m j)) 4) (upd R (n % 32) (Xi.byte m j)) ((n + 1 : Nat) : Int)) :
    ∃ L' R', Rep w' b (l ++ m.take (j + 1)) L' R' := by
  obtain ⟨x, e1, e2⟩ := take_step m j hj
  subst hn
  rw [e1, ← List.append_assoc]
  rw [e2, h31] at hs
  exact ⟨_, _, push_full h h31 hL hs⟩
end Go.Proofs.Ytbdndhiamihloaa
