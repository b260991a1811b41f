import Derived.Test.YtkfilgfcgmohlaaJ02
import Derived.WalkKit
import Derived.WalkSpells
import Derived.WalkLawsBesides
import Derived.Deep.QuietTactic
import Derived.BigQuiet
import Derived.Deep.AppendLies
import Derived.Laws.OwnMore
import Derived.Deep.RegionLaw
namespace Go.Proofs.Ytkfilgfcgmohlaa
open Go.RowKit
/-- bit j of bytes, from the first on, the lowest of each first -/
def fbit (s : ByteArray) (j : Nat) : Nat := gOf s (j / 8) / 2 ^ (j % 8) % 2
/-- bit j of bytes, from the last back, the highest of each first -/
def bbit (s : ByteArray) (j : Nat) : Nat := gOf s (s.size - 1 - j / 8) / 2 ^ (7 - j % 8) % 2
theorem fbit_lt (s : ByteArray) (j : Nat) : fbit s j < 2 := Nat.mod_lt _ (by omega)
theorem bbit_lt (s : ByteArray) (j : Nat) : bbit s j < 2 := Nat.mod_lt _ (by omega)
/-- bit 'pos' of n bits; what is not there is 0 -/
def rb (n : Nat) (f : Nat → Nat) (pos : Nat) : Nat := if pos < n then f pos else 0
theorem rb_lt (n : Nat) (f : Nat → Nat) (hf : ∀ i, f i < 2) (pos : Nat) : rb n f pos < 2 := by
  unfold rb; split
  · exact hf pos
  · omega
/-- k bits as a number, the lowest first; the highest first -/
def lowN (n : Nat) (f : Nat → Nat) (pos : Nat) : Nat → Nat
  | 0 => 0
  | k + 1 => lowN n f pos k + rb n f (pos + k) * 2 ^ k
def highN (n : Nat) (f : Nat → Nat) (pos : Nat) : Nat → Nat
  | 0 => 0
  | k + 1 => 2 * highN n f pos k + rb n f (pos + k)
theorem lowN_lt (n : Nat) (f : Nat → Nat) (hf : ∀ i, f i < 2) (pos : Nat) : ∀ k, lowN n f pos k < 2 ^ k
  | 0 => by simp [lowN]
  | k + 1 => by
    have h1 := lowN_lt n f hf pos k
    have h2 := rb_lt n f hf (pos + k)
    simp only [lowN]
    have : rb n f (pos + k) * 2 ^ k ≤ 1 * 2 ^ k := Nat.mul_le_mul_right _ (by omega)
    rw [Nat.pow_succ]; omega
theorem highN_lt (n : Nat) (f : Nat → Nat) (hf : ∀ i, f i < 2) (pos : Nat) : ∀ k, highN n f pos k < 2 ^ k
  | 0 => by simp [highN]
  | k + 1 => by
    have h1 := highN_lt n f hf pos k
    have h2 := rb_lt n f hf (pos + k)
    simp only [highN]
    rw [Nat.pow_succ]; omega
/-- the same world but for draws -/
structure Sm (w w' : World) : Prop where
  heap : w'.heap = w.heap
  os : w'.os = w.os
  tape : w'.tape = w.tape
  output : w'.output = w.output
theorem Sm.refl (w : World) : Sm w w := ⟨rfl, rfl, rfl, rfl⟩
theorem Sm.trans {a b c : World} (h : Sm a b) (k : Sm b c) : Sm a c := ⟨k.heap.trans h.heap, k.os.trans h.os, k.tape.trans h.tape, k.output.trans h.output⟩
theorem Sm.drew {a b : World} (h : Sm a b) : Sm a b.drew := ⟨h.heap, h.os, h.tape, h.output⟩
theorem Sm.drewN {a b : World} (h : Sm a b) (n : Nat) : Sm a (b.drewN n) := ⟨h.heap, h.os, h.tape, h.output⟩
theorem Sm.cell {a b : World} (h : Sm a b) (p : Addr) : b.cell? p = a.cell? p := World.cell?_of_block (by rw [h.heap])
theorem Sm.frozen {a b : World} (h : Sm a b) (p : Addr) : b.frozen? p = a.frozen? p := World.frozen?_of_block (by rw [h.heap])
theorem Sm.below {a b : World} (h : Sm a b) (B : Nat) : Below B a b := ⟨h.os, h.tape, h.output, by rw [h.heap]; exact Nat.le_refl _, fun k _ => by rw [h.heap]⟩
theorem Sm.upd {a b : World} (h : Sm a b) (r : Nat) : Upd r a b := ⟨h.os, h.tape, h.output, by rw [h.heap]; exact Nat.le_refl _, fun k _ _ => by rw [h.heap]⟩
/-- a reader at block r, its bits at block g: n bits; how many were asked for -/
structure RdAt (w : World) (r g n : Nat) (f : Nat → Nat) (pos : Nat) : Prop where
  b : ∃ pa cap, w.cell? ⟨r, 0, none⟩ = some (.slice pa n cap) ∧ (0 < n → pa = some ⟨g, 0, none⟩)
  c : ∀ i, i < n → w.cell? ⟨g, i, none⟩ = some (.int .i64 (f i : Int))
  at_ : w.cell? ⟨r, 1, none⟩ = some (.int .i64 (min pos n : Nat))
  over : w.cell? ⟨r, 2, none⟩ = some (.bool (decide (n < pos)))
  fz : ∀ i, w.frozen? ⟨r, i, none⟩ = false
  ne : r ≠ g
  two : ∀ i, f i < 2
  len : n ≤ 1099511627776
theorem RdAt.lt {w : World} {r g n : Nat} {f : Nat → Nat} {pos : Nat} (h : RdAt w r g n f pos) : r < w.heap.size := block_lt_of_cell h.at_
theorem RdAt.glt {w : World} {r g n : Nat} {f : Nat → Nat} {pos : Nat} (h : RdAt w r g n f pos) (hn : 0 < n) : g < w.heap.size := block_lt_of_cell (h.c 0 hn)
theorem RdAt.keep {w w' : World} {r g n : Nat} {f : Nat → Nat} {pos : Nat} (h : RdAt w r g n f pos) (hr : w'.heap[r]? = w.heap[r]?) (hg : 0 < n → w'.heap[g]? = w.heap[g]?) : RdAt w' r g n f pos := by
  obtain ⟨pa, cap, h1, h2⟩ := h.b
  exact ⟨⟨pa, cap, (World.cell?_of_block (w := w) (a := ⟨r, 0, none⟩) hr).trans h1, h2⟩, fun i hi => (World.cell?_of_block (w := w) (a := ⟨g, i, none⟩) (hg (by omega))).trans (h.c i hi),
    (World.cell?_of_block (w := w) (a := ⟨r, 1, none⟩) hr).trans h.at_, (World.cell?_of_block (w := w) (a := ⟨r, 2, none⟩) hr).trans h.over, fun i => (World.frozen?_of_block (w := w) (a := ⟨r, i, none⟩) hr).trans (h.fz i), h.ne, h.two, h.len⟩
theorem RdAt.below {w w' : World} {r g n B : Nat} {f : Nat → Nat} {pos : Nat} (h : RdAt w r g n f pos) (hb : Below B w w') (hr : r < B) (hg : 0 < n → g < B) : RdAt w' r g n f pos :=
  h.keep (hb.block r hr) (fun hn => hb.block g (hg hn))
theorem RdAt.sm {w w' : World} {r g n : Nat} {f : Nat → Nat} {pos : Nat} (h : RdAt w r g n f pos) (hs : Sm w w') : RdAt w' r g n f pos := h.keep (by rw [hs.heap]) (fun _ => by rw [hs.heap])
theorem RdAt.drew {w : World} {r g n : Nat} {f : Nat → Nat} {pos : Nat} (h : RdAt w r g n f pos) : RdAt w.drew r g n f pos := h.keep rfl (fun _ => rfl)
theorem RdAt.alloc {w : World} {r g n : Nat} {f : Nat → Nat} {pos : Nat} (h : RdAt w r g n f pos) (o : Obj) : RdAt (w.alloc o) r g n f pos := h.keep (Below.heap_alloc _ _ _ h.lt) (fun hn => Below.heap_alloc _ _ _ (h.glt hn))
theorem RdAt.other {w : World} {r g n : Nat} {f : Nat → Nat} {pos : Nat} (h : RdAt w r g n f pos) (p : Addr) (v : Value) (h1 : r ≠ p.block) (h2 : g ≠ p.block) : RdAt (w.setCell p v) r g n f pos := h.keep (Below.heap_setCell _ _ _ _ h1) (fun _ => Below.heap_setCell _ _ _ _ h2)
/-- a bit more was asked for, and it was there -/
theorem RdAt.next {w : World} {r g n : Nat} {f : Nat → Nat} {pos : Nat} (h : RdAt w r g n f pos) (hp : pos < n) (x : Int) (hx : x = (pos : Int) + 1) : RdAt (w.setCell ⟨r, 1, none⟩ (.int .i64 x)) r g n f (pos + 1) := by
  obtain ⟨pa, cap, h1, h2⟩ := h.b
  refine ⟨⟨pa, cap, by rw [cs_other (addr_ne (by omega))]; exact h1, h2⟩, fun i hi => by rw [cs_other (blk_ne h.ne)]; exact h.c i hi, ?_, ?_, fun i => by rw [World.frozen?_setCell]; exact h.fz i, h.ne, h.two, h.len⟩
  · rw [cs_same h.at_, show min (pos + 1) n = pos + 1 by omega, hx]; rfl
  · rw [cs_other (addr_ne (by omega)), h.over, show decide (n < pos) = decide (n < pos + 1) by simp; omega]
/-- a bit more was asked for, and it was not there -/
theorem RdAt.past {w : World} {r g n : Nat} {f : Nat → Nat} {pos : Nat} (h : RdAt w r g n f pos) (hp : ¬ pos < n) : RdAt (w.setCell ⟨r, 2, none⟩ (.bool true)) r g n f (pos + 1) := by
  obtain ⟨pa, cap, h1, h2⟩ := h.b
  refine ⟨⟨pa, cap, by rw [cs_other (addr_ne (by omega))]; exact h1, h2⟩, fun i hi => by rw [cs_other (blk_ne h.ne)]; exact h.c i hi, ?_, ?_, fun i => by rw [World.frozen?_setCell]; exact h.fz i, h.ne, h.two, h.len⟩
  · rw [cs_other (addr_ne (by omega)), h.at_, show min pos n = min (pos + 1) n by omega]
  · rw [cs_same h.over, show decide (n < pos + 1) = true by simp; omega]
end Go.Proofs.Ytkfilgfcgmohlaa
namespace Go.Proofs.Ytkfilgfcgmohlaa
open Go.RowKit
set_option maxRecDepth 100000 in
set_option maxHeartbeats 1000000 in
theorem rd_bit (r g n : Nat) (f : Nat → Nat) (pos : Nat) (w : World) (h : RdAt w r g n f pos) :
    Calls Try.prog 100 #[.pointer (some ⟨r, 0, none⟩)] w fun e w' => e = .returned (.int .i64 ((rb n f pos : Nat) : Int)) ∧ RdAt w' r g n f (pos + 1) ∧ Upd r w w' := by
  obtain ⟨pa, cap, c0, hpa⟩ := h.b
  have c1 := h.at_
  have c2 := h.over
  have f1 := h.fz 1
  have f2 := h.fz 2
  have hlen := h.len
  have HR : Hid (RdAt w r g n f pos) := h
  by_cases hp : pos < n
  · obtain rfl := hpa (by omega)
    have cb := h.c pos hp
    have hne := h.ne
    rw [show min pos n = pos by omega] at c1
    have HE : Hid (rb n f pos = f pos) := by show _ = _; unfold rb; rw [if_pos hp]
    clear h
    go_enter Try.func100, Try.ntmps100
    go_wp2
    go_region
    go_wp2
    have c0' : (w.drew.setCell ⟨r, 1, none⟩ (.int .i64 ((pos : Int) + 1))).cell? ⟨r, 0, none⟩ = some (.slice (some ⟨g, 0, none⟩) n cap) := by
      rw [cs_other (addr_ne (by omega))]; exact c0
    have c1' : (w.drew.setCell ⟨r, 1, none⟩ (.int .i64 ((pos : Int) + 1))).cell? ⟨r, 1, none⟩ = some (.int .i64 ((pos : Int) + 1)) := cs_same c1
    have cb' : (w.drew.setCell ⟨r, 1, none⟩ (.int .i64 ((pos : Int) + 1))).cell? ⟨g, pos, none⟩ = some (.int .i64 (f pos)) := by
      rw [cs_other (blk_ne hne)]; exact cb
    go_region
    go_wp2
    go_ret
    exact ⟨by rw [HE.out]; rfl, (HR.out.drew.next hp _ rfl).drew, (((Upd.refl r w).drew.setCell 1 _).drew)⟩
  · rw [show min pos n = n by omega] at c1
    have HE : Hid (rb n f pos = 0) := by show _ = _; unfold rb; rw [if_neg hp]
    clear h
    go_enter Try.func100, Try.ntmps100
    go_wp2
    go_region
    go_wp2
    go_ret
    exact ⟨by rw [HE.out]; rfl, HR.out.drew.past hp, (((Upd.refl r w).drew.setCell 2 _))⟩
set_option maxHeartbeats 1000000 in
theorem rd_whole (r g n : Nat) (f : Nat → Nat) (pos : Nat) (w : World) (h : RdAt w r g n f pos) :
    Calls Try.prog 90 #[.pointer (some ⟨r, 0, none⟩)] w fun e w' => e = .returned (.bool (decide (pos = n))) ∧ Sm w w' := by
  obtain ⟨pa, cap, c0, hpa⟩ := h.b
  have c1 := h.at_
  have c2 := h.over
  have hlen := h.len
  clear h hpa
  by_cases hp : pos < n
  · rw [show min pos n = pos by omega] at c1
    have HE : Hid (decide (pos = n) = false) := by show _ = _; simp; omega
    have hne : ((pos : Int) == (n : Int)) = false := by simp; omega
    go_enter Try.func90, Try.ntmps90
    go_wp2
    go_quiet (fail)
    go_wp2
    go_ret
    exact ⟨by rw [HE.out]; rfl, (Sm.refl w).drewN _⟩
  · rw [show min pos n = n by omega] at c1
    have heq : ((n : Int) == (n : Int)) = true := by simp
    by_cases hq : n < pos
    · have HE : Hid (decide (pos = n) = false) := by show _ = _; simp; omega
      rw [show decide (n < pos) = true by simp; omega] at c2
      go_enter Try.func90, Try.ntmps90
      go_wp2
      go_quiet (fail)
      go_wp2
      go_ret
      exact ⟨by rw [HE.out]; rfl, (Sm.refl w).drewN _⟩
    · have HE : Hid (decide (pos = n) = true) := by show _ = _; simp; omega
      rw [show decide (n < pos) = false by simp; omega] at c2
      go_enter Try.func90, Try.ntmps90
      go_wp2
      go_quiet (fail)
      go_wp2
      go_ret
      exact ⟨by rw [HE.out]; rfl, (Sm.refl w).drewN _⟩
set_option maxHeartbeats 1000000 in
theorem rd_left (r g n : Nat) (f : Nat → Nat) (pos : Nat) (w : World) (h : RdAt w r g n f pos) :
    Calls Try.prog 103 #[.pointer (some ⟨r, 0, none⟩)] w fun e w' => e = .returned (.int .i64 ((n - pos : Nat) : Int)) ∧ Sm w w' := by
  obtain ⟨pa, cap, c0, hpa⟩ := h.b
  have c1 := h.at_
  have hlen := h.len
  obtain ⟨m, hm⟩ : ∃ m, m = min pos n := ⟨_, rfl⟩
  have hml : m ≤ n := by omega
  have HM : Hid (n - pos = n - m) := by show _ = _; omega
  rw [← hm] at c1
  clear h hpa hm
  go_enter Try.func103, Try.ntmps103
  go_wp2
  go_quiet (fail)
  go_wp2
  go_ret
  exact ⟨ret_int (by rw [HM.out]; omega), (Sm.refl w).drewN _⟩
set_option maxRecDepth 100000 in
set_option maxHeartbeats 1000000 in
theorem rd_low (r g n : Nat) (f : Nat → Nat) (pos : Nat) (k : Nat) (w : World) (h : RdAt w r g n f pos) (hk : k ≤ 40) :
    Calls Try.prog 98 #[.pointer (some ⟨r, 0, none⟩), .int .i64 (k : Int)] w fun e w' => e = .returned (.int .i64 ((lowN n f pos k : Nat) : Int)) ∧ RdAt w' r g n f (pos + k) ∧ Upd r w w' := by
  have hf := h.two
  have HR : Hid (RdAt w r g n f pos) := h
  clear h
  go_enter Try.func98, Try.ntmps98
  go_wp2
  go_loopw [5, 6] (fun vv iv wr => ∃ i : Nat, i ≤ k ∧ iv = .int .i64 i ∧ vv = .int .i64 ((lowN n f pos i : Nat) : Int) ∧ RdAt wr r g n f (pos + i) ∧ Upd r w wr) (fun _ iv _ => (k - intOf iv).toNat)
  case atStart => exact ⟨0, by omega, rfl, rfl, HR.out, Upd.refl r w⟩
  case round =>
    obtain ⟨i, hi, rfl, rfl, hR, hU⟩ := hrel
    have HU : Hid (Upd r w wr) := hU
    by_cases hlt : i < k
    · clear HR hU
      go_wp2_with fail
      refine (rd_bit r g n f (pos + i) _ hR).mono ?_
      rintro e w1 ⟨rfl, hR1, hU1⟩
      have HR1 : Hid (RdAt w1 r g n f (pos + i + 1)) := hR1
      have HU1 : Hid (Upd r w w1) := HU.out.trans hU1
      have hx := rb_lt n f hf (pos + i)
      have hv := lowN_lt n f hf pos i
      have HE : Hid (lowN n f pos (i + 1) = lowN n f pos i + rb n f (pos + i) * 2 ^ i) := rfl
      have h40 : 2 ^ i ≤ 2 ^ 39 := Nat.pow_le_pow_right (by omega) (by omega)
      obtain ⟨x, hx0⟩ : ∃ x, x = rb n f (pos + i) := ⟨_, rfl⟩
      obtain ⟨v, hv0⟩ : ∃ v, v = lowN n f pos i := ⟨_, rfl⟩
      rw [← hx0] at hx
      rw [← hv0] at hv
      have HX : Hid (x * 2 ^ i ≤ 2 ^ 39) := by
        have : x * 2 ^ i ≤ 1 * 2 ^ i := Nat.mul_le_mul_right _ (by omega)
        show _ ≤ _
        omega
      rw [← hx0, ← hv0] at HE ⊢
      clear hx0 hv0 hR hR1 hU1 HU hf
      go_wp2
      refine ⟨⟨i + 1, by omega, by go_num, ?_, HR1.out, HU1.out⟩, by simp [intOf]; omega⟩
      have hxi := HX.out
      rw [HE.out, show ((x : Int) * 2 ^ i) = ((x * 2 ^ i : Nat) : Int) by norm_cast]
      generalize x * 2 ^ i = y at *
      have h39 : (2 : Nat) ^ 39 = 549755813888 := rfl
      rw [show wrap64 (y : Int) = (y : Int) by unfold wrap64; omega, show wrap64 ((v : Int) + (y : Int)) = ((v + y : Nat) : Int) by unfold wrap64; omega]
    · obtain rfl : i = k := by omega
      clear HR
      go_wp2
      go_ret
      exact ⟨rfl, hR, HU.out⟩
set_option maxRecDepth 100000 in
set_option maxHeartbeats 1000000 in
theorem rd_high (r g n : Nat) (f : Nat → Nat) (pos : Nat) (k : Nat) (w : World) (h : RdAt w r g n f pos) (hk : k ≤ 40) :
    Calls Try.prog 85 #[.pointer (some ⟨r, 0, none⟩), .int .i64 (k : Int)] w fun e w' => e = .returned (.int .i64 ((highN n f pos k : Nat) : Int)) ∧ RdAt w' r g n f (pos + k) ∧ Upd r w w' := by
  have hf := h.two
  have HR : Hid (RdAt w r g n f pos) := h
  clear h
  go_enter Try.func85, Try.ntmps85
  go_wp2
  go_loopw [5, 6] (fun vv iv wr => ∃ i : Nat, i ≤ k ∧ iv = .int .i64 i ∧ vv = .int .i64 ((highN n f pos i : Nat) : Int) ∧ RdAt wr r g n f (pos + i) ∧ Upd r w wr) (fun _ iv _ => (k - intOf iv).toNat)
  case atStart => exact ⟨0, by omega, rfl, rfl, HR.out, Upd.refl r w⟩
  case round =>
    obtain ⟨i, hi, rfl, rfl, hR, hU⟩ := hrel
    have HU : Hid (Upd r w wr) := hU
    by_cases hlt : i < k
    · clear HR hU
      go_wp2_with fail
      refine (rd_bit r g n f (pos + i) _ hR).mono ?_
      rintro e w1 ⟨rfl, hR1, hU1⟩
      have HR1 : Hid (RdAt w1 r g n f (pos + i + 1)) := hR1
      have HU1 : Hid (Upd r w w1) := HU.out.trans hU1
      have hx := rb_lt n f hf (pos + i)
      have hv := highN_lt n f hf pos i
      have HE : Hid (highN n f pos (i + 1) = 2 * highN n f pos i + rb n f (pos + i)) := rfl
      have h40 : 2 ^ i ≤ 2 ^ 39 := Nat.pow_le_pow_right (by omega) (by omega)
      obtain ⟨x, hx0⟩ : ∃ x, x = rb n f (pos + i) := ⟨_, rfl⟩
      obtain ⟨v, hv0⟩ : ∃ v, v = highN n f pos i := ⟨_, rfl⟩
      rw [← hx0] at hx
      rw [← hv0] at hv
      rw [← hx0, ← hv0] at HE ⊢
      clear hx0 hv0 hR hR1 hU1 HU hf
      go_wp2
      refine ⟨⟨i + 1, by omega, by go_num, ?_, HR1.out, HU1.out⟩, by simp [intOf]; omega⟩
      rw [HE.out]; rfl
    · obtain rfl : i = k := by omega
      clear HR
      go_wp2
      go_ret
      exact ⟨rfl, hR, HU.out⟩
end Go.Proofs.Ytkfilgfcgmohlaa
namespace Go.Proofs.Ytkfilgfcgmohlaa
open Go.RowKit
theorem fInfo {P : Program} {t : TypeId} {z : Value} {a b : Nat} (h : (P.info? t).map (fun i => (i.zero, i.size, i.bytes)) = some (some z, a, b)) : ∃ i, P.info? t = some i ∧ i.zero = some z ∧ i.size = a ∧ i.bytes = b := by
  cases e : P.info? t with
  | none => rw [e] at h; simp at h
  | some i => rw [e] at h; simp at h; exact ⟨i, rfl, h.1, h.2.1, h.2.2⟩
theorem fInt : (Try.prog.info? 3).map (fun i => (i.zero, i.size, i.bytes)) = some (some (.int .i64 0), 1, 8) := by kernel_rfl
theorem row_same {w w' : World} {B e size : Nat} {v : Value} {n : Nat} {xs : List Value} (h : w.ownsRow B e size v n xs) (hs : ∀ g, v.ownBlock = some g → w'.heap[g]? = w.heap[g]?) : w'.ownsRow B e size v n xs := by
  refine ⟨h.1, ?_⟩
  rcases h.2 with hn | ⟨g, cap, cur, hv, hb, hg, rest⟩
  · exact .inl hn
  · exact .inr ⟨g, cap, cur, hv, hb, (hs g (by rw [hv]; rfl)).trans hg, rest⟩
theorem row_lt {w : World} {B e size : Nat} {v : Value} {n : Nat} {xs : List Value} (h : w.ownsRow B e size v n xs) (g : Nat) (hg : v.ownBlock = some g) : B ≤ g ∧ g < w.heap.size := World.ownsRow.lt h g hg
theorem row_below {w w' : World} {B e size : Nat} {v : Value} {n : Nat} {xs : List Value} (h : w.ownsRow B e size v n xs) (hb : Below w.heap.size w w') : w'.ownsRow B e size v n xs := row_same h (fun g hg => hb.block g (row_lt h g hg).2)
/-- bits as values -/
def bitsV (f : Nat → Nat) (m : Nat) : List Value := (List.range m).map fun j => .int .i64 (f j : Int)
theorem bitsV_len (f : Nat → Nat) (m : Nat) : (bitsV f m).length = m := by simp [bitsV]
theorem bitsV_succ (f : Nat → Nat) (m : Nat) : bitsV f (m + 1) = bitsV f m ++ [.int .i64 (f m : Int)] := by simp [bitsV, List.range_succ]
theorem bitsV_at (f : Nat → Nat) (m i : Nat) (h : i < m) : (bitsV f m)[i]? = some (.int .i64 (f i : Int)) := by simp [bitsV, h]
/-- a reader in the making: m bits so far -/
structure RdMk (w wr : World) (r : Nat) (f : Nat → Nat) (m : Nat) : Prop where
  v : ∃ v, wr.cell? ⟨r, 0, none⟩ = some v ∧ wr.ownsRow (r + 1) 3 1 v m (bitsV f m)
  c1 : wr.cell? ⟨r, 1, none⟩ = some (.int .i64 0)
  c2 : wr.cell? ⟨r, 2, none⟩ = some (.bool false)
  fz : ∀ i, wr.frozen? ⟨r, i, none⟩ = false
  bel : Below r w wr
  two : ∀ i, f i < 2
theorem RdMk.lt {w wr : World} {r : Nat} {f : Nat → Nat} {m : Nat} (h : RdMk w wr r f m) : r < wr.heap.size := block_lt_of_cell h.c1
theorem RdMk.later {w wr w' : World} {r : Nat} {f : Nat → Nat} {m : Nat} (h : RdMk w wr r f m) (hb : Below wr.heap.size wr w') : RdMk w w' r f m := by
  obtain ⟨v, h1, h2⟩ := h.v
  have hl := h.lt
  exact ⟨⟨v, (hb.cell (p := ⟨r, 0, none⟩) hl).trans h1, row_below h2 hb⟩, (hb.cell (p := ⟨r, 1, none⟩) hl).trans h.c1, (hb.cell (p := ⟨r, 2, none⟩) hl).trans h.c2, fun i => (hb.frozen (p := ⟨r, i, none⟩) hl).trans (h.fz i), h.bel.trans (hb.mono (by omega)), h.two⟩
theorem RdMk.made {w wr : World} {r : Nat} {f : Nat → Nat} {m : Nat} (h : RdMk w wr r f m) (hm : m ≤ 1099511627776) : ∃ g, RdAt wr r g m f 0 := by
  obtain ⟨v, h1, h2⟩ := h.v
  by_cases h0 : 0 < m
  · obtain ⟨g, cap, rfl, hB, hlt⟩ := h2.form h0
    exact ⟨g, ⟨_, _, h1, fun _ => rfl⟩, fun i hi => by rw [World.ownsRow.cellAt h2 i (by omega)]; exact bitsV_at f m i hi, by rw [Nat.zero_min]; exact h.c1, by rw [show decide (m < 0) = false by simp]; exact h.c2, h.fz, by omega, h.two, hm⟩
  · obtain rfl : m = 0 := by omega
    have hv : ∃ pa cap, v = .slice pa 0 cap := by
      rcases h2.2 with ⟨hv, _⟩ | ⟨g, cap, cur, hv, _⟩
      · exact ⟨none, 0, hv⟩
      · exact ⟨_, cap, hv⟩
    obtain ⟨pa, cap, rfl⟩ := hv
    exact ⟨r + 1, ⟨_, _, h1, fun h => absurd h (by omega)⟩, fun i hi => absurd hi (by omega), h.c1, h.c2, h.fz, by omega, h.two, hm⟩
/-- 'append(r.b, x)', run -/
theorem rd_run {w W : World} {r : Nat} {f : Nat → Nat} {m : Nat} (h : RdMk w W r f m) (hm : m ≤ 17179869184) {vt : Value} (h0 : W.cell? ⟨r, 0, none⟩ = some vt) {gb : Nat} {x : Int} (hx : x = (f m : Int)) (hn : W.cell? ⟨gb, 0, none⟩ = some (.int .i64 x)) (ty : TypeId) :
    ∃ g1 cap1 w2, (Builtin.append_ #[83, 83] ty #[vt, .slice (some ⟨gb, 0, none⟩) 1 1]).run Try.prog W = .ok (.slice (some ⟨g1, 0, none⟩) (m + 1) cap1) w2 ∧
      RdMk w (w2.setCell ⟨r, 0, none⟩ (.slice (some ⟨g1, 0, none⟩) (m + 1) cap1)) r f (m + 1) ∧ w2.cell? ⟨r, 0, none⟩ = some vt ∧ w2.frozen? ⟨r, 0, none⟩ = false := by
  obtain ⟨v, h0', hr⟩ := h.v
  obtain rfl : v = vt := by rw [h0] at h0'; simpa using h0'.symm
  obtain ⟨i0, hi0, hz0, hz1, hz2⟩ := fInfo fInt
  have hl := h.lt
  obtain ⟨g1, cap1, w2, hrun, hown, hgrow, hat, hlt⟩ := run_append_lies (P := Try.prog) W 83 ty (r + 1) 3 i0 (.int .i64 0) 1 8 Try.underlying83 hi0 hz0 hz1 hz2 rfl (by decide) v m (bitsV f m) hr ⟨gb, 0, none⟩ 1 1 [.int .i64 x] rfl
    (by
      intro j u hj
      have : j = 0 := by
        rcases Nat.eq_zero_or_pos j with h0 | h0
        · exact h0
        · rw [List.getElem?_eq_none (by simp; omega)] at hj; cases hj
      subst this
      simp at hj
      subst hj
      exact hn) (by intro v hv; simp at hv; subst hv; rfl) (by decide) (by unfold maxLen; omega) (by omega) (by omega) _ rfl
  have hrV : some r ≠ v.ownBlock := fun e => by have := row_lt hr r e.symm; omega
  have k0 := hgrow.cell_far ⟨r, 0, none⟩ hl hrV
  have g1r : g1 ≠ r := by
    have := row_lt hown g1 rfl; omega
  refine ⟨g1, cap1, w2, hrun, ⟨⟨_, cs_same (k0.trans h0), ?_⟩, ?_, ?_, fun i => ?_, ?_, h.two⟩, k0.trans h0, (hgrow.frozen_far ⟨r, 0, none⟩ hl hrV).trans (h.fz 0)⟩
  · rw [bitsV_succ, ← hx]
    exact row_same hown (fun g hg => Below.heap_setCell _ _ _ _ (by have := row_lt hown g hg; show g ≠ r; omega))
  · rw [cs_other (addr_ne (by omega))]; exact (hgrow.cell_far ⟨r, 1, none⟩ hl hrV).trans h.c1
  · rw [cs_other (addr_ne (by omega))]; exact (hgrow.cell_far ⟨r, 2, none⟩ hl hrV).trans h.c2
  · rw [World.frozen?_setCell]; exact (hgrow.frozen_far ⟨r, i, none⟩ hl hrV).trans (h.fz i)
  · have hb2 : Below r W w2 := ⟨hgrow.os, hgrow.tape, hgrow.output, hgrow.size, fun k hk => hgrow.block k (by omega) (fun e => by have := row_lt hr k e.symm; omega)⟩
    exact h.bel.trans (hb2.setCell (Nat.le_refl _) _)
/-- at a region that draws -/
theorem rd_step {w wr W : World} {r : Nat} {f : Nat → Nat} {m : Nat} {ops : Array Oper} {o : Oper} {a : Act} {K : Act → World → Prop} {Q : Exit → Act → World → Prop} {E : Prop} (hgd : o.guard = none) (s x : Operand)
    (ho : o.op = .call { callee := .builtin .append, args := #[s, x], argTypes := #[83, 83] }) {vt : Value} (hs : a.eval s = vt) {gb : Nat} (hx : a.eval x = .slice (some ⟨gb, 0, none⟩) 1 1)
    {y : Int} (hy : y = (f m : Int)) (hm : m ≤ 17179869184) (h : RdMk w wr r f m) (h0 : wr.cell? ⟨r, 0, none⟩ = some vt) (hb : Below wr.heap.size wr W) (hn : W.cell? ⟨gb, 0, none⟩ = some (.int .i64 y))
    (hK : ∀ g1 cap1 w2, Hid (RdMk w (w2.setCell ⟨r, 0, none⟩ (.slice (some ⟨g1, 0, none⟩) (m + 1) cap1)) r f (m + 1)) → w2.cell? ⟨r, 0, none⟩ = some vt → w2.frozen? ⟨r, 0, none⟩ = false → K (a.put o.dst (.slice (some ⟨g1, 0, none⟩) (m + 1) cap1)) w2) :
    if Region.wanted o (yielded ops a.tmps) = true then Oper.wp Try.prog o a W K Q else E := by
  have hw : Region.wanted o (yielded ops a.tmps) = true := by simp [Region.wanted, hgd]
  rw [if_pos hw]
  obtain ⟨g1, cap1, w2, hr, h2, h4, h5⟩ := rd_run (h.later hb) hm ((hb.cell (p := ⟨r, 0, none⟩) h.lt).trans h0) hy hn o.type
  unfold Oper.wp execOp
  simp only [ho, resolve, invoke, builtin, Sem.run_bind, Sem.run_pure, Result.andThen_ok, List.map_toArray, List.map_cons, List.map_nil, hs, hx, hr]
  exact hK g1 cap1 w2 h2 h4 h5
/-- at a plain region's list -/
theorem rd_list {w wr W : World} {r : Nat} {f : Nat → Nat} {m : Nat} {ops : Array Oper} {rest : List Oper} {o : Oper} {a : Act} {Q : Exit → Act → World → Prop} (hgd : o.guard = none) (s x : Operand)
    (ho : o.op = .call { callee := .builtin .append, args := #[s, x], argTypes := #[83, 83] }) {vt : Value} (hs : a.eval s = vt) {gb : Nat} (hx : a.eval x = .slice (some ⟨gb, 0, none⟩) 1 1)
    {y : Int} (hy : y = (f m : Int)) (hm : m ≤ 17179869184) (h : RdMk w wr r f m) (h0 : wr.cell? ⟨r, 0, none⟩ = some vt) (hb : Below wr.heap.size wr W) (hn : W.cell? ⟨gb, 0, none⟩ = some (.int .i64 y))
    (hK : ∀ g1 cap1 w2, Hid (RdMk w (w2.setCell ⟨r, 0, none⟩ (.slice (some ⟨g1, 0, none⟩) (m + 1) cap1)) r f (m + 1)) → w2.cell? ⟨r, 0, none⟩ = some vt → w2.frozen? ⟨r, 0, none⟩ = false → wpList Try.prog ops Q rest (a.put o.dst (.slice (some ⟨g1, 0, none⟩) (m + 1) cap1)) w2) :
    wpList Try.prog ops Q (o :: rest) a W := by
  refine wpList_plain hgd fun _ hKK => ?_
  obtain ⟨g1, cap1, w2, hr, h2, h4, h5⟩ := rd_run (h.later hb) hm ((hb.cell (p := ⟨r, 0, none⟩) h.lt).trans h0) hy hn o.type
  unfold Oper.wp execOp
  simp only [ho, resolve, invoke, builtin, Sem.run_bind, Sem.run_pure, Result.andThen_ok, List.map_toArray, List.map_cons, List.map_nil, hs, hx, hr]
  exact hKK _ _ (hK g1 cap1 w2 h2 h4 h5)
theorem shr_bit (g k : Nat) (hg : g < 256) : bits .and .i64 ((g : Int) / 2 ^ k) 1 = ((g / 2 ^ k % 2 : Nat) : Int) := by
  have hle : g / 2 ^ k ≤ g := Nat.div_le_self _ _
  rw [show ((g : Int) / 2 ^ k) = ((g / 2 ^ k : Nat) : Int) by norm_cast]
  generalize g / 2 ^ k = y at *
  rw [i64_mask1 _ (by omega) (by omega)]
  omega
set_option maxRecDepth 100000 in
set_option maxHeartbeats 1000000 in
theorem forward_any (s : ByteArray) (w : World) (hs : s.size ≤ 1073741824) :
    Calls Try.prog 97 #[.string s] w fun e w' => ∃ r g, e = .returned (.pointer (some ⟨r, 0, none⟩)) ∧ RdAt w' r g (8 * s.size) (fbit s) 0 ∧ Below w.heap.size w w' ∧ w.heap.size ≤ r := by
  go_enter Try.func97, Try.ntmps97
  go_wp2
  go_loopw [4] (fun iv wr => ∃ i : Nat, i ≤ s.size ∧ iv = .int .i64 i ∧ RdMk w wr w.heap.size (fbit s) (8 * i)) (fun iv _ => (s.size - intOf iv).toNat)
  case atStart => exact ⟨0, by omega, rfl, ⟨⟨_, by simp, World.ownsRow_nil _ _ _ _⟩, by simp, by simp, by simp, (Below.refl _ _).alloc (Nat.le_refl _) _, fbit_lt s⟩⟩
  case round =>
    obtain ⟨i, hi, rfl, hm⟩ := hrel
    have HM : Hid (RdMk w wr w.heap.size (fbit s) (8 * i)) := hm
    clear hm
    by_cases hlt : i < s.size
    · have hix : ∀ wz, (Instr.index 9 (.string s) (.int .i64 (i : Int))).run Try.prog wz = .ok (.int .u8 ((gOf s i : Nat) : Int)) wz := run_at s _ i rfl hlt
      have hgl := gOf_lt s i
      have hw8 : IntKind.i64.wrap (gOf s i : Int) = (gOf s i : Int) := i64_id _ (by omega) (by omega)
      go_wp2
      go_loopw [5] (fun kv wr => ∃ k : Nat, k ≤ 8 ∧ kv = .int .i64 k ∧ RdMk w wr w.heap.size (fbit s) (8 * i + k)) (fun kv _ => (8 - intOf kv).toNat)
      case atStart => exact ⟨0, by omega, rfl, HM.out⟩
      case round =>
        clear HM
        obtain ⟨k, hk, rfl, hm⟩ := hrel
        have HM : Hid (RdMk w wr w.heap.size (fbit s) (8 * i + k)) := hm
        obtain ⟨vt, h0, _⟩ := hm.v
        have f0 := hm.fz 0
        have hwl := hm.lt
        clear hm
        by_cases hk8 : k < 8
        · have HE : Hid (bits .and .i64 ((gOf s i : Int) / 2 ^ k) 1 = (fbit s (8 * i + k) : Int)) := by
            show _ = _
            rw [shr_bit _ k hgl]; unfold fbit
            rw [show (8 * i + k) / 8 = i by omega, show (8 * i + k) % 8 = k by omega]
          go_wp2_with fail
          go_region_law ((refine rd_step (by rfl) (.tmp 22) (.tmp 30) (by rfl) (by first | rfl | simp) (gb := wr.heap.size) (by simp [Act.eval]) HE.out (by omega) HM.out h0 (by repeat (first | exact Below.refl _ _ | refine Below.drew ?_ | refine Below.alloc ?_ (by simp <;> omega) _)) (by simp <;> rw [hw8]) ?_; intro g1 cap1 w2 hfin c3 e3))
          all_goals
            go_wp2_with fail
            exact ⟨⟨k + 1, by omega, by go_num, hfin.out⟩, by simp [intOf]; omega⟩
        · obtain rfl : k = 8 := by omega
          go_wp2_with fail
          exact ⟨⟨i + 1, by omega, by go_num, HM.out⟩, by simp [intOf]; omega⟩
    · obtain rfl : i = s.size := by omega
      go_wp2_with fail
      go_ret
      obtain ⟨g, hg⟩ := HM.out.made (by omega)
      exact ⟨_, g, rfl, hg, HM.out.bel, Nat.le_refl _⟩
end Go.Proofs.Ytkfilgfcgmohlaa
namespace Go.Proofs.Ytkfilgfcgmohlaa
open Go.RowKit
/-- z noughts, then a bit that is set, in the last byte -/
structure Lead (s : ByteArray) (z : Nat) : Prop where
  lt : z < 8
  some : 0 < s.size
  one : bbit s z = 1
  nought : ∀ j, j < z → bbit s j = 0
/-- the last byte has no bit that is set, or there is none -/
def NoLead (s : ByteArray) : Prop := s.size = 0 ∨ ∀ j, j < 8 → bbit s j = 0
theorem Lead.uniq {s : ByteArray} {z y : Nat} (h : Lead s z) (k : Lead s y) : z = y := by
  rcases Nat.lt_trichotomy z y with h' | h' | h'
  · have := k.nought z h'; have := h.one; omega
  · exact h'
  · have := h.nought y h'; have := k.one; omega
theorem Lead.no {s : ByteArray} {z : Nat} (h : Lead s z) (k : NoLead s) : False := by
  rcases k with k | k
  · have := h.some; omega
  · have := k z h.lt; have := h.one; omega
theorem lead_or (s : ByteArray) : (∃ z, Lead s z) ∨ NoLead s := by
  by_cases h0 : s.size = 0
  · exact .inr (.inl h0)
  · have key : ∀ n, n ≤ 8 → (∃ z, Lead s z) ∨ ∀ j, j < n → bbit s j = 0 := by
      intro n
      induction n with
      | zero => intro _; exact .inr (fun j hj => absurd hj (by omega))
      | succ n ih =>
        intro hn
        rcases ih (by omega) with h | h
        · exact .inl h
        · by_cases e : bbit s n = 1
          · exact .inl ⟨n, by omega, by omega, e, h⟩
          · refine .inr (fun j hj => ?_)
            rcases Nat.lt_or_ge j n with h' | h'
            · exact h j h'
            · obtain rfl : j = n := by omega
              have := bbit_lt s j; omega
    rcases key 8 (Nat.le_refl _) with h | h
    · exact .inl h
    · exact .inr (.inr h)
/-- how many bits stand behind the first that is set; which -/
def bkN (s : ByteArray) (z : Nat) : Nat := 8 * s.size - (z + 1)
def bkF (s : ByteArray) (z : Nat) (k : Nat) : Nat := bbit s (z + 1 + k)
theorem RdMk.none {w wr : World} {r : Nat} {f : Nat → Nat} (h : RdMk w wr r f 0) (f' : Nat → Nat) (h2 : ∀ i, f' i < 2) : RdMk w wr r f' 0 := ⟨h.v, h.c1, h.c2, h.fz, h.bel, h2⟩
/-- J bits were looked at -/
def BkAt (w wr : World) (s : ByteArray) (J : Nat) : Bool → Prop
  | false => J ≤ 8 ∧ (∀ j, j < J → bbit s j = 0) ∧ RdMk w wr w.heap.size (fun _ => 0) 0
  | true => ∃ z, z < J ∧ Lead s z ∧ RdMk w wr w.heap.size (bkF s z) (J - (z + 1))
/-- what Backward answers -/
def BackQ (s : ByteArray) (w : World) (e : Ending) (w' : World) : Prop :=
  ∃ r ok, e = .returned (.tuple #[.pointer (some ⟨r, 0, none⟩), .bool ok]) ∧ Below w.heap.size w w' ∧ w.heap.size ≤ r ∧
    ((ok = false ∧ NoLead s) ∨ (ok = true ∧ ∃ z g, Lead s z ∧ RdAt w' r g (bkN s z) (bkF s z) 0))
set_option maxRecDepth 100000 in
set_option maxHeartbeats 2000000 in
theorem backward_any (s : ByteArray) (w : World) (hs : s.size ≤ 1073741824) :
    Calls Try.prog 84 #[.string s] w fun e w' => BackQ s w e w' := by
  go_enter Try.func84, Try.ntmps84
  go_wp2
  go_loopw [5, 6] (fun bv iv wr => ∃ (a : Nat) (bg : Bool), a ≤ s.size ∧ iv = .int .i64 ((s.size : Int) - 1 - a) ∧ bv = .bool bg ∧ BkAt w wr s (8 * a) bg ∧ (bg = false → a = 0)) (fun _ iv _ => (intOf iv + 1).toNat)
  case atStart => exact ⟨0, false, by omega, by simp, rfl, ⟨by omega, fun j hj => absurd hj (by omega), ⟨⟨_, by simp, World.ownsRow_nil _ _ _ _⟩, by simp, by simp, by simp, (Below.refl _ _).alloc (Nat.le_refl _) _, fun _ => by omega⟩⟩, fun _ => rfl⟩
  case round =>
    obtain ⟨a, bg, ha, rfl, rfl, hm, hbg⟩ := hrel
    have HM : Hid (BkAt w wr s (8 * a) bg ∧ (bg = false → a = 0)) := ⟨hm, hbg⟩
    clear hm hbg
    by_cases hlt : a < s.size
    · obtain ⟨i, hi⟩ : ∃ i : Nat, i = s.size - 1 - a := ⟨_, rfl⟩
      have HI : Hid (i + a + 1 = s.size) := by show _ = _; omega
      have hil : i < s.size := by omega
      rw [show ((s.size : Int) - 1 - a) = (i : Int) by omega]
      have hix : ∀ wz, (Instr.index 9 (.string s) (.int .i64 (i : Int))).run Try.prog wz = .ok (.int .u8 ((gOf s i : Nat) : Int)) wz := run_at s _ i rfl hil
      have hgl := gOf_lt s i
      have hw8 : IntKind.i64.wrap (gOf s i : Int) = (gOf s i : Int) := i64_id _ (by omega) (by omega)
      clear hi
      go_wp2_with fail
      go_loopw [5, 7] (fun bv kv wr => ∃ (b : Nat) (bg : Bool), b ≤ 8 ∧ kv = .int .i64 (7 - b) ∧ bv = .bool bg ∧ BkAt w wr s (8 * a + b) bg ∧ (bg = false → a = 0)) (fun _ kv _ => (intOf kv + 1).toNat)
      case atStart => exact ⟨0, bg, by omega, rfl, rfl, HM.out.1, HM.out.2⟩
      case round =>
        clear HM
        obtain ⟨b, bg, hb, rfl, rfl, hm, hbg⟩ := hrel
        by_cases hb8 : b < 8
        · obtain ⟨k, hk⟩ : ∃ k : Nat, k = 7 - b := ⟨_, rfl⟩
          have hk7 : k ≤ 7 := by omega
          have hE : bits .and .i64 ((gOf s i : Int) / 2 ^ k) 1 = (bbit s (8 * a + b) : Int) := by
            rw [shr_bit _ k hgl]; unfold bbit
            have := HI.out
            rw [show s.size - 1 - (8 * a + b) / 8 = i by omega, show 7 - (8 * a + b) % 8 = k by omega]
          rw [show ((7 : Int) - b) = (k : Int) by omega]
          have HK : Hid (k = 7 - b) := hk
          have hx2 := bbit_lt s (8 * a + b)
          obtain ⟨x, hx⟩ : ∃ x, x = bbit s (8 * a + b) := ⟨_, rfl⟩
          have HX : Hid (x = bbit s (8 * a + b)) := hx
          rw [← hx] at hE hx2
          clear hx hk
          cases bg with
          | true =>
            obtain ⟨z, hz, hL, hM⟩ := hm
            have HM : Hid (RdMk w wr w.heap.size (bkF s z) (8 * a + b - (z + 1))) := hM
            have HL : Hid (Lead s z) := hL
            have HY : Hid ((x : Int) = (bkF s z (8 * a + b - (z + 1)) : Int)) := by
              show _ = _
              unfold bkF
              rw [HX.out, show z + 1 + (8 * a + b - (z + 1)) = 8 * a + b by omega]
            obtain ⟨vt, h0, _⟩ := hM.v
            have f0 := hM.fz 0
            have hwl := hM.lt
            clear hM hL hbg
            go_wp2_with (at_builtin; refine rd_list (by rfl) (.tmp 34) (.tmp 36) (by rfl) (by first | rfl | simp) (gb := wr.heap.size) (by simp [Act.eval]) HY.out (by omega) HM.out h0 (by repeat (first | exact Below.refl _ _ | refine Below.drew ?_ | refine Below.alloc ?_ (by simp <;> omega) _)) (by simp) ?_; intro g1 cap1 w2 hfin c3 e3)
            refine ⟨⟨b + 1, true, by omega, ?_, rfl, ⟨z, by omega, HL.out, ?_⟩, fun h => by cases h⟩, ?_⟩
            · have := HK.out; go_num
            · rw [show 8 * a + (b + 1) - (z + 1) = 8 * a + b - (z + 1) + 1 by omega]
              exact hfin.out
            · simp [intOf]
          | false =>
            obtain ⟨hJ, hn, hM⟩ := hm
            obtain rfl : a = 0 := hbg rfl
            have HM : Hid (RdMk w wr w.heap.size (fun _ => 0) 0) := hM
            have HN : Hid (∀ j, j < 8 * 0 + b → bbit s j = 0) := hn
            clear hM hn hbg hJ
            by_cases hx1 : x = 1
            · subst hx1
              have hb1 : (((1 : Nat) : Int) == 1) = true := rfl
              go_wp2_with fail
              refine ⟨⟨b + 1, true, by omega, ?_, rfl, ⟨b, by omega, ⟨by omega, by omega, ?_, fun j hj => HN.out j (by omega)⟩, ?_⟩, fun h => by cases h⟩, ?_⟩
              · have := HK.out; go_num
              · rw [show b = 8 * 0 + b by omega]; exact HX.out.symm
              · rw [show 8 * 0 + (b + 1) - (b + 1) = 0 by omega]
                exact HM.out.none _ (fun i => bbit_lt s _)
              · simp [intOf]
            · obtain rfl : x = 0 := by omega
              have hb1 : (((0 : Nat) : Int) == 1) = false := rfl
              go_wp2_with fail
              refine ⟨⟨b + 1, false, by omega, ?_, rfl, ⟨by omega, fun j hj => ?_, HM.out⟩, fun _ => trivial⟩, ?_⟩
              · have := HK.out; go_num
              · rcases Nat.lt_or_ge j (8 * 0 + b) with h' | h'
                · exact HN.out j h'
                · obtain rfl : j = 8 * 0 + b := by omega
                  exact HX.out.symm
              · simp [intOf]
        · obtain rfl : b = 8 := by omega
          have HM : Hid (BkAt w wr s (8 * a + 8) bg ∧ (bg = false → a = 0)) := ⟨hm, hbg⟩
          clear hm hbg
          cases bg with
          | true =>
            go_wp2_with fail
            refine ⟨⟨a + 1, true, by omega, ?_, rfl, HM.out.1, fun h => by cases h⟩, ?_⟩
            · have := HI.out; go_num
            · simp [intOf]
          | false =>
            go_wp2_with fail
            go_ret2
            obtain ⟨⟨_, hn, hM⟩, ha0⟩ := HM.out
            obtain rfl : a = 0 := ha0 trivial
            exact ⟨w.heap.size, false, rfl, hM.bel, Nat.le_refl _, .inl ⟨rfl, .inr (fun j hj => hn j (by omega))⟩⟩
    · obtain rfl : a = s.size := by omega
      cases bg with
      | true =>
        go_wp2_with fail
        go_ret2
        obtain ⟨⟨z, hz, hL, hM⟩, _⟩ := HM.out
        obtain ⟨g, hg⟩ := hM.made (by omega)
        exact ⟨w.heap.size, true, rfl, hM.bel, Nat.le_refl _, .inr ⟨rfl, z, g, hL, hg⟩⟩
      | false =>
        go_wp2_with fail
        go_ret2
        obtain ⟨⟨_, hn, hM⟩, ha0⟩ := HM.out
        exact ⟨w.heap.size, false, rfl, hM.bel, Nat.le_refl _, .inl ⟨rfl, .inl (ha0 trivial)⟩⟩
end Go.Proofs.Ytkfilgfcgmohlaa
