import Derived.Test.YtkfilgfcgmohlaaJ01
import Derived.WalkKit
import Derived.WalkSpells
import Derived.WalkLawsBesides
import Derived.Deep.QuietTactic
import Derived.BigQuiet
namespace Go.Proofs.Ytkfilgfcgmohlaa
open Go.RowKit
theorem bcell {W w1 : World} (hb : Below W.heap.size W w1) : (∀ b o, b < W.heap.size → w1.cell? ⟨b, o, none⟩ = W.cell? ⟨b, o, none⟩) ∧ (∀ b o, b < W.heap.size → w1.frozen? ⟨b, o, none⟩ = W.frozen? ⟨b, o, none⟩) :=
  ⟨fun b o h => hb.cell (p := ⟨b, o, none⟩) h, fun b o h => hb.frozen (p := ⟨b, o, none⟩) h⟩
def primeN (k : Nat) : Nat := if k = 1 then 11400714785074694791 else if k = 2 then 14029467366897019727 else if k = 3 then 1609587929392839161 else if k = 4 then 9650029242287828579 else 2870177450012600261
set_option maxRecDepth 100000 in
set_option maxHeartbeats 1000000 in
theorem prime_any (k : Int) (w : World) (h1 : 1 ≤ k) (h5 : k ≤ 5) :
    Calls Try.prog 40 #[.int .i64 k] w fun e w' =>
      ∃ h l, e = .returned (.agg #[.int .i64 h, .int .i64 l]) ∧ IsH h l (primeN k.toNat) ∧ Below w.heap.size w w' := by
  have hk : k = 1 ∨ k = 2 ∨ k = 3 ∨ k = 4 ∨ k = 5 := by omega
  clear h1 h5
  rcases hk with rfl | rfl | rfl | rfl | rfl
  · go_enter Try.func40, Try.ntmps40
    go_wp2
    exact bodyPost_ret (v := .agg #[.int .i64 2654435761, .int .i64 2246822535]) (by simp [results, Try.results40, go_sem]) rfl ⟨2654435761, 2246822535, rfl, ⟨by decide, by decide, by decide⟩, (Below.refl _ _).alloc (Nat.le_refl _) _⟩
  · go_enter Try.func40, Try.ntmps40
    go_wp2
    exact bodyPost_ret (v := .agg #[.int .i64 3266489917, .int .i64 668265295]) (by simp [results, Try.results40, go_sem]) rfl ⟨3266489917, 668265295, rfl, ⟨by decide, by decide, by decide⟩, (Below.refl _ _).alloc (Nat.le_refl _) _⟩
  · go_enter Try.func40, Try.ntmps40
    go_wp2
    exact bodyPost_ret (v := .agg #[.int .i64 374761393, .int .i64 2654435833]) (by simp [results, Try.results40, go_sem]) rfl ⟨374761393, 2654435833, rfl, ⟨by decide, by decide, by decide⟩, (Below.refl _ _).alloc (Nat.le_refl _) _⟩
  · go_enter Try.func40, Try.ntmps40
    go_wp2
    exact bodyPost_ret (v := .agg #[.int .i64 2246822519, .int .i64 3266489955]) (by simp [results, Try.results40, go_sem]) rfl ⟨2246822519, 3266489955, rfl, ⟨by decide, by decide, by decide⟩, (Below.refl _ _).alloc (Nat.le_refl _) _⟩
  · go_enter Try.func40, Try.ntmps40
    go_wp2
    exact bodyPost_ret (v := .agg #[.int .i64 668265263, .int .i64 374761413]) (by simp [results, Try.results40, go_sem]) rfl ⟨668265263, 374761413, rfl, ⟨by decide, by decide, by decide⟩, (Below.refl _ _).alloc (Nat.le_refl _) _⟩
set_option maxRecDepth 100000 in
set_option maxHeartbeats 1000000 in
theorem left_any (ah al : Int) (a : Nat) (k : Int) (w : World) (ha : IsH ah al a) (hk1 : 1 ≤ k) (hk2 : k ≤ 63) :
    Calls Try.prog 58 #[.agg #[.int .i64 ah, .int .i64 al], .int .i64 k] w fun e w' =>
      ∃ h l, e = .returned (.agg #[.int .i64 h, .int .i64 l]) ∧ IsH h l (rolN a k.toNat) ∧ Below w.heap.size w w' := by
  have HA : Hid (IsH ah al a) := ha
  have HR : Hid (mv a (64 - k).toNat true 64 = rolN a k.toNat) := by
    rw [show (64 - k).toNat = 64 - k.toNat by omega]; exact mv_round a k.toNat ha.lt (by omega) (by omega)
  clear ha
  go_enter Try.func58, Try.ntmps58
  go_wp2_with fail
  refine (moved_any ah al a _ true _ HA.out (by omega) (by omega)).mono ?_
  rintro e w1 ⟨h, l, rfl, hH, hb⟩
  rw [HR.out] at hH
  have HH : Hid (IsH h l (rolN a k.toNat)) := hH
  have hsz : w.heap.size + 1 < w1.heap.size := by have := hb.size; simp at this; omega
  obtain ⟨hc, hf⟩ := bcell hb
  have HB : Hid (Below w.heap.size w w1) := ((((Below.refl _ _).alloc (Nat.le_refl _) _).alloc (by simp) _)).trans (hb.mono (by simp; omega))
  clear hH hb
  go_wp2
  have r0 : w1.cell? ⟨w.heap.size + 1, 0, none⟩ = some (.int .i64 0) := by rw [hc _ _ (by simp)]; simp
  have r1 : w1.cell? ⟨w.heap.size + 1, 1, none⟩ = some (.int .i64 0) := by rw [hc _ _ (by simp)]; simp
  have q0 : ((w1.setCell ⟨w.heap.size + 1, 0, none⟩ (.int .i64 h)).setCell ⟨w.heap.size + 1, 1, none⟩ (.int .i64 l)).cell? ⟨w.heap.size + 1, 0, none⟩ = some (.int .i64 h) := by
    rw [cs_other (addr_ne (by omega))]; exact cs_same r0
  have q1 : ((w1.setCell ⟨w.heap.size + 1, 0, none⟩ (.int .i64 h)).setCell ⟨w.heap.size + 1, 1, none⟩ (.int .i64 l)).cell? ⟨w.heap.size + 1, 1, none⟩ = some (.int .i64 l) := by
    exact cs_same (by rw [cs_other (addr_ne (by omega))]; exact r1)
  exact bodyPost_ret (v := .agg #[.int .i64 h, .int .i64 l]) (by simp [results, Try.results58, go_sem, q0, q1]) rfl ⟨h, l, rfl, HH.out, (HB.out.setCell (by dsimp only; omega) _).setCell (by dsimp only; omega) _⟩
end Go.Proofs.Ytkfilgfcgmohlaa
namespace Go.Proofs.Ytkfilgfcgmohlaa
open Go.RowKit
/-- the number of c bytes from place p on, the lowest first -/
def numN (g : Nat → Nat) : Nat → Nat → Nat
  | _, 0 => 0
  | p, c + 1 => g p + 256 * numN g (p + 1) c
theorem numN_lt (g : Nat → Nat) (hg : ∀ i, g i < 256) : ∀ c p, numN g p c < 256 ^ c
  | 0, _ => by simp [numN]
  | c + 1, p => by
    have := numN_lt g hg c (p + 1)
    have := hg p
    simp only [numN]
    rw [Nat.pow_succ]
    omega
theorem numN_split (g : Nat → Nat) : ∀ a p b, numN g p (a + b) = numN g p a + 256 ^ a * numN g (p + a) b
  | 0, p, b => by simp [numN]
  | a + 1, p, b => by
    rw [show a + 1 + b = (a + b) + 1 by omega]
    simp only [numN]
    rw [numN_split g a (p + 1) b, Nat.mul_add, show p + 1 + a = p + (a + 1) by omega, Nat.pow_succ, Nat.mul_comm (256 ^ a) 256, Nat.mul_assoc, Nat.add_assoc]
def gOf (s : ByteArray) (i : Nat) : Nat := (s.data.toList.getD i 0).toNat
theorem gOf_lt (s : ByteArray) (i : Nat) : gOf s i < 256 := (s.data.toList.getD i 0).toNat_lt
theorem gOf_at (s : ByteArray) (i : Nat) (h : i < s.size) : (s[i]).toNat = gOf s i := by
  unfold gOf
  rw [List.getD_eq_getElem?_getD, Array.getElem?_toList, Array.getElem?_eq_getElem (show i < s.data.size from h)]
  rfl
theorem or_byte (h g : Nat) (hh : h < 16777216) (hg : g < 256) : bits .or .i64 ((h : Int) * 256) (g : Int) = ((g + 256 * h : Nat) : Int) := by
  rw [show ((h : Int) * 256) = ((h * 256 : Nat) : Int) by omega, i64_or _ _ (by omega) (by omega), nat_join 8 (h * 256) g (by omega) (by omega)]
  omega
theorem isH_word (s : ByteArray) (p n h l : Nat) (hh : h = numN (gOf s) (p + max 0 4) (n - max 0 4)) (hl : l = numN (gOf s) (p + 0) (min n 4 - 0)) (h8 : n ≤ 8) : IsH h l (numN (gOf s) p n) := by
  rw [show max 0 4 = 4 by omega] at hh
  rw [Nat.add_zero, Nat.sub_zero] at hl
  have b1 := numN_lt (gOf s) (gOf_lt s) (n - 4) (p + 4)
  have b2 := numN_lt (gOf s) (gOf_lt s) (min n 4) p
  have c1 : 256 ^ (n - 4) ≤ 256 ^ 4 := Nat.pow_le_pow_right (n := 256) (by omega) (by omega)
  have c2 : 256 ^ (min n 4) ≤ 256 ^ 4 := Nat.pow_le_pow_right (n := 256) (by omega) (by omega)
  refine IsH.mk2 h l rfl rfl ?_ (by omega) (by omega)
  by_cases h4 : n ≤ 4
  · rw [show min n 4 = n by omega] at hl
    rw [show n - 4 = 0 by omega] at hh
    rw [hh, hl]; simp [numN]
  · rw [show min n 4 = 4 by omega] at hl
    have := numN_split (gOf s) 4 p (n - 4)
    rw [show 4 + (n - 4) = n by omega, ← hh, ← hl] at this
    rw [this]; omega
theorem run_at (s : ByteArray) (i : Int) (k : Nat) (hk : i = (k : Int)) (h : k < s.size) (w : World) :
    (Instr.index 9 (.string s) (.int .i64 i)).run Try.prog w = .ok (.int .u8 ((gOf s k : Nat) : Int)) w := by
  subst hk
  rw [run_index_string _ _ _ _ _ Try.underlying9, dif_pos ⟨by omega, by omega⟩, ← gOf_at s k h]
  rfl
set_option maxRecDepth 100000 in
set_option maxHeartbeats 1000000 in
theorem word_any (s : ByteArray) (p n : Int) (w : World) (hs : s.size ≤ 1099511627776) (h0 : 0 ≤ p) (h1 : 1 ≤ n) (h8 : n ≤ 8) (hp : p + n ≤ s.size) :
    Calls Try.prog 43 #[.string s, .int .i64 p, .int .i64 n] w fun e w' =>
      ∃ h l, e = .returned (.agg #[.int .i64 h, .int .i64 l]) ∧ IsH h l (numN (gOf s) p.toNat n.toNat) ∧ Below w.heap.size w w' := by
  obtain ⟨p, rfl⟩ := Int.eq_ofNat_of_zero_le h0
  obtain ⟨n, rfl⟩ := Int.eq_ofNat_of_zero_le (show 0 ≤ n by omega)
  rw [Int.toNat_natCast, Int.toNat_natCast]
  go_enter Try.func43, Try.ntmps43
  go_wp2
  go_loopw [8] (fun iv wr => ∃ k : Nat, k ≤ n ∧ iv = .int .i64 ((k : Int) - 1) ∧ ∃ h l : Nat, h = numN (gOf s) (p + max k 4) (n - max k 4) ∧ l = numN (gOf s) (p + k) (min n 4 - k) ∧
      wr.cell? ⟨w.heap.size + 1, 0, none⟩ = some (.int .i64 h) ∧ wr.cell? ⟨w.heap.size + 1, 1, none⟩ = some (.int .i64 l) ∧
      wr.cell? ⟨w.heap.size, 0, none⟩ = some (.int .i64 0) ∧ wr.cell? ⟨w.heap.size, 1, none⟩ = some (.int .i64 0) ∧ (∀ i, wr.frozen? ⟨w.heap.size, i, none⟩ = false) ∧ (∀ i, wr.frozen? ⟨w.heap.size + 1, i, none⟩ = false) ∧ Below w.heap.size w wr)
    (fun iv _ => (intOf iv + 1).toNat)
  case atStart =>
    refine ⟨n, Nat.le_refl _, rfl, 0, 0, ?_, ?_, by simp, by simp, by simp, by simp, by simp, by simp, ((Below.refl _ _).alloc (Nat.le_refl _) _).alloc (by simp) _⟩
    · rw [show n - max n 4 = 0 by omega]; rfl
    · rw [show min n 4 - n = 0 by omega]; rfl
  case round =>
    obtain ⟨k, hk, rfl, h, l, hh, hl, o0, o1, r0, r1, rf, of, hb⟩ := hrel
    cases k with
    | succ k =>
      have e1 : ((k + 1 : Nat) : Int) - 1 = (k : Int) := by omega
      rw [e1]
      clear e1
      have of0 := of 0
      have of1 := of 1
      have hpk : p + k < s.size := by omega
      have HH : Hid (h = numN (gOf s) (p + max (k + 1) 4) (n - max (k + 1) 4)) := hh
      have HL : Hid (l = numN (gOf s) (p + (k + 1)) (min n 4 - (k + 1))) := hl
      have HB : Hid (Below w.heap.size w wr) := hb
      have HF : Hid ((∀ i, wr.frozen? ⟨w.heap.size, i, none⟩ = false) ∧ (∀ i, wr.frozen? ⟨w.heap.size + 1, i, none⟩ = false)) := ⟨rf, of⟩
      have hix : ∀ wz, (Instr.index 9 (.string s) (.int .i64 ((p : Int) + (k : Int)))).run Try.prog wz = .ok (.int .u8 ((gOf s (p + k) : Nat) : Int)) wz := run_at s _ (p + k) (by omega) hpk
      have hix2 : ∀ wz, (Instr.index 9 (.string s) (.int .i64 (IntKind.i64.wrap ((p : Int) + (k : Int))))).run Try.prog wz = .ok (.int .u8 ((gOf s (p + k) : Nat) : Int)) wz := run_at s _ (p + k) (by rw [i64_id _ (by omega) (by omega)]; omega) hpk
      have hgl := gOf_lt s (p + k)
      have hlb : l < 16777216 := by
        rw [hl]; have := numN_lt (gOf s) (gOf_lt s) (min n 4 - (k + 1)) (p + (k + 1))
        exact Nat.lt_of_lt_of_le this (Nat.pow_le_pow_right (n := 256) (by omega) (show min n 4 - (k + 1) ≤ 3 by omega))
      by_cases h4 : 4 ≤ k
      · have hhb : h < 16777216 := by
          rw [hh]; have := numN_lt (gOf s) (gOf_lt s) (n - max (k + 1) 4) (p + max (k + 1) 4)
          exact Nat.lt_of_lt_of_le this (Nat.pow_le_pow_right (n := 256) (by omega) (show n - max (k + 1) 4 ≤ 3 by omega))
        clear hh hl hb rf of
        go_wp2
        go_region
        all_goals go_wp2
        rw [or_byte h _ hhb hgl]
        refine ⟨⟨k, by omega, rfl, gOf s (p + k) + 256 * h, l, ?_, ?_, ?_, ?_, ?_, ?_, ?_, ?_, (HB.out.setCell (by dsimp only; omega) _).drew⟩, by simp [intOf]⟩
        · rw [HH.out, show max (k + 1) 4 = k + 1 by omega, show max k 4 = k by omega, show n - k = (n - (k + 1)) + 1 by omega]; rfl
        · rw [HL.out, show min n 4 - (k + 1) = 0 by omega, show min n 4 - k = 0 by omega]; rfl
        · rw [World.cell?_drew]; exact cs_same o0
        · rw [World.cell?_drew, cs_other (addr_ne (by omega))]; exact o1
        · rw [World.cell?_drew, cs_other (blk_ne (by omega))]; exact r0
        · rw [World.cell?_drew, cs_other (blk_ne (by omega))]; exact r1
        · intro i; rw [World.frozen?_drew, World.frozen?_setCell]; exact HF.out.1 i
        · intro i; rw [World.frozen?_drew, World.frozen?_setCell]; exact HF.out.2 i
      · clear hh hl hb rf of
        go_wp2
        go_region
        all_goals go_wp2
        rw [or_byte l _ hlb hgl]
        refine ⟨⟨k, by omega, rfl, h, gOf s (p + k) + 256 * l, ?_, ?_, ?_, ?_, ?_, ?_, ?_, ?_, (HB.out.setCell (by dsimp only; omega) _).drew⟩, by simp [intOf]⟩
        · rw [HH.out, show max (k + 1) 4 = max k 4 by omega]
        · rw [HL.out, show min n 4 - k = (min n 4 - (k + 1)) + 1 by omega]; rfl
        · rw [World.cell?_drew, cs_other (addr_ne (by omega))]; exact o0
        · rw [World.cell?_drew]; exact cs_same o1
        · rw [World.cell?_drew, cs_other (blk_ne (by omega))]; exact r0
        · rw [World.cell?_drew, cs_other (blk_ne (by omega))]; exact r1
        · intro i; rw [World.frozen?_drew, World.frozen?_setCell]; exact HF.out.1 i
        · intro i; rw [World.frozen?_drew, World.frozen?_setCell]; exact HF.out.2 i
    | zero =>
      have f0 := rf 0
      have f1 := rf 1
      have HH : Hid (IsH h l (numN (gOf s) p n)) := isH_word s p n h l hh hl (by omega)
      have HB : Hid (Below w.heap.size w wr) := hb
      clear hh hl hb rf of
      go_wp2
      have q0 : ((wr.setCell ⟨w.heap.size, 0, none⟩ (.int .i64 h)).setCell ⟨w.heap.size, 1, none⟩ (.int .i64 l)).cell? ⟨w.heap.size, 0, none⟩ = some (.int .i64 h) := by
        rw [cs_other (addr_ne (by omega))]; exact cs_same r0
      have q1 : ((wr.setCell ⟨w.heap.size, 0, none⟩ (.int .i64 h)).setCell ⟨w.heap.size, 1, none⟩ (.int .i64 l)).cell? ⟨w.heap.size, 1, none⟩ = some (.int .i64 l) := by
        exact cs_same (by rw [cs_other (addr_ne (by omega))]; exact r1)
      exact bodyPost_ret (v := .agg #[.int .i64 h, .int .i64 l]) (by simp [results, Try.results43, go_sem, q0, q1]) rfl ⟨_, _, rfl, HH.out, (HB.out.setCell (by dsimp only; omega) _).setCell (by dsimp only; omega) _⟩
end Go.Proofs.Ytkfilgfcgmohlaa
namespace Go.Proofs.Ytkfilgfcgmohlaa
open Go.RowKit
/-- bit j of bytes, from the first on, the lowest of each first -/
def fbit (s : ByteArray) (j : Nat) : Nat := gOf s (j / 8) / 2 ^ (j % 8) % 2
/-- bit j of bytes, from the last back, the highest of each first -/
def bbit (s : ByteArray) (j : Nat) : Nat := gOf s (s.size - 1 - j / 8) / 2 ^ (7 - j % 8) % 2
theorem fbit_lt (s : ByteArray) (j : Nat) : fbit s j < 2 := Nat.mod_lt _ (by omega)
theorem bbit_lt (s : ByteArray) (j : Nat) : bbit s j < 2 := Nat.mod_lt _ (by omega)
/-- bit 'pos' of n bits; what is not there is 0 -/
def rb (n : Nat) (f : Nat → Nat) (pos : Nat) : Nat := if pos < n then f pos else 0
theorem rb_lt (n : Nat) (f : Nat → Nat) (hf : ∀ i, f i < 2) (pos : Nat) : rb n f pos < 2 := by
  unfold rb; split
  · exact hf pos
  · omega
/-- k bits as a number, the lowest first; the highest first -/
def lowN (n : Nat) (f : Nat → Nat) (pos : Nat) : Nat → Nat
  | 0 => 0
  | k + 1 => lowN n f pos k + rb n f (pos + k) * 2 ^ k
def highN (n : Nat) (f : Nat → Nat) (pos : Nat) : Nat → Nat
  | 0 => 0
  | k + 1 => 2 * highN n f pos k + rb n f (pos + k)
theorem lowN_lt (n : Nat) (f : Nat → Nat) (hf : ∀ i, f i < 2) (pos : Nat) : ∀ k, lowN n f pos k < 2 ^ k
  | 0 => by simp [lowN]
  | k + 1 => by
    have h1 := lowN_lt n f hf pos k
    have h2 := rb_lt n f hf (pos + k)
    simp only [lowN]
    have : rb n f (pos + k) * 2 ^ k ≤ 1 * 2 ^ k := Nat.mul_le_mul_right _ (by omega)
    rw [Nat.pow_succ]; omega
theorem highN_lt (n : Nat) (f : Nat → Nat) (hf : ∀ i, f i < 2) (pos : Nat) : ∀ k, highN n f pos k < 2 ^ k
  | 0 => by simp [highN]
  | k + 1 => by
    have h1 := highN_lt n f hf pos k
    have h2 := rb_lt n f hf (pos + k)
    simp only [highN]
    rw [Nat.pow_succ]; omega
/-- the same world but for draws -/
structure Sm (w w' : World) : Prop where
  heap : w'.heap = w.heap
  os : w'.os = w.os
  tape : w'.tape = w.tape
  output : w'.output = w.output
theorem Sm.refl (w : World) : Sm w w := ⟨rfl, rfl, rfl, rfl⟩
theorem Sm.trans {a b c : World} (h : Sm a b) (k : Sm b c) : Sm a c := ⟨k.heap.trans h.heap, k.os.trans h.os, k.tape.trans h.tape, k.output.trans h.output⟩
theorem Sm.drew {a b : World} (h : Sm a b) : Sm a b.drew := ⟨h.heap, h.os, h.tape, h.output⟩
theorem Sm.drewN {a b : World} (h : Sm a b) (n : Nat) : Sm a (b.drewN n) := ⟨h.heap, h.os, h.tape, h.output⟩
theorem Sm.cell {a b : World} (h : Sm a b) (p : Addr) : b.cell? p = a.cell? p := World.cell?_of_block (by rw [h.heap])
theorem Sm.frozen {a b : World} (h : Sm a b) (p : Addr) : b.frozen? p = a.frozen? p := World.frozen?_of_block (by rw [h.heap])
theorem Sm.below {a b : World} (h : Sm a b) (B : Nat) : Below B a b := ⟨h.os, h.tape, h.output, by rw [h.heap]; exact Nat.le_refl _, fun k _ => by rw [h.heap]⟩
theorem Sm.upd {a b : World} (h : Sm a b) (r : Nat) : Upd r a b := ⟨h.os, h.tape, h.output, by rw [h.heap]; exact Nat.le_refl _, fun k _ _ => by rw [h.heap]⟩
/-- a reader at block r, its bits at block g: n bits; how many were asked for -/
structure RdAt (w : World) (r g n : Nat) (f : Nat → Nat) (pos : Nat) : Prop where
  b : ∃ pa cap, w.cell? ⟨r, 0, none⟩ = some (.slice pa n cap) ∧ (0 < n → pa = some ⟨g, 0, none⟩)
  c : ∀ i, i < n → w.cell? ⟨g, i, none⟩ = some (.int .i64 (f i : Int))
  at_ : w.cell? ⟨r, 1, none⟩ = some (.int .i64 (min pos n : Nat))
  over : w.cell? ⟨r, 2, none⟩ = some (.bool (decide (n < pos)))
  fz : ∀ i, w.frozen? ⟨r, i, none⟩ = false
  ne : r ≠ g
  two : ∀ i, f i < 2
  len : n ≤ 1099511627776
theorem RdAt.lt {w : World} {r g n : Nat} {f : Nat → Nat} {pos : Nat} (h : RdAt w r g n f pos) : r < w.heap.size := block_lt_of_cell h.at_
theorem RdAt.glt {w : World} {r g n : Nat} {f : Nat → Nat} {pos : Nat} (h : RdAt w r g n f pos) (hn : 0 < n) : g < w.heap.size := block_lt_of_cell (h.c 0 hn)
theorem RdAt.keep {w w' : World} {r g n : Nat} {f : Nat → Nat} {pos : Nat} (h : RdAt w r g n f pos) (hr : w'.heap[r]? = w.heap[r]?) (hg : 0 < n → w'.heap[g]? = w.heap[g]?) : RdAt w' r g n f pos := by
  obtain ⟨pa, cap, h1, h2⟩ := h.b
  exact ⟨⟨pa, cap, (World.cell?_of_block (w := w) (a := ⟨r, 0, none⟩) hr).trans h1, h2⟩, fun i hi => (World.cell?_of_block (w := w) (a := ⟨g, i, none⟩) (hg (by omega))).trans (h.c i hi),
    (World.cell?_of_block (w := w) (a := ⟨r, 1, none⟩) hr).trans h.at_, (World.cell?_of_block (w := w) (a := ⟨r, 2, none⟩) hr).trans h.over, fun i => (World.frozen?_of_block (w := w) (a := ⟨r, i, none⟩) hr).trans (h.fz i), h.ne, h.two, h.len⟩
theorem RdAt.below {w w' : World} {r g n B : Nat} {f : Nat → Nat} {pos : Nat} (h : RdAt w r g n f pos) (hb : Below B w w') (hr : r < B) (hg : 0 < n → g < B) : RdAt w' r g n f pos :=
  h.keep (hb.block r hr) (fun hn => hb.block g (hg hn))
theorem RdAt.sm {w w' : World} {r g n : Nat} {f : Nat → Nat} {pos : Nat} (h : RdAt w r g n f pos) (hs : Sm w w') : RdAt w' r g n f pos := h.keep (by rw [hs.heap]) (fun _ => by rw [hs.heap])
theorem RdAt.drew {w : World} {r g n : Nat} {f : Nat → Nat} {pos : Nat} (h : RdAt w r g n f pos) : RdAt w.drew r g n f pos := h.keep rfl (fun _ => rfl)
theorem RdAt.alloc {w : World} {r g n : Nat} {f : Nat → Nat} {pos : Nat} (h : RdAt w r g n f pos) (o : Obj) : RdAt (w.alloc o) r g n f pos := h.keep (Below.heap_alloc _ _ _ h.lt) (fun hn => Below.heap_alloc _ _ _ (h.glt hn))
theorem RdAt.other {w : World} {r g n : Nat} {f : Nat → Nat} {pos : Nat} (h : RdAt w r g n f pos) (p : Addr) (v : Value) (h1 : r ≠ p.block) (h2 : g ≠ p.block) : RdAt (w.setCell p v) r g n f pos := h.keep (Below.heap_setCell _ _ _ _ h1) (fun _ => Below.heap_setCell _ _ _ _ h2)
/-- a bit more was asked for, and it was there -/
theorem RdAt.next {w : World} {r g n : Nat} {f : Nat → Nat} {pos : Nat} (h : RdAt w r g n f pos) (hp : pos < n) (x : Int) (hx : x = (pos : Int) + 1) : RdAt (w.setCell ⟨r, 1, none⟩ (.int .i64 x)) r g n f (pos + 1) := by
  obtain ⟨pa, cap, h1, h2⟩ := h.b
  refine ⟨⟨pa, cap, by rw [cs_other (addr_ne (by omega))]; exact h1, h2⟩, fun i hi => by rw [cs_other (blk_ne h.ne)]; exact h.c i hi, ?_, ?_, fun i => by rw [World.frozen?_setCell]; exact h.fz i, h.ne, h.two, h.len⟩
  · rw [cs_same h.at_, show min (pos + 1) n = pos + 1 by omega, hx]; rfl
  · rw [cs_other (addr_ne (by omega)), h.over, show decide (n < pos) = decide (n < pos + 1) by simp; omega]
/-- a bit more was asked for, and it was not there -/
theorem RdAt.past {w : World} {r g n : Nat} {f : Nat → Nat} {pos : Nat} (h : RdAt w r g n f pos) (hp : ¬ pos < n) : RdAt (w.setCell ⟨r, 2, none⟩ (.bool true)) r g n f (pos + 1) := by
  obtain ⟨pa, cap, h1, h2⟩ := h.b
  refine ⟨⟨pa, cap, by rw [cs_other (addr_ne (by omega))]; exact h1, h2⟩, fun i hi => by rw [cs_other (blk_ne h.ne)]; exact h.c i hi, ?_, ?_, fun i => by rw [World.frozen?_setCell]; exact h.fz i, h.ne, h.two, h.len⟩
  · rw [cs_other (addr_ne (by omega)), h.at_, show min pos n = min (pos + 1) n by omega]
  · rw [cs_same h.over, show decide (n < pos + 1) = true by simp; omega]
end Go.Proofs.Ytkfilgfcgmohlaa
namespace Go.Proofs.Ytkfilgfcgmohlaa
open Go.RowKit
set_option maxRecDepth 100000 in
set_option maxHeartbeats 1000000 in
theorem rd_bit (r g n : Nat) (f : Nat → Nat) (pos : Nat) (w : World) (h : RdAt w r g n f pos) :
    Calls Try.prog 100 #[.pointer (some ⟨r, 0, none⟩)] w fun e w' => e = .returned (.int .i64 ((rb n f pos : Nat) : Int)) ∧ RdAt w' r g n f (pos + 1) ∧ Upd r w w' := by
  obtain ⟨pa, cap, c0, hpa⟩ := h.b
  have c1 := h.at_
  have c2 := h.over
  have f1 := h.fz 1
  have f2 := h.fz 2
  have hlen := h.len
  have HR : Hid (RdAt w r g n f pos) := h
  by_cases hp : pos < n
  · obtain rfl := hpa (by omega)
    have cb := h.c pos hp
    have hne := h.ne
    rw [show min pos n = pos by omega] at c1
    have HE : Hid (rb n f pos = f pos) := by show _ = _; unfold rb; rw [if_pos hp]
    clear h
    go_enter Try.func100, Try.ntmps100
    go_wp2
    go_region
    go_wp2
    have c0' : (w.drew.setCell ⟨r, 1, none⟩ (.int .i64 ((pos : Int) + 1))).cell? ⟨r, 0, none⟩ = some (.slice (some ⟨g, 0, none⟩) n cap) := by
      rw [cs_other (addr_ne (by omega))]; exact c0
    have c1' : (w.drew.setCell ⟨r, 1, none⟩ (.int .i64 ((pos : Int) + 1))).cell? ⟨r, 1, none⟩ = some (.int .i64 ((pos : Int) + 1)) := cs_same c1
    have cb' : (w.drew.setCell ⟨r, 1, none⟩ (.int .i64 ((pos : Int) + 1))).cell? ⟨g, pos, none⟩ = some (.int .i64 (f pos)) := by
      rw [cs_other (blk_ne hne)]; exact cb
    go_region
    go_wp2
    go_ret
    exact ⟨by rw [HE.out]; rfl, (HR.out.drew.next hp _ rfl).drew, (((Upd.refl r w).drew.setCell 1 _).drew)⟩
  · rw [show min pos n = n by omega] at c1
    have HE : Hid (rb n f pos = 0) := by show _ = _; unfold rb; rw [if_neg hp]
    clear h
    go_enter Try.func100, Try.ntmps100
    go_wp2
    go_region
    go_wp2
    go_ret
    exact ⟨by rw [HE.out]; rfl, HR.out.drew.past hp, (((Upd.refl r w).drew.setCell 2 _))⟩
set_option maxHeartbeats 1000000 in
theorem rd_whole (r g n : Nat) (f : Nat → Nat) (pos : Nat) (w : World) (h : RdAt w r g n f pos) :
    Calls Try.prog 90 #[.pointer (some ⟨r, 0, none⟩)] w fun e w' => e = .returned (.bool (decide (pos = n))) ∧ Sm w w' := by
  obtain ⟨pa, cap, c0, hpa⟩ := h.b
  have c1 := h.at_
  have c2 := h.over
  have hlen := h.len
  clear h hpa
  by_cases hp : pos < n
  · rw [show min pos n = pos by omega] at c1
    have HE : Hid (decide (pos = n) = false) := by show _ = _; simp; omega
    have hne : ((pos : Int) == (n : Int)) = false := by simp; omega
    go_enter Try.func90, Try.ntmps90
    go_wp2
    go_quiet (fail)
    go_wp2
    go_ret
    exact ⟨by rw [HE.out]; rfl, (Sm.refl w).drewN _⟩
  · rw [show min pos n = n by omega] at c1
    have heq : ((n : Int) == (n : Int)) = true := by simp
    by_cases hq : n < pos
    · have HE : Hid (decide (pos = n) = false) := by show _ = _; simp; omega
      rw [show decide (n < pos) = true by simp; omega] at c2
      go_enter Try.func90, Try.ntmps90
      go_wp2
      go_quiet (fail)
      go_wp2
      go_ret
      exact ⟨by rw [HE.out]; rfl, (Sm.refl w).drewN _⟩
    · have HE : Hid (decide (pos = n) = true) := by show _ = _; simp; omega
      rw [show decide (n < pos) = false by simp; omega] at c2
      go_enter Try.func90, Try.ntmps90
      go_wp2
      go_quiet (fail)
      go_wp2
      go_ret
      exact ⟨by rw [HE.out]; rfl, (Sm.refl w).drewN _⟩
set_option maxHeartbeats 1000000 in
theorem rd_left (r g n : Nat) (f : Nat → Nat) (pos : Nat) (w : World) (h : RdAt w r g n f pos) :
    Calls Try.prog 103 #[.pointer (some ⟨r, 0, none⟩)] w fun e w' => e = .returned (.int .i64 ((n - pos : Nat) : Int)) ∧ Sm w w' := by
  obtain ⟨pa, cap, c0, hpa⟩ := h.b
  have c1 := h.at_
  have hlen := h.len
  obtain ⟨m, hm⟩ : ∃ m, m = min pos n := ⟨_, rfl⟩
  have hml : m ≤ n := by omega
  have HM : Hid (n - pos = n - m) := by show _ = _; omega
  rw [← hm] at c1
  clear h hpa hm
  go_enter Try.func103, Try.ntmps103
  go_wp2
  go_quiet (fail)
  go_wp2
  go_ret
  exact ⟨ret_int (by rw [HM.out]; omega), (Sm.refl w).drewN _⟩
set_option maxRecDepth 100000 in
set_option maxHeartbeats 1000000 in
theorem rd_low (r g n : Nat) (f : Nat → Nat) (pos : Nat) (k : Nat) (w : World) (h : RdAt w r g n f pos) (hk : k ≤ 40) :
    Calls Try.prog 98 #[.pointer (some ⟨r, 0, none⟩), .int .i64 (k : Int)] w fun e w' => e = .returned (.int .i64 ((lowN n f pos k : Nat) : Int)) ∧ RdAt w' r g n f (pos + k) ∧ Upd r w w' := by
  have hf := h.two
  have HR : Hid (RdAt w r g n f pos) := h
  clear h
  go_enter Try.func98, Try.ntmps98
  go_wp2
  go_loopw [5, 6] (fun vv iv wr => ∃ i : Nat, i ≤ k ∧ iv = .int .i64 i ∧ vv = .int .i64 ((lowN n f pos i : Nat) : Int) ∧ RdAt wr r g n f (pos + i) ∧ Upd r w wr) (fun _ iv _ => (k - intOf iv).toNat)
  case atStart => exact ⟨0, by omega, rfl, rfl, HR.out, Upd.refl r w⟩
  case round =>
    obtain ⟨i, hi, rfl, rfl, hR, hU⟩ := hrel
    have HU : Hid (Upd r w wr) := hU
    by_cases hlt : i < k
    · clear HR hU
      go_wp2_with fail
      refine (rd_bit r g n f (pos + i) _ hR).mono ?_
      rintro e w1 ⟨rfl, hR1, hU1⟩
      have HR1 : Hid (RdAt w1 r g n f (pos + i + 1)) := hR1
      have HU1 : Hid (Upd r w w1) := HU.out.trans hU1
      have hx := rb_lt n f hf (pos + i)
      have hv := lowN_lt n f hf pos i
      have HE : Hid (lowN n f pos (i + 1) = lowN n f pos i + rb n f (pos + i) * 2 ^ i) := rfl
      have h40 : 2 ^ i ≤ 2 ^ 39 := Nat.pow_le_pow_right (by omega) (by omega)
      obtain ⟨x, hx0⟩ : ∃ x, x = rb n f (pos + i) := ⟨_, rfl⟩
      obtain ⟨v, hv0⟩ : ∃ v, v = lowN n f pos i := ⟨_, rfl⟩
      rw [← hx0] at hx
      rw [← hv0] at hv
      have HX : Hid (x * 2 ^ i ≤ 2 ^ 39) := by
        have : x * 2 ^ i ≤ 1 * 2 ^ i := Nat.mul_le_mul_right _ (by omega)
        show _ ≤ _
        omega
      rw [← hx0, ← hv0] at HE ⊢
      clear hx0 hv0 hR hR1 hU1 HU hf
      go_wp2
      refine ⟨⟨i + 1, by omega, by go_num, ?_, HR1.out, HU1.out⟩, by simp [intOf]; omega⟩
      have hxi := HX.out
      rw [HE.out, show ((x : Int) * 2 ^ i) = ((x * 2 ^ i : Nat) : Int) by norm_cast]
      generalize x * 2 ^ i = y at *
      have h39 : (2 : Nat) ^ 39 = 549755813888 := rfl
      rw [show wrap64 (y : Int) = (y : Int) by unfold wrap64; omega, show wrap64 ((v : Int) + (y : Int)) = ((v + y : Nat) : Int) by unfold wrap64; omega]
    · obtain rfl : i = k := by omega
      clear HR
      go_wp2
      go_ret
      exact ⟨rfl, hR, HU.out⟩
set_option maxRecDepth 100000 in
set_option maxHeartbeats 1000000 in
theorem rd_high (r g n : Nat) (f : Nat → Nat) (pos : Nat) (k : Nat) (w : World) (h : RdAt w r g n f pos) (hk : k ≤ 40) :
    Calls Try.prog 85 #[.pointer (some ⟨r, 0, none⟩), .int .i64 (k : Int)] w fun e w' => e = .returned (.int .i64 ((highN n f pos k : Nat) : Int)) ∧ RdAt w' r g n f (pos + k) ∧ Upd r w w' := by
  have hf := h.two
  have HR : Hid (RdAt w r g n f pos) := h
  clear h
  go_enter Try.func85, Try.ntmps85
  go_wp2
  go_loopw [5, 6] (fun vv iv wr => ∃ i : Nat, i ≤ k ∧ iv = .int .i64 i ∧ vv = .int .i64 ((highN n f pos i : Nat) : Int) ∧ RdAt wr r g n f (pos + i) ∧ Upd r w wr) (fun _ iv _ => (k - intOf iv).toNat)
  case atStart => exact ⟨0, by omega, rfl, rfl, HR.out, Upd.refl r w⟩
  case round =>
    obtain ⟨i, hi, rfl, rfl, hR, hU⟩ := hrel
    have HU : Hid (Upd r w wr) := hU
    by_cases hlt : i < k
    · clear HR hU
      go_wp2_with fail
      refine (rd_bit r g n f (pos + i) _ hR).mono ?_
      rintro e w1 ⟨rfl, hR1, hU1⟩
      have HR1 : Hid (RdAt w1 r g n f (pos + i + 1)) := hR1
      have HU1 : Hid (Upd r w w1) := HU.out.trans hU1
      have hx := rb_lt n f hf (pos + i)
      have hv := highN_lt n f hf pos i
      have HE : Hid (highN n f pos (i + 1) = 2 * highN n f pos i + rb n f (pos + i)) := rfl
      have h40 : 2 ^ i ≤ 2 ^ 39 := Nat.pow_le_pow_right (by omega) (by omega)
      obtain ⟨x, hx0⟩ : ∃ x, x = rb n f (pos + i) := ⟨_, rfl⟩
      obtain ⟨v, hv0⟩ : ∃ v, v = highN n f pos i := ⟨_, rfl⟩
      rw [← hx0] at hx
      rw [← hv0] at hv
      rw [← hx0, ← hv0] at HE ⊢
      clear hx0 hv0 hR hR1 hU1 HU hf
      go_wp2
      refine ⟨⟨i + 1, by omega, by go_num, ?_, HR1.out, HU1.out⟩, by simp [intOf]; omega⟩
      rw [HE.out]; rfl
    · obtain rfl : i = k := by omega
      clear HR
      go_wp2
      go_ret
      exact ⟨rfl, hR, HU.out⟩
end Go.Proofs.Ytkfilgfcgmohlaa
