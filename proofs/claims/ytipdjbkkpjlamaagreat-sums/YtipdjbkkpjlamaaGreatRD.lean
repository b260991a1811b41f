import Derived.Test.YtipdjbkkpjlamaaGreatRC
import Derived.WalkKit
import Derived.WalkSpells
import Derived.WalkLawsBesides
namespace Go.Proofs.YtipdjbkkpjlamaaGreat
open Go.RowKit
/-- the number of c bytes from place p on, the lowest first -/
def numN (g : Nat → Nat) : Nat → Nat → Nat
  | _, 0 => 0
  | p, c + 1 => g p + 256 * numN g (p + 1) c
theorem numN_lt (g : Nat → Nat) (hg : ∀ i, g i < 256) : ∀ c p, numN g p c < 256 ^ c
  | 0, _ => by simp [numN]
  | c + 1, p => by
    have := numN_lt g hg c (p + 1)
    have := hg p
    simp only [numN]
    rw [Nat.pow_succ]
    omega
theorem numN_split (g : Nat → Nat) : ∀ a p b, numN g p (a + b) = numN g p a + 256 ^ a * numN g (p + a) b
  | 0, p, b => by simp [numN]
  | a + 1, p, b => by
    rw [show a + 1 + b = (a + b) + 1 by omega]
    simp only [numN]
    rw [numN_split g a (p + 1) b, Nat.mul_add, show p + 1 + a = p + (a + 1) by omega, Nat.pow_succ, Nat.mul_comm (256 ^ a) 256, Nat.mul_assoc, Nat.add_assoc]
def gOf (s : ByteArray) (i : Nat) : Nat := (s.data.toList.getD i 0).toNat
theorem gOf_lt (s : ByteArray) (i : Nat) : gOf s i < 256 := (s.data.toList.getD i 0).toNat_lt
theorem gOf_at (s : ByteArray) (i : Nat) (h : i < s.size) : (s[i]).toNat = gOf s i := by
  unfold gOf
  rw [List.getD_eq_getElem?_getD, Array.getElem?_toList, Array.getElem?_eq_getElem (show i < s.data.size from h)]
  rfl
theorem or_byte (h g : Nat) (hh : h < 16777216) (hg : g < 256) : bits .or .i64 ((h : Int) * 256) (g : Int) = ((g + 256 * h : Nat) : Int) := by
  rw [show ((h : Int) * 256) = ((h * 256 : Nat) : Int) by omega, i64_or _ _ (by omega) (by omega), nat_join 8 (h * 256) g (by omega) (by omega)]
  omega
theorem isH_word (s : ByteArray) (p n h l : Nat) (hh : h = numN (gOf s) (p + max 0 4) (n - max 0 4)) (hl : l = numN (gOf s) (p + 0) (min n 4 - 0)) (h8 : n ≤ 8) : IsH h l (numN (gOf s) p n) := by
  rw [show max 0 4 = 4 by omega] at hh
  rw [Nat.add_zero, Nat.sub_zero] at hl
  have b1 := numN_lt (gOf s) (gOf_lt s) (n - 4) (p + 4)
  have b2 := numN_lt (gOf s) (gOf_lt s) (min n 4) p
  have c1 : 256 ^ (n - 4) ≤ 256 ^ 4 := Nat.pow_le_pow_right (n := 256) (by omega) (by omega)
  have c2 : 256 ^ (min n 4) ≤ 256 ^ 4 := Nat.pow_le_pow_right (n := 256) (by omega) (by omega)
  refine IsH.mk2 h l rfl rfl ?_ (by omega) (by omega)
  by_cases h4 : n ≤ 4
  · rw [show min n 4 = n by omega] at hl
    rw [show n - 4 = 0 by omega] at hh
    rw [hh, hl]; simp [numN]
  · rw [show min n 4 = 4 by omega] at hl
    have := numN_split (gOf s) 4 p (n - 4)
    rw [show 4 + (n - 4) = n by omega, ← hh, ← hl] at this
    rw [this]; omega
theorem run_at (s : ByteArray) (i : Int) (k : Nat) (hk : i = (k : Int)) (h : k < s.size) (w : World) :
    (Instr.index 9 (.string s) (.int .i64 i)).run Tryz.prog w = .ok (.int .u8 ((gOf s k : Nat) : Int)) w := by
  subst hk
  rw [run_index_string _ _ _ _ _ Tryz.underlying9, dif_pos ⟨by omega, by omega⟩, ← gOf_at s k h]
  rfl
set_option maxRecDepth 100000 in
set_option maxHeartbeats 1000000 in
theorem word_any (s : ByteArray) (p n : Int) (w : World) (hs : s.size ≤ 1099511627776) (h0 : 0 ≤ p) (h1 : 1 ≤ n) (h8 : n ≤ 8) (hp : p + n ≤ s.size) :
    Calls Tryz.prog 45 #[.string s, .int .i64 p, .int .i64 n] w fun e w' =>
      ∃ h l, e = .returned (.agg #[.int .i64 h, .int .i64 l]) ∧ IsH h l (numN (gOf s) p.toNat n.toNat) ∧ Below w.heap.size w w' := by
  obtain ⟨p, rfl⟩ := Int.eq_ofNat_of_zero_le h0
  obtain ⟨n, rfl⟩ := Int.eq_ofNat_of_zero_le (show 0 ≤ n by omega)
  rw [Int.toNat_natCast, Int.toNat_natCast]
  go_enter Tryz.func45, Tryz.ntmps45
  go_wp2
  go_loopw [8] (fun iv wr => ∃ k : Nat, k ≤ n ∧ iv = .int .i64 ((k : Int) - 1) ∧ ∃ h l : Nat, h = numN (gOf s) (p + max k 4) (n - max k 4) ∧ l = numN (gOf s) (p + k) (min n 4 - k) ∧
      wr.cell? ⟨w.heap.size + 1, 0, none⟩ = some (.int .i64 h) ∧ wr.cell? ⟨w.heap.size + 1, 1, none⟩ = some (.int .i64 l) ∧
      wr.cell? ⟨w.heap.size, 0, none⟩ = some (.int .i64 0) ∧ wr.cell? ⟨w.heap.size, 1, none⟩ = some (.int .i64 0) ∧ (∀ i, wr.frozen? ⟨w.heap.size, i, none⟩ = false) ∧ (∀ i, wr.frozen? ⟨w.heap.size + 1, i, none⟩ = false) ∧ Below w.heap.size w wr)
    (fun iv _ => (intOf iv + 1).toNat)
  case atStart =>
    refine ⟨n, Nat.le_refl _, rfl, 0, 0, ?_, ?_, by simp, by simp, by simp, by simp, by simp, by simp, ((Below.refl _ _).alloc (Nat.le_refl _) _).alloc (by simp) _⟩
    · rw [show n - max n 4 = 0 by omega]; rfl
    · rw [show min n 4 - n = 0 by omega]; rfl
  case round =>
    obtain ⟨k, hk, rfl, h, l, hh, hl, o0, o1, r0, r1, rf, of, hb⟩ := hrel
    cases k with
    | succ k =>
      have e1 : ((k + 1 : Nat) : Int) - 1 = (k : Int) := by omega
      rw [e1]
      clear e1
      have of0 := of 0
      have of1 := of 1
      have hpk : p + k < s.size := by omega
      have HH : Hid (h = numN (gOf s) (p + max (k + 1) 4) (n - max (k + 1) 4)) := hh
      have HL : Hid (l = numN (gOf s) (p + (k + 1)) (min n 4 - (k + 1))) := hl
      have HB : Hid (Below w.heap.size w wr) := hb
      have HF : Hid ((∀ i, wr.frozen? ⟨w.heap.size, i, none⟩ = false) ∧ (∀ i, wr.frozen? ⟨w.heap.size + 1, i, none⟩ = false)) := ⟨rf, of⟩
      have hix : ∀ wz, (Instr.index 9 (.string s) (.int .i64 ((p : Int) + (k : Int)))).run Tryz.prog wz = .ok (.int .u8 ((gOf s (p + k) : Nat) : Int)) wz := run_at s _ (p + k) (by omega) hpk
      have hix2 : ∀ wz, (Instr.index 9 (.string s) (.int .i64 (IntKind.i64.wrap ((p : Int) + (k : Int))))).run Tryz.prog wz = .ok (.int .u8 ((gOf s (p + k) : Nat) : Int)) wz := run_at s _ (p + k) (by rw [i64_id _ (by omega) (by omega)]; omega) hpk
      have hgl := gOf_lt s (p + k)
      have hlb : l < 16777216 := by
        rw [hl]; have := numN_lt (gOf s) (gOf_lt s) (min n 4 - (k + 1)) (p + (k + 1))
        exact Nat.lt_of_lt_of_le this (Nat.pow_le_pow_right (n := 256) (by omega) (show min n 4 - (k + 1) ≤ 3 by omega))
      by_cases h4 : 4 ≤ k
      · have hhb : h < 16777216 := by
          rw [hh]; have := numN_lt (gOf s) (gOf_lt s) (n - max (k + 1) 4) (p + max (k + 1) 4)
          exact Nat.lt_of_lt_of_le this (Nat.pow_le_pow_right (n := 256) (by omega) (show n - max (k + 1) 4 ≤ 3 by omega))
        clear hh hl hb rf of
        go_wp2
        go_region
        all_goals go_wp2
        rw [or_byte h _ hhb hgl]
        refine ⟨⟨k, by omega, rfl, gOf s (p + k) + 256 * h, l, ?_, ?_, ?_, ?_, ?_, ?_, ?_, ?_, (HB.out.setCell (by dsimp only; omega) _).drew⟩, by simp [intOf]⟩
        · rw [HH.out, show max (k + 1) 4 = k + 1 by omega, show max k 4 = k by omega, show n - k = (n - (k + 1)) + 1 by omega]; rfl
        · rw [HL.out, show min n 4 - (k + 1) = 0 by omega, show min n 4 - k = 0 by omega]; rfl
        · rw [World.cell?_drew]; exact cs_same o0
        · rw [World.cell?_drew, cs_other (addr_ne (by omega))]; exact o1
        · rw [World.cell?_drew, cs_other (blk_ne (by omega))]; exact r0
        · rw [World.cell?_drew, cs_other (blk_ne (by omega))]; exact r1
        · intro i; rw [World.frozen?_drew, World.frozen?_setCell]; exact HF.out.1 i
        · intro i; rw [World.frozen?_drew, World.frozen?_setCell]; exact HF.out.2 i
      · clear hh hl hb rf of
        go_wp2
        go_region
        all_goals go_wp2
        rw [or_byte l _ hlb hgl]
        refine ⟨⟨k, by omega, rfl, h, gOf s (p + k) + 256 * l, ?_, ?_, ?_, ?_, ?_, ?_, ?_, ?_, (HB.out.setCell (by dsimp only; omega) _).drew⟩, by simp [intOf]⟩
        · rw [HH.out, show max (k + 1) 4 = max k 4 by omega]
        · rw [HL.out, show min n 4 - k = (min n 4 - (k + 1)) + 1 by omega]; rfl
        · rw [World.cell?_drew, cs_other (addr_ne (by omega))]; exact o0
        · rw [World.cell?_drew]; exact cs_same o1
        · rw [World.cell?_drew, cs_other (blk_ne (by omega))]; exact r0
        · rw [World.cell?_drew, cs_other (blk_ne (by omega))]; exact r1
        · intro i; rw [World.frozen?_drew, World.frozen?_setCell]; exact HF.out.1 i
        · intro i; rw [World.frozen?_drew, World.frozen?_setCell]; exact HF.out.2 i
    | zero =>
      have f0 := rf 0
      have f1 := rf 1
      have HH : Hid (IsH h l (numN (gOf s) p n)) := isH_word s p n h l hh hl (by omega)
      have HB : Hid (Below w.heap.size w wr) := hb
      clear hh hl hb rf of
      go_wp2
      have q0 : ((wr.setCell ⟨w.heap.size, 0, none⟩ (.int .i64 h)).setCell ⟨w.heap.size, 1, none⟩ (.int .i64 l)).cell? ⟨w.heap.size, 0, none⟩ = some (.int .i64 h) := by
        rw [cs_other (addr_ne (by omega))]; exact cs_same r0
      have q1 : ((wr.setCell ⟨w.heap.size, 0, none⟩ (.int .i64 h)).setCell ⟨w.heap.size, 1, none⟩ (.int .i64 l)).cell? ⟨w.heap.size, 1, none⟩ = some (.int .i64 l) := by
        exact cs_same (by rw [cs_other (addr_ne (by omega))]; exact r1)
      exact bodyPost_ret (v := .agg #[.int .i64 h, .int .i64 l]) (by simp [results, Tryz.results45, go_sem, q0, q1]) rfl ⟨_, _, rfl, HH.out, (HB.out.setCell (by dsimp only; omega) _).setCell (by dsimp only; omega) _⟩
end Go.Proofs.YtipdjbkkpjlamaaGreat
