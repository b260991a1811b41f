import Derived.Test.YtipdjbkkpjlamaaGreatRA
import Derived.Test.YtipdjbkkpjlamaaGreatMB
import Derived.WalkKit
import Derived.WalkSpells
import Derived.WalkLawsBesides
namespace Go.Proofs.YtipdjbkkpjlamaaGreat
open Go.RowKit
/-- what 'moved' holds in memory behind some rounds -/
structure MvAt (B : Nat) (w wr : World) (ah al : Int) (n : Nat) : Prop where
  a0 : wr.cell? ⟨B, 0, none⟩ = some (.int .i64 ah)
  a1 : wr.cell? ⟨B, 1, none⟩ = some (.int .i64 al)
  r0 : wr.cell? ⟨B + 1, 0, none⟩ = some (.int .i64 0)
  r1 : wr.cell? ⟨B + 1, 1, none⟩ = some (.int .i64 0)
  rf : ∀ i, wr.frozen? ⟨B + 1, i, none⟩ = false
  of : ∀ i, wr.frozen? ⟨B + 1 + 1, i, none⟩ = false
  out : ∃ h l, wr.cell? ⟨B + 1 + 1, 0, none⟩ = some (.int .i64 h) ∧ wr.cell? ⟨B + 1 + 1, 1, none⟩ = some (.int .i64 l) ∧ IsH h l n
  bel : Below B w wr
  size : B + 3 ≤ wr.heap.size
theorem MvAt.later {B : Nat} {w wr w1 : World} {ah al : Int} {n : Nat} (h : MvAt B w wr ah al n) (hb : Below wr.heap.size wr w1) : MvAt B w w1 ah al n := by
  have hs := h.size
  obtain ⟨x, y, o0, o1, hH⟩ := h.out
  exact ⟨(hb.cell (p := ⟨B, 0, none⟩) (by dsimp only; omega)).trans h.a0, (hb.cell (p := ⟨B, 1, none⟩) (by dsimp only; omega)).trans h.a1, (hb.cell (p := ⟨B + 1, 0, none⟩) (by dsimp only; omega)).trans h.r0, (hb.cell (p := ⟨B + 1, 1, none⟩) (by dsimp only; omega)).trans h.r1,
    fun i => (hb.frozen (p := ⟨B + 1, i, none⟩) (by dsimp only; omega)).trans (h.rf i), fun i => (hb.frozen (p := ⟨B + 1 + 1, i, none⟩) (by dsimp only; omega)).trans (h.of i),
    ⟨x, y, (hb.cell (p := ⟨B + 1 + 1, 0, none⟩) (by dsimp only; omega)).trans o0, (hb.cell (p := ⟨B + 1 + 1, 1, none⟩) (by dsimp only; omega)).trans o1, hH⟩, h.bel.trans (hb.mono (by omega)), Nat.le_trans hs hb.size⟩
theorem blk_ne {b c i j : Nat} (h : b ≠ c) : (⟨b, i, none⟩ : Addr) ≠ ⟨c, j, none⟩ := fun e => h (by injection e)
theorem MvAt.set {B : Nat} {w wr : World} {ah al : Int} {n : Nat} (h : MvAt B w wr ah al n) (i : Nat) (v : Value) (m : Nat)
    (ho : ∃ x y, (wr.setCell ⟨B + 1 + 1, i, none⟩ v).cell? ⟨B + 1 + 1, 0, none⟩ = some (.int .i64 x) ∧ (wr.setCell ⟨B + 1 + 1, i, none⟩ v).cell? ⟨B + 1 + 1, 1, none⟩ = some (.int .i64 y) ∧ IsH x y m) :
    MvAt B w (wr.setCell ⟨B + 1 + 1, i, none⟩ v).drew ah al m := by
  have hs := h.size
  exact ⟨by rw [World.cell?_drew, cs_other (blk_ne (by omega))]; exact h.a0, by rw [World.cell?_drew, cs_other (blk_ne (by omega))]; exact h.a1, by rw [World.cell?_drew, cs_other (blk_ne (by omega))]; exact h.r0, by rw [World.cell?_drew, cs_other (blk_ne (by omega))]; exact h.r1,
    fun j => by rw [World.frozen?_drew, World.frozen?_setCell]; exact h.rf j, fun j => by rw [World.frozen?_drew, World.frozen?_setCell]; exact h.of j, ho, (h.bel.setCell (by dsimp only; omega) _).drew, by rw [World.size_drew, World.size_setCell]; exact hs⟩
theorem MvAt.low {B : Nat} {w wr : World} {ah al x y : Int} {n : Nat} (h : MvAt B w wr ah al n) (o0 : wr.cell? ⟨B + 1 + 1, 0, none⟩ = some (.int .i64 x)) (o1 : wr.cell? ⟨B + 1 + 1, 1, none⟩ = some (.int .i64 y)) (hH : IsH x y n) (b j : Nat) (hb : b < 2) (hj : j < 32) :
    MvAt B w (wr.setCell ⟨B + 1 + 1, 1, none⟩ (.int .i64 (bits .or .i64 y ((b : Int) * 2 ^ j)))).drew ah al (n ||| b * 2 ^ j) :=
  h.set 1 _ _ ⟨x, _, by rw [cs_other (addr_ne (by omega))]; exact o0, cs_same o1, isH_or_low hH b j hb hj⟩
theorem MvAt.high {B : Nat} {w wr : World} {ah al x y : Int} {n : Nat} (h : MvAt B w wr ah al n) (o0 : wr.cell? ⟨B + 1 + 1, 0, none⟩ = some (.int .i64 x)) (o1 : wr.cell? ⟨B + 1 + 1, 1, none⟩ = some (.int .i64 y)) (hH : IsH x y n) (b j : Nat) (hb : b < 2) (hj : 32 ≤ j) (hj2 : j < 64) :
    MvAt B w (wr.setCell ⟨B + 1 + 1, 0, none⟩ (.int .i64 (bits .or .i64 x ((b : Int) * 2 ^ (j - 32))))).drew ah al (n ||| b * 2 ^ j) :=
  h.set 0 _ _ ⟨_, y, cs_same o0, by rw [cs_other (addr_ne (by omega))]; exact o1, isH_or_high hH b j hb hj hj2⟩
theorem MvAt.start (w : World) (ah al : Int) (t : TypeId) :
    MvAt w.heap.size w (((w.alloc (.cells #[.int .i64 ah, .int .i64 al] t)).alloc (.cells #[.int .i64 0, .int .i64 0] t)).alloc (.cells #[.int .i64 0, .int .i64 0] t)) ah al 0 := by
  refine ⟨?_, ?_, ?_, ?_, fun i => ?_, fun i => ?_, ⟨0, 0, ?_, ?_, ⟨by simp, by simp, by omega⟩⟩, (((Below.refl _ _).alloc (Nat.le_refl _) _).alloc (by simp) _).alloc (by simp; omega) _, by simp⟩
  · rw [World.cell?_alloc_past _ _ _ (by simp; omega), World.cell?_alloc_past _ _ _ (by simp), World.cell?_alloc_new]; rfl
  · rw [World.cell?_alloc_past _ _ _ (by simp; omega), World.cell?_alloc_past _ _ _ (by simp), World.cell?_alloc_new]; rfl
  · rw [World.cell?_alloc_past _ _ _ (by simp), World.cell?_alloc_at _ _ _ _ (by simp)]; rfl
  · rw [World.cell?_alloc_past _ _ _ (by simp), World.cell?_alloc_at _ _ _ _ (by simp)]; rfl
  · rw [World.frozen?_alloc_past _ _ _ (by simp), World.frozen?_alloc_at _ _ _ _ (by simp)]
  · rw [World.frozen?_alloc_at _ _ _ _ (by simp)]
  · rw [World.cell?_alloc_at _ _ _ _ (by simp)]; rfl
  · rw [World.cell?_alloc_at _ _ _ _ (by simp)]; rfl
theorem mv_ge (a k i : Nat) (r : Bool) (h : k ≤ i) : mv a k r (i + 1) = mv a k r i ||| (a / 2 ^ i % 2) * 2 ^ (i - k) := by simp [mv, h]
theorem mv_rd (a k i : Nat) (h : ¬ k ≤ i) : mv a k true (i + 1) = mv a k true i ||| (a / 2 ^ i % 2) * 2 ^ (i + 64 - k) := by simp [mv, h]
theorem mv_no (a k i : Nat) (h : ¬ k ≤ i) : mv a k false (i + 1) = mv a k false i := by simp [mv, h]
theorem wrap_shl (b j : Nat) (hb : b < 2) (hj : j < 32) : wrap64 ((b : Int) * 2 ^ j) = (b : Int) * 2 ^ j := by
  have h2 : 2 ^ j ≤ 2 ^ 31 := Nat.pow_le_pow_right (by omega) (by omega)
  have e : ((b : Int) * 2 ^ j) = ((b * 2 ^ j : Nat) : Int) := by norm_cast
  have hs : b * 2 ^ j < 4294967296 := by
    match b, hb with
    | 0, _ => omega
    | 1, _ => omega
  rw [e]; unfold wrap64; omega
set_option maxRecDepth 100000 in
set_option maxHeartbeats 1000000 in
theorem moved_any (ah al : Int) (a : Nat) (k : Int) (r : Bool) (w : World) (ha : IsH ah al a) (hk1 : 1 ≤ k) (hk2 : k ≤ 63) :
    Calls Tryz.prog 64 #[.agg #[.int .i64 ah, .int .i64 al], .int .i64 k, .bool r] w fun e w' =>
      ∃ h l, e = .returned (.agg #[.int .i64 h, .int .i64 l]) ∧ IsH h l (mv a k.toNat r 64) ∧ Below w.heap.size w w' := by
  obtain ⟨k, rfl⟩ := Int.eq_ofNat_of_zero_le (show 0 ≤ k by omega)
  rw [Int.toNat_natCast]
  have HA : Hid (IsH ah al a) := ha
  clear ha
  go_enter Tryz.func64, Tryz.ntmps64
  go_wp2
  go_loopw [8] (fun iv wr => ∃ i : Nat, i ≤ 64 ∧ iv = .int .i64 i ∧ MvAt w.heap.size w wr ah al (mv a k r i)) (fun iv _ => (64 - intOf iv).toNat)
  case atStart => exact ⟨0, by omega, rfl, MvAt.start w ah al _⟩
  case round =>
    obtain ⟨i, hi, rfl, hm⟩ := hrel
    by_cases hlt : i < 64
    · have c0 := hm.a0
      have c1 := hm.a1
      have HM : Hid (MvAt w.heap.size w wr ah al (mv a k r i)) := hm
      clear hm
      by_cases hki : k ≤ i
      · go_wp2_with fail
        refine (bitOf_any ah al a i _ HA.out (by omega)).mono ?_
        rintro e w1 ⟨rfl, hb⟩
        have hm := HM.out.later hb
        obtain ⟨x, y, o0, o1, hH⟩ := hm.out
        have f0 := hm.of 0
        have f1 := hm.of 1
        have HM2 : Hid (MvAt w.heap.size w w1 ah al (mv a k r i)) := hm
        have HH : Hid (IsH x y (mv a k r i)) := hH
        obtain ⟨bt, hbt⟩ : ∃ bt, bt = a / 2 ^ i % 2 := ⟨_, rfl⟩
        have hb2 : bt < 2 := by rw [hbt]; exact bit_lt a i
        have HE : Hid (mv a k r (i + 1) = mv a k r i ||| bt * 2 ^ (i - k)) := by rw [hbt]; exact mv_ge a k i r hki
        rw [← hbt]
        clear hbt hm hH hb c0 c1
        by_cases hj : i - k < 32
        · go_wp2
          go_region
          all_goals go_wp2
          rw [wrap_shl bt (i - k) hb2 hj]
          exact ⟨⟨i + 1, by omega, by go_num, by rw [HE.out]; exact HM2.out.low o0 o1 HH.out bt (i - k) hb2 hj⟩, by simp [intOf]; omega⟩
        · go_wp2
          go_region
          all_goals go_wp2
          rw [wrap_shl bt (i - k - 32) hb2 (by omega)]
          exact ⟨⟨i + 1, by omega, by go_num, by rw [HE.out]; exact HM2.out.high o0 o1 HH.out bt (i - k) hb2 (by omega) (by omega)⟩, by simp [intOf]; omega⟩
      · cases r with
        | false =>
          have HE : Hid (mv a k false (i + 1) = mv a k false i) := mv_no a k i hki
          go_wp2
          exact ⟨⟨i + 1, by omega, by go_num, by rw [HE.out]; exact HM.out⟩, by simp [intOf]; omega⟩
        | true =>
          go_wp2_with fail
          refine (bitOf_any ah al a i _ HA.out (by omega)).mono ?_
          rintro e w1 ⟨rfl, hb⟩
          have hm := HM.out.later hb
          obtain ⟨x, y, o0, o1, hH⟩ := hm.out
          have f0 := hm.of 0
          have f1 := hm.of 1
          have HM2 : Hid (MvAt w.heap.size w w1 ah al (mv a k true i)) := hm
          have HH : Hid (IsH x y (mv a k true i)) := hH
          obtain ⟨bt, hbt⟩ : ∃ bt, bt = a / 2 ^ i % 2 := ⟨_, rfl⟩
          have hb2 : bt < 2 := by rw [hbt]; exact bit_lt a i
          have HE : Hid (mv a k true (i + 1) = mv a k true i ||| bt * 2 ^ (i + 64 - k)) := by rw [hbt]; exact mv_rd a k i hki
          rw [← hbt]
          clear hbt hm hH hb c0 c1
          by_cases hj : i + 64 - k < 32
          · go_wp2
            go_region
            all_goals go_wp2
            rw [show ((i : Int) - (k : Int) + 64).toNat = i + 64 - k by omega, wrap_shl bt (i + 64 - k) hb2 hj]
            exact ⟨⟨i + 1, by omega, by go_num, by rw [HE.out]; exact HM2.out.low o0 o1 HH.out bt (i + 64 - k) hb2 hj⟩, by simp [intOf]; omega⟩
          · go_wp2
            go_region
            all_goals go_wp2
            rw [show ((i : Int) - (k : Int) + 64 - 32).toNat = i + 64 - k - 32 by omega, wrap_shl bt (i + 64 - k - 32) hb2 (by omega)]
            exact ⟨⟨i + 1, by omega, by go_num, by rw [HE.out]; exact HM2.out.high o0 o1 HH.out bt (i + 64 - k) hb2 (by omega) (by omega)⟩, by simp [intOf]; omega⟩
    · obtain rfl : i = 64 := by omega
      obtain ⟨x, y, o0, o1, hH⟩ := hm.out
      have r0 := hm.r0
      have r1 := hm.r1
      have f0 := hm.rf 0
      have f1 := hm.rf 1
      have HB : Hid (Below w.heap.size w wr) := hm.bel
      have HH : Hid (IsH x y (mv a k r 64)) := hH
      clear hm hH
      go_wp2
      have q0 : ((wr.setCell ⟨w.heap.size + 1, 0, none⟩ (.int .i64 x)).setCell ⟨w.heap.size + 1, 1, none⟩ (.int .i64 y)).cell? ⟨w.heap.size + 1, 0, none⟩ = some (.int .i64 x) := by
        rw [cs_other (addr_ne (by omega))]; exact cs_same r0
      have q1 : ((wr.setCell ⟨w.heap.size + 1, 0, none⟩ (.int .i64 x)).setCell ⟨w.heap.size + 1, 1, none⟩ (.int .i64 y)).cell? ⟨w.heap.size + 1, 1, none⟩ = some (.int .i64 y) := by
        exact cs_same (by rw [cs_other (addr_ne (by omega))]; exact r1)
      exact bodyPost_ret (v := .agg #[.int .i64 x, .int .i64 y]) (by simp [results, Tryz.results64, go_sem, q0, q1]) rfl ⟨x, y, rfl, HH.out, (HB.out.setCell (by dsimp only; omega) _).setCell (by dsimp only; omega) _⟩
end Go.Proofs.YtipdjbkkpjlamaaGreat
