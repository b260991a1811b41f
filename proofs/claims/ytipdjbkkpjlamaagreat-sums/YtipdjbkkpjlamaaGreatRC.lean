import Derived.Test.YtipdjbkkpjlamaaGreatRB
import Derived.WalkKit
import Derived.WalkSpells
import Derived.WalkLawsBesides
namespace Go.Proofs.YtipdjbkkpjlamaaGreat
open Go.RowKit
theorem bcell {W w1 : World} (hb : Below W.heap.size W w1) : (∀ b o, b < W.heap.size → w1.cell? ⟨b, o, none⟩ = W.cell? ⟨b, o, none⟩) ∧ (∀ b o, b < W.heap.size → w1.frozen? ⟨b, o, none⟩ = W.frozen? ⟨b, o, none⟩) :=
  ⟨fun b o h => hb.cell (p := ⟨b, o, none⟩) h, fun b o h => hb.frozen (p := ⟨b, o, none⟩) h⟩
def primeN (k : Nat) : Nat := if k = 1 then 11400714785074694791 else if k = 2 then 14029467366897019727 else if k = 3 then 1609587929392839161 else if k = 4 then 9650029242287828579 else 2870177450012600261
set_option maxRecDepth 100000 in
set_option maxHeartbeats 1000000 in
theorem prime_any (k : Int) (w : World) (h1 : 1 ≤ k) (h5 : k ≤ 5) :
    Calls Tryz.prog 42 #[.int .i64 k] w fun e w' =>
      ∃ h l, e = .returned (.agg #[.int .i64 h, .int .i64 l]) ∧ IsH h l (primeN k.toNat) ∧ Below w.heap.size w w' := by
  have hk : k = 1 ∨ k = 2 ∨ k = 3 ∨ k = 4 ∨ k = 5 := by omega
  clear h1 h5
  rcases hk with rfl | rfl | rfl | rfl | rfl
  · go_enter Tryz.func42, Tryz.ntmps42
    go_wp2
    exact bodyPost_ret (v := .agg #[.int .i64 2654435761, .int .i64 2246822535]) (by simp [results, Tryz.results42, go_sem]) rfl ⟨2654435761, 2246822535, rfl, ⟨by decide, by decide, by decide⟩, (Below.refl _ _).alloc (Nat.le_refl _) _⟩
  · go_enter Tryz.func42, Tryz.ntmps42
    go_wp2
    exact bodyPost_ret (v := .agg #[.int .i64 3266489917, .int .i64 668265295]) (by simp [results, Tryz.results42, go_sem]) rfl ⟨3266489917, 668265295, rfl, ⟨by decide, by decide, by decide⟩, (Below.refl _ _).alloc (Nat.le_refl _) _⟩
  · go_enter Tryz.func42, Tryz.ntmps42
    go_wp2
    exact bodyPost_ret (v := .agg #[.int .i64 374761393, .int .i64 2654435833]) (by simp [results, Tryz.results42, go_sem]) rfl ⟨374761393, 2654435833, rfl, ⟨by decide, by decide, by decide⟩, (Below.refl _ _).alloc (Nat.le_refl _) _⟩
  · go_enter Tryz.func42, Tryz.ntmps42
    go_wp2
    exact bodyPost_ret (v := .agg #[.int .i64 2246822519, .int .i64 3266489955]) (by simp [results, Tryz.results42, go_sem]) rfl ⟨2246822519, 3266489955, rfl, ⟨by decide, by decide, by decide⟩, (Below.refl _ _).alloc (Nat.le_refl _) _⟩
  · go_enter Tryz.func42, Tryz.ntmps42
    go_wp2
    exact bodyPost_ret (v := .agg #[.int .i64 668265263, .int .i64 374761413]) (by simp [results, Tryz.results42, go_sem]) rfl ⟨668265263, 374761413, rfl, ⟨by decide, by decide, by decide⟩, (Below.refl _ _).alloc (Nat.le_refl _) _⟩
set_option maxRecDepth 100000 in
set_option maxHeartbeats 1000000 in
theorem left_any (ah al : Int) (a : Nat) (k : Int) (w : World) (ha : IsH ah al a) (hk1 : 1 ≤ k) (hk2 : k ≤ 63) :
    Calls Tryz.prog 62 #[.agg #[.int .i64 ah, .int .i64 al], .int .i64 k] w fun e w' =>
      ∃ h l, e = .returned (.agg #[.int .i64 h, .int .i64 l]) ∧ IsH h l (rolN a k.toNat) ∧ Below w.heap.size w w' := by
  have HA : Hid (IsH ah al a) := ha
  have HR : Hid (mv a (64 - k).toNat true 64 = rolN a k.toNat) := by
    rw [show (64 - k).toNat = 64 - k.toNat by omega]; exact mv_round a k.toNat ha.lt (by omega) (by omega)
  clear ha
  go_enter Tryz.func62, Tryz.ntmps62
  go_wp2_with fail
  refine (moved_any ah al a _ true _ HA.out (by omega) (by omega)).mono ?_
  rintro e w1 ⟨h, l, rfl, hH, hb⟩
  rw [HR.out] at hH
  have HH : Hid (IsH h l (rolN a k.toNat)) := hH
  have hsz : w.heap.size + 1 < w1.heap.size := by have := hb.size; simp at this; omega
  obtain ⟨hc, hf⟩ := bcell hb
  have HB : Hid (Below w.heap.size w w1) := ((((Below.refl _ _).alloc (Nat.le_refl _) _).alloc (by simp) _)).trans (hb.mono (by simp; omega))
  clear hH hb
  go_wp2
  have r0 : w1.cell? ⟨w.heap.size + 1, 0, none⟩ = some (.int .i64 0) := by rw [hc _ _ (by simp)]; simp
  have r1 : w1.cell? ⟨w.heap.size + 1, 1, none⟩ = some (.int .i64 0) := by rw [hc _ _ (by simp)]; simp
  have q0 : ((w1.setCell ⟨w.heap.size + 1, 0, none⟩ (.int .i64 h)).setCell ⟨w.heap.size + 1, 1, none⟩ (.int .i64 l)).cell? ⟨w.heap.size + 1, 0, none⟩ = some (.int .i64 h) := by
    rw [cs_other (addr_ne (by omega))]; exact cs_same r0
  have q1 : ((w1.setCell ⟨w.heap.size + 1, 0, none⟩ (.int .i64 h)).setCell ⟨w.heap.size + 1, 1, none⟩ (.int .i64 l)).cell? ⟨w.heap.size + 1, 1, none⟩ = some (.int .i64 l) := by
    exact cs_same (by rw [cs_other (addr_ne (by omega))]; exact r1)
  exact bodyPost_ret (v := .agg #[.int .i64 h, .int .i64 l]) (by simp [results, Tryz.results62, go_sem, q0, q1]) rfl ⟨h, l, rfl, HH.out, (HB.out.setCell (by dsimp only; omega) _).setCell (by dsimp only; omega) _⟩
end Go.Proofs.YtipdjbkkpjlamaaGreat
