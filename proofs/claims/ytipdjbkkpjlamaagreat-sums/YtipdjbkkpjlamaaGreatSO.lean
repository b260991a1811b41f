import Derived.Test.YtipdjbkkpjlamaaGreatSN
import Derived.WalkKit
import Derived.WalkSpells
import Derived.WalkLawsBesides
import Derived.Deep.RegionHeld3
import Derived.Deep.DrawnRows
import Derived.Deep.QuietTactic
import Derived.BigQuiet
namespace Go.Proofs.YtipdjbkkpjlamaaGreat
open Go.RowKit
attribute [local go_sem ↓] Go.wp_at_zero Go.wp_at_succ
/-- 'h.Hi<<32 | h.Lo' -/
theorem or_value {rh rl : Int} {n : Nat} (k : IsH rh rl n) : bits .or .i64 (wrap64 (rh * 4294967296)) rl = wrap64 ((n : Nat) : Int) := by
  have h1 := k.hi
  have h2 := k.lo
  have h3 := k.lt
  obtain ⟨a, ha⟩ : ∃ a, a = n / 4294967296 := ⟨_, rfl⟩
  obtain ⟨l, hl⟩ : ∃ l, l = n % 4294967296 := ⟨_, rfl⟩
  rw [← ha] at h1
  rw [← hl] at h2
  show IntKind.i64.wrap ((BitVec.ofInt 64 (wrap64 (rh * 4294967296)) ||| BitVec.ofInt 64 rl).toNat : Int) = _
  have e1 : (BitVec.ofInt 64 (wrap64 (rh * 4294967296))).toNat = 2 ^ 32 * a := by
    rw [BitVec.toNat_ofInt]; unfold wrap64; omega
  have e2 : (BitVec.ofInt 64 rl).toNat = l := by rw [BitVec.toNat_ofInt]; omega
  rw [BitVec.toNat_or, e1, e2, ← Nat.two_pow_add_eq_or_of_lt (by omega), IntKind.wrap_i64]
  unfold wrap64
  omega
theorem Rep.later' {w w' : World} {b : Nat} {l : List UInt8} {L R : Nat → Int} (h : Rep w b l L R) (hb : Below w.heap.size w w') : Rep w' b l L R := h.of_cells (hb.block b h.lt)
set_option maxRecDepth 100000 in
set_option maxHeartbeats 2000000 in
theorem summing_value {w0 w : World} {b B : Nat} {own : Nat → Nat} {k c : Nat} {T : List ByteArray} {S : List (Nat × ByteArray)} {I J : List Value} {L : List (List Int)} (h : Inv w0 w b B own k c T S I J L) (hk : k ≤ 1048576) (hc : c ≤ 1048576) (hz : 0 < S.length)
    (a0 b0 c0 : Int) (s0 : ByteArray) (ha : (Lit.int .i64 a0).wf = true) :
    Calls Tryz.prog 17 #[.pointer (some ⟨b, 0, none⟩), .agg #[.int .i64 20, .int .i64 a0, .int .i64 b0, .int .i64 c0, .string s0]] w fun e w' => e = .returned (.bool true) ∧ St w0 w' b B (k + 1) c := by
  have HI : Hid (Inv w0 w b B own k c T S I J L) := h
  have hblt := h.lt
  have hSk := h.bt.2.1
  obtain ⟨n, hn⟩ : ∃ n, n = S.length := ⟨_, rfl⟩
  obtain ⟨j, hj, hjn⟩ := pickI_nat a0 n (by omega)
  obtain ⟨gs, cap, p, LL, RR, h2, hg1, hgB, hg3, hS, hx, ht, hf, ho, hp1, hrep, hps, hrow⟩ := h.sums j (by omega)
  rw [← hn] at h2 hz hSk
  obtain ⟨g, t⟩ := p
  dsimp only at hx ht ho hp1 hrep hps
  have HPI : Hid (pickI a0 n = (j : Int)) := hj
  have HW : Hid ((Lit.int .i64 a0).wf = true) := ha
  have HR : Hid (Rep w g t.data.toList LL RR) := hrep
  have hjn2 : (j : Int) < (n : Int) := by omega
  clear h hn hj hS hf ho hrep hrow ha hgB hg3
  go_enter Tryz.func17, Tryz.ntmps17
  go_wp2_with fail
  go_quiet ((go_at_call 14; exact Calls.quiet_of_same (lpick_at _ _ _ _ HW.out (by omega) (by omega) HPI.out)))
  go_wp2_with fail
  have hlen : t.data.toList.length = t.size := by rw [Array.length_toList]; rfl
  refine (fsValue_any g LL RR t.data.toList _ (HR.out.later' (by repeat (first | exact Below.refl _ _ | refine Below.drew ?_ | refine below_drewN ?_ _ | refine bel_alloc ?_ _))) (by omega)).mono ?_
  rintro e w1 ⟨rfl, rfl⟩
  rw [sum_nat]
  go_wp2_with fail
  refine (rsum_any t _ (by omega)).mono ?_
  rintro e w1 ⟨rh, rl, rfl, hH, hB⟩
  have HH : Hid (IsH rh rl (xsumN t)) := hH
  have HB : Hid (Inv w0 w1 b B own k c T S I J L) := ((HI.out.alloc _).drewN _).later hB
  obtain ⟨v, hv⟩ : ∃ v, v = wrap64 ((xsumN t : Nat) : Int) := ⟨_, rfl⟩
  rw [← hv]
  have hb1 := HB.out.lt
  clear hH hB
  go_wp2
  go_ret
  refine ⟨?_, (HB.out.alloc _).st1⟩
  rw [or_value HH.out, beq_self_eq_true]
  rfl
set_option maxRecDepth 100000 in
set_option maxHeartbeats 2000000 in
theorem summing_start {w0 w : World} {b B : Nat} {own : Nat → Nat} {k c : Nat} {T : List ByteArray} {S : List (Nat × ByteArray)} {I J : List Value} {L : List (List Int)} (h : Inv w0 w b B own k c T S I J L) (hk : k ≤ 1048576) (_hc : c ≤ 1048576) (hz : 0 < S.length)
    (a0 b0 c0 : Int) (s0 : ByteArray) (ha : (Lit.int .i64 a0).wf = true) :
    Calls Tryz.prog 17 #[.pointer (some ⟨b, 0, none⟩), .agg #[.int .i64 21, .int .i64 a0, .int .i64 b0, .int .i64 c0, .string s0]] w fun e w' => e = .returned (.bool true) ∧ St w0 w' b B (k + 1) c := by
  have HI : Hid (Inv w0 w b B own k c T S I J L) := h
  have hblt := h.lt
  have hSk := h.bt.2.1
  obtain ⟨n, hn⟩ : ∃ n, n = S.length := ⟨_, rfl⟩
  obtain ⟨j, hj, hjn⟩ := pickI_nat a0 n (by omega)
  obtain ⟨gs, cap, p, LL, RR, h2, hg1, hgB, hg3, hS, hx, ht, hf, ho, hp1, hrep, hps, hrow⟩ := h.sums j (by omega)
  rw [← hn] at h2 hz hSk
  obtain ⟨g, t⟩ := p
  dsimp only at hx ht ho hp1 hrep hps
  have HPI : Hid (pickI a0 n = (j : Int)) := hj
  have HW : Hid ((Lit.int .i64 a0).wf = true) := ha
  have HR : Hid (Rep w g t.data.toList LL RR) := hrep
  have hjn2 : (j : Int) < (n : Int) := by omega
  have f2 := hf (j * 2 + 1)
  have HS : Hid (S[j]? = some (g, t)) := hS
  have HN : Hid (n = S.length) := hn
  have ngs : gs ≠ g := fun e => by rw [e] at hg3; omega
  clear h hn hj hS hf ho hrep hrow ha hgB hg3
  go_enter Tryz.func17, Tryz.ntmps17
  go_wp2_with fail
  go_quiet ((go_at_call 14; exact Calls.quiet_of_same (lpick_at _ _ _ _ HW.out (by omega) (by omega) HPI.out)))
  generalize hW : (w.alloc (Obj.cells #[.int .i64 21, .int .i64 a0, .int .i64 b0, .int .i64 c0, .string s0] 28)).drewN nq = W
  have hBl : Below w.heap.size w W := by rw [← hW]; exact below_drewN ((Below.refl _ _).alloc (Nat.le_refl _) _) _
  have HIW : Hid (Inv w0 W b B own k c T S I J L) := HI.out.later hBl
  have HRW : Hid (Rep W g t.data.toList LL RR) := HR.out.later' hBl
  have hWs : w.heap.size < W.heap.size := by rw [← hW]; simp
  have k0 : W.cell? ⟨w.heap.size, 0, none⟩ = some (.int .i64 21) := by rw [← hW]; simp
  have k2 := (hBl.cell (p := ⟨b, 2, none⟩) hblt).trans h2
  have kx := (hBl.cell (p := ⟨gs, j * 2, none⟩) hg1).trans hx
  have kt := (hBl.cell (p := ⟨gs, j * 2 + 1, none⟩) hg1).trans ht
  have kf := (hBl.frozen (p := ⟨gs, j * 2 + 1, none⟩) hg1).trans f2
  have ngH : w.heap.size ≠ g := by omega
  have hgW : gs < W.heap.size := by omega
  have hHg : w.heap.size ≠ gs := by omega
  obtain ⟨H, hH⟩ : ∃ H, H = w.heap.size := ⟨_, rfl⟩
  rw [← hH] at k0 ngH hWs hHg ⊢
  clear hW hBl h2 hx ht f2 hg1 hp1 hH
  go_wp2_with fail
  refine (fsStart_any g LL RR t.data.toList _ HRW.out).mono ?_
  rintro e w1 ⟨rfl, hu, hr⟩
  have m0 : w1.cell? ⟨H, 0, none⟩ = some (.int .i64 21) := (World.cell?_of_block (w := W) (a := ⟨H, 0, none⟩) (hu.block H hWs ngH)).trans k0
  have mt := (World.cell?_of_block (w := W) (a := ⟨gs, j * 2 + 1, none⟩) (hu.block gs hgW ngs)).trans kt
  have mf := (World.frozen?_of_block (w := W) (a := ⟨gs, j * 2 + 1, none⟩) (hu.block gs hgW ngs)).trans kf
  have HF : Hid (Inv w0 (w1.setCell ⟨gs, j * 2 + 1, none⟩ (.string ⟨#[]⟩)) b B own k c T (S.set j (g, ⟨#[]⟩)) I J L) :=
    HIW.out.setSum j (g, t) HS.out gs cap (by rw [← HN.out]; exact k2) hu ⟨#[]⟩ _ _ hr c (Nat.le_refl _) (Nat.zero_le _)
  clear hu hr k0 k2 kx kt kf
  go_wp2
  go_ret
  exact ⟨rfl, HF.out.st1⟩
end Go.Proofs.YtipdjbkkpjlamaaGreat
