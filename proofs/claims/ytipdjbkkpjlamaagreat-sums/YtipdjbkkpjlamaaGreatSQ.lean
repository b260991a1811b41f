import Derived.Test.YtipdjbkkpjlamaaGreatSP
import Derived.WalkKit
import Derived.WalkSpells
import Derived.WalkLawsBesides
import Derived.Deep.RegionHeld3
import Derived.Deep.DrawnRows
import Derived.Deep.QuietTactic
import Derived.BigQuiet
namespace Go.Proofs.YtipdjbkkpjlamaaGreat
open Go.RowKit
attribute [local go_sem ↓] Go.wp_at_zero Go.wp_at_succ
set_option maxRecDepth 100000 in
set_option maxHeartbeats 2000000 in
theorem summing_add {w0 w : World} {b B : Nat} {own : Nat → Nat} {k c : Nat} {T : List ByteArray} {S : List (Nat × ByteArray)} {I J : List Value} {L : List (List Int)} (h : Inv w0 w b B own k c T S I J L) (hk : k ≤ 1048576) (hz : 0 < S.length)
    (a0 b0 c0 : Int) (s0 : ByteArray) (hc : c + s0.size ≤ 1048576) (ha : (Lit.int .i64 a0).wf = true) (hcw : (Lit.int .i64 c0).wf = true) :
    Calls Tryz.prog 17 #[.pointer (some ⟨b, 0, none⟩), .agg #[.int .i64 19, .int .i64 a0, .int .i64 b0, .int .i64 c0, .string s0]] w fun e w' => e = .returned (.bool true) ∧ St w0 w' b B (k + 1) (c + s0.size) := by
  have HI : Hid (Inv w0 w b B own k c T S I J L) := h
  have hblt := h.lt
  have hSk := h.bt.2.1
  have hbB := h.ge
  obtain ⟨n, hn⟩ : ∃ n, n = S.length := ⟨_, rfl⟩
  obtain ⟨j, hj, hjn⟩ := pickI_nat a0 n (by omega)
  obtain ⟨gs, cap, p, LL, RR, h2, hg1, hgB, hg3, hS, hx, ht, hf, ho, hp1, hrep, hps, hrow⟩ := h.sums j (by omega)
  rw [← hn] at h2 hz hSk
  obtain ⟨g, t⟩ := p
  dsimp only at hx ht ho hp1 hrep hps
  have HPI : Hid (pickI a0 n = (j : Int)) := hj
  have HW : Hid ((Lit.int .i64 a0).wf = true ∧ (Lit.int .i64 c0).wf = true) := ⟨ha, hcw⟩
  have HR : Hid (Rep w g t.data.toList LL RR) := hrep
  have hjn2 : (j : Int) < (n : Int) := by omega
  have f2 := hf (j * 2 + 1)
  have HS : Hid (S[j]? = some (g, t)) := hS
  have HN : Hid (n = S.length) := hn
  have ngs : gs ≠ g := fun e => by rw [e] at hg3; omega
  clear h hn hj hS hf ho hrep hrow ha hcw hgB hg3
  go_enter Tryz.func17, Tryz.ntmps17
  go_wp2_with fail
  go_quiet ((go_at_call 14; exact Calls.quiet_of_same (lpick_at _ _ _ _ HW.out.1 (by omega) (by omega) HPI.out)))
  generalize hW : (w.alloc (Obj.cells #[.int .i64 19, .int .i64 a0, .int .i64 b0, .int .i64 c0, .string s0] 28)).drewN nq = W
  have hBl : Below w.heap.size w W := by rw [← hW]; exact below_drewN ((Below.refl _ _).alloc (Nat.le_refl _) _) _
  have HIW : Hid (Inv w0 W b B own k c T S I J L) := HI.out.later hBl
  have HRW : Hid (Rep W g t.data.toList LL RR) := HR.out.later' hBl
  have hWs : w.heap.size < W.heap.size := by rw [← hW]; simp
  have k0 : W.cell? ⟨w.heap.size, 0, none⟩ = some (.int .i64 19) := by rw [← hW]; simp
  have k3 : W.cell? ⟨w.heap.size, 3, none⟩ = some (.int .i64 c0) := by rw [← hW]; simp
  have k4 : W.cell? ⟨w.heap.size, 4, none⟩ = some (.string s0) := by rw [← hW]; simp
  have k2 := (hBl.cell (p := ⟨b, 2, none⟩) hblt).trans h2
  have kx := (hBl.cell (p := ⟨gs, j * 2, none⟩) hg1).trans hx
  have kt := (hBl.cell (p := ⟨gs, j * 2 + 1, none⟩) hg1).trans ht
  have kf := (hBl.frozen (p := ⟨gs, j * 2 + 1, none⟩) hg1).trans f2
  have ngH : w.heap.size ≠ g := by omega
  have hgW : gs < W.heap.size := by omega
  have hpW : g < W.heap.size := by omega
  have hHg : w.heap.size ≠ gs := by omega
  have hBW : B ≤ W.heap.size := by omega
  obtain ⟨H, hH⟩ : ∃ H, H = w.heap.size := ⟨_, rfl⟩
  rw [← hH] at k0 k3 k4 ngH hWs hHg ⊢
  clear hW hBl h2 hx ht f2 hg1 hp1 hH hblt hbB
  go_wp2_with fail
  obtain ⟨a9, hd1, hd2⟩ := pickI_nat c0 9 (by omega)
  refine (lpick_at _ _ a9 _ HW.out.2 (by omega) (by omega) hd1).mono ?_
  rintro e w1 ⟨rfl, hw1⟩
  rw [hw1]
  clear hd1 hw1 w1
  obtain ⟨m, hm⟩ : ∃ m : Nat, m = s0.size + a9 := ⟨_, rfl⟩
  have hmk := mk_bytes m ((s0.size : Int) + (a9 : Int)) (by omega) (by omega)
  obtain ⟨V, hcp, hV⟩ := cp_bytes W s0 m (by omega)
  have HV : Hid (Bk W V W.heap.size m (padX s0) 0 s0.size) := hV
  have HM : Hid (m = s0.size + a9) := hm
  have hm1 : s0.size ≤ m := by omega
  have hm2 : m ≤ 1048584 := by omega
  have ng : g ≠ W.heap.size := by omega
  have nH : H ≠ W.heap.size := by omega
  have ngs' : gs ≠ W.heap.size := by omega
  clear hV hm
  go_wp2_with fail
  go_loopw [8] (fun iv wr => ∃ i : Nat, s0.size ≤ i ∧ i ≤ m ∧ iv = .int .i64 i ∧ Bk W wr W.heap.size m (padX s0) 0 i) (fun iv _ => (m - intOf iv).toNat)
  case atStart => exact ⟨s0.size, Nat.le_refl _, hm1, rfl, HV.out⟩
  case round =>
    clear HV hcp hmk
    obtain ⟨i, hi1, hi2, rfl, hbk⟩ := hrel
    have HK : Hid (Bk W wr W.heap.size m (padX s0) 0 i) := hbk
    by_cases hlt : i < m
    · obtain ⟨v, hv⟩ := hbk.any i hlt
      have hf := hbk.fz i
      have hi3 : (i : Int) < (m : Int) := by omega
      have hi0 : (0 : Int) ≤ (i : Int) := by omega
      clear hbk
      go_wp2
      refine ⟨⟨i + 1, by omega, by omega, by go_num, HK.out.set i 120 0 (i + 1) hlt (fun q hq1 hq2 => ?_)⟩, by simp [intOf]; omega⟩
      by_cases e : q = i
      · exact .inl ⟨e, by unfold padX; rw [if_neg (by omega)]⟩
      · exact .inr ⟨e, by omega, by omega⟩
    · obtain rfl : i = m := by omega
      have HIr : Hid (Inv w0 wr b B own k c T S I J L) := HIW.out.bk hBW (HIW.out.new _ (Nat.le_refl _)) hbk
      have HRr : Hid (Rep wr g t.data.toList LL RR) := HRW.out.bk ng hbk
      have r0 := (World.cell?_of_block (w := W) (a := ⟨H, 0, none⟩) (hbk.upd.block H hWs nH)).trans k0
      have r4 := (World.cell?_of_block (w := W) (a := ⟨H, 4, none⟩) (hbk.upd.block H hWs nH)).trans k4
      have rx := (World.cell?_of_block (w := W) (a := ⟨gs, j * 2, none⟩) (hbk.upd.block gs hgW ngs')).trans kx
      have rt := (World.cell?_of_block (w := W) (a := ⟨gs, j * 2 + 1, none⟩) (hbk.upd.block gs hgW ngs')).trans kt
      have rf := (World.frozen?_of_block (w := W) (a := ⟨gs, j * 2 + 1, none⟩) (hbk.upd.block gs hgW ngs')).trans kf
      have hWr := hbk.lt
      have hsm : (s0.size : Int) ≤ (i : Int) := by omega
      have hs00 : (0 : Int) ≤ (s0.size : Int) := by omega
      have hl0 : s0.size = s0.data.toList.length := by rw [Array.length_toList]; rfl
      have hl1 : t.size = t.data.toList.length := by rw [Array.length_toList]; rfl
      have HCM : Hid (∀ q, q < s0.data.toList.length → wr.cell? ⟨W.heap.size, 0 + q, none⟩ = some (.int .u8 (Xi.byte s0.data.toList q))) := by
        intro q hq
        rw [Nat.zero_add, hbk.val q (Nat.zero_le _) (by omega)]
        unfold padX
        rw [if_pos (by omega)]
        rfl
      have HL : Hid (s0.size = s0.data.toList.length ∧ t.data.toList.length + s0.data.toList.length ≤ 1099511627776) := ⟨hl0, by omega⟩
      clear hbk k0 k3 k4 kx kt kf hl0 hl1
      go_wp2_with fail
      go_region_with ((go_at_call 29; refine (fsAdd_any g W.heap.size 0 _ LL RR t.data.toList s0.data.toList s0.size _ wr.drew (HRr.out.of_cells rfl) (Ne.symm ng) hWr HL.out.1 (fun _ => rfl) (by exact HCM.out) HL.out.2).mono ?_; rintro e w1 ⟨rfl, hu, hr⟩))
      obtain ⟨L', R', hr⟩ := hr
      have hu' : Upd g wr w1 := ⟨hu.os, hu.tape, hu.output, hu.size, hu.block⟩
      have hr' : Rep w1 g (t ++ s0).data.toList L' R' := by rw [ByteArray.data_append, Array.toList_append]; exact hr
      have hHr : H < wr.heap.size := Nat.lt_of_lt_of_le hWs HK.out.upd.size
      have hgr : gs < wr.heap.size := Nat.lt_of_lt_of_le hgW HK.out.upd.size
      have m0 := (World.cell?_of_block (w := wr) (a := ⟨H, 0, none⟩) (hu'.block H hHr ngH)).trans r0
      have m4 := (World.cell?_of_block (w := wr) (a := ⟨H, 4, none⟩) (hu'.block H hHr ngH)).trans r4
      have mt := (World.cell?_of_block (w := wr) (a := ⟨gs, j * 2 + 1, none⟩) (hu'.block gs hgr ngs)).trans rt
      have mf := (World.frozen?_of_block (w := wr) (a := ⟨gs, j * 2 + 1, none⟩) (hu'.block gs hgr ngs)).trans rf
      have k2' : wr.cell? ⟨b, 2, none⟩ = some (.slice (some ⟨gs, 0, none⟩) S.length cap) := by
        rw [← HN.out]
        exact (World.cell?_of_block (w := W) (a := ⟨b, 2, none⟩) (HK.out.upd.block b HIW.out.lt (fun e => by have h1 := HIW.out.ob; rw [e, HIW.out.new _ (Nat.le_refl _)] at h1; omega))).trans k2
      have HF : Hid (Inv w0 (w1.setCell ⟨gs, j * 2 + 1, none⟩ (.string (t ++ s0))) b B own k (c + s0.size) T (S.set j (g, t ++ s0)) I J L) :=
        HIr.out.setSum j (g, t) HS.out gs cap k2' hu' (t ++ s0) _ _ hr' (c + s0.size) (by omega) (by rw [ByteArray.size_append]; omega)
      have HKK : Hid (Bk (w1.setCell ⟨gs, j * 2 + 1, none⟩ (.string (t ++ s0))) (w1.setCell ⟨gs, j * 2 + 1, none⟩ (.string (t ++ s0))) W.heap.size i (padX s0) 0 i) :=
        HK.out.block ((Below.heap_setCell _ _ _ _ (Ne.symm ngs')).trans (hu'.block _ hWr (Ne.symm ng))) (by rw [World.size_setCell]; exact Nat.lt_of_lt_of_le hWr hu'.size)
      have hsum : (t.size : Int) + (s0.size : Int) ≤ 1048576 := by omega
      clear hu hr hu' hr' r0 r4 rx rt rf k2 k2' hHr hgr hWr
      go_wp2_with fail
      have v0 : (w1.setCell ⟨gs, j * 2 + 1, none⟩ (.string (t ++ s0))).cell? ⟨H, 0, none⟩ = some (.int .i64 19) := (cs_other (fun e => hHg (by injection e with e1 e2 e3; exact e1.symm))).trans m0
      have v4 : (w1.setCell ⟨gs, j * 2 + 1, none⟩ (.string (t ++ s0))).cell? ⟨H, 4, none⟩ = some (.string s0) := (cs_other (fun e => hHg (by injection e with e1 e2 e3; exact e1.symm))).trans m4
      go_region
      go_wp2_with fail
      generalize (w1.setCell ⟨gs, j * 2 + 1, none⟩ (.string (t ++ s0))) = V2 at HF HKK v0 v4 ⊢
      have hHV : H < V2.heap.size := block_lt_of_cell v0
      clear m0 m4 mt mf HK HCM HL
      go_loopw [9] (fun iv wr => ∃ q : Nat, q ≤ i ∧ iv = .int .i64 q ∧ Bk V2 wr W.heap.size i (padX s0) q i) (fun iv _ => (i - intOf iv).toNat)
      case atStart => exact ⟨0, by omega, rfl, HKK.out.al ((Al.refl _).drew)⟩
      case round =>
        obtain ⟨q, hq, rfl, hbq⟩ := hrel
        have HQ : Hid (Bk V2 wr W.heap.size i (padX s0) q i) := hbq
        have u0 := (World.cell?_of_block (w := V2) (a := ⟨H, 0, none⟩) (hbq.upd.block H hHV nH)).trans v0
        have u4 := (World.cell?_of_block (w := V2) (a := ⟨H, 4, none⟩) (hbq.upd.block H hHV nH)).trans v4
        by_cases hq2 : q < i
        · have cq := hbq.val q (Nat.le_refl _) hq2
          have fq := hbq.fz q
          have hq3 : (q : Int) < (i : Int) := by omega
          have hq0 : (0 : Int) ≤ (q : Int) := by omega
          by_cases hqs : q < s0.size
          · have hqs2 : (q : Int) < (s0.size : Int) := by omega
            have hqs3 : ¬ s0.size ≤ q := by omega
            have hqs4 : decide (s0.size ≤ q) = false := by simp; omega
            rw [show padX s0 q = ((s0[q]).toNat : Int) by unfold padX; rw [if_pos hqs, gOf_at]] at cq
            clear hbq v0 v4
            go_wp2_with fail
            go_quiet (fail)
            go_wp2
            refine ⟨⟨q + 1, by omega, by go_num, (HQ.out.al ((Al.refl _).drewN _)).set q 121 (q + 1) i hq2 (fun r h1 h2 => .inr ⟨by omega, by omega, h2⟩)⟩, by simp [intOf]; omega⟩
          · have hqs2 : ¬ (q : Int) < (s0.size : Int) := by omega
            rw [show padX s0 q = 120 by unfold padX; rw [if_neg hqs]] at cq
            clear hbq v0 v4
            go_wp2_with fail
            go_quiet (fail)
            go_wp2
            refine ⟨⟨q + 1, by omega, by go_num, (HQ.out.al ((Al.refl _).drewN _)).set q 121 (q + 1) i hq2 (fun r h1 h2 => .inr ⟨by omega, by omega, h2⟩)⟩, by simp [intOf]; omega⟩
        · clear hbq v0 v4
          go_wp2
          go_ret
          exact ⟨rfl, (HF.out.bk hBW (HIW.out.new _ (Nat.le_refl _)) HQ.out).st1⟩
end Go.Proofs.YtipdjbkkpjlamaaGreat
