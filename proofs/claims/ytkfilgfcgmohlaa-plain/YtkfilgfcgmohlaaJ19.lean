import Derived.Test.YtkfilgfcgmohlaaJ18
import Derived.WalkKit
import Derived.WalkSpells
import Derived.WalkLawsBesides
import Derived.Deep.RegionWith
import Derived.Laws.BytesArg
namespace Go.Proofs.Ytkfilgfcgmohlaa
open Go.RowKit
theorem DSt.head {w w' : World} {d g : Nat} {s : ByteArray} {limit k k' : Nat} {out : List Nat} {r : ByteArray} (h : DSt w d g s limit k out) (hU : Upd d w w') (hd : w'.heap[d]? = (w.setCell ⟨d, 0, none⟩ (.string r)).heap[d]?) (hr : RestAt s k' r) : DSt w' d g s limit k' out :=
  (h.set0 hr).keep hd ((hU.block g h.gl (fun e => h.ne e.symm)).trans (Below.heap_setCell _ _ _ _ (fun e => h.ne e.symm)).symm) (by rw [World.size_setCell]; exact hU.size)
theorem StepP.some {d g : Nat} {s : ByteArray} {limit : Nat} {r : Res} {w w' : World} {x : Ending} (h : StepP d g s limit r w x w') : ∃ e : Int, x = .returned (.int .i64 e) := by
  cases r using Res.elim with
  | met => obtain ⟨_, e, _, h⟩ := h; exact ⟨e, h⟩
  | bad e => exact ⟨e, h.2⟩
  | go p o l => exact ⟨0, h.2.1⟩
theorem StepP.from {d g : Nat} {s : ByteArray} {limit : Nat} {r : Res} {w w1 w' : World} {x : Ending} (h : StepP d g s limit r w1 x w') (hu : Upg d g w w1) : StepP d g s limit r w x w' := ⟨hu.trans h.1, h.2⟩
theorem mostP_le (W : Nat) : mostP W ≤ 131072 := by unfold mostP; split <;> omega
set_option maxRecDepth 100000 in
set_option maxHeartbeats 2000000 in
theorem pFrame (d g : Nat) (s : ByteArray) (limit k : Nat) (out : List Nat) (w : World) (h : DSt w d g s limit k out) :
    Calls Try.prog 49 #[.pointer (some ⟨d, 0, none⟩)] w fun x w' => StepP d g s limit (frameS s (limit : Int) k out) w x w' := by
  obtain ⟨r, hr, hra⟩ := h.rest
  have HD : Hid (DSt w d g s limit k out) := h
  have HRH : Hid (Calls Try.prog 62 #[.pointer (some ⟨d, 0, none⟩)] w fun x w' => HeadP d s k w x w') := pReadHead d k s r w hra hr (h.fz 0)
  clear h hr hra
  go_enter Try.func49, Try.ntmps49
  go_wp2_with fail
  refine HRH.out.mono ?_
  rintro x w1 ⟨hU, hbad, hok⟩
  by_cases he : hdE s k = 0
  · obtain ⟨rfl, r1, hd1, hr1⟩ := hok he
    have HD1 : Hid (DSt w1 d g s limit (hdEnd s k) out ∧ Upg d g w w1) := ⟨HD.out.head hU hd1 hr1, hU.upg⟩
    have HF : Hid (frameS s (limit : Int) k out = afterS s (decide (0 < sizeW (gOf s k))) (decide (gOf s k / 4 % 2 = 1)) (hSize (gOf s k) (hdZ s k)) out.length (blocksS s (limit : Int) (hdM s k) (hdEnd s k) out)) := by
      show _ = _
      unfold frameS
      rw [if_neg (fun h => h he)]
    have HZ : Hid (hSize (gOf s k) (hdZ s k) < 18446744073709551616) := hSize_lt s k
    clear hU hbad hok hd1 hr1 he
    obtain ⟨W, hW⟩ : ∃ W, W = hWin (gOf s k) (hdV s k) (hdZ s k) := ⟨_, rfl⟩
    obtain ⟨td, htd⟩ : ∃ td, td = decide (0 < sizeW (gOf s k)) := ⟨_, rfl⟩
    obtain ⟨SZ, hSZ⟩ : ∃ SZ, SZ = hSize (gOf s k) (hdZ s k) := ⟨_, rfl⟩
    obtain ⟨ck, hck⟩ : ∃ ck, ck = decide (gOf s k / 4 % 2 = 1) := ⟨_, rfl⟩
    obtain ⟨p1, hp1⟩ : ∃ p1, p1 = hdEnd s k := ⟨_, rfl⟩
    have HM : Hid (hdM s k = ((mostP W : Nat) : Int)) := by show _ = _; rw [hW]; rfl
    unfold hdAgg
    rw [← htd, ← hSZ, ← hck, ← hp1, HM.out] at HF
    rw [← hSZ] at HZ
    rw [← hp1] at HD1
    rw [← hW, ← htd, ← hSZ, ← hck]
    clear hW htd hSZ hck hp1
    have HA : Hid (DSt (w1.alloc (Obj.cells #[.int .u64 (W : Int), .bool td, .int .u64 (SZ : Int), .bool ck] 109)) d g s limit p1 out ∧ Upg d g w (w1.alloc (Obj.cells #[.int .u64 (W : Int), .bool td, .int .u64 (SZ : Int), .bool ck] 109))) := ⟨HD1.out.1.alloc _, HD1.out.2.alloc _⟩
    have HMo : Hid (Calls Try.prog 63 #[.pointer (some ⟨w1.heap.size, 0, none⟩)] (w1.alloc (Obj.cells #[.int .u64 (W : Int), .bool td, .int .u64 (SZ : Int), .bool ck] 109)) fun x w' => x = .returned (.int .i64 ((mostP W : Nat) : Int)) ∧ w' = (w1.alloc (Obj.cells #[.int .u64 (W : Int), .bool td, .int .u64 (SZ : Int), .bool ck] 109))) := pMost w1.heap.size W _ (by rw [World.cell?_alloc_new]; rfl)
    have hrow : (w1.alloc (Obj.cells #[.int .u64 (W : Int), .bool td, .int .u64 (SZ : Int), .bool ck] 109)).heap[w1.heap.size]? = some (Obj.cells #[.int .u64 (W : Int), .bool td, .int .u64 (SZ : Int), .bool ck] 109) := heap_alloc_new _ _
    have HN : Hid (d ≠ w1.heap.size ∧ g ≠ w1.heap.size ∧ w1.heap.size < (w1.alloc (Obj.cells #[.int .u64 (W : Int), .bool td, .int .u64 (SZ : Int), .bool ck] 109)).heap.size) := ⟨by have := HD1.out.1.dl; omega, by have := HD1.out.1.gl; omega, by rw [World.size_alloc]; omega⟩
    go_upto_region 4 with fail
    generalize (w1.alloc (Obj.cells #[.int .u64 (W : Int), .bool td, .int .u64 (SZ : Int), .bool ck] 109)) = W2 at HA HMo hrow HN ⊢
    go_wp2_with fail
    refine HMo.out.mono ?_
    rintro x w3 ⟨rfl, hw3⟩
    rw [hw3]
    clear hw3 HMo
    have c2 := HA.out.1.c2
    have hM := mostP_le W
    have HB : Hid (Calls Try.prog 64 #[.pointer (some ⟨d, 0, none⟩), .int .i64 ((mostP W : Nat) : Int)] W2 fun x w' => StepP d g s limit (blocksS s (limit : Int) ((mostP W : Nat) : Int) p1 out) W2 x w') := pBlocks d g s limit p1 out (mostP W) W2 HA.out.1 hM
    go_wp2_with fail
    refine HB.out.mono ?_
    intro x w4 hq
    cases hbk : blocksS s (limit : Int) ((mostP W : Nat) : Int) p1 out using Res.elim with
    | met =>
      rw [hbk] at hq HF
      obtain ⟨hq0, e, he, rfl⟩ := hq
      have HE : Hid (e ≠ 0 ∧ Upg d g w w4) := ⟨he, HA.out.2.trans hq0⟩
      have heb : (e != 0) = true := by simp [he]
      clear he hbk
      go_wp2_with fail
      go_ret
      rw [HF.out]
      exact ⟨HE.out.2, e, HE.out.1, rfl⟩
    | bad e =>
      have he := blocksS_bad0 _ _ _ (Nat.le_refl _) hbk
      rw [hbk] at hq HF
      obtain ⟨hq0, hq⟩ := hq
      obtain rfl : x = _ := hq
      have HU0 : Hid (Upg d g w w4) := HA.out.2.trans hq0
      have heb : (e != 0) = true := by simp [he]
      clear he hbk hq0
      go_wp2_with fail
      go_ret
      rw [HF.out]
      exact ⟨HU0.out, rfl⟩
    | go p2 o2 l =>
      rw [hbk] at hq HF
      obtain ⟨hq2, rfl, hq1⟩ := hq
      have HQ : Hid (DSt w4 d g s limit p2 o2 ∧ Upg d g w w4) := ⟨hq1, HA.out.2.trans hq2⟩
      have hrow4 : w4.heap[w1.heap.size]? = some (Obj.cells #[.int .u64 (W : Int), .bool td, .int .u64 (SZ : Int), .bool ck] 109) := (hq2.2.2.2.2 _ HN.out.2.2 (Ne.symm HN.out.1) (Ne.symm HN.out.2.1)).trans hrow
      have k2 := hq1.c2
      have hle := blocksS_len _ _ _ (Nat.le_refl _) hbk
      have hol := hq1.ol
      have hlm := hq1.lm
      have hleI : (out.length : Int) ≤ (o2.length : Int) := by omega
      have holI : (o2.length : Int) ≤ (limit : Int) := by omega
      have HEND : Hid (∀ wz pa cap, wz.heap = w4.heap → wz.os = w4.os → wz.tape = w4.tape → wz.output = w4.output → (o2.length - out.length ≠ 0 → pa = some ⟨g, out.length, none⟩) → Calls Try.prog 65 #[.pointer (some ⟨d, 0, none⟩), .agg #[.int .u64 (W : Int), .bool td, .int .u64 (SZ : Int), .bool ck], .slice pa (o2.length - out.length) cap] wz fun x w' => ∃ e : Int, x = .returned (.int .i64 e) ∧ Hid (StepP d g s limit (frameS s (limit : Int) k out) w (.returned (.int .i64 e)) w')) := by
        intro wz pa cap z1 z2 z3 z4 hpa
        refine (pEnd d g s limit p2 o2 out.length (o2.length - out.length) pa cap (W : Int) td ck SZ wz (HQ.out.1.same z1) (by omega) hpa HZ.out).mono ?_
        intro x w' hx
        rw [HF.out]
        suffices hst : StepP d g s limit (endS s td ck SZ out.length p2 o2) w x w' by
          obtain ⟨e, rfl⟩ := hst.some
          exact ⟨e, rfl, hst⟩
        exact ⟨HQ.out.2.trans (Upg.trans ⟨z2, z3, z4, by rw [z1]; exact Nat.le_refl _, fun i _ _ _ => by rw [z1]⟩ hx.1), hx.2⟩
      have e0 : w4.cell? ⟨w1.heap.size, 0, none⟩ = some (.int .u64 (W : Int)) := by simp [World.cell?, hrow4]
      have e1 : w4.cell? ⟨w1.heap.size, 1, none⟩ = some (.bool td) := by simp [World.cell?, hrow4]
      have e2 : w4.cell? ⟨w1.heap.size, 2, none⟩ = some (.int .u64 (SZ : Int)) := by simp [World.cell?, hrow4]
      have e3 : w4.cell? ⟨w1.heap.size, 3, none⟩ = some (.bool ck) := by simp [World.cell?, hrow4]
      clear hq1 hq2 hbk HB c2 hrow hrow4
      go_wp2_with fail
      by_cases hcap : limit = out.length
      · have ho2 : o2.length = out.length := by omega
        clear hleI holI
        obtain ⟨L, hL⟩ : ∃ L, L = out.length := ⟨_, rfl⟩
        rw [← hL] at hcap
        rw [hcap, ho2, ← hL] at k2
        rw [← hL]
        have HCE : Hid (Calls Try.prog 65 #[.pointer (some ⟨d, 0, none⟩), .agg #[.int .u64 (W : Int), .bool td, .int .u64 (SZ : Int), .bool ck], .slice (some ⟨g, 0, none⟩) 0 0] w4.drew fun x w' => ∃ e : Int, x = .returned (.int .i64 e) ∧ Hid (StepP d g s limit (frameS s (limit : Int) k out) w (.returned (.int .i64 e)) w')) := by
          have h0 : o2.length - out.length = 0 := by omega
          have := HEND.out w4.drew (some ⟨g, 0, none⟩) 0 rfl rfl rfl rfl (fun h => absurd h0 h)
          rw [h0] at this
          exact this
        go_region_with (go_at_call 65; refine HCE.out.mono ?_; rintro x w5 ⟨e5, rfl, hq5⟩)
        all_goals (go_wp2_with fail)
        all_goals go_ret
        all_goals exact hq5.out
      · have HPA : Hid (o2.length - out.length ≠ 0 → some (⟨g, out.length, none⟩ : Addr) = some ⟨g, out.length, none⟩) := fun _ => rfl
        have HCE : Hid (Calls Try.prog 65 #[.pointer (some ⟨d, 0, none⟩), .agg #[.int .u64 (W : Int), .bool td, .int .u64 (SZ : Int), .bool ck], .slice (some ⟨g, out.length, none⟩) (o2.length - out.length) (limit - out.length)] w4.drew fun x w' => ∃ e : Int, x = .returned (.int .i64 e) ∧ Hid (StepP d g s limit (frameS s (limit : Int) k out) w (.returned (.int .i64 e)) w')) := HEND.out w4.drew _ _ rfl rfl rfl rfl HPA.out
        go_region_with (go_at_call 65; refine HCE.out.mono ?_; rintro x w5 ⟨e5, rfl, hq5⟩)
        all_goals (go_wp2_with fail)
        all_goals go_ret
        all_goals exact hq5.out
  · obtain rfl := hbad he
    have HE : Hid (frameS s (limit : Int) k out = .bad (hdE s k)) := by show _ = _; unfold frameS; rw [if_pos he]
    have heb : (hdE s k != 0) = true := by simp [he]
    clear he hok hbad
    unfold zHead
    go_wp2_with fail
    go_ret
    rw [HE.out]
    exact ⟨(Upd.upg hU).alloc _, rfl⟩
end Go.Proofs.Ytkfilgfcgmohlaa
namespace Go.Proofs.Ytkfilgfcgmohlaa
open Go.RowKit
set_option maxRecDepth 100000 in
set_option maxHeartbeats 2000000 in
theorem pNext (d g : Nat) (s : ByteArray) (limit k : Nat) (out : List Nat) (w : World) (h : DSt w d g s limit k out) :
    Calls Try.prog 31 #[.pointer (some ⟨d, 0, none⟩)] w fun x w' => StepP d g s limit (nextS s (limit : Int) k out) w x w' := by
  obtain ⟨r, hr, hra⟩ := h.rest
  have hz := h.fz 0
  have HD : Hid (DSt w d g s limit k out) := h
  clear h
  go_enter Try.func31, Try.ntmps31
  go_wp2_with fail
  by_cases hc : s.size < k + 4
  · refine (show Calls _ _ #[.pointer (some ⟨d, 0, none⟩), .int .i64 ((4 : Nat) : Int)] _ _ from numR_no d s r k 4 _ hra hr hc).mono ?_
    rintro x w1 ⟨rfl, hw1⟩
    rw [hw1]
    clear hw1
    go_wp2_with fail
    go_ret
    have : nextS s (limit : Int) k out = .bad 2 := by unfold nextS; rw [if_pos hc]
    rw [this]; exact ⟨Upg.refl _ _ _, rfl⟩
  · refine (show Calls _ _ #[.pointer (some ⟨d, 0, none⟩), .int .i64 ((4 : Nat) : Int)] _ _ from numR_ok d s r k 4 _ hra hr hz (by omega) (by omega)).mono ?_
    rintro x w1 ⟨rfl, r1, hw1, hr1⟩
    have HD1 : Hid (DSt w1 d g s limit (k + 4) out ∧ Upg d g w w1) := by rw [hw1]; exact ⟨HD.out.set0 hr1, Upd.upg ((Upd.refl d w).setCell 0 _)⟩
    have hv : numN (gOf s) k 4 < 4294967296 := num_small s k 4 (by omega)
    have HX : Hid (nextS s (limit : Int) k out = if numN (gOf s) k 4 = 4247762216 then frameS s limit (k + 4) out else if 407710288 ≤ numN (gOf s) k 4 ∧ numN (gOf s) k 4 ≤ 407710303 then (if passE s (k + 4) ≠ 0 then .bad (passE s (k + 4)) else .go (k + 4 + 4 + numN (gOf s) (k + 4) 4) out true) else .bad 3) := by
      show _ = _
      unfold nextS
      rw [if_neg hc]
    obtain ⟨V, hV⟩ : ∃ V, V = numN (gOf s) k 4 := ⟨_, rfl⟩
    rw [← hV] at hv HX ⊢
    clear hw1 hr1 hr hra hz hV
    by_cases h1 : V = 4247762216
    · rw [if_pos h1] at HX
      have hb : ((V : Int) == 4247762216) = true := by rw [beq_iff_eq]; omega
      have HF : Hid (Calls Try.prog 49 #[.pointer (some ⟨d, 0, none⟩)] w1 fun x w' => ∃ e : Int, x = .returned (.int .i64 e) ∧ Hid (StepP d g s limit (nextS s (limit : Int) k out) w (.returned (.int .i64 e)) w')) := by
        refine (pFrame d g s limit (k + 4) out w1 HD1.out.1).mono ?_
        intro x w' hx
        obtain ⟨e, rfl⟩ := hx.some
        exact ⟨e, rfl, by rw [HX.out]; exact hx.from HD1.out.2⟩
      clear h1
      go_wp2_with fail
      refine HF.out.mono ?_
      rintro x w2 ⟨e, rfl, hq⟩
      go_wp2_with fail
      go_ret
      exact hq.out
    · rw [if_neg h1] at HX
      have hb : ((V : Int) == 4247762216) = false := by rw [beq_eq_false_iff_ne]; omega
      by_cases h2 : 407710288 ≤ V ∧ V ≤ 407710303
      · rw [if_pos h2] at HX
        have hb2 : decide ((407710288 : Int) ≤ (V : Int)) = true := decide_eq_true (by omega)
        have hb3 : decide ((V : Int) < 407710304) = true := decide_eq_true (by omega)
        obtain ⟨r2, hr2, hra2⟩ := HD1.out.1.rest
        have HF : Hid (Calls Try.prog 50 #[.pointer (some ⟨d, 0, none⟩)] w1 fun x w' => ∃ e : Int, x = .returned (.int .i64 e) ∧ Hid (StepP d g s limit (nextS s (limit : Int) k out) w (.returned (.int .i64 e)) w')) := by
          refine (pPass d (k + 4) s r2 w1 hra2 hr2 (HD1.out.1.fz 0)).mono ?_
          rintro x w' ⟨rfl, hu, hx⟩
          refine ⟨_, rfl, ?_⟩
          rw [HX.out]
          by_cases he : passE s (k + 4) = 0
          · rw [if_neg (fun h => h he), he]
            obtain ⟨r3, hw3, hr3⟩ := hx he
            rw [hw3]
            exact ⟨HD1.out.2.trans (Upd.upg ((Upd.refl d _).setCell 0 _)), rfl, HD1.out.1.set0 hr3⟩
          · rw [if_pos he]; exact ⟨HD1.out.2.trans (Upd.upg hu), rfl⟩
        clear h1 h2 hr2 hra2
        go_wp2_with fail
        refine HF.out.mono ?_
        rintro x w2 ⟨e, rfl, hq⟩
        go_wp2_with fail
        go_ret
        exact hq.out
      · rw [if_neg h2] at HX
        by_cases h3 : 407710288 ≤ V
        · have hb2 : decide ((407710288 : Int) ≤ (V : Int)) = true := decide_eq_true (by omega)
          have hb3 : decide ((V : Int) < 407710304) = false := decide_eq_false (by omega)
          clear h1 h2 h3
          go_wp2_with fail
          go_ret
          rw [HX.out]; exact ⟨HD1.out.2, rfl⟩
        · have hb2 : decide ((407710288 : Int) ≤ (V : Int)) = false := decide_eq_false (by omega)
          clear h1 h2 h3
          go_wp2_with fail
          go_ret
          rw [HX.out]; exact ⟨HD1.out.2, rfl⟩
end Go.Proofs.Ytkfilgfcgmohlaa
namespace Go.Proofs.Ytkfilgfcgmohlaa
open Go.RowKit
def toI (n : Nat) : Int := (n : Int)
theorem strOf_ba (l : List Nat) : strOfNums (l.map toI) = baOf l := by
  unfold strOfNums baOf
  rw [List.map_map]
  rfl
/-- 'string(bytes)' -/
theorem conv_bytes (w : World) (g off cap : Nat) (l : List Nat) (h : ∀ i, i < l.length → w.cell? ⟨g, off + i, none⟩ = some (.int .u8 (l.getD i 0 : Int))) :
    (convert 33 9 (.slice (some ⟨g, off, none⟩) l.length cap)).run Try.prog w = .ok (.string (baOf l)) w := by
  rw [← strOf_ba]
  refine run_convert_bytes_arg (P := Try.prog) w 33 5 Try.underlying33 Try.underlying5 g off l.length cap (l.map toI) (by simp) (fun i hi => ?_) 9 Try.underlying9
  rw [h i hi]
  simp [List.getD, hi, toI]
theorem mk_out (n : Nat) (hn : n ≤ 131072) (w : World) : (Instr.makeSlice 33 (.int .i64 0) (.int .i64 (n : Int))).run Try.prog w = .ok (.slice (some ⟨w.heap.size, 0, none⟩) 0 n) (w.alloc (.cells (madeCells #[.int .u8 0] n) 5)) := by
  obtain ⟨i, hi, hz, h1, h2⟩ := pInfo pByte
  have := run_make (P := Try.prog) w 33 5 i (.int .u8 0) Try.underlying33 hi hz .i64 .i64 0 n (by omega) (by omega) (by rw [h2]; omega) (by omega)
  rw [h1, Int.toNat_natCast, Nat.mul_one] at this
  exact this
/-- one call's work begins -/
theorem DSt.start (w : World) (s : ByteArray) (lim : Nat) (hl : lim ≤ 131072) : DSt ((w.alloc (.cells (madeCells #[.int .u8 0] lim) 5)).alloc (.cells #[.string s, .int .i64 (lim : Int), .slice (some ⟨w.heap.size, 0, none⟩) 0 lim] 79)) (w.heap.size + 1) w.heap.size s lim 0 [] := by
  have hsz : (w.alloc (.cells (madeCells #[.int .u8 0] lim) 5)).heap.size = w.heap.size + 1 := World.size_alloc _ _
  have hc : ∀ i, ((w.alloc (.cells (madeCells #[.int .u8 0] lim) 5)).alloc (.cells #[.string s, .int .i64 (lim : Int), .slice (some ⟨w.heap.size, 0, none⟩) 0 lim] 79)).cell? ⟨w.heap.size + 1, i, none⟩ = (#[.string s, .int .i64 (lim : Int), .slice (some ⟨w.heap.size, 0, none⟩) 0 lim] : Array Value)[i]? := fun i => by rw [← hsz, World.cell?_alloc_new]
  have hg : ∀ i, ((w.alloc (.cells (madeCells #[.int .u8 0] lim) 5)).alloc (.cells #[.string s, .int .i64 (lim : Int), .slice (some ⟨w.heap.size, 0, none⟩) 0 lim] 79)).cell? ⟨w.heap.size, i, none⟩ = (madeCells #[.int .u8 0] lim)[i]? := fun i => by
    rw [World.cell?_of_block (w := w.alloc (.cells (madeCells #[.int .u8 0] lim) 5)) (a := ⟨w.heap.size, i, none⟩) (Below.heap_alloc _ _ _ (by show w.heap.size < _; omega)), World.cell?_alloc_new]
  refine ⟨⟨s, hc 0, RestAt.start s⟩, hc 1, hc 2, fun i => by simp, fun i => by simp, fun i hi => ?_, fun i hi => by simp at hi, by simp, by omega, by rw [World.size_alloc, hsz]; omega, hl, fun x hx => by cases hx⟩
  rw [hg i, ← Array.getElem?_toList, toList_madeCells_one]
  simp [hi]
/-- the arguments are refused -/
def argBad (s : ByteArray) (limit slack : Int) : Bool := decide (16384 < s.size ∨ limit < 0 ∨ 131072 < limit ∨ slack < 0 ∨ 64 < slack)
/-- what Decode answers, by what the bytes say -/
def ansS : Res → ByteArray → Int → Prop
  | .met, _, _ => True
  | .bad e, t, e' => t = ByteArray.empty ∧ e' = e
  | .go _ out _, t, e' => t = baOf out ∧ e' = 0
def DecP (s : ByteArray) (limit slack : Int) (w : World) (x : Ending) (w' : World) : Prop :=
  Below w.heap.size w w' ∧ ∃ t e, x = .returned (.tuple #[.string t, .int .i64 e]) ∧ (if argBad s limit slack then t = ByteArray.empty ∧ e = 1 else ansS (readS s limit 0 []) t e)
theorem argBad_no {s : ByteArray} {limit slack : Int} (h : argBad s limit slack = false) : s.size ≤ 16384 ∧ 0 ≤ limit ∧ limit ≤ 131072 ∧ 0 ≤ slack ∧ slack ≤ 64 := by
  have := of_decide_eq_false h
  omega
theorem upg_below {d g N : Nat} {w w0 w1 : World} (h : Below N w w0) (hu : Upg d g w0 w1) (hd : N ≤ d) (hg : N ≤ g) (hN : N ≤ w0.heap.size) : Below N w w1 :=
  ⟨hu.1.trans h.os, hu.2.1.trans h.tape, hu.2.2.1.trans h.output, Nat.le_trans h.size hu.2.2.2.1, fun k hk => (hu.2.2.2.2 k (by omega) (by omega) (by omega)).trans (h.block k hk)⟩
set_option maxRecDepth 100000 in
set_option maxHeartbeats 2000000 in
theorem pDecode (s : ByteArray) (limit slack : Int) (w : World) :
    Calls Try.prog 24 #[.string s, .int .i64 limit, .int .i64 slack] w fun x w' => DecP s limit slack w x w' := by
  cases hab : argBad s limit slack with
  | true =>
    have hor := of_decide_eq_true hab
    have HA : Hid (argBad s limit slack = true) := hab
    clear hab
    by_cases h1 : 16384 < s.size
    · have b1 : decide ((16384 : Int) < (s.size : Int)) = true := decide_eq_true (by omega)
      go_enter Try.func24, Try.ntmps24
      go_wp2_with fail
      go_ret2
      exact ⟨Below.refl _ _, _, _, rfl, by rw [HA.out]; exact ⟨rfl, rfl⟩⟩
    · have b1 : decide ((16384 : Int) < (s.size : Int)) = false := decide_eq_false (by omega)
      by_cases h2 : limit < 0
      · have b2 : decide (limit < 0) = true := decide_eq_true (by omega)
        go_enter Try.func24, Try.ntmps24
        go_wp2_with fail
        go_ret2
        exact ⟨Below.refl _ _, _, _, rfl, by rw [HA.out]; exact ⟨rfl, rfl⟩⟩
      · have b2 : decide (limit < 0) = false := decide_eq_false (by omega)
        by_cases h3 : 131072 < limit
        · have b3 : decide (131072 < limit) = true := decide_eq_true (by omega)
          go_enter Try.func24, Try.ntmps24
          go_wp2_with fail
          go_ret2
          exact ⟨Below.refl _ _, _, _, rfl, by rw [HA.out]; exact ⟨rfl, rfl⟩⟩
        · have b3 : decide (131072 < limit) = false := decide_eq_false (by omega)
          by_cases h4 : slack < 0
          · have b4 : decide (slack < 0) = true := decide_eq_true (by omega)
            go_enter Try.func24, Try.ntmps24
            go_wp2_with fail
            go_ret2
            exact ⟨Below.refl _ _, _, _, rfl, by rw [HA.out]; exact ⟨rfl, rfl⟩⟩
          · have b4 : decide (slack < 0) = false := decide_eq_false (by omega)
            have b5 : decide (64 < slack) = true := decide_eq_true (by omega)
            go_enter Try.func24, Try.ntmps24
            go_wp2_with fail
            go_ret2
            exact ⟨Below.refl _ _, _, _, rfl, by rw [HA.out]; exact ⟨rfl, rfl⟩⟩
  | false =>
    obtain ⟨r1, r2, r3, r4, r5⟩ := argBad_no hab
    have HA : Hid (argBad s limit slack = false) := hab
    obtain ⟨lim, rfl⟩ : ∃ lim : Nat, limit = (lim : Int) := ⟨limit.toNat, by omega⟩
    have b1 : decide ((16384 : Int) < (s.size : Int)) = false := decide_eq_false (by omega)
    have b2 : decide ((lim : Int) < 0) = false := decide_eq_false (by omega)
    have b3 : decide (131072 < (lim : Int)) = false := decide_eq_false (by omega)
    have b4 : decide (slack < 0) = false := decide_eq_false (by omega)
    have b5 : decide (64 < slack) = false := decide_eq_false (by omega)
    have hmk : ∀ wz : World, (Instr.makeSlice 33 (.int .i64 0) (.int .i64 (lim : Int))).run Try.prog wz = .ok (.slice (some ⟨wz.heap.size, 0, none⟩) 0 lim) (wz.alloc (.cells (madeCells #[.int .u8 0] lim) 5)) := mk_out lim (by omega)
    have HD0 := DSt.start w s lim (by omega)
    clear hab
    go_enter Try.func24, Try.ntmps24
    go_wp2_with fail
    obtain ⟨W0, hW0⟩ : ∃ W0, W0 = (w.alloc (.cells (madeCells #[.int .u8 0] lim) 5)).alloc (.cells #[.string s, .int .i64 (lim : Int), .slice (some ⟨w.heap.size, 0, none⟩) 0 lim] 79) := ⟨_, rfl⟩
    rw [← hW0] at HD0 ⊢
    have HB0 : Hid (DSt W0 (w.heap.size + 1) w.heap.size s lim 0 [] ∧ Below w.heap.size w W0) := ⟨HD0, by rw [hW0]; exact ((Below.refl _ _).alloc (Nat.le_refl _) _).alloc (by rw [World.size_alloc]; omega) _⟩
    have hws : w.heap.size ≤ W0.heap.size := HB0.out.2.size
    clear HD0 hW0 hmk
    obtain ⟨d, hd⟩ : ∃ d, d = w.heap.size + 1 := ⟨_, rfl⟩
    obtain ⟨g, hg⟩ : ∃ g, g = w.heap.size := ⟨_, rfl⟩
    rw [← hd, ← hg] at HB0
    rw [← hd, ← hg]
    have HBel : Hid (∀ wr, Upg d g W0 wr → Below w.heap.size w wr) := fun wr hu => upg_below (by rw [hg] at HB0; exact HB0.out.2) hu (by omega) (by omega) hws
    have HDG : Hid (d = w.heap.size + 1 ∧ g = w.heap.size) := ⟨hd, hg⟩
    clear hd hg
    go_loopw [9] (fun _ wr => ∃ (k' : Nat) (out' : List Nat), DSt wr d g s lim k' out' ∧ Upg d g W0 wr ∧ readS s (lim : Int) 0 [] = readS s (lim : Int) k' out') (fun _ wr => restLen wr d)
    case atStart => exact ⟨0, [], HB0.out.1, Upg.refl _ _ _, rfl⟩
    case round =>
      obtain ⟨k', out', hs, hu, hb⟩ := hrel
      have HS : Hid (DSt wr d g s lim k' out' ∧ Upg d g W0 wr ∧ readS s (lim : Int) 0 [] = readS s (lim : Int) k' out') := ⟨hs, hu, hb⟩
      obtain ⟨r, hr, hra⟩ := hs.rest
      have hrs := hra.size
      have hle := hra.le
      have k2 := hs.c2
      have HN : Hid (Calls Try.prog 31 #[.pointer (some ⟨d, 0, none⟩)] wr fun x w' => StepP d g s lim (nextS s (lim : Int) k' out') wr x w') := pNext d g s lim k' out' wr hs
      have HCV : Hid ((convert 33 9 (.slice (some ⟨g, 0, none⟩) out'.length lim)).run Try.prog wr = .ok (.string (baOf out')) wr) := conv_bytes wr g 0 lim out' (fun i hi => by rw [Nat.zero_add]; exact hs.og i hi)
      clear hs hu hb hra
      by_cases hlt : k' < s.size
      · have hb : decide ((0 : Int) < (r.size : Int)) = true := decide_eq_true (by omega)
        clear k2 HCV
        go_wp2_with fail
        refine HN.out.mono ?_
        intro x w2 hq
        cases hnx : nextS s (lim : Int) k' out' using Res.elim with
        | met =>
          rw [hnx] at hq
          obtain ⟨hq0, e, he, rfl⟩ := hq
          have heb : (e != 0) = true := by simp [he]
          have HR : Hid (readS s (lim : Int) 0 [] = .met) := by show _ = _; rw [HS.out.2.2, readS_met hlt hnx]
          have HU0 : Hid (Upg d g W0 w2) := HS.out.2.1.trans hq0
          clear hnx he HN hq0
          go_wp2_with fail
          go_ret2
          refine ⟨HBel.out _ HU0.out, _, _, rfl, ?_⟩
          rw [HA.out, HR.out]
          exact trivial
        | bad e =>
          have he := nextS_bad hnx
          rw [hnx] at hq
          obtain ⟨hq0, hq⟩ := hq
          obtain rfl : x = _ := hq
          have HU0 : Hid (Upg d g W0 w2) := HS.out.2.1.trans hq0
          have heb : (e != 0) = true := by simp [he]
          have HR : Hid (readS s (lim : Int) 0 [] = .bad e) := by show _ = _; rw [HS.out.2.2, readS_bad hlt hnx]
          clear hnx he HN hq0
          go_wp2_with fail
          go_ret2
          refine ⟨HBel.out _ HU0.out, _, _, rfl, ?_⟩
          rw [HA.out, HR.out]
          exact ⟨rfl, rfl⟩
        | go p2 o2 l =>
          rw [hnx] at hq
          obtain ⟨hq2, rfl, hq1⟩ := hq
          have HE : Hid (DSt w2 d g s lim p2 o2 ∧ Upg d g W0 w2 ∧ readS s (lim : Int) 0 [] = readS s (lim : Int) p2 o2 ∧ k' < p2) := ⟨hq1, HS.out.2.1.trans hq2, by rw [HS.out.2.2, readS_on hlt hnx], nextS_go hnx⟩
          clear hnx hq1 hq2 HN
          go_wp2_with fail
          refine ⟨⟨p2, o2, HE.out.1, HE.out.2.1, HE.out.2.2.1⟩, ?_⟩
          rw [HE.out.1.left.1, HS.out.1.left.1]
          have := HE.out.2.2.2
          omega
      · have hb : decide ((0 : Int) < (r.size : Int)) = false := decide_eq_false (by omega)
        have hcv := HCV.out
        go_wp2_with fail
        go_ret2
        refine ⟨HBel.out _ HS.out.2.1, _, _, rfl, ?_⟩
        rw [HA.out, HS.out.2.2, readS_end hlt]
        exact ⟨rfl, rfl⟩
end Go.Proofs.Ytkfilgfcgmohlaa
