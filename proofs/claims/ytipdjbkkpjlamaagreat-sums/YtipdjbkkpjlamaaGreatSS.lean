import Derived.Test.YtipdjbkkpjlamaaGreatSR
import Derived.WalkKit
import Derived.WalkSpells
import Derived.WalkLawsBesides
namespace Go.Proofs.YtipdjbkkpjlamaaGreat
open Go.RowKit
theorem St.more {w0 w : World} {b B k c : Nat} (h : St w0 w b B k c) (c' : Nat) (hc : c ≤ c') : St w0 w b B k c' := by
  obtain ⟨own, T, S, I, J, L, h⟩ := h
  exact (h.more k c' (Nat.le_refl _) hc).st
theorem St.alloc {w0 w : World} {b B k c : Nat} (h : St w0 w b B k c) (o : Obj) : St w0 (w.alloc o) b B k c := by
  obtain ⟨own, T, S, I, J, L, h⟩ := h
  exact (h.alloc o).st
theorem cell_box (w1 w : World) (kd a0 b0 c0 : Int) (s0 : ByteArray) (o : Obj) (h : w1 = (w.alloc (Obj.cells #[.int .i64 kd, .int .i64 a0, .int .i64 b0, .int .i64 c0, .string s0] 28)).alloc o) :
    w1.cell? ⟨w.heap.size, 0, none⟩ = some (.int .i64 kd) ∧ w1.cell? ⟨w.heap.size, 1, none⟩ = some (.int .i64 a0) ∧ w1.cell? ⟨w.heap.size, 2, none⟩ = some (.int .i64 b0) ∧ w1.cell? ⟨w.heap.size, 3, none⟩ = some (.int .i64 c0) ∧ w1.cell? ⟨w.heap.size, 4, none⟩ = some (.string s0) := by
  subst h; simp
/-- a step on what the caller owns -/
theorem owner_any {w0 w : World} {b B k c : Nat} (h : St w0 w b B k c) (hk : k ≤ 1048576) (kd a0 b0 c0 : Int) (s0 : ByteArray) (ho : OpOk ⟨kd, a0, b0, c0, s0⟩) (hs : s0.size ≤ 1048576) (hkd : ownB kd = true) :
    Calls Tryz.prog 10 #[.pointer (some ⟨b, 0, none⟩), .agg #[.int .i64 kd, .int .i64 a0, .int .i64 b0, .int .i64 c0, .string s0]] w fun e w' => e = .returned (.bool true) ∧ St w0 w' b B (k + 1) c := by
  obtain ⟨own, T, S, I, J, L, h⟩ := h
  have hc : kd = 4 ∨ (kd = 5 ∨ kd = 6 ∨ kd = 7) ∨ (kd = 8 ∨ kd = 13 ∨ kd = 16) ∨ kd = 11 ∨ kd = 12 ∨ (kd = 14 ∨ kd = 15 ∨ kd = 17) := by
    unfold ownB at hkd
    simp at hkd
    omega
  rcases hc with rfl | hc | hc | rfl | rfl | hc
  · refine (owner_text h hk a0 b0 c0 s0 hs).mono ?_
    rintro e w' ⟨rfl, o', T', hh⟩
    exact ⟨rfl, hh.st⟩
  · exact owner_other h hk kd a0 b0 c0 s0 hc ho.wa ho.wb ho.wc
  · exact owner_num h kd a0 b0 c0 s0 hc ho.wa ho.wb ho.wc
  · exact owner_nums h hk a0 b0 c0 s0 hs
  · exact owner_int h hk a0 b0 c0 s0 ho.wa ho.wb
  · exact owner_call h hk kd a0 b0 c0 s0 hc ho
set_option maxRecDepth 100000 in
set_option maxHeartbeats 2000000 in
theorem step_own {w0 w : World} {b B k c : Nat} (h : St w0 w b B k c) (hk : k ≤ 1048576) (kd a0 b0 c0 : Int) (s0 : ByteArray) (ho : OpOk ⟨kd, a0, b0, c0, s0⟩) (hs : s0.size ≤ 1048576) (hkd : ownB kd = true) :
    Calls Tryz.prog 8 #[.pointer (some ⟨b, 0, none⟩), .agg #[.int .i64 kd, .int .i64 a0, .int .i64 b0, .int .i64 c0, .string s0]] w fun e w' => e = .returned (.bool true) ∧ St w0 w' b B (k + 1) c := by
  have HX : Hid (St w0 w b B k c ∧ OpOk ⟨kd, a0, b0, c0, s0⟩ ∧ ownB kd = true ∧ s0.size ≤ 1048576) := ⟨h, ho, hkd, hs⟩
  clear h ho hkd hs
  go_enter Tryz.func8, Tryz.ntmps8
  go_wp2_with fail
  refine (owner_any (HX.out.1.alloc _) hk kd a0 b0 c0 s0 HX.out.2.1 HX.out.2.2.2 HX.out.2.2.1).mono ?_
  rintro e w1 ⟨rfl, hh⟩
  have HH : Hid (St w0 w1 b B (k + 1) c) := hh
  clear hh
  go_wp2
  go_ret
  exact ⟨rfl, HH.out⟩
set_option maxRecDepth 100000 in
set_option maxHeartbeats 2000000 in
theorem step_sum {w0 w : World} {b B : Nat} {own : Nat → Nat} {k c : Nat} {T : List ByteArray} {S : List (Nat × ByteArray)} {I J : List Value} {L : List (List Int)} (h : Inv w0 w b B own k c T S I J L) (hk : k ≤ 1048576) (a0 b0 c0 : Int) (s0 : ByteArray) :
    Calls Tryz.prog 8 #[.pointer (some ⟨b, 0, none⟩), .agg #[.int .i64 3, .int .i64 a0, .int .i64 b0, .int .i64 c0, .string s0]] w fun e w' => e = .returned (.bool true) ∧ St w0 w' b B (k + 1) c := by
  have HI : Hid (Inv w0 w b B own k c T S I J L) := h
  have hblt := h.lt
  obtain ⟨vs, h2, _⟩ := h.vs
  have f2 := h.fz 2
  have hbB := h.ge
  clear h
  go_enter Tryz.func8, Tryz.ntmps8
  go_wp2_with fail
  refine (owner_none (HI.out.alloc _) 3 a0 b0 c0 s0 (by omega)).mono ?_
  rintro e w1 ⟨rfl, o, hw1⟩
  have hBl : Below w.heap.size w w1 := by rw [hw1]; exact bel_alloc (bel_alloc (Below.refl _ _) _) _
  have HIW : Hid (Inv w0 w1 b B own k c T S I J L) := HI.out.later hBl
  have k0 : w1.cell? ⟨w.heap.size, 0, none⟩ = some (.int .i64 3) := by rw [hw1]; simp
  have hlt1 : w.heap.size < w1.heap.size := by rw [hw1]; simp; omega
  have k2 := (hBl.cell (p := ⟨b, 2, none⟩) hblt).trans h2
  have kf := (hBl.frozen (p := ⟨b, 2, none⟩) hblt).trans f2
  clear hw1 hBl h2 f2
  go_wp2_with fail
  refine (newSum_any _).mono ?_
  rintro e w2 ⟨rfl, hw2⟩
  have hBl : Below w1.heap.size w1 w2 := by rw [hw2]; exact bel_alloc (Below.refl _ _) _
  have HI2 : Hid (Inv w0 w2 b B own k c T S I J L) := HIW.out.later hBl
  have HR2 : Hid (Rep w2 w1.heap.size [] (fun _ => 0) (fun _ => 0)) := by rw [hw2]; exact Rep.new _ _
  have hs2 : w2.heap.size = w1.heap.size + 1 := by rw [hw2]; simp
  have hb1 : b < w1.heap.size := by omega
  have m2 := (hBl.cell (p := ⟨b, 2, none⟩) hb1).trans k2
  have mf := (hBl.frozen (p := ⟨b, 2, none⟩) hb1).trans kf
  have hog : own w1.heap.size = 0 := HIW.out.new _ (Nat.le_refl _)
  have hBg : B ≤ w1.heap.size := by omega
  have HT : Hid (w2.cell? ⟨b, 2, none⟩ = some vs) := m2
  have HOG : Hid (own w1.heap.size = 0) := hog
  have hb2 : b < w2.heap.size := by omega
  have hgl : w1.heap.size < w2.heap.size := by omega
  clear hw2 hBl k2 kf hog hs2 k0
  go_wp2_with (at_builtin; go_loud (refine sum_list (by rfl) (.tmp 59) (.tmp 62) (by rfl) (by rfl) (gb := w2.heap.size) (by simp [Act.eval]) hk HI2.out hgl hBg HOG.out HR2.out HT.out (by repeat (first | exact Below.refl _ _ | refine Below.drew ?_ | refine below_drewN ?_ _ | refine bel_alloc ?_ _)) (by simp) (by simp) ?_))
  intro g1 cap1 w3 HF c3 e3
  go_wp2
  go_ret
  obtain ⟨own', S', hh⟩ := HF.out
  exact ⟨rfl, hh.st⟩
set_option maxRecDepth 100000 in
set_option maxHeartbeats 2000000 in
theorem step_19 {w0 w : World} {b B : Nat} {own : Nat → Nat} {k c : Nat} {T : List ByteArray} {S : List (Nat × ByteArray)} {I J : List Value} {L : List (List Int)} (h : Inv w0 w b B own k c T S I J L) (hk : k ≤ 1048576) (a0 b0 c0 : Int) (s0 : ByteArray) (ho : OpOk ⟨19, a0, b0, c0, s0⟩) (hc : c + s0.size ≤ 1048576) :
    Calls Tryz.prog 8 #[.pointer (some ⟨b, 0, none⟩), .agg #[.int .i64 19, .int .i64 a0, .int .i64 b0, .int .i64 c0, .string s0]] w fun e w' => e = .returned (.bool true) ∧ St w0 w' b B (k + 1) (c + s0.size) := by
  have HI : Hid (Inv w0 w b B own k c T S I J L) := h
  have HO : Hid (OpOk ⟨19, a0, b0, c0, s0⟩) := ho
  have hblt := h.lt
  have hSk := h.bt.2.1
  obtain ⟨vs, h2, hr⟩ := h.vs
  obtain ⟨pa, cap, rfl⟩ := hr.form
  have hbB := h.ge
  obtain ⟨n, hn⟩ : ∃ n, n = S.length := ⟨_, rfl⟩
  have HN : Hid (n = S.length) := hn
  rw [← hn] at h2 hSk
  clear h ho hr hn
  · skip
    go_enter Tryz.func8, Tryz.ntmps8
    go_wp2_with fail
    refine (owner_none (HI.out.alloc _) 19 a0 b0 c0 s0 (by omega)).mono ?_
    rintro e w1 ⟨rfl, o, hw1⟩
    have hBl : Below w.heap.size w w1 := by rw [hw1]; exact bel_alloc (bel_alloc (Below.refl _ _) _) _
    have HIW : Hid (Inv w0 w1 b B own k c T S I J L) := HI.out.later hBl
    have q0 := cell_box w1 w _ a0 b0 c0 s0 o hw1
    have hlt1 : w.heap.size < w1.heap.size := by rw [hw1]; simp; omega
    have k2 := (hBl.cell (p := ⟨b, 2, none⟩) hblt).trans h2
    obtain ⟨k0, k1, k3, k4, k5⟩ := q0
    clear hw1 hBl h2
    by_cases hz : (0 : Int) < (n : Int)
    · go_wp2_with fail
      refine (summing_add HIW.out hk (by rw [← HN.out]; omega) a0 b0 c0 s0 hc HO.out.wa HO.out.wc).mono ?_
      rintro e w2 ⟨rfl, hh⟩
      have HH : Hid (St w0 w2 b B (k + 1) (c + s0.size)) := hh.more _ (by omega)
      clear hh
      go_wp2
      go_ret
      exact ⟨rfl, HH.out⟩
    · go_wp2
      go_ret
      exact ⟨rfl, (HIW.out.st1).more _ (by omega)⟩
set_option maxRecDepth 100000 in
set_option maxHeartbeats 2000000 in
theorem step_20 {w0 w : World} {b B : Nat} {own : Nat → Nat} {k c : Nat} {T : List ByteArray} {S : List (Nat × ByteArray)} {I J : List Value} {L : List (List Int)} (h : Inv w0 w b B own k c T S I J L) (hk : k ≤ 1048576) (a0 b0 c0 : Int) (s0 : ByteArray) (ho : OpOk ⟨20, a0, b0, c0, s0⟩) (hc : c + s0.size ≤ 1048576) :
    Calls Tryz.prog 8 #[.pointer (some ⟨b, 0, none⟩), .agg #[.int .i64 20, .int .i64 a0, .int .i64 b0, .int .i64 c0, .string s0]] w fun e w' => e = .returned (.bool true) ∧ St w0 w' b B (k + 1) (c + s0.size) := by
  have HI : Hid (Inv w0 w b B own k c T S I J L) := h
  have HO : Hid (OpOk ⟨20, a0, b0, c0, s0⟩) := ho
  have hblt := h.lt
  have hSk := h.bt.2.1
  obtain ⟨vs, h2, hr⟩ := h.vs
  obtain ⟨pa, cap, rfl⟩ := hr.form
  have hbB := h.ge
  obtain ⟨n, hn⟩ : ∃ n, n = S.length := ⟨_, rfl⟩
  have HN : Hid (n = S.length) := hn
  rw [← hn] at h2 hSk
  clear h ho hr hn
  · skip
    go_enter Tryz.func8, Tryz.ntmps8
    go_wp2_with fail
    refine (owner_none (HI.out.alloc _) 20 a0 b0 c0 s0 (by omega)).mono ?_
    rintro e w1 ⟨rfl, o, hw1⟩
    have hBl : Below w.heap.size w w1 := by rw [hw1]; exact bel_alloc (bel_alloc (Below.refl _ _) _) _
    have HIW : Hid (Inv w0 w1 b B own k c T S I J L) := HI.out.later hBl
    have q0 := cell_box w1 w _ a0 b0 c0 s0 o hw1
    have hlt1 : w.heap.size < w1.heap.size := by rw [hw1]; simp; omega
    have k2 := (hBl.cell (p := ⟨b, 2, none⟩) hblt).trans h2
    obtain ⟨k0, k1, k3, k4, k5⟩ := q0
    clear hw1 hBl h2
    by_cases hz : (0 : Int) < (n : Int)
    · go_wp2_with fail
      refine (summing_value HIW.out hk (by omega) (by rw [← HN.out]; omega) a0 b0 c0 s0 HO.out.wa).mono ?_
      rintro e w2 ⟨rfl, hh⟩
      have HH : Hid (St w0 w2 b B (k + 1) (c + s0.size)) := hh.more _ (by omega)
      clear hh
      go_wp2
      go_ret
      exact ⟨rfl, HH.out⟩
    · go_wp2
      go_ret
      exact ⟨rfl, (HIW.out.st1).more _ (by omega)⟩
set_option maxRecDepth 100000 in
set_option maxHeartbeats 2000000 in
theorem step_21 {w0 w : World} {b B : Nat} {own : Nat → Nat} {k c : Nat} {T : List ByteArray} {S : List (Nat × ByteArray)} {I J : List Value} {L : List (List Int)} (h : Inv w0 w b B own k c T S I J L) (hk : k ≤ 1048576) (a0 b0 c0 : Int) (s0 : ByteArray) (ho : OpOk ⟨21, a0, b0, c0, s0⟩) (hc : c + s0.size ≤ 1048576) :
    Calls Tryz.prog 8 #[.pointer (some ⟨b, 0, none⟩), .agg #[.int .i64 21, .int .i64 a0, .int .i64 b0, .int .i64 c0, .string s0]] w fun e w' => e = .returned (.bool true) ∧ St w0 w' b B (k + 1) (c + s0.size) := by
  have HI : Hid (Inv w0 w b B own k c T S I J L) := h
  have HO : Hid (OpOk ⟨21, a0, b0, c0, s0⟩) := ho
  have hblt := h.lt
  have hSk := h.bt.2.1
  obtain ⟨vs, h2, hr⟩ := h.vs
  obtain ⟨pa, cap, rfl⟩ := hr.form
  have hbB := h.ge
  obtain ⟨n, hn⟩ : ∃ n, n = S.length := ⟨_, rfl⟩
  have HN : Hid (n = S.length) := hn
  rw [← hn] at h2 hSk
  clear h ho hr hn
  · skip
    go_enter Tryz.func8, Tryz.ntmps8
    go_wp2_with fail
    refine (owner_none (HI.out.alloc _) 21 a0 b0 c0 s0 (by omega)).mono ?_
    rintro e w1 ⟨rfl, o, hw1⟩
    have hBl : Below w.heap.size w w1 := by rw [hw1]; exact bel_alloc (bel_alloc (Below.refl _ _) _) _
    have HIW : Hid (Inv w0 w1 b B own k c T S I J L) := HI.out.later hBl
    have q0 := cell_box w1 w _ a0 b0 c0 s0 o hw1
    have hlt1 : w.heap.size < w1.heap.size := by rw [hw1]; simp; omega
    have k2 := (hBl.cell (p := ⟨b, 2, none⟩) hblt).trans h2
    obtain ⟨k0, k1, k3, k4, k5⟩ := q0
    clear hw1 hBl h2
    by_cases hz : (0 : Int) < (n : Int)
    · go_wp2_with fail
      refine (summing_start HIW.out hk (by omega) (by rw [← HN.out]; omega) a0 b0 c0 s0 HO.out.wa).mono ?_
      rintro e w2 ⟨rfl, hh⟩
      have HH : Hid (St w0 w2 b B (k + 1) (c + s0.size)) := hh.more _ (by omega)
      clear hh
      go_wp2
      go_ret
      exact ⟨rfl, HH.out⟩
    · go_wp2
      go_ret
      exact ⟨rfl, (HIW.out.st1).more _ (by omega)⟩
/-- one step -/
theorem step_any {w0 w : World} {b B k c : Nat} (h : St w0 w b B k c) (hk : k ≤ 1048576) (o : OpV) (ho : OpOk o) (hc : c + o.s.size ≤ 1048576) (hkd : ownB o.kind = true ∨ o.kind = 3 ∨ o.kind = 19 ∨ o.kind = 20 ∨ o.kind = 21) :
    Calls Tryz.prog 8 #[.pointer (some ⟨b, 0, none⟩), .agg #[.int .i64 o.kind, .int .i64 o.a, .int .i64 o.b, .int .i64 o.c, .string o.s]] w fun e w' => e = .returned (.bool true) ∧ St w0 w' b B (k + 1) (c + o.s.size) := by
  obtain ⟨kd, a0, b0, c0, s0⟩ := o
  dsimp only at hc hkd ⊢
  rcases hkd with hkd | rfl | rfl | rfl | rfl
  · refine (step_own h hk kd a0 b0 c0 s0 ho (by omega) hkd).mono ?_
    rintro e w' ⟨rfl, hh⟩
    exact ⟨rfl, hh.more _ (by omega)⟩
  · obtain ⟨own, T, S, I, J, L, h⟩ := h
    refine (step_sum h hk a0 b0 c0 s0).mono ?_
    rintro e w' ⟨rfl, hh⟩
    exact ⟨rfl, hh.more _ (by omega)⟩
  · obtain ⟨own, T, S, I, J, L, h⟩ := h
    exact step_19 h hk a0 b0 c0 s0 ho hc
  · obtain ⟨own, T, S, I, J, L, h⟩ := h
    exact step_20 h hk a0 b0 c0 s0 ho hc
  · obtain ⟨own, T, S, I, J, L, h⟩ := h
    exact step_21 h hk a0 b0 c0 s0 ho hc
end Go.Proofs.YtipdjbkkpjlamaaGreat
