import Derived.Test.YtipdjbkkpjlamaaGreatRF
import Derived.WalkKit
import Derived.WalkSpells
import Derived.WalkLawsBesides
namespace Go.Proofs.YtipdjbkkpjlamaaGreat
open Go.RowKit
def foldN (h x k a : Nat) : Nat := mulM (rolN (h ^^^ x) k) (primeN a)
set_option maxRecDepth 100000 in
set_option maxHeartbeats 2000000 in
theorem rfold_one (hh hl xh xl : Int) (h x : Nat) (k a : Int) (w : World) (hH : IsH hh hl h) (hX : IsH xh xl x) (hk1 : 1 ≤ k) (hk2 : k ≤ 63) (ha1 : 1 ≤ a) (ha5 : a ≤ 5)  :
    Calls Tryz.prog 47 #[.agg #[.int .i64 hh, .int .i64 hl], .agg #[.int .i64 xh, .int .i64 xl], .int .i64 k, .int .i64 a, .int .i64 0] w fun e w' =>
      ∃ rh rl, e = .returned (.agg #[.int .i64 rh, .int .i64 rl]) ∧ IsH rh rl (foldN h x k.toNat a.toNat) ∧ Below w.heap.size w w' := by
  have HH : Hid (IsH hh hl h) := hH
  have HX : Hid (IsH xh xl x) := hX
  clear hH hX
  go_enter Tryz.func47, Tryz.ntmps47
  go_wp2_with fail
  refine (mixed_any _ _ _ _ h x _ HH.out HX.out).mono ?_
  rintro e w1 ⟨mh, ml, rfl, hres, hb⟩
  have Hm : Hid (IsH mh ml (h ^^^ x)) := hres
  have Fh1 : Hid (Half2 w1 (w.heap.size) hh hl) := Half2.later (((Half2.new w hh hl _ _ rfl).alloc _).alloc _) hb
  have Fr1 : Hid (Half2 w1 (w.heap.size + 1 + 1) 0 0) := Half2.later (Half2.new _ 0 0 _ _ (by simp)) hb
  have B1 : Hid (Below w.heap.size w w1) := ((((Below.refl _ _).alloc (Nat.le_refl _) _).alloc (by simp) _).alloc (by simp; omega) _).trans (hb.mono (by simp; omega))
  clear hres hb
  obtain ⟨qh0, qh1, qhf⟩ := Fh1.out
  have qhf0 := qhf 0
  have qhf1 := qhf 1
  have qhl := Fh1.out.lt
  clear qhf
  obtain ⟨qr0, qr1, qrf⟩ := Fr1.out
  have qrf0 := qrf 0
  have qrf1 := qrf 1
  have qrl := Fr1.out.lt
  clear qrf
  go_wp2_with fail
  refine (left_any _ _ _ k _ Hm.out hk1 hk2).mono ?_
  rintro e w2 ⟨lh, ll, rfl, hres, hb⟩
  have Hl : Hid (IsH lh ll (rolN (h ^^^ x) k.toNat)) := hres
  have Fh2 : Hid (Half2 w2 (w.heap.size) mh ml) := Half2.later (Fh1.out.put mh ml) hb
  have Fr2 : Hid (Half2 w2 (w.heap.size + 1 + 1) 0 0) := Half2.later ((Fr1.out.other _ _ _ (by omega)).other _ _ _ (by omega)) hb
  have B2 : Hid (Below w.heap.size w w2) := ((B1.out.setCell (by dsimp only; omega) _).setCell (by dsimp only; omega) _).trans (hb.mono (by simp; omega))
  clear hres hb Fh1 Fr1 qh0 qh1 qhf0 qhf1 qhl qr0 qr1 qrf0 qrf1 qrl B1
  obtain ⟨qh0, qh1, qhf⟩ := Fh2.out
  have qhf0 := qhf 0
  have qhf1 := qhf 1
  have qhl := Fh2.out.lt
  clear qhf
  obtain ⟨qr0, qr1, qrf⟩ := Fr2.out
  have qrf0 := qrf 0
  have qrf1 := qrf 1
  have qrl := Fr2.out.lt
  clear qrf
  go_wp2_with fail
  refine (prime_any a _ ha1 ha5).mono ?_
  rintro e w3 ⟨ph, pl, rfl, hres, hb⟩
  have Hp : Hid (IsH ph pl (primeN a.toNat)) := hres
  have Fh3 : Hid (Half2 w3 (w.heap.size) lh ll) := Half2.later (Fh2.out.put lh ll) hb
  have Fr3 : Hid (Half2 w3 (w.heap.size + 1 + 1) 0 0) := Half2.later ((Fr2.out.other _ _ _ (by omega)).other _ _ _ (by omega)) hb
  have B3 : Hid (Below w.heap.size w w3) := ((B2.out.setCell (by dsimp only; omega) _).setCell (by dsimp only; omega) _).trans (hb.mono (by simp; omega))
  clear hres hb Fh2 Fr2 qh0 qh1 qhf0 qhf1 qhl qr0 qr1 qrf0 qrf1 qrl B2
  obtain ⟨qh0, qh1, qhf⟩ := Fh3.out
  have qhf0 := qhf 0
  have qhf1 := qhf 1
  have qhl := Fh3.out.lt
  clear qhf
  obtain ⟨qr0, qr1, qrf⟩ := Fr3.out
  have qrf0 := qrf 0
  have qrf1 := qrf 1
  have qrl := Fr3.out.lt
  clear qrf
  go_wp2_with fail
  refine (times_any _ _ _ _ _ _ _ Hl.out Hp.out).mono ?_
  rintro e w4 ⟨th, tl, rfl, hres, hb⟩
  have Ht : Hid (IsH th tl (foldN h x k.toNat a.toNat)) := hres
  have Fh4 : Hid (Half2 w4 (w.heap.size) lh ll) := Half2.later (Fh3.out.alloc _) hb
  have Fr4 : Hid (Half2 w4 (w.heap.size + 1 + 1) 0 0) := Half2.later (Fr3.out.alloc _) hb
  have B4 : Hid (Below w.heap.size w w4) := (B3.out.alloc (by omega) _).trans (hb.mono (by simp; omega))
  clear hres hb Fh3 Fr3 qh0 qh1 qhf0 qhf1 qhl qr0 qr1 qrf0 qrf1 qrl B3
  obtain ⟨qh0, qh1, qhf⟩ := Fh4.out
  have qhf0 := qhf 0
  have qhf1 := qhf 1
  have qhl := Fh4.out.lt
  clear qhf
  obtain ⟨qr0, qr1, qrf⟩ := Fr4.out
  have qrf0 := qrf 0
  have qrf1 := qrf 1
  have qrl := Fr4.out.lt
  clear qrf
  have hne : w.heap.size ≠ w.heap.size + 1 + 1 := by omega
  have G1 : Hid (Half2 _ (w.heap.size + 1 + 1) 0 0) := (Fr4.out.other w.heap.size 0 (.int .i64 th) (by omega)).other w.heap.size 1 (.int .i64 tl) (by omega)
  go_wp2
  have hput := G1.out.put th tl
  exact bodyPost_ret (v := .agg #[.int .i64 th, .int .i64 tl]) (by simp [results, Tryz.results47, go_sem, hput.c0, hput.c1]) rfl ⟨th, tl, rfl, Ht.out, ((((B4.out.setCell (by dsimp only; omega) _).setCell (by dsimp only; omega) _)).setCell (by dsimp only; omega) _).setCell (by dsimp only; omega) _⟩
set_option maxRecDepth 100000 in
set_option maxHeartbeats 2000000 in
theorem rfold_two (hh hl xh xl : Int) (h x : Nat) (k a b : Int) (w : World) (hH : IsH hh hl h) (hX : IsH xh xl x) (hk1 : 1 ≤ k) (hk2 : k ≤ 63) (ha1 : 1 ≤ a) (ha5 : a ≤ 5) (hb1 : 1 ≤ b) (hb5 : b ≤ 5) :
    Calls Tryz.prog 47 #[.agg #[.int .i64 hh, .int .i64 hl], .agg #[.int .i64 xh, .int .i64 xl], .int .i64 k, .int .i64 a, .int .i64 b] w fun e w' =>
      ∃ rh rl, e = .returned (.agg #[.int .i64 rh, .int .i64 rl]) ∧ IsH rh rl (addM (foldN h x k.toNat a.toNat) (primeN b.toNat)) ∧ Below w.heap.size w w' := by
  have HH : Hid (IsH hh hl h) := hH
  have HX : Hid (IsH xh xl x) := hX
  clear hH hX
  go_enter Tryz.func47, Tryz.ntmps47
  go_wp2_with fail
  refine (mixed_any _ _ _ _ h x _ HH.out HX.out).mono ?_
  rintro e w1 ⟨mh, ml, rfl, hres, hb⟩
  have Hm : Hid (IsH mh ml (h ^^^ x)) := hres
  have Fh1 : Hid (Half2 w1 (w.heap.size) hh hl) := Half2.later (((Half2.new w hh hl _ _ rfl).alloc _).alloc _) hb
  have Fr1 : Hid (Half2 w1 (w.heap.size + 1 + 1) 0 0) := Half2.later (Half2.new _ 0 0 _ _ (by simp)) hb
  have B1 : Hid (Below w.heap.size w w1) := ((((Below.refl _ _).alloc (Nat.le_refl _) _).alloc (by simp) _).alloc (by simp; omega) _).trans (hb.mono (by simp; omega))
  clear hres hb
  obtain ⟨qh0, qh1, qhf⟩ := Fh1.out
  have qhf0 := qhf 0
  have qhf1 := qhf 1
  have qhl := Fh1.out.lt
  clear qhf
  obtain ⟨qr0, qr1, qrf⟩ := Fr1.out
  have qrf0 := qrf 0
  have qrf1 := qrf 1
  have qrl := Fr1.out.lt
  clear qrf
  go_wp2_with fail
  refine (left_any _ _ _ k _ Hm.out hk1 hk2).mono ?_
  rintro e w2 ⟨lh, ll, rfl, hres, hb⟩
  have Hl : Hid (IsH lh ll (rolN (h ^^^ x) k.toNat)) := hres
  have Fh2 : Hid (Half2 w2 (w.heap.size) mh ml) := Half2.later (Fh1.out.put mh ml) hb
  have Fr2 : Hid (Half2 w2 (w.heap.size + 1 + 1) 0 0) := Half2.later ((Fr1.out.other _ _ _ (by omega)).other _ _ _ (by omega)) hb
  have B2 : Hid (Below w.heap.size w w2) := ((B1.out.setCell (by dsimp only; omega) _).setCell (by dsimp only; omega) _).trans (hb.mono (by simp; omega))
  clear hres hb Fh1 Fr1 qh0 qh1 qhf0 qhf1 qhl qr0 qr1 qrf0 qrf1 qrl B1
  obtain ⟨qh0, qh1, qhf⟩ := Fh2.out
  have qhf0 := qhf 0
  have qhf1 := qhf 1
  have qhl := Fh2.out.lt
  clear qhf
  obtain ⟨qr0, qr1, qrf⟩ := Fr2.out
  have qrf0 := qrf 0
  have qrf1 := qrf 1
  have qrl := Fr2.out.lt
  clear qrf
  go_wp2_with fail
  refine (prime_any a _ ha1 ha5).mono ?_
  rintro e w3 ⟨ph, pl, rfl, hres, hb⟩
  have Hp : Hid (IsH ph pl (primeN a.toNat)) := hres
  have Fh3 : Hid (Half2 w3 (w.heap.size) lh ll) := Half2.later (Fh2.out.put lh ll) hb
  have Fr3 : Hid (Half2 w3 (w.heap.size + 1 + 1) 0 0) := Half2.later ((Fr2.out.other _ _ _ (by omega)).other _ _ _ (by omega)) hb
  have B3 : Hid (Below w.heap.size w w3) := ((B2.out.setCell (by dsimp only; omega) _).setCell (by dsimp only; omega) _).trans (hb.mono (by simp; omega))
  clear hres hb Fh2 Fr2 qh0 qh1 qhf0 qhf1 qhl qr0 qr1 qrf0 qrf1 qrl B2
  obtain ⟨qh0, qh1, qhf⟩ := Fh3.out
  have qhf0 := qhf 0
  have qhf1 := qhf 1
  have qhl := Fh3.out.lt
  clear qhf
  obtain ⟨qr0, qr1, qrf⟩ := Fr3.out
  have qrf0 := qrf 0
  have qrf1 := qrf 1
  have qrl := Fr3.out.lt
  clear qrf
  go_wp2_with fail
  refine (times_any _ _ _ _ _ _ _ Hl.out Hp.out).mono ?_
  rintro e w4 ⟨th, tl, rfl, hres, hb⟩
  have Ht : Hid (IsH th tl (foldN h x k.toNat a.toNat)) := hres
  have Fh4 : Hid (Half2 w4 (w.heap.size) lh ll) := Half2.later (Fh3.out.alloc _) hb
  have Fr4 : Hid (Half2 w4 (w.heap.size + 1 + 1) 0 0) := Half2.later (Fr3.out.alloc _) hb
  have B4 : Hid (Below w.heap.size w w4) := (B3.out.alloc (by omega) _).trans (hb.mono (by simp; omega))
  clear hres hb Fh3 Fr3 qh0 qh1 qhf0 qhf1 qhl qr0 qr1 qrf0 qrf1 qrl B3
  obtain ⟨qh0, qh1, qhf⟩ := Fh4.out
  have qhf0 := qhf 0
  have qhf1 := qhf 1
  have qhl := Fh4.out.lt
  clear qhf
  obtain ⟨qr0, qr1, qrf⟩ := Fr4.out
  have qrf0 := qrf 0
  have qrf1 := qrf 1
  have qrl := Fr4.out.lt
  clear qrf
  go_wp2_with fail
  refine (prime_any b _ hb1 hb5).mono ?_
  rintro e w5 ⟨qh, ql, rfl, hres, hb⟩
  have Hq : Hid (IsH qh ql (primeN b.toNat)) := hres
  have Fh5 : Hid (Half2 w5 (w.heap.size) th tl) := Half2.later (Fh4.out.put th tl) hb
  have Fr5 : Hid (Half2 w5 (w.heap.size + 1 + 1) 0 0) := Half2.later ((Fr4.out.other _ _ _ (by omega)).other _ _ _ (by omega)) hb
  have B5 : Hid (Below w.heap.size w w5) := ((B4.out.setCell (by dsimp only; omega) _).setCell (by dsimp only; omega) _).trans (hb.mono (by simp; omega))
  clear hres hb Fh4 Fr4 qh0 qh1 qhf0 qhf1 qhl qr0 qr1 qrf0 qrf1 qrl B4
  obtain ⟨qh0, qh1, qhf⟩ := Fh5.out
  have qhf0 := qhf 0
  have qhf1 := qhf 1
  have qhl := Fh5.out.lt
  clear qhf
  obtain ⟨qr0, qr1, qrf⟩ := Fr5.out
  have qrf0 := qrf 0
  have qrf1 := qrf 1
  have qrl := Fr5.out.lt
  clear qrf
  go_wp2_with fail
  refine (plus_any _ _ _ _ _ _ _ Ht.out Hq.out).mono ?_
  rintro e w6 ⟨sh, sl, rfl, hres, hb⟩
  have Hs : Hid (IsH sh sl (addM (foldN h x k.toNat a.toNat) (primeN b.toNat))) := hres
  have Fh6 : Hid (Half2 w6 (w.heap.size) th tl) := Half2.later (Fh5.out.alloc _) hb
  have Fr6 : Hid (Half2 w6 (w.heap.size + 1 + 1) 0 0) := Half2.later (Fr5.out.alloc _) hb
  have B6 : Hid (Below w.heap.size w w6) := (B5.out.alloc (by omega) _).trans (hb.mono (by simp; omega))
  clear hres hb Fh5 Fr5 qh0 qh1 qhf0 qhf1 qhl qr0 qr1 qrf0 qrf1 qrl B5
  obtain ⟨qh0, qh1, qhf⟩ := Fh6.out
  have qhf0 := qhf 0
  have qhf1 := qhf 1
  have qhl := Fh6.out.lt
  clear qhf
  obtain ⟨qr0, qr1, qrf⟩ := Fr6.out
  have qrf0 := qrf 0
  have qrf1 := qrf 1
  have qrl := Fr6.out.lt
  clear qrf
  have hne : w.heap.size ≠ w.heap.size + 1 + 1 := by omega
  have G1 : Hid (Half2 _ (w.heap.size + 1 + 1) 0 0) := (Fr6.out.other w.heap.size 0 (.int .i64 sh) (by omega)).other w.heap.size 1 (.int .i64 sl) (by omega)
  go_wp2
  have hput := G1.out.put sh sl
  exact bodyPost_ret (v := .agg #[.int .i64 sh, .int .i64 sl]) (by simp [results, Tryz.results47, go_sem, hput.c0, hput.c1]) rfl ⟨sh, sl, rfl, Hs.out, ((((B6.out.setCell (by dsimp only; omega) _).setCell (by dsimp only; omega) _)).setCell (by dsimp only; omega) _).setCell (by dsimp only; omega) _⟩
def last1 (h : Nat) : Nat := mulM (h ^^^ h / 2 ^ 33) (primeN 2)
def last2 (h : Nat) : Nat := mulM (h ^^^ h / 2 ^ 29) (primeN 3)
def lastN (h : Nat) : Nat := last2 (last1 h) ^^^ last2 (last1 h) / 2 ^ 32
set_option maxRecDepth 100000 in
set_option maxHeartbeats 4000000 in
theorem rlast_any (hh hl : Int) (h : Nat) (w : World) (hH : IsH hh hl h) :
    Calls Tryz.prog 49 #[.agg #[.int .i64 hh, .int .i64 hl]] w fun e w' =>
      ∃ rh rl, e = .returned (.agg #[.int .i64 rh, .int .i64 rl]) ∧ IsH rh rl (lastN h) ∧ Below w.heap.size w w' := by
  have HH : Hid (IsH hh hl h) := hH
  clear hH
  go_enter Tryz.func49, Tryz.ntmps49
  go_wp2_with fail
  refine (moved_any _ _ h 33 false _ HH.out (by omega) (by omega)).mono ?_
  rintro e w1 ⟨xh, xl, rfl, hres, hb⟩
  have Hx : Hid (IsH xh xl (mv h (Int.toNat 33) false 64)) := hres
  have Fh1 : Hid (Half2 w1 (w.heap.size) hh hl) := Half2.later ((Half2.new w hh hl _ _ rfl).alloc _) hb
  have Fr1 : Hid (Half2 w1 (w.heap.size + 1) 0 0) := Half2.later (Half2.new _ 0 0 _ _ (by simp)) hb
  have B1 : Hid (Below w.heap.size w w1) := (((Below.refl _ _).alloc (Nat.le_refl _) _).alloc (by simp) _).trans (hb.mono (by simp; omega))
  clear hres hb
  have Hx' : Hid (IsH xh xl (h / 2 ^ 33)) := by have := Hx.out; rwa [show Int.toNat 33 = 33 from rfl, mv_down h 33 HH.out.lt (by omega)] at this
  clear Hx
  have hx1 : w.heap.size + 1 < w1.heap.size := Fr1.out.lt
  obtain ⟨qh0, qh1, qhf⟩ := Fh1.out
  have qhf0 := qhf 0
  have qhf1 := qhf 1
  have qhl := Fh1.out.lt
  clear qhf
  obtain ⟨qr0, qr1, qrf⟩ := Fr1.out
  have qrf0 := qrf 0
  have qrf1 := qrf 1
  have qrl := Fr1.out.lt
  clear qrf
  go_wp2_with fail
  refine (mixed_any _ _ _ _ h _ _ HH.out Hx'.out).mono ?_
  rintro e w2 ⟨mh, ml, rfl, hres, hb⟩
  have Hm : Hid (IsH mh ml (h ^^^ h / 2 ^ 33)) := hres
  have Fh2 : Hid (Half2 w2 (w.heap.size) hh hl) := Half2.later (Fh1.out.alloc _) hb
  have Fr2 : Hid (Half2 w2 (w.heap.size + 1) 0 0) := Half2.later (Fr1.out.alloc _) hb
  have Fx2 : Hid (Half2 w2 (w1.heap.size) xh xl) := Half2.later (Half2.new w1 xh xl _ _ rfl) hb
  have B2 : Hid (Below w.heap.size w w2) := (B1.out.alloc (by omega) _).trans (hb.mono (by simp; omega))
  clear hres hb Fh1 Fr1 qh0 qh1 qhf0 qhf1 qhl qr0 qr1 qrf0 qrf1 qrl B1
  have hxl2 := Fx2.out.lt
  obtain ⟨qh0, qh1, qhf⟩ := Fh2.out
  have qhf0 := qhf 0
  have qhf1 := qhf 1
  have qhl := Fh2.out.lt
  clear qhf
  obtain ⟨qr0, qr1, qrf⟩ := Fr2.out
  have qrf0 := qrf 0
  have qrf1 := qrf 1
  have qrl := Fr2.out.lt
  clear qrf
  go_wp2_with fail
  refine (prime_any 2 _ (by omega) (by omega)).mono ?_
  rintro e w3 ⟨ph, pl, rfl, hres, hb⟩
  have Hp : Hid (IsH ph pl (primeN 2)) := hres
  have Fh3 : Hid (Half2 w3 (w.heap.size) mh ml) := Half2.later (Fh2.out.put mh ml) hb
  have Fr3 : Hid (Half2 w3 (w.heap.size + 1) 0 0) := Half2.later ((Fr2.out.other _ _ _ (by omega)).other _ _ _ (by omega)) hb
  have Fx3 : Hid (Half2 w3 (w1.heap.size) xh xl) := Half2.later ((Fx2.out.other _ _ _ (by omega)).other _ _ _ (by omega)) hb
  have B3 : Hid (Below w.heap.size w w3) := ((B2.out.setCell (by dsimp only; omega) _).setCell (by dsimp only; omega) _).trans (hb.mono (by simp; omega))
  clear hres hb Fh2 Fr2 Fx2 qh0 qh1 qhf0 qhf1 qhl qr0 qr1 qrf0 qrf1 qrl B2
  have hx3 := Fx3.out.lt
  obtain ⟨qh0, qh1, qhf⟩ := Fh3.out
  have qhf0 := qhf 0
  have qhf1 := qhf 1
  have qhl := Fh3.out.lt
  clear qhf
  obtain ⟨qr0, qr1, qrf⟩ := Fr3.out
  have qrf0 := qrf 0
  have qrf1 := qrf 1
  have qrl := Fr3.out.lt
  clear qrf
  go_wp2_with fail
  refine (times_any _ _ _ _ _ _ _ Hm.out Hp.out).mono ?_
  rintro e w4 ⟨th, tl, rfl, hres, hb⟩
  have Ht : Hid (IsH th tl (last1 h)) := hres
  have Fh4 : Hid (Half2 w4 (w.heap.size) mh ml) := Half2.later (Fh3.out.alloc _) hb
  have Fr4 : Hid (Half2 w4 (w.heap.size + 1) 0 0) := Half2.later (Fr3.out.alloc _) hb
  have Fx4 : Hid (Half2 w4 (w1.heap.size) xh xl) := Half2.later (Fx3.out.alloc _) hb
  have Fp4 : Hid (Half2 w4 (w3.heap.size) ph pl) := Half2.later (Half2.new w3 ph pl _ _ rfl) hb
  have B4 : Hid (Below w.heap.size w w4) := (B3.out.alloc (by omega) _).trans (hb.mono (by simp; omega))
  clear hres hb Fh3 Fr3 Fx3 qh0 qh1 qhf0 qhf1 qhl qr0 qr1 qrf0 qrf1 qrl B3
  have hx4 := Fx4.out.lt
  have hp4 := Fp4.out.lt
  obtain ⟨qh0, qh1, qhf⟩ := Fh4.out
  have qhf0 := qhf 0
  have qhf1 := qhf 1
  have qhl := Fh4.out.lt
  clear qhf
  obtain ⟨qr0, qr1, qrf⟩ := Fr4.out
  have qrf0 := qrf 0
  have qrf1 := qrf 1
  have qrl := Fr4.out.lt
  clear qrf
  go_wp2_with fail
  refine (moved_any _ _ (last1 h) 29 false _ Ht.out (by omega) (by omega)).mono ?_
  rintro e w5 ⟨yh, yl, rfl, hres, hb⟩
  have Hy : Hid (IsH yh yl (mv (last1 h) (Int.toNat 29) false 64)) := hres
  have Fh5 : Hid (Half2 w5 (w.heap.size) th tl) := Half2.later (Fh4.out.put th tl) hb
  have Fr5 : Hid (Half2 w5 (w.heap.size + 1) 0 0) := Half2.later ((Fr4.out.other _ _ _ (by omega)).other _ _ _ (by omega)) hb
  have Fx5 : Hid (Half2 w5 (w1.heap.size) xh xl) := Half2.later ((Fx4.out.other _ _ _ (by omega)).other _ _ _ (by omega)) hb
  have Fp5 : Hid (Half2 w5 (w3.heap.size) ph pl) := Half2.later ((Fp4.out.other _ _ _ (by omega)).other _ _ _ (by omega)) hb
  have B5 : Hid (Below w.heap.size w w5) := ((B4.out.setCell (by dsimp only; omega) _).setCell (by dsimp only; omega) _).trans (hb.mono (by simp; omega))
  clear hres hb Fh4 Fr4 Fx4 Fp4 qh0 qh1 qhf0 qhf1 qhl qr0 qr1 qrf0 qrf1 qrl B4
  have Hy' : Hid (IsH yh yl (last1 h / 2 ^ 29)) := by have := Hy.out; rwa [show Int.toNat 29 = 29 from rfl, mv_down (last1 h) 29 Ht.out.lt (by omega)] at this
  clear Hy
  have hp5 := Fp5.out.lt
  obtain ⟨qh0, qh1, qhf⟩ := Fh5.out
  have qhf0 := qhf 0
  have qhf1 := qhf 1
  have qhl := Fh5.out.lt
  clear qhf
  obtain ⟨qr0, qr1, qrf⟩ := Fr5.out
  have qrf0 := qrf 0
  have qrf1 := qrf 1
  have qrl := Fr5.out.lt
  clear qrf
  obtain ⟨qx0, qx1, qxf⟩ := Fx5.out
  have qxf0 := qxf 0
  have qxf1 := qxf 1
  have qxl := Fx5.out.lt
  clear qxf
  go_wp2_with fail
  refine (mixed_any _ _ _ _ (last1 h) _ _ Ht.out Hy'.out).mono ?_
  rintro e w6 ⟨nh, nl, rfl, hres, hb⟩
  have Hn : Hid (IsH nh nl (last1 h ^^^ last1 h / 2 ^ 29)) := hres
  have Fh6 : Hid (Half2 w6 (w.heap.size) th tl) := Half2.later ((Fh5.out.other _ _ _ (by omega)).other _ _ _ (by omega)) hb
  have Fr6 : Hid (Half2 w6 (w.heap.size + 1) 0 0) := Half2.later ((Fr5.out.other _ _ _ (by omega)).other _ _ _ (by omega)) hb
  have Fx6 : Hid (Half2 w6 (w1.heap.size) yh yl) := Half2.later (Fx5.out.put yh yl) hb
  have Fp6 : Hid (Half2 w6 (w3.heap.size) ph pl) := Half2.later ((Fp5.out.other _ _ _ (by omega)).other _ _ _ (by omega)) hb
  have B6 : Hid (Below w.heap.size w w6) := ((B5.out.setCell (by dsimp only; omega) _).setCell (by dsimp only; omega) _).trans (hb.mono (by simp; omega))
  clear hres hb Fh5 Fr5 Fx5 Fp5 qh0 qh1 qhf0 qhf1 qhl qr0 qr1 qrf0 qrf1 qrl qx0 qx1 qxf0 qxf1 qxl B5
  have hx6 := Fx6.out.lt
  have hp6 := Fp6.out.lt
  obtain ⟨qh0, qh1, qhf⟩ := Fh6.out
  have qhf0 := qhf 0
  have qhf1 := qhf 1
  have qhl := Fh6.out.lt
  clear qhf
  obtain ⟨qr0, qr1, qrf⟩ := Fr6.out
  have qrf0 := qrf 0
  have qrf1 := qrf 1
  have qrl := Fr6.out.lt
  clear qrf
  go_wp2_with fail
  refine (prime_any 3 _ (by omega) (by omega)).mono ?_
  rintro e w7 ⟨qh, ql, rfl, hres, hb⟩
  have Hq : Hid (IsH qh ql (primeN 3)) := hres
  have Fh7 : Hid (Half2 w7 (w.heap.size) nh nl) := Half2.later (Fh6.out.put nh nl) hb
  have Fr7 : Hid (Half2 w7 (w.heap.size + 1) 0 0) := Half2.later ((Fr6.out.other _ _ _ (by omega)).other _ _ _ (by omega)) hb
  have Fx7 : Hid (Half2 w7 (w1.heap.size) yh yl) := Half2.later ((Fx6.out.other _ _ _ (by omega)).other _ _ _ (by omega)) hb
  have Fp7 : Hid (Half2 w7 (w3.heap.size) ph pl) := Half2.later ((Fp6.out.other _ _ _ (by omega)).other _ _ _ (by omega)) hb
  have B7 : Hid (Below w.heap.size w w7) := ((B6.out.setCell (by dsimp only; omega) _).setCell (by dsimp only; omega) _).trans (hb.mono (by simp; omega))
  clear hres hb Fh6 Fr6 Fx6 Fp6 qh0 qh1 qhf0 qhf1 qhl qr0 qr1 qrf0 qrf1 qrl B6
  have hx7 := Fx7.out.lt
  obtain ⟨qh0, qh1, qhf⟩ := Fh7.out
  have qhf0 := qhf 0
  have qhf1 := qhf 1
  have qhl := Fh7.out.lt
  clear qhf
  obtain ⟨qr0, qr1, qrf⟩ := Fr7.out
  have qrf0 := qrf 0
  have qrf1 := qrf 1
  have qrl := Fr7.out.lt
  clear qrf
  obtain ⟨qp0, qp1, qpf⟩ := Fp7.out
  have qpf0 := qpf 0
  have qpf1 := qpf 1
  have qpl := Fp7.out.lt
  clear qpf
  go_wp2_with fail
  refine (times_any _ _ _ _ _ _ _ Hn.out Hq.out).mono ?_
  rintro e w8 ⟨uh, ul, rfl, hres, hb⟩
  have Hu : Hid (IsH uh ul (last2 (last1 h))) := hres
  have Fh8 : Hid (Half2 w8 (w.heap.size) nh nl) := Half2.later ((Fh7.out.other _ _ _ (by omega)).other _ _ _ (by omega)) hb
  have Fr8 : Hid (Half2 w8 (w.heap.size + 1) 0 0) := Half2.later ((Fr7.out.other _ _ _ (by omega)).other _ _ _ (by omega)) hb
  have Fx8 : Hid (Half2 w8 (w1.heap.size) yh yl) := Half2.later ((Fx7.out.other _ _ _ (by omega)).other _ _ _ (by omega)) hb
  have B8 : Hid (Below w.heap.size w w8) := ((B7.out.setCell (by dsimp only; omega) _).setCell (by dsimp only; omega) _).trans (hb.mono (by simp; omega))
  clear hres hb Fh7 Fr7 Fx7 Fp7 qh0 qh1 qhf0 qhf1 qhl qr0 qr1 qrf0 qrf1 qrl qp0 qp1 qpf0 qpf1 qpl B7
  have hx8 := Fx8.out.lt
  obtain ⟨qh0, qh1, qhf⟩ := Fh8.out
  have qhf0 := qhf 0
  have qhf1 := qhf 1
  have qhl := Fh8.out.lt
  clear qhf
  obtain ⟨qr0, qr1, qrf⟩ := Fr8.out
  have qrf0 := qrf 0
  have qrf1 := qrf 1
  have qrl := Fr8.out.lt
  clear qrf
  go_wp2_with fail
  refine (moved_any _ _ (last2 (last1 h)) 32 false _ Hu.out (by omega) (by omega)).mono ?_
  rintro e w9 ⟨zh, zl, rfl, hres, hb⟩
  have Hz : Hid (IsH zh zl (mv (last2 (last1 h)) (Int.toNat 32) false 64)) := hres
  have Fh9 : Hid (Half2 w9 (w.heap.size) uh ul) := Half2.later (Fh8.out.put uh ul) hb
  have Fr9 : Hid (Half2 w9 (w.heap.size + 1) 0 0) := Half2.later ((Fr8.out.other _ _ _ (by omega)).other _ _ _ (by omega)) hb
  have Fx9 : Hid (Half2 w9 (w1.heap.size) yh yl) := Half2.later ((Fx8.out.other _ _ _ (by omega)).other _ _ _ (by omega)) hb
  have B9 : Hid (Below w.heap.size w w9) := ((B8.out.setCell (by dsimp only; omega) _).setCell (by dsimp only; omega) _).trans (hb.mono (by simp; omega))
  clear hres hb Fh8 Fr8 Fx8 qh0 qh1 qhf0 qhf1 qhl qr0 qr1 qrf0 qrf1 qrl B8
  have Hz' : Hid (IsH zh zl (last2 (last1 h) / 2 ^ 32)) := by have := Hz.out; rwa [show Int.toNat 32 = 32 from rfl, mv_down (last2 (last1 h)) 32 Hu.out.lt (by omega)] at this
  clear Hz
  obtain ⟨qh0, qh1, qhf⟩ := Fh9.out
  have qhf0 := qhf 0
  have qhf1 := qhf 1
  have qhl := Fh9.out.lt
  clear qhf
  obtain ⟨qr0, qr1, qrf⟩ := Fr9.out
  have qrf0 := qrf 0
  have qrf1 := qrf 1
  have qrl := Fr9.out.lt
  clear qrf
  obtain ⟨qx0, qx1, qxf⟩ := Fx9.out
  have qxf0 := qxf 0
  have qxf1 := qxf 1
  have qxl := Fx9.out.lt
  clear qxf
  go_wp2_with fail
  refine (mixed_any _ _ _ _ (last2 (last1 h)) _ _ Hu.out Hz'.out).mono ?_
  rintro e w10 ⟨vh, vl, rfl, hres, hb⟩
  have Hv : Hid (IsH vh vl (lastN h)) := hres
  have Fr10 : Hid (Half2 w10 (w.heap.size + 1) 0 0) := Half2.later ((Fr9.out.other _ _ _ (by omega)).other _ _ _ (by omega)) hb
  have B10 : Hid (Below w.heap.size w w10) := ((B9.out.setCell (by dsimp only; omega) _).setCell (by dsimp only; omega) _).trans (hb.mono (by simp; omega))
  clear hres hb Fh9 Fr9 Fx9 qh0 qh1 qhf0 qhf1 qhl qr0 qr1 qrf0 qrf1 qrl qx0 qx1 qxf0 qxf1 qxl B9
  obtain ⟨qr0, qr1, qrf⟩ := Fr10.out
  have qrf0 := qrf 0
  have qrf1 := qrf 1
  have qrl := Fr10.out.lt
  clear qrf
  go_wp2
  have hput := Fr10.out.put vh vl
  exact bodyPost_ret (v := .agg #[.int .i64 vh, .int .i64 vl]) (by simp [results, Tryz.results49, go_sem, hput.c0, hput.c1]) rfl ⟨vh, vl, rfl, Hv.out, (B10.out.setCell (by dsimp only; omega) _).setCell (by dsimp only; omega) _⟩
end Go.Proofs.YtipdjbkkpjlamaaGreat
