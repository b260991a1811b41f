import Derived.Test.YtipdjbkkpjlamaaGreatRE
import Derived.WalkKit
import Derived.WalkSpells
import Derived.WalkLawsBesides
namespace Go.Proofs.YtipdjbkkpjlamaaGreat
open Go.RowKit
/-- a variable that holds a Half -/
structure Half2 (w : World) (b : Nat) (h l : Int) : Prop where
  c0 : w.cell? ⟨b, 0, none⟩ = some (.int .i64 h)
  c1 : w.cell? ⟨b, 1, none⟩ = some (.int .i64 l)
  f : ∀ i, w.frozen? ⟨b, i, none⟩ = false
theorem Half2.lt {w : World} {b : Nat} {h l : Int} (k : Half2 w b h l) : b < w.heap.size := block_lt_of_cell k.c0
theorem Half2.same {w w' : World} {b : Nat} {h l : Int} (k : Half2 w b h l) (hb : w'.heap[b]? = w.heap[b]?) : Half2 w' b h l :=
  ⟨(World.cell?_of_block (w := w) (a := ⟨b, 0, none⟩) hb).trans k.c0, (World.cell?_of_block (w := w) (a := ⟨b, 1, none⟩) hb).trans k.c1, fun i => (World.frozen?_of_block (w := w) (a := ⟨b, i, none⟩) hb).trans (k.f i)⟩
theorem Half2.later {w w' : World} {b : Nat} {h l : Int} (k : Half2 w b h l) (hb : Below w.heap.size w w') : Half2 w' b h l := k.same (hb.block b k.lt)
theorem Half2.alloc {w : World} {b : Nat} {h l : Int} (k : Half2 w b h l) (o : Obj) : Half2 (w.alloc o) b h l := k.same (Below.heap_alloc _ _ _ k.lt)
theorem Half2.other {w : World} {b : Nat} {h l : Int} (k : Half2 w b h l) (c i : Nat) (v : Value) (hc : b ≠ c) : Half2 (w.setCell ⟨c, i, none⟩ v) b h l := k.same (Below.heap_setCell _ _ _ _ hc)
theorem Half2.drew {w : World} {b : Nat} {h l : Int} (k : Half2 w b h l) : Half2 w.drew b h l := k.same rfl
theorem Half2.put {w : World} {b : Nat} {h l : Int} (k : Half2 w b h l) (h' l' : Int) : Half2 ((w.setCell ⟨b, 0, none⟩ (.int .i64 h')).setCell ⟨b, 1, none⟩ (.int .i64 l')) b h' l' :=
  ⟨by rw [cs_other (addr_ne (by omega))]; exact cs_same k.c0, cs_same (by rw [cs_other (addr_ne (by omega))]; exact k.c1), fun i => by rw [World.frozen?_setCell, World.frozen?_setCell]; exact k.f i⟩
theorem Half2.new (w : World) (h l : Int) (t : TypeId) (b : Nat) (hb : b = w.heap.size) : Half2 (w.alloc (.cells #[.int .i64 h, .int .i64 l] t)) b h l := by
  subst hb
  exact ⟨by rw [World.cell?_alloc_new]; rfl, by rw [World.cell?_alloc_new]; rfl, fun i => by rw [World.frozen?_alloc_new]⟩
def addM (a b : Nat) : Nat := (a + b) % 18446744073709551616
def lapN (v x : Nat) : Nat := mulM (rolN (addM v (mulM x (primeN 2))) 31) (primeN 1)
set_option maxRecDepth 100000 in
set_option maxHeartbeats 2000000 in
theorem rlap_any (vh vl xh xl : Int) (v x : Nat) (w : World) (hv : IsH vh vl v) (hx : IsH xh xl x) :
    Calls Tryz.prog 46 #[.agg #[.int .i64 vh, .int .i64 vl], .agg #[.int .i64 xh, .int .i64 xl]] w fun e w' =>
      ∃ h l, e = .returned (.agg #[.int .i64 h, .int .i64 l]) ∧ IsH h l (lapN v x) ∧ Below w.heap.size w w' := by
  have HV : Hid (IsH vh vl v) := hv
  have HX : Hid (IsH xh xl x) := hx
  clear hv hx
  go_enter Tryz.func46, Tryz.ntmps46
  go_wp2_with fail
  refine (prime_any 2 _ (by omega) (by omega)).mono ?_
  rintro e w1 ⟨ph, pl, rfl, hres, hb⟩
  have Hp : Hid (IsH ph pl (primeN 2)) := hres
  have Fv1 : Hid (Half2 w1 (w.heap.size) vh vl) := Half2.later (((Half2.new w vh vl _ _ rfl).alloc _).alloc _) hb
  have Fx1 : Hid (Half2 w1 (w.heap.size + 1) xh xl) := Half2.later ((Half2.new _ xh xl _ _ (by simp)).alloc _) hb
  have Fr1 : Hid (Half2 w1 (w.heap.size + 1 + 1) 0 0) := Half2.later (Half2.new _ 0 0 _ _ (by simp)) hb
  have B1 : Hid (Below w.heap.size w w1) := ((((Below.refl _ _).alloc (Nat.le_refl _) _).alloc (by simp) _).alloc (by simp; omega) _).trans (hb.mono (by simp; omega))
  clear hres hb
  obtain ⟨qv0, qv1, qvf⟩ := Fv1.out
  have qvf0 := qvf 0
  have qvf1 := qvf 1
  have qvl := Fv1.out.lt
  clear qvf
  obtain ⟨qx0, qx1, qxf⟩ := Fx1.out
  have qxf0 := qxf 0
  have qxf1 := qxf 1
  have qxl := Fx1.out.lt
  clear qxf
  obtain ⟨qr0, qr1, qrf⟩ := Fr1.out
  have qrf0 := qrf 0
  have qrf1 := qrf 1
  have qrl := Fr1.out.lt
  clear qrf
  go_wp2_with fail
  refine (times_any _ _ _ _ x (primeN 2) _ HX.out Hp.out).mono ?_
  rintro e w2 ⟨yh, yl, rfl, hres, hb⟩
  have Hy : Hid (IsH yh yl (mulM x (primeN 2))) := hres
  have Fv2 : Hid (Half2 w2 (w.heap.size) vh vl) := Half2.later (Fv1.out.alloc _) hb
  have Fr2 : Hid (Half2 w2 (w.heap.size + 1 + 1) 0 0) := Half2.later (Fr1.out.alloc _) hb
  have B2 : Hid (Below w.heap.size w w2) := (B1.out.alloc (by omega) _).trans (hb.mono (by simp; omega))
  clear hres hb Fv1 Fx1 Fr1 qv0 qv1 qvf0 qvf1 qvl qx0 qx1 qxf0 qxf1 qxl qr0 qr1 qrf0 qrf1 qrl B1
  obtain ⟨qv0, qv1, qvf⟩ := Fv2.out
  have qvf0 := qvf 0
  have qvf1 := qvf 1
  have qvl := Fv2.out.lt
  clear qvf
  obtain ⟨qr0, qr1, qrf⟩ := Fr2.out
  have qrf0 := qrf 0
  have qrf1 := qrf 1
  have qrl := Fr2.out.lt
  clear qrf
  go_wp2_with fail
  refine (plus_any _ _ _ _ v _ _ HV.out Hy.out).mono ?_
  rintro e w3 ⟨sh, sl, rfl, hres, hb⟩
  have Hs : Hid (IsH sh sl (addM v (mulM x (primeN 2)))) := hres
  have Fv3 : Hid (Half2 w3 (w.heap.size) vh vl) := Half2.later (Fv2.out.alloc _) hb
  have Fr3 : Hid (Half2 w3 (w.heap.size + 1 + 1) 0 0) := Half2.later (Fr2.out.alloc _) hb
  have B3 : Hid (Below w.heap.size w w3) := (B2.out.alloc (by omega) _).trans (hb.mono (by simp; omega))
  clear hres hb Fv2 Fr2 qv0 qv1 qvf0 qvf1 qvl qr0 qr1 qrf0 qrf1 qrl B2
  obtain ⟨qv0, qv1, qvf⟩ := Fv3.out
  have qvf0 := qvf 0
  have qvf1 := qvf 1
  have qvl := Fv3.out.lt
  clear qvf
  obtain ⟨qr0, qr1, qrf⟩ := Fr3.out
  have qrf0 := qrf 0
  have qrf1 := qrf 1
  have qrl := Fr3.out.lt
  clear qrf
  go_wp2_with fail
  refine (left_any _ _ _ 31 _ Hs.out (by omega) (by omega)).mono ?_
  rintro e w4 ⟨th, tl, rfl, hres, hb⟩
  have Ht : Hid (IsH th tl (rolN (addM v (mulM x (primeN 2))) 31)) := hres
  have Fv4 : Hid (Half2 w4 (w.heap.size) sh sl) := Half2.later (Fv3.out.put sh sl) hb
  have Fr4 : Hid (Half2 w4 (w.heap.size + 1 + 1) 0 0) := Half2.later ((Fr3.out.other _ _ _ (by omega)).other _ _ _ (by omega)) hb
  have B4 : Hid (Below w.heap.size w w4) := ((B3.out.setCell (by dsimp only; omega) _).setCell (by dsimp only; omega) _).trans (hb.mono (by simp; omega))
  clear hres hb Fv3 Fr3 qv0 qv1 qvf0 qvf1 qvl qr0 qr1 qrf0 qrf1 qrl B3
  obtain ⟨qv0, qv1, qvf⟩ := Fv4.out
  have qvf0 := qvf 0
  have qvf1 := qvf 1
  have qvl := Fv4.out.lt
  clear qvf
  obtain ⟨qr0, qr1, qrf⟩ := Fr4.out
  have qrf0 := qrf 0
  have qrf1 := qrf 1
  have qrl := Fr4.out.lt
  clear qrf
  go_wp2_with fail
  refine (prime_any 1 _ (by omega) (by omega)).mono ?_
  rintro e w5 ⟨qh, ql, rfl, hres, hb⟩
  have Hq : Hid (IsH qh ql (primeN 1)) := hres
  have Fv5 : Hid (Half2 w5 (w.heap.size) th tl) := Half2.later (Fv4.out.put th tl) hb
  have Fr5 : Hid (Half2 w5 (w.heap.size + 1 + 1) 0 0) := Half2.later ((Fr4.out.other _ _ _ (by omega)).other _ _ _ (by omega)) hb
  have B5 : Hid (Below w.heap.size w w5) := ((B4.out.setCell (by dsimp only; omega) _).setCell (by dsimp only; omega) _).trans (hb.mono (by simp; omega))
  clear hres hb Fv4 Fr4 qv0 qv1 qvf0 qvf1 qvl qr0 qr1 qrf0 qrf1 qrl B4
  obtain ⟨qv0, qv1, qvf⟩ := Fv5.out
  have qvf0 := qvf 0
  have qvf1 := qvf 1
  have qvl := Fv5.out.lt
  clear qvf
  obtain ⟨qr0, qr1, qrf⟩ := Fr5.out
  have qrf0 := qrf 0
  have qrf1 := qrf 1
  have qrl := Fr5.out.lt
  clear qrf
  go_wp2_with fail
  refine (times_any _ _ _ _ _ (primeN 1) _ Ht.out Hq.out).mono ?_
  rintro e w6 ⟨uh, ul, rfl, hres, hb⟩
  have Hu : Hid (IsH uh ul (lapN v x)) := hres
  have Fr6 : Hid (Half2 w6 (w.heap.size + 1 + 1) 0 0) := Half2.later (Fr5.out.alloc _) hb
  have B6 : Hid (Below w.heap.size w w6) := (B5.out.alloc (by omega) _).trans (hb.mono (by simp; omega))
  clear hres hb Fv5 Fr5 qv0 qv1 qvf0 qvf1 qvl qr0 qr1 qrf0 qrf1 qrl B5
  obtain ⟨qr0, qr1, qrf⟩ := Fr6.out
  have qrf0 := qrf 0
  have qrf1 := qrf 1
  have qrl := Fr6.out.lt
  clear qrf
  go_wp2
  have hput := Fr6.out.put uh ul
  exact bodyPost_ret (v := .agg #[.int .i64 uh, .int .i64 ul]) (by simp [results, Tryz.results46, go_sem, hput.c0, hput.c1]) rfl ⟨uh, ul, rfl, Hu.out, (B6.out.setCell (by dsimp only; omega) _).setCell (by dsimp only; omega) _⟩
end Go.Proofs.YtipdjbkkpjlamaaGreat
