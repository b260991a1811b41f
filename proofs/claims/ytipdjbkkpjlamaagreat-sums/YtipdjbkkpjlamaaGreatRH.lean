import Derived.Test.YtipdjbkkpjlamaaGreatRG
import Derived.WalkKit
import Derived.WalkSpells
import Derived.WalkLawsBesides
import Derived.Deep.RegionHeld3
import Derived.Deep.DeepCutAuto
namespace Go.Proofs.YtipdjbkkpjlamaaGreat
open Go.RowKit
/-- four Halves in a row, at the head of block g -/
structure Ln (w : World) (g : Nat) (hs ls : Nat → Int) (n : Nat → Nat) : Prop where
  c0 : ∀ k, k < 4 → w.cell? ⟨g, k * 2, none⟩ = some (.int .i64 (hs k))
  c1 : ∀ k, k < 4 → w.cell? ⟨g, k * 2 + 1, none⟩ = some (.int .i64 (ls k))
  f : ∀ i, w.frozen? ⟨g, i, none⟩ = false
  is : ∀ k, k < 4 → IsH (hs k) (ls k) (n k)
theorem Ln.lt {w : World} {g : Nat} {hs ls : Nat → Int} {n : Nat → Nat} (k : Ln w g hs ls n) : g < w.heap.size := block_lt_of_cell (k.c0 0 (by omega))
theorem Ln.same {w w' : World} {g : Nat} {hs ls : Nat → Int} {n : Nat → Nat} (k : Ln w g hs ls n) (hb : w'.heap[g]? = w.heap[g]?) : Ln w' g hs ls n :=
  ⟨fun i hi => (World.cell?_of_block (w := w) (a := ⟨g, i * 2, none⟩) hb).trans (k.c0 i hi), fun i hi => (World.cell?_of_block (w := w) (a := ⟨g, i * 2 + 1, none⟩) hb).trans (k.c1 i hi),
   fun i => (World.frozen?_of_block (w := w) (a := ⟨g, i, none⟩) hb).trans (k.f i), k.is⟩
theorem Ln.later {w w' : World} {g : Nat} {hs ls : Nat → Int} {n : Nat → Nat} (k : Ln w g hs ls n) (hb : Below w.heap.size w w') : Ln w' g hs ls n := k.same (hb.block g k.lt)
theorem Ln.alloc {w : World} {g : Nat} {hs ls : Nat → Int} {n : Nat → Nat} (k : Ln w g hs ls n) (o : Obj) : Ln (w.alloc o) g hs ls n := k.same (Below.heap_alloc _ _ _ k.lt)
theorem Ln.drew {w : World} {g : Nat} {hs ls : Nat → Int} {n : Nat → Nat} (k : Ln w g hs ls n) : Ln w.drew g hs ls n := k.same rfl
theorem Ln.other {w : World} {g : Nat} {hs ls : Nat → Int} {n : Nat → Nat} (k : Ln w g hs ls n) (c i : Nat) (v : Value) (hc : g ≠ c) : Ln (w.setCell ⟨c, i, none⟩ v) g hs ls n := k.same (Below.heap_setCell _ _ _ _ hc)
theorem Ln.put {w : World} {g : Nat} {hs ls : Nat → Int} {n : Nat → Nat} (k : Ln w g hs ls n) (j : Nat) (hj : j < 4) (h l : Int) (m : Nat) (hH : IsH h l m) :
    Ln ((w.setCell ⟨g, j * 2, none⟩ (.int .i64 h)).setCell ⟨g, j * 2 + 1, none⟩ (.int .i64 l)) g (upd hs j h) (upd ls j l) (updM n j m) where
  c0 i hi := by
    rw [cs_other (addr_ne (by omega))]
    by_cases e : i = j
    · subst e; rw [upd_same]; exact cs_same (k.c0 i hi)
    · rw [upd_other _ _ _ _ e, cs_other (addr_ne (by omega))]; exact k.c0 i hi
  c1 i hi := by
    by_cases e : i = j
    · subst e; rw [upd_same]; exact cs_same (by rw [cs_other (addr_ne (by omega))]; exact k.c1 i hi)
    · rw [upd_other _ _ _ _ e, cs_other (addr_ne (by omega)), cs_other (addr_ne (by omega))]; exact k.c1 i hi
  f i := by rw [World.frozen?_setCell, World.frozen?_setCell]; exact k.f i
  is i hi := by
    by_cases e : i = j
    · subst e; rw [upd_same, upd_same, updM_same]; exact hH
    · rw [upd_other _ _ _ _ e, upd_other _ _ _ _ e, updM_other _ _ _ _ e]; exact k.is i hi
/-- what 'lanes' holds in memory: the lanes, the first prime, the result's place -/
structure LI (B o g : Nat) (ph pl : Int) (w wr : World) (n : Nat → Nat) : Prop where
  ln : ∃ hs ls, Ln wr g hs ls n
  one : Half2 wr o ph pl
  res : Half2 wr B 0 0
  bel : Below B w wr
theorem LI.later {B o g : Nat} {ph pl : Int} {w wr w1 : World} {n : Nat → Nat} (k : LI B o g ph pl w wr n) (hb : Below wr.heap.size wr w1) : LI B o g ph pl w w1 n := by
  obtain ⟨hs, ls, h⟩ := k.ln
  exact ⟨⟨hs, ls, h.later hb⟩, k.one.later hb, k.res.later hb, k.bel.trans (hb.mono (Nat.le_of_lt k.res.lt))⟩
theorem LI.alloc {B o g : Nat} {ph pl : Int} {w wr : World} {n : Nat → Nat} (k : LI B o g ph pl w wr n) (ob : Obj) : LI B o g ph pl w (wr.alloc ob) n := by
  obtain ⟨hs, ls, h⟩ := k.ln
  exact ⟨⟨hs, ls, h.alloc ob⟩, k.one.alloc ob, k.res.alloc ob, k.bel.alloc (Nat.le_of_lt k.res.lt) ob⟩
theorem LI.drew {B o g : Nat} {ph pl : Int} {w wr : World} {n : Nat → Nat} (k : LI B o g ph pl w wr n) : LI B o g ph pl w wr.drew n := by
  obtain ⟨hs, ls, h⟩ := k.ln
  exact ⟨⟨hs, ls, h.drew⟩, k.one.drew, k.res.drew, k.bel.drew⟩
theorem LI.lt {B o g : Nat} {ph pl : Int} {w wr : World} {n : Nat → Nat} (k : LI B o g ph pl w wr n) : g < wr.heap.size := by obtain ⟨hs, ls, h⟩ := k.ln; exact h.lt
theorem LI.start {B o g : Nat} {ph pl : Int} {w wr : World} (a b c d : Int) (e f : Int) (x y z : Nat) (t : TypeId) (hg : g = wr.heap.size) (ho : Half2 wr o ph pl) (hr : Half2 wr B 0 0) (hb : Below B w wr)
    (h0 : IsH a b x) (h1 : IsH c d y) (h3 : IsH e f z) (n : Nat → Nat) (n0 : n 0 = x) (n1 : n 1 = y) (n2 : n 2 = 0) (n3 : n 3 = z) :
    LI B o g ph pl w (wr.alloc (.cells #[.int .i64 a, .int .i64 b, .int .i64 c, .int .i64 d, .int .i64 0, .int .i64 0, .int .i64 e, .int .i64 f] t)) n := by
  subst hg
  refine ⟨⟨fun k => if k = 0 then a else if k = 1 then c else if k = 2 then 0 else e, fun k => if k = 0 then b else if k = 1 then d else if k = 2 then 0 else f, ?_, ?_, ?_, ?_⟩, ho.alloc _, hr.alloc _, hb.alloc (Nat.le_of_lt hr.lt) _⟩
  · intro k hk
    rw [World.cell?_alloc_new]
    match k, hk with
    | 0, _ => rfl
    | 1, _ => rfl
    | 2, _ => rfl
    | 3, _ => rfl
  · intro k hk
    rw [World.cell?_alloc_new]
    match k, hk with
    | 0, _ => rfl
    | 1, _ => rfl
    | 2, _ => rfl
    | 3, _ => rfl
  · intro i; rw [World.frozen?_alloc_new]
  · intro k hk
    match k, hk with
    | 0, _ => rw [n0]; exact h0
    | 1, _ => rw [n1]; exact h1
    | 2, _ => rw [n2]; exact ⟨rfl, rfl, by omega⟩
    | 3, _ => rw [n3]; exact h3
theorem LI.put {B o g : Nat} {ph pl : Int} {w wr : World} {n : Nat → Nat} {hs ls : Nat → Int} (k : LI B o g ph pl w wr n) (L : Ln wr g hs ls n) (j : Nat) (hj : j < 4) (h l : Int) (m : Nat) (hH : IsH h l m) (h1 : B < g) (h2 : o < g) :
    LI B o g ph pl w ((wr.setCell ⟨g, j * 2, none⟩ (.int .i64 h)).setCell ⟨g, j * 2 + 1, none⟩ (.int .i64 l)) (updM n j m) :=
  ⟨⟨_, _, L.put j hj h l m hH⟩, (k.one.other _ _ _ (by omega)).other _ _ _ (by omega), (k.res.other _ _ _ (by omega)).other _ _ _ (by omega), (k.bel.setCell (by dsimp only; omega) _).setCell (by dsimp only; omega) _⟩
theorem LI.other {B o g : Nat} {ph pl : Int} {w wr : World} {n : Nat → Nat} (k : LI B o g ph pl w wr n) (c i : Nat) (v : Value) (h1 : B < c) (h2 : o ≠ c) (h3 : g ≠ c) : LI B o g ph pl w (wr.setCell ⟨c, i, none⟩ v) n := by
  obtain ⟨hs, ls, h⟩ := k.ln
  exact ⟨⟨hs, ls, h.other _ _ _ h3⟩, k.one.other _ _ _ h2, k.res.other _ _ _ (by omega), k.bel.setCell (by dsimp only; omega) _⟩
theorem left_nat (ah al : Int) (a : Nat) (k : Nat) (w : World) (ha : IsH ah al a) (hk1 : 1 ≤ k) (hk2 : k ≤ 63) :
    Calls Tryz.prog 62 #[.agg #[.int .i64 ah, .int .i64 al], .int .i64 (k : Int)] w fun e w' =>
      ∃ h l, e = .returned (.agg #[.int .i64 h, .int .i64 l]) ∧ IsH h l (rolN a k) ∧ Below w.heap.size w w' := by
  have h := left_any ah al a k w ha (by omega) (by omega)
  rwa [Int.toNat_natCast] at h
theorem far2 {w : World} {b c i : Nat} {v : Value} (h : w.cell? ⟨b, i, none⟩ = some v) (x y : Value) (hc : b ≠ c) : ((w.setCell ⟨c, 0, none⟩ x).setCell ⟨c, 1, none⟩ y).cell? ⟨b, i, none⟩ = some v := by
  rw [cs_other (blk_ne (Ne.symm hc)), cs_other (blk_ne (Ne.symm hc))]; exact h
def turnN (k : Nat) : Nat := if k = 0 then 1 else if k = 1 then 7 else if k = 2 then 12 else 18
theorem turnN_bd (k : Nat) : 1 ≤ turnN k ∧ turnN k ≤ 63 := by unfold turnN; split <;> (try split) <;> (try split) <;> omega
/-- the lanes turned and added, k of them -/
def s3 (n : Nat → Nat) : Nat → Nat
  | 0 => 0
  | k + 1 => addM (s3 n k) (rolN (n k) (turnN k))
/-- and mixed in -/
def s4 (n : Nat → Nat) : Nat → Nat
  | 0 => s3 n 4
  | k + 1 => addM (mulM (s4 n k ^^^ lapN 0 (n k)) (primeN 1)) (primeN 4)
/-- what the third loop holds -/
structure L3 (B o g T : Nat) (ph pl : Int) (w wr : World) (n : Nat → Nat) (v : Nat) : Prop where
  li : LI B o g ph pl w wr n
  tn : ∀ i, i < 4 → wr.cell? ⟨T, i, none⟩ = some (.int .i64 (turnN i : Nat))
  h : ∃ hh hl, Half2 wr (T + 1) hh hl ∧ IsH hh hl v
theorem L3.start {B o g T : Nat} {ph pl : Int} {w wr : World} {n : Nat → Nat} (k : LI B o g ph pl w wr n) (t u : TypeId) (hT : T = wr.heap.size) :
    L3 B o g T ph pl w ((wr.alloc (.cells #[.int .i64 1, .int .i64 7, .int .i64 12, .int .i64 18] t)).alloc (.cells #[.int .i64 0, .int .i64 0] u)) n 0 where
  li := (k.alloc _).alloc _
  tn i hi := by
    subst hT
    rw [World.cell?_alloc_past _ _ _ (by simp), World.cell?_alloc_new]
    match i, hi with
    | 0, _ => rfl
    | 1, _ => rfl
    | 2, _ => rfl
    | 3, _ => rfl
  h := ⟨0, 0, Half2.new _ 0 0 _ _ (by rw [hT]; simp), ⟨rfl, rfl, by omega⟩⟩
theorem L3.same {B o g T : Nat} {ph pl : Int} {w wr w1 : World} {n : Nat → Nat} {v : Nat} (k : L3 B o g T ph pl w wr n v) (hli : LI B o g ph pl w w1 n) (hb : ∀ i, i < wr.heap.size → i ≤ T + 1 → w1.heap[i]? = wr.heap[i]?) : L3 B o g T ph pl w w1 n v := by
  obtain ⟨hh, hl, h, hH⟩ := k.h
  have hlt := h.lt
  exact ⟨hli, fun i hi => (World.cell?_of_block (w := wr) (a := ⟨T, i, none⟩) (hb T (by omega) (by omega))).trans (k.tn i hi), ⟨hh, hl, h.same (hb _ hlt (Nat.le_refl _)), hH⟩⟩
theorem L3.later {B o g T : Nat} {ph pl : Int} {w wr w1 : World} {n : Nat → Nat} {v : Nat} (k : L3 B o g T ph pl w wr n v) (hb : Below wr.heap.size wr w1) : L3 B o g T ph pl w w1 n v := k.same (k.li.later hb) (fun b hlt _ => hb.block b hlt)
theorem L3.alloc {B o g T : Nat} {ph pl : Int} {w wr : World} {n : Nat → Nat} {v : Nat} (k : L3 B o g T ph pl w wr n v) (ob : Obj) : L3 B o g T ph pl w (wr.alloc ob) n v := k.same (k.li.alloc ob) (fun _ hlt _ => Below.heap_alloc _ _ _ hlt)
theorem L3.drew {B o g T : Nat} {ph pl : Int} {w wr : World} {n : Nat → Nat} {v : Nat} (k : L3 B o g T ph pl w wr n v) : L3 B o g T ph pl w wr.drew n v := k.same k.li.drew (fun _ _ _ => rfl)
theorem L3.hlt {B o g T : Nat} {ph pl : Int} {w wr : World} {n : Nat → Nat} {v : Nat} (k : L3 B o g T ph pl w wr n v) : T + 1 < wr.heap.size := by obtain ⟨_, _, h, _⟩ := k.h; exact h.lt
theorem L3.put {B o g T : Nat} {ph pl : Int} {w wr : World} {n : Nat → Nat} {v : Nat} (k : L3 B o g T ph pl w wr n v) (h l : Int) (m : Nat) (hH : IsH h l m) (h1 : B < T) (h2 : o < T) (h3 : g < T) :
    L3 B o g T ph pl w ((wr.setCell ⟨T + 1, 0, none⟩ (.int .i64 h)).setCell ⟨T + 1, 1, none⟩ (.int .i64 l)) n m := by
  obtain ⟨hh, hl, h0, _⟩ := k.h
  exact ⟨(k.li.other _ _ _ (by omega) (by omega) (by omega)).other _ _ _ (by omega) (by omega) (by omega),
    fun i hi => by rw [cs_other (blk_ne (by omega)), cs_other (blk_ne (by omega))]; exact k.tn i hi, ⟨h, l, h0.put h l, hH⟩⟩
theorem L3.far {B o g T : Nat} {ph pl : Int} {w wr : World} {n : Nat → Nat} {v : Nat} (k : L3 B o g T ph pl w wr n v) (c : Nat) (h1 : B < c) (h2 : o < c) (h3 : g < c) (h4 : T + 1 < c) (h l : Int) :
    L3 B o g T ph pl w ((wr.setCell ⟨c, 0, none⟩ (.int .i64 h)).setCell ⟨c, 1, none⟩ (.int .i64 l)) n v := by
  obtain ⟨hh, hl, h0, hH⟩ := k.h
  exact ⟨(k.li.other _ _ _ (by omega) (by omega) (by omega)).other _ _ _ (by omega) (by omega) (by omega),
    fun i hi => by rw [cs_other (blk_ne (by omega)), cs_other (blk_ne (by omega))]; exact k.tn i hi, ⟨hh, hl, (h0.other _ _ _ (by omega)).other _ _ _ (by omega), hH⟩⟩
def lane0N (k : Nat) : Nat := if k = 0 then addM (primeN 1) (primeN 2) else if k = 1 then primeN 2 else if k = 2 then 0 else mulM (primeN 1) 18446744073709551615
def laneN (s : ByteArray) (m k : Nat) : Nat := match m with
  | 0 => lane0N k
  | m + 1 => lapN (laneN s m k) (numN (gOf s) (32 * m + 8 * k) 8)
/-- k of the lanes one lot further -/
def laneTo (s : ByteArray) (m j k : Nat) : Nat := if k < j then laneN s (m + 1) k else laneN s m k
theorem laneTo_zero (s : ByteArray) (m : Nat) : laneTo s m 0 = laneN s m := funext fun k => by simp [laneTo]
theorem laneTo_four {B o g : Nat} {ph pl : Int} {w wr : World} {s : ByteArray} {m : Nat} (k : LI B o g ph pl w wr (laneTo s m 4)) : LI B o g ph pl w wr (laneN s (m + 1)) := by
  obtain ⟨hs, ls, h⟩ := k.ln
  exact ⟨⟨hs, ls, h.c0, h.c1, h.f, fun i hi => by have := h.is i hi; rwa [show laneTo s m 4 i = laneN s (m + 1) i by simp [laneTo, hi]] at this⟩, k.one, k.res, k.bel⟩
theorem laneTo_step (s : ByteArray) (m j : Nat) : updM (laneTo s m j) j (lapN (laneN s m j) (numN (gOf s) (32 * m + 8 * j) 8)) = laneTo s m (j + 1) := funext fun k => by
  unfold updM laneTo
  by_cases e : k = j
  · subst e; simp [laneN]
  · by_cases e2 : k < j
    · simp [e, e2, show k < j + 1 by omega]
    · simp [e, e2, show ¬ k < j + 1 by omega]
def headN (s : ByteArray) : Nat := s4 (laneN s (s.size / 32)) 4
set_option maxRecDepth 100000 in
set_option maxHeartbeats 4000000 in
theorem rlanes_any (s : ByteArray) (w : World) (hs : s.size ≤ 1099511627776) :
    Calls Tryz.prog 43 #[.string s] w fun e w' =>
      ∃ rh rl, e = .returned (.agg #[.int .i64 rh, .int .i64 rl]) ∧ IsH rh rl (headN s) ∧ Below w.heap.size w w' := by
  go_enter Tryz.func43, Tryz.ntmps43
  go_wp2_with fail
  refine (prime_any 1 _ (by omega) (by omega)).mono ?_
  rintro e w1 ⟨ph, pl, rfl, hres, hb⟩
  have Hp : Hid (IsH ph pl (primeN 1)) := hres
  have Fr1 : Hid (Half2 w1 (w.heap.size) 0 0) := Half2.later (Half2.new w 0 0 _ _ rfl) hb
  have B1 : Hid (Below w.heap.size w w1) := ((Below.refl _ _).alloc (Nat.le_refl _) _).trans (hb.mono (by simp))
  clear hres hb
  have hl1 : w.heap.size < w1.heap.size := Fr1.out.lt
  obtain ⟨qr0, qr1, qrf⟩ := Fr1.out
  have qrf0 := qrf 0
  have qrf1 := qrf 1
  have qrl := Fr1.out.lt
  clear qrf
  go_wp2_with fail
  refine (prime_any 2 _ (by omega) (by omega)).mono ?_
  rintro e w2 ⟨qh, ql, rfl, hres, hb⟩
  have Hq : Hid (IsH qh ql (primeN 2)) := hres
  have Fr2 : Hid (Half2 w2 (w.heap.size) 0 0) := Half2.later (Fr1.out.alloc _) hb
  have Fo2 : Hid (Half2 w2 (w1.heap.size) ph pl) := Half2.later (Half2.new w1 ph pl _ _ rfl) hb
  have B2 : Hid (Below w.heap.size w w2) := (B1.out.alloc (by omega) _).trans (hb.mono (by simp; omega))
  clear hres hb Fr1 qr0 qr1 qrf0 qrf1 qrl B1
  have hl2 : w1.heap.size < w2.heap.size := Fo2.out.lt
  obtain ⟨qr0, qr1, qrf⟩ := Fr2.out
  have qrf0 := qrf 0
  have qrf1 := qrf 1
  have qrl := Fr2.out.lt
  clear qrf
  obtain ⟨qo0, qo1, qof⟩ := Fo2.out
  have qof0 := qof 0
  have qof1 := qof 1
  have qol := Fo2.out.lt
  clear qof
  go_wp2_with fail
  refine (times_any _ _ _ _ (primeN 1) 18446744073709551615 _ Hp.out ⟨by decide, by decide, by decide⟩).mono ?_
  rintro e w3 ⟨mh, ml, rfl, hres, hb⟩
  have Hm : Hid (IsH mh ml (mulM (primeN 1) 18446744073709551615)) := hres
  have Fr3 : Hid (Half2 w3 (w.heap.size) 0 0) := Half2.later (Fr2.out.alloc _) hb
  have Fo3 : Hid (Half2 w3 (w1.heap.size) ph pl) := Half2.later (Fo2.out.alloc _) hb
  have Ft3 : Hid (Half2 w3 (w2.heap.size) qh ql) := Half2.later (Half2.new w2 qh ql _ _ rfl) hb
  have B3 : Hid (Below w.heap.size w w3) := (B2.out.alloc (by omega) _).trans (hb.mono (by simp; omega))
  clear hres hb Fr2 Fo2 qr0 qr1 qrf0 qrf1 qrl qo0 qo1 qof0 qof1 qol B2
  have hl3 : w2.heap.size < w3.heap.size := Ft3.out.lt
  obtain ⟨qr0, qr1, qrf⟩ := Fr3.out
  have qrf0 := qrf 0
  have qrf1 := qrf 1
  have qrl := Fr3.out.lt
  clear qrf
  obtain ⟨qo0, qo1, qof⟩ := Fo3.out
  have qof0 := qof 0
  have qof1 := qof 1
  have qol := Fo3.out.lt
  clear qof
  obtain ⟨qt0, qt1, qtf⟩ := Ft3.out
  have qtf0 := qtf 0
  have qtf1 := qtf 1
  have qtl := Ft3.out.lt
  clear qtf
  have M3 : Hid (Half2 (w3.alloc (.cells #[.int .i64 mh, .int .i64 ml] 78)) w3.heap.size mh ml) := Half2.new w3 mh ml _ _ rfl
  have HSZ : Hid (s.size ≤ 1099511627776) := hs
  clear hs
  go_wp2_with fail
  go_region_held3 (fun W => W.cell? ⟨w1.heap.size, 0, none⟩ = some (.int .i64 ph) ∧ W.cell? ⟨w1.heap.size, 1, none⟩ = some (.int .i64 pl) ∧ W.cell? ⟨w2.heap.size, 0, none⟩ = some (.int .i64 qh) ∧ W.cell? ⟨w2.heap.size, 1, none⟩ = some (.int .i64 ql) ∧ W.cell? ⟨w3.heap.size, 0, none⟩ = some (.int .i64 mh) ∧ W.cell? ⟨w3.heap.size, 1, none⟩ = some (.int .i64 ml))
    (go_keep)
    (first | (go_at_call 44; refine (plus_any _ _ _ _ (primeN 1) (primeN 2) _ Hp.out Hq.out).mono ?_; rintro e w4 ⟨sh, sl, rfl, hS, hb⟩; have HS : Hid (IsH sh sl (addM (primeN 1) (primeN 2))) := hS; have R4 : Hid (Half2 w4 w.heap.size 0 0) := Half2.later ((Fr3.out.alloc _).drew) hb; have BL4 : Hid (Below w.heap.size w w4) := (B3.out.alloc (by omega) _).drew.trans (hb.mono (by simp; omega)); obtain ⟨o40, o41, o4f⟩ := Half2.later ((Fo3.out.alloc _).drew) hb; obtain ⟨t40, t41, t4f⟩ := Half2.later ((Ft3.out.alloc _).drew) hb; obtain ⟨m40, m41, m4f⟩ := Half2.later (M3.out.drew) hb; have hz4 : w3.heap.size < w4.heap.size := (Half2.later (M3.out.drew) hb).lt; have o4ff : Hid (∀ i, w4.frozen? ⟨w1.heap.size, i, none⟩ = false) := o4f; clear hS hb o4f t4f m4f))
  go_wp2
  have LS : Hid (LI w.heap.size w1.heap.size w4.heap.size ph pl w _ (laneN s 0)) := LI.start sh sl qh ql mh ml _ _ _ 78 rfl ⟨o40, o41, o4ff.out⟩ R4.out BL4.out HS.out Hq.out Hm.out (laneN s 0) rfl rfl rfl rfl
  obtain ⟨ws, hws⟩ : ∃ ws, ws = (w4.alloc (.cells #[.int .i64 sh, .int .i64 sl, .int .i64 qh, .int .i64 ql, .int .i64 0, .int .i64 0, .int .i64 mh, .int .i64 ml] 78)) := ⟨_, rfl⟩
  rw [← hws] at LS ⊢
  have hg1 : w.heap.size < w4.heap.size := R4.out.lt
  have ho1 : w1.heap.size < w4.heap.size := block_lt_of_cell o40
  clear hws R4 BL4 HS o40 o41 t40 t41 m40 m41 o4ff hz4 hl2 hl3 Fr3 Fo3 Ft3 M3 B3 qr0 qr1 qrf0 qrf1 qrl qo0 qo1 qof0 qof1 qol qt0 qt1 qtf0 qtf1 qtl
  go_loopw [7] (fun pv wr => ∃ m : Nat, 32 * m ≤ s.size ∧ pv = .int .i64 (32 * (m : Int)) ∧ LI w.heap.size w1.heap.size w4.heap.size ph pl w wr (laneN s m)) (fun pv _ => (s.size - intOf pv).toNat)
  case atStart => exact ⟨0, by omega, rfl, LS.out⟩
  case round =>
    obtain ⟨m, hm, rfl, hli⟩ := hrel
    have HL : Hid (LI w.heap.size w1.heap.size w4.heap.size ph pl w wr (laneN s m)) := hli
    have hsz := HSZ.out
    clear hli
    by_cases hlt : 32 * m + 32 ≤ s.size
    · have hd : decide (32 * (m : Int) + 32 ≤ (s.size : Int)) = true := by simp; omega
      obtain ⟨wo, hwo⟩ : ∃ wo : World, wo = wr := ⟨_, rfl⟩
      rw [← hwo] at HL ⊢
      clear hwo
      go_wp2
      go_loopw [8] (fun kv wi => ∃ k : Nat, k ≤ 4 ∧ kv = .int .i64 k ∧ LI w.heap.size w1.heap.size w4.heap.size ph pl w wi (laneTo s m k)) (fun kv _ => (4 - intOf kv).toNat)
      case atStart => exact ⟨0, by omega, rfl, by rw [laneTo_zero]; exact HL.out⟩
      case round =>
        obtain ⟨k, hk, rfl, hli⟩ := hrel
        have HI : Hid (LI w.heap.size w1.heap.size w4.heap.size ph pl w wr (laneTo s m k)) := hli
        clear hli
        by_cases hk4 : k < 4
        · go_wp2_with fail
          refine (word_any s _ 8 _ hsz (by omega) (by omega) (by omega) (by omega)).mono ?_
          rintro e w5 ⟨xh, xl, rfl, hX, hb⟩
          have HX : Hid (IsH xh xl (numN (gOf s) (32 * m + 8 * k) 8)) := by
            rw [show numN (gOf s) (32 * m + 8 * k) 8 = numN (gOf s) (32 * (m : Int) + 8 * (k : Int)).toNat (Int.toNat 8) by congr 1]
            exact hX
          have H5 : Hid (LI w.heap.size w1.heap.size w4.heap.size ph pl w w5 (laneTo s m k)) := HI.out.later hb
          obtain ⟨hs5, ls5, ln5⟩ := H5.out.ln
          have c0 := ln5.c0 k hk4
          have c1 := ln5.c1 k hk4
          have cf0 := ln5.f (k * 2)
          have cf1 := ln5.f (k * 2 + 1)
          have cl := ln5.lt
          have HN : Hid (IsH (hs5 k) (ls5 k) (laneN s m k)) := by have := ln5.is k hk4; rwa [show laneTo s m k k = laneN s m k by simp [laneTo]] at this
          have L5 : Hid (Ln w5 w4.heap.size hs5 ls5 (laneTo s m k)) := ln5
          clear hX hb ln5
          have hki : (k : Int) < 4 := by omega
          have XB : Hid (Half2 (w5.alloc (.cells #[.int .i64 xh, .int .i64 xl] 78)) w5.heap.size xh xl) := Half2.new w5 xh xl _ _ rfl
          go_wp2_with fail
          go_region_with (go_at_call 46; refine (rlap_any _ _ _ _ (laneN s m k) (numN (gOf s) (32 * m + 8 * k) 8) _ HN.out HX.out).mono ?_; rintro e w6 ⟨yh, yl, rfl, hY, hb⟩; have HY : Hid (IsH yh yl (lapN (laneN s m k) (numN (gOf s) (32 * m + 8 * k) 8))) := hY; have H6 : Hid (LI w.heap.size w1.heap.size w4.heap.size ph pl w w6 (laneTo s m k)) := ((H5.out.alloc _).drew).later hb; have L6 : Hid (Ln w6 w4.heap.size hs5 ls5 (laneTo s m k)) := ((L5.out.alloc _).drew).later hb; have d0 := L6.out.c0 k hk4; have d1 := L6.out.c1 k hk4; have df0 := L6.out.f (k * 2); have df1 := L6.out.f (k * 2 + 1); clear hY hb)
          all_goals go_wp2
          all_goals
            refine ⟨⟨k + 1, by omega, by go_num, ?_⟩, by simp [intOf]; omega⟩
            rw [← laneTo_step]
            exact H6.out.put L6.out k hk4 yh yl _ HY.out hg1 ho1
        · obtain rfl : k = 4 := by omega
          go_wp2
          exact ⟨⟨m + 1, by omega, by go_num, laneTo_four HI.out⟩, by simp [intOf]; omega⟩
    · have hd : decide (32 * (m : Int) + 32 ≤ (s.size : Int)) = false := by simp; omega
      have HM : Hid (m = s.size / 32) := (by omega : m = s.size / 32)
      have hT1 : w.heap.size < wr.heap.size := HL.out.res.lt
      have hT2 : w1.heap.size < wr.heap.size := HL.out.one.lt
      have hT3 : w4.heap.size < wr.heap.size := HL.out.lt
      go_wp2
      have LT := L3.start HL.out 3 78 (T := wr.heap.size) rfl
      obtain ⟨W3, hW3⟩ : ∃ W3, W3 = ((wr.alloc (.cells #[.int .i64 1, .int .i64 7, .int .i64 12, .int .i64 18] 3)).alloc (.cells #[.int .i64 0, .int .i64 0] 78)) := ⟨_, rfl⟩
      rw [← hW3] at LT ⊢
      have LT3 : Hid (L3 w.heap.size w1.heap.size w4.heap.size wr.heap.size ph pl w W3 (laneN s m) 0) := LT
      obtain ⟨T, hT⟩ : ∃ T, T = wr.heap.size := ⟨_, rfl⟩
      rw [← hT] at LT3 hT1 hT2 hT3 ⊢
      clear hW3 LT HL hT
      go_loopw [12] (fun kv wi => ∃ k : Nat, k ≤ 4 ∧ kv = .int .i64 k ∧ L3 w.heap.size w1.heap.size w4.heap.size T ph pl w wi (laneN s m) (s3 (laneN s m) k)) (fun kv _ => (4 - intOf kv).toNat)
      case atStart => exact ⟨0, by omega, rfl, LT3.out⟩
      case round =>
        obtain ⟨k, hk, rfl, hl3⟩ := hrel
        have H3 : Hid (L3 w.heap.size w1.heap.size w4.heap.size T ph pl w wr (laneN s m) (s3 (laneN s m) k)) := hl3
        clear hl3
        by_cases hk4 : k < 4
        · obtain ⟨hs5, ls5, ln5⟩ := H3.out.li.ln
          have c0 := ln5.c0 k hk4
          have c1 := ln5.c1 k hk4
          have ct := H3.out.tn k hk4
          have hk4i : (k : Int) < 4 := by omega
          have cl := ln5.lt
          have HN : Hid (IsH (hs5 k) (ls5 k) (laneN s m k)) := ln5.is k hk4
          have htb := turnN_bd k
          have hlT := H3.out.hlt
          have hT1' : w.heap.size < wr.heap.size := by omega
          have hT2' : w1.heap.size < wr.heap.size := by omega
          have hT3' : w4.heap.size < wr.heap.size := by omega
          have L5 : Hid (Ln wr w4.heap.size hs5 ls5 (laneN s m)) := ln5
          clear ln5
          go_wp2
          go_cut [13] (fun xv wc => ∃ (xb : Nat) (xh xl : Int), xv = .pointer (some ⟨xb, 0, none⟩) ∧ T + 1 < xb ∧ Half2 wc xb xh xl ∧ IsH xh xl (rolN (laneN s m k) (turnN k)) ∧ L3 w.heap.size w1.heap.size w4.heap.size T ph pl w wc (laneN s m) (s3 (laneN s m) k))
          case first =>
            go_region_held3 (fun W => W.cell? ⟨w4.heap.size, k * 2, none⟩ = some (.int .i64 (hs5 k)) ∧ W.cell? ⟨w4.heap.size, k * 2 + 1, none⟩ = some (.int .i64 (ls5 k)) ∧ W.cell? ⟨T, k, none⟩ = some (.int .i64 (turnN k : Nat))) (first | go_keep | exact ⟨far2 d0 _ _ (by omega), far2 d1 _ _ (by omega), far2 dt _ _ (by omega)⟩)
              (first | (go_at_call 62; refine (left_nat _ _ (laneN s m k) (turnN k) _ HN.out (by omega) (by omega)).mono ?_; rintro e w6 ⟨yh, yl, rfl, hY, hb⟩; have HY : Hid (IsH yh yl (rolN (laneN s m k) (turnN k))) := hY; have H6 : Hid (L3 w.heap.size w1.heap.size w4.heap.size T ph pl w w6 (laneN s m) (s3 (laneN s m) k)) := H3.out.drew.later hb; have d0 := (L5.out.drew.later hb).c0 k hk4; have d1 := (L5.out.drew.later hb).c1 k hk4; have dt := H6.out.tn k hk4; have dl := H6.out.hlt; have dg := (L5.out.drew.later hb).lt; have dT := Nat.lt_of_succ_lt dl; have tokA : True := trivial; clear hY hb) | (go_at_call 62; refine (left_nat _ _ (laneN s m k) (turnN k) _ HN.out (by omega) (by omega)).mono ?_; rintro e w6 ⟨yh, yl, rfl, hY, hb⟩; have HY : Hid (IsH yh yl (rolN (laneN s m k) (turnN k))) := hY; have H6 : Hid (L3 w.heap.size w1.heap.size w4.heap.size T ph pl w w6 (laneN s m) (s3 (laneN s m) k)) := (H3.out.alloc _).drew.later hb; have d0 := ((L5.out.alloc _).drew.later hb).c0 k hk4; have d1 := ((L5.out.alloc _).drew.later hb).c1 k hk4; have dt := H6.out.tn k hk4; have dl := H6.out.hlt; have dg := ((L5.out.alloc _).drew.later hb).lt; have dT := Nat.lt_of_succ_lt dl; have hxz := ((Half2.new wr 0 0 78 _ rfl).drew).later hb; have HXZ : Hid (Half2 w6 wr.heap.size 0 0) := hxz; have hxl := hxz.lt; obtain ⟨xz0, xz1, xzf⟩ := hxz; have xzf0 := xzf 0; have xzf1 := xzf 1; have hxne : w4.heap.size ≠ wr.heap.size := Nat.ne_of_lt cl; have hxnT : T ≠ wr.heap.size := Nat.ne_of_lt (Nat.lt_of_succ_lt hlT); clear hY hb xzf))
            all_goals (go_wp2_with fail; go_meet)
            all_goals first
              | exact ⟨w6.heap.size, yh, yl, rfl, by omega, Half2.new w6 yh yl _ _ rfl, HY.out, H6.out.alloc _⟩
              | exact ⟨wr.heap.size, yh, yl, rfl, hlT, HXZ.out.put yh yl, HY.out, H6.out.far wr.heap.size hT1' hT2' hT3' hlT yh yl⟩
          case rest =>
            obtain ⟨xb, xh, xl, rfl, hxb, hx, hX, h3⟩ := hcut
            obtain ⟨hh, hl, hhf, hHH⟩ := h3.h
            obtain ⟨x0, x1, xf⟩ := hx
            obtain ⟨a0, a1, af⟩ := hhf
            have HX : Hid (IsH xh xl (rolN (laneN s m k) (turnN k))) := hX
            have HH : Hid (IsH hh hl (s3 (laneN s m) k)) := hHH
            have HC : Hid (L3 w.heap.size w1.heap.size w4.heap.size T ph pl w wc (laneN s m) (s3 (laneN s m) k)) := h3
            clear hX hHH h3 xf af c0 c1 ct L5 H3
            go_wp2_with fail
            refine (plus_any _ _ _ _ _ _ _ HH.out HX.out).mono ?_
            rintro e w7 ⟨zh, zl, rfl, hZ, hb⟩
            have HZ : Hid (IsH zh zl (s3 (laneN s m) (k + 1))) := hZ
            have H7 : Hid (L3 w.heap.size w1.heap.size w4.heap.size T ph pl w w7 (laneN s m) (s3 (laneN s m) k)) := HC.out.later hb
            obtain ⟨hh7, hl7, hf7, _⟩ := H7.out.h
            obtain ⟨b0, b1, bf⟩ := hf7
            have bf0 := bf 0
            have bf1 := bf 1
            clear hZ hb bf
            go_wp2
            exact ⟨⟨k + 1, by omega, by go_num, H7.out.put zh zl _ HZ.out hT1 hT2 hT3⟩, by simp [intOf]; omega⟩
        · obtain rfl : k = 4 := by omega
          rw [show ((4 : Nat) : Int) = 4 from rfl]
          have H34 : Hid (L3 w.heap.size w1.heap.size w4.heap.size T ph pl w wr (laneN s m) (s4 (laneN s m) 0)) := H3.out
          clear H3
          go_wp2
          go_loopw [14] (fun kv wi => ∃ k : Nat, k ≤ 4 ∧ kv = .int .i64 k ∧ L3 w.heap.size w1.heap.size w4.heap.size T ph pl w wi (laneN s m) (s4 (laneN s m) k)) (fun kv _ => (4 - intOf kv).toNat)
          case atStart => exact ⟨0, by omega, rfl, H34.out⟩
          case round =>
            obtain ⟨k, hk, rfl, hl3⟩ := hrel
            have H3 : Hid (L3 w.heap.size w1.heap.size w4.heap.size T ph pl w wr (laneN s m) (s4 (laneN s m) k)) := hl3
            clear hl3
            by_cases hk4 : k < 4
            · obtain ⟨hs5, ls5, ln5⟩ := H3.out.li.ln
              have c0 := ln5.c0 k hk4
              have c1 := ln5.c1 k hk4
              have hk4i : (k : Int) < 4 := by omega
              have HN : Hid (IsH (hs5 k) (ls5 k) (laneN s m k)) := ln5.is k hk4
              clear ln5
              go_wp2_with fail
              refine (rlap_any _ _ _ _ 0 (laneN s m k) _ ⟨rfl, rfl, by omega⟩ HN.out).mono ?_
              rintro e w6 ⟨xh, xl, rfl, hX, hb⟩
              have HX : Hid (IsH xh xl (lapN 0 (laneN s m k))) := hX
              have H6 : Hid (L3 w.heap.size w1.heap.size w4.heap.size T ph pl w w6 (laneN s m) (s4 (laneN s m) k)) := H3.out.later hb
              obtain ⟨hh, hl, hhf, hHH⟩ := H6.out.h
              have HH : Hid (IsH hh hl (s4 (laneN s m) k)) := hHH
              have hl6 := hhf.lt
              obtain ⟨a0, a1, af⟩ := hhf
              have af0 := af 0
              have af1 := af 1
              clear hX hb c0 c1 hHH af H3
              go_wp2_with fail
              refine (mixed_any _ _ _ _ _ _ _ HH.out HX.out).mono ?_
              rintro e w7 ⟨yh, yl, rfl, hY, hb⟩
              have HY : Hid (IsH yh yl (s4 (laneN s m) k ^^^ lapN 0 (laneN s m k))) := hY
              have H7 : Hid (L3 w.heap.size w1.heap.size w4.heap.size T ph pl w w7 (laneN s m) (s4 (laneN s m) k)) := (H6.out.alloc _).later hb
              obtain ⟨hh7, hl7, hhf, _⟩ := H7.out.h
              have hl7' := hhf.lt
              obtain ⟨b0, b1, bf⟩ := hhf
              have bf0 := bf 0
              have bf1 := bf 1
              obtain ⟨o0, o1, of⟩ := H7.out.li.one
              have ol := H7.out.li.one.lt
              clear hY hb a0 a1 af0 af1 bf of H6 HH HX
              go_wp2_with fail
              refine (times_any _ _ _ _ _ _ _ HY.out Hp.out).mono ?_
              rintro e w8 ⟨zh, zl, rfl, hZ, hb⟩
              have HZ : Hid (IsH zh zl (mulM (s4 (laneN s m) k ^^^ lapN 0 (laneN s m k)) (primeN 1))) := hZ
              have H8 : Hid (L3 w.heap.size w1.heap.size w4.heap.size T ph pl w w8 (laneN s m) (s4 (laneN s m) k ^^^ lapN 0 (laneN s m k))) := (H7.out.put yh yl _ HY.out hT1 hT2 hT3).later hb
              obtain ⟨hh8, hl8, hhf, _⟩ := H8.out.h
              have hl8' := hhf.lt
              obtain ⟨d0, d1, df⟩ := hhf
              have df0 := df 0
              have df1 := df 1
              clear hZ hb b0 b1 bf0 bf1 o0 o1 ol df H7
              go_wp2_with fail
              refine (prime_any 4 _ (by omega) (by omega)).mono ?_
              rintro e w9 ⟨vh, vl, rfl, hV, hb⟩
              have HV : Hid (IsH vh vl (primeN 4)) := hV
              have H9 : Hid (L3 w.heap.size w1.heap.size w4.heap.size T ph pl w w9 (laneN s m) (mulM (s4 (laneN s m) k ^^^ lapN 0 (laneN s m k)) (primeN 1))) := (H8.out.put zh zl _ HZ.out hT1 hT2 hT3).later hb
              obtain ⟨hh9, hl9, hhf, hH9⟩ := H9.out.h
              have HH9 : Hid (IsH hh9 hl9 (mulM (s4 (laneN s m) k ^^^ lapN 0 (laneN s m k)) (primeN 1))) := hH9
              have hl9' := hhf.lt
              obtain ⟨e0, e1, ef⟩ := hhf
              have ef0 := ef 0
              have ef1 := ef 1
              clear hV hb d0 d1 df0 df1 ef H8 hH9
              go_wp2_with fail
              refine (plus_any _ _ _ _ _ _ _ HH9.out HV.out).mono ?_
              rintro e w10 ⟨th, tl, rfl, hTT, hb⟩
              have HTT : Hid (IsH th tl (s4 (laneN s m) (k + 1))) := hTT
              have H10 : Hid (L3 w.heap.size w1.heap.size w4.heap.size T ph pl w w10 (laneN s m) (mulM (s4 (laneN s m) k ^^^ lapN 0 (laneN s m k)) (primeN 1))) := (H9.out.alloc _).later hb
              obtain ⟨hh10, hl10, hhf, _⟩ := H10.out.h
              obtain ⟨f0, f1, ff⟩ := hhf
              have ff0 := ff 0
              have ff1 := ff 1
              clear hTT hb e0 e1 ef0 ef1 ff H9
              go_wp2
              exact ⟨⟨k + 1, by omega, by go_num, H10.out.put th tl _ HTT.out hT1 hT2 hT3⟩, by simp [intOf]; omega⟩
            · obtain rfl : k = 4 := by omega
              obtain ⟨hh, hl, hhf, hHH⟩ := H3.out.h
              have HH : Hid (IsH hh hl (headN s)) := by
                unfold headN
                rw [← HM.out]; exact hHH
              obtain ⟨a0, a1, af⟩ := hhf
              have hr := H3.out.li.res
              obtain ⟨r0, r1, rf⟩ := H3.out.li.res
              have rf0 := rf 0
              have rf1 := rf 1
              have HB : Hid (Below w.heap.size w wr) := H3.out.li.bel
              have HR : Hid (Half2 wr w.heap.size 0 0) := hr
              clear hHH af rf hr
              go_wp2
              have hput := HR.out.put hh hl
              exact bodyPost_ret (v := .agg #[.int .i64 hh, .int .i64 hl]) (by simp [results, Tryz.results43, go_sem, hput.c0, hput.c1]) rfl ⟨hh, hl, rfl, HH.out, (HB.out.setCell (by dsimp only; omega) _).setCell (by dsimp only; omega) _⟩
end Go.Proofs.YtipdjbkkpjlamaaGreat
