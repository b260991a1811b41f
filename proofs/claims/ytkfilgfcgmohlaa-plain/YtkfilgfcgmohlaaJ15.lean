import Derived.Test.YtkfilgfcgmohlaaJ13
import Derived.Test.YtkfilgfcgmohlaaJ14
import Derived.WalkKit
import Derived.WalkSpells
import Derived.WalkLawsBesides
import Derived.Deep.DeepCutAuto
namespace Go.Proofs.Ytkfilgfcgmohlaa
open Go.RowKit
/-- what 'Sum' holds in memory: h, the result's place -/
structure SI (B b : Nat) (w wr : World) (v : Nat) : Prop where
  h : ∃ hh hl, Half2 wr b hh hl ∧ IsH hh hl v
  res : Half2 wr B 0 0
  bel : Below B w wr
theorem SI.later {B b : Nat} {w wr w1 : World} {v : Nat} (k : SI B b w wr v) (hb : Below wr.heap.size wr w1) : SI B b w w1 v := by
  obtain ⟨hh, hl, h, hH⟩ := k.h
  exact ⟨⟨hh, hl, h.later hb, hH⟩, k.res.later hb, k.bel.trans (hb.mono (Nat.le_of_lt k.res.lt))⟩
theorem SI.alloc {B b : Nat} {w wr : World} {v : Nat} (k : SI B b w wr v) (o : Obj) : SI B b w (wr.alloc o) v := by
  obtain ⟨hh, hl, h, hH⟩ := k.h
  exact ⟨⟨hh, hl, h.alloc o, hH⟩, k.res.alloc o, k.bel.alloc (Nat.le_of_lt k.res.lt) o⟩
theorem SI.put {B b : Nat} {w wr : World} {v : Nat} (k : SI B b w wr v) (h l : Int) (m : Nat) (hH : IsH h l m) (hB : B < b) : SI B b w ((wr.setCell ⟨b, 0, none⟩ (.int .i64 h)).setCell ⟨b, 1, none⟩ (.int .i64 l)) m := by
  obtain ⟨hh, hl, h0, _⟩ := k.h
  exact ⟨⟨h, l, h0.put h l, hH⟩, (k.res.other _ _ _ (by omega)).other _ _ _ (by omega), (k.bel.setCell (by dsimp only; omega) _).setCell (by dsimp only; omega) _⟩
theorem SI.far {B b : Nat} {w wr : World} {v : Nat} (k : SI B b w wr v) (c : Nat) (h l : Int) (hc : b < c) (hB : B < b) : SI B b w ((wr.setCell ⟨c, 0, none⟩ (.int .i64 h)).setCell ⟨c, 1, none⟩ (.int .i64 l)) v := by
  obtain ⟨hh, hl, h0, hH⟩ := k.h
  exact ⟨⟨hh, hl, (h0.other _ _ _ (by omega)).other _ _ _ (by omega), hH⟩, (k.res.other _ _ _ (by omega)).other _ _ _ (by omega), (k.bel.setCell (by dsimp only; omega) _).setCell (by dsimp only; omega) _⟩
def step8N (h x : Nat) : Nat := addM (foldN h (lapN 0 x) 27 1) (primeN 4)
def step4N (h x : Nat) : Nat := addM (foldN h (mulM x (primeN 1)) 23 2) (primeN 3)
def step1N (h x : Nat) : Nat := foldN h (mulM x (primeN 5)) 11 1
def eightsN (g : Nat → Nat) (p h : Nat) : Nat → Nat
  | 0 => h
  | j + 1 => step8N (eightsN g p h j) (numN g (p + 8 * j) 8)
def onesN (g : Nat → Nat) (p h : Nat) : Nat → Nat
  | 0 => h
  | j + 1 => step1N (onesN g p h j) (numN g (p + j) 1)
def restN (g : Nat → Nat) (p n h : Nat) : Nat :=
  if 8 * (n / 8) + 4 ≤ n then onesN g (p + 8 * (n / 8) + 4) (step4N (eightsN g p h (n / 8)) (numN g (p + 8 * (n / 8)) 4)) (n - 8 * (n / 8) - 4)
  else onesN g (p + 8 * (n / 8)) (eightsN g p h (n / 8)) (n - 8 * (n / 8))
def beginN (s : ByteArray) : Nat := addM (if 32 ≤ s.size then headN s else primeN 5) s.size
def xsumN (s : ByteArray) : Nat := lastN (restN (gOf s) (32 * (s.size / 32)) (s.size % 32) (beginN s))
theorem restN_four (g : Nat → Nat) (p n j m h : Nat) (e : j = n / 8) (h4 : 8 * j + 4 ≤ n) (hm : ¬ 8 * j + 4 + m < n) (hm' : 8 * j + 4 + m ≤ n) :
    onesN g (p + 8 * j + 4) (step4N (eightsN g p h j) (numN g (p + 8 * j) 4)) m = restN g p n h := by
  unfold restN
  subst e
  rw [if_pos h4, show n - 8 * (n / 8) - 4 = m by omega]
theorem restN_none (g : Nat → Nat) (p n j m h : Nat) (e : j = n / 8) (h4 : ¬ 8 * j + 4 ≤ n) (hm : ¬ 8 * j + m < n) (hm' : 8 * j + m ≤ n) :
    onesN g (p + 8 * j) (eightsN g p h j) m = restN g p n h := by
  unfold restN
  subst e
  rw [if_neg h4, show n - 8 * (n / 8) = m by omega]
theorem isH_len (n : Nat) (h : n ≤ 1099511627776) (h0 : (n : Int) < 4294967296) : IsH 0 (n : Int) n := ⟨by omega, by omega, by omega⟩
set_option maxRecDepth 100000 in
set_option maxHeartbeats 4000000 in
theorem rsum_any (s : ByteArray) (w : World) (hs : s.size ≤ 4294967295) :
    Calls Try.prog 30 #[.string s] w fun e w' =>
      ∃ rh rl, e = .returned (.agg #[.int .i64 rh, .int .i64 rl]) ∧ IsH rh rl (xsumN s) ∧ Below w.heap.size w w' := by
  have HSZ : Hid (s.size ≤ 4294967295) := hs
  go_enter Try.func30, Try.ntmps30
  go_wp2_with fail
  refine (prime_any 5 _ (by omega) (by omega)).mono ?_
  rintro e w1 ⟨ph, pl, rfl, hP, hb⟩
  have HP : Hid (IsH ph pl (primeN 5)) := hP
  have R1 : Hid (Half2 w1 w.heap.size 0 0) := (Half2.new w 0 0 _ _ rfl).later hb
  have B1 : Hid (Below w.heap.size w w1) := ((Below.refl _ _).alloc (Nat.le_refl _) _).trans (hb.mono (by simp))
  have hBb : w.heap.size < w1.heap.size := R1.out.lt
  clear hP hb
  have S1 : Hid (SI w.heap.size w1.heap.size w (w1.alloc (.cells #[.int .i64 ph, .int .i64 pl] 74)) (primeN 5)) := ⟨⟨ph, pl, Half2.new w1 ph pl _ _ rfl, HP.out⟩, R1.out.alloc _, B1.out.alloc (by omega) _⟩
  obtain ⟨b, hbb⟩ : ∃ b, b = w1.heap.size := ⟨_, rfl⟩
  rw [← hbb] at S1 hBb
  go_upto_if 13 with fail
  rw [← hbb]
  clear R1 B1
  go_cut [] (fun wc => SI w.heap.size b w wc (if 32 ≤ s.size then headN s else primeN 5))
  case first =>
    by_cases h32 : 32 ≤ s.size
    · obtain ⟨W1, hW1⟩ : ∃ W1, W1 = (w1.alloc (.cells #[.int .i64 ph, .int .i64 pl] 74)) := ⟨_, rfl⟩
      rw [← hW1] at S1 ⊢
      clear hW1 hbb
      go_wp2_with fail
      refine (rlanes_any s _ (by omega)).mono ?_
      rintro e w2 ⟨lh, ll, rfl, hL, hb⟩
      have HL : Hid (IsH lh ll (headN s)) := hL
      have S2 : Hid (SI w.heap.size b w w2 (primeN 5)) := S1.out.later hb
      obtain ⟨ah, al, af, aH⟩ := S2.out.h
      have Ha : Hid (IsH ah al _) := aH
      have alt := af.lt
      obtain ⟨a0, a1, ag⟩ := af
      have ag0 := ag 0
      have ag1 := ag 1
      clear aH ag
      clear hL hb S1
      go_wp2_with fail
      go_meet
      rw [if_pos h32]
      exact S2.out.put lh ll _ HL.out hBb
    · go_wp2_with fail
      go_meet
      rw [if_neg h32]
      exact S1.out
  case rest =>
    have SC : Hid (SI w.heap.size b w wc (if 32 ≤ s.size then headN s else primeN 5)) := hcut
    clear hcut S1 hbb
    obtain ⟨ah, al, af, aH⟩ := SC.out.h
    have Ha : Hid (IsH ah al _) := aH
    have alt := af.lt
    obtain ⟨a0, a1, ag⟩ := af
    have ag0 := ag 0
    have ag1 := ag 1
    clear aH ag
    go_wp2_with fail
    refine (plus_any _ _ _ _ _ s.size _ Ha.out (isH_len s.size (by omega) (by omega))).mono ?_
    rintro e w2 ⟨ch, cl, rfl, hC, hb⟩
    have HC : Hid (IsH ch cl (beginN s)) := hC
    have S2 : Hid (SI w.heap.size b w w2 (if 32 ≤ s.size then headN s else primeN 5)) := SC.out.later hb
    clear hC hb SC a0 a1 ag0 ag1 alt Ha
    obtain ⟨ah, al, af, aH⟩ := S2.out.h
    have Ha : Hid (IsH ah al _) := aH
    have alt := af.lt
    obtain ⟨a0, a1, ag⟩ := af
    have ag0 := ag 0
    have ag1 := ag 1
    clear aH ag
    go_wp2_with fail
    have S3 : Hid (SI w.heap.size b w ((w2.setCell ⟨b, 0, none⟩ (.int .i64 ch)).setCell ⟨b, 1, none⟩ (.int .i64 cl)) (beginN s)) := S2.out.put ch cl _ HC.out hBb
    obtain ⟨W3, hW3⟩ : ∃ W3, W3 = ((w2.setCell ⟨b, 0, none⟩ (.int .i64 ch)).setCell ⟨b, 1, none⟩ (.int .i64 cl)) := ⟨_, rfl⟩
    rw [← hW3] at S3 ⊢
    clear hW3 S2 a0 a1 ag0 ag1 alt Ha HP
    obtain ⟨q, hq⟩ : ∃ q, q = 32 * (s.size / 32) := ⟨_, rfl⟩
    have HQ : Hid (q = 32 * (s.size / 32)) := hq
    have hq1 : q ≤ s.size := by omega
    clear hq
    go_loopw [4] (fun pv wr => ∃ j : Nat, q + 8 * j ≤ s.size ∧ pv = .int .i64 ((q : Int) + 8 * (j : Int)) ∧ SI w.heap.size b w wr (eightsN (gOf s) q (beginN s) j)) (fun pv _ => (s.size - intOf pv).toNat)
    case atStart => exact ⟨0, by omega, by have := HQ.out; go_num, S3.out⟩
    case round =>
      obtain ⟨j, hj, rfl, hsi⟩ := hrel
      have SJ : Hid (SI w.heap.size b w wr (eightsN (gOf s) q (beginN s) j)) := hsi
      clear hsi
      by_cases hlt : q + 8 * j + 8 ≤ s.size
      · go_wp2_with fail
        refine (word_any s _ 8 _ (by omega) (by omega) (by omega) (by omega) (by omega)).mono ?_
        rintro e w4 ⟨xh, xl, rfl, hX, hb⟩
        have HX : Hid (IsH xh xl (numN (gOf s) (q + 8 * j) 8)) := by
          rw [show numN (gOf s) (q + 8 * j) 8 = numN (gOf s) ((q : Int) + 8 * (j : Int)).toNat (Int.toNat 8) by congr 1]
          exact hX
        have S4 : Hid (SI w.heap.size b w w4 (eightsN (gOf s) q (beginN s) j)) := SJ.out.later hb
        have hb4 : b < w4.heap.size := by obtain ⟨_, _, h, _⟩ := S4.out.h; exact h.lt
        clear hX hb SJ
        go_wp2_with fail
        refine (rlap_any _ _ _ _ 0 _ _ ⟨rfl, rfl, by omega⟩ HX.out).mono ?_
        rintro e w5 ⟨yh, yl, rfl, hY, hb⟩
        have HY : Hid (IsH yh yl (lapN 0 (numN (gOf s) (q + 8 * j) 8))) := hY
        have S5 : Hid (SI w.heap.size b w w5 (eightsN (gOf s) q (beginN s) j)) := (S4.out.alloc _).later hb
        have X5 : Hid (Half2 w5 w4.heap.size xh xl) := (Half2.new w4 xh xl _ _ rfl).later hb
        obtain ⟨x0, x1, xf⟩ := X5.out
        have xf0 := xf 0
        have xf1 := xf 1
        have xlt := X5.out.lt
        clear hY hb S4 xf
        obtain ⟨ah, al, af, aH⟩ := S5.out.h
        have Ha : Hid (IsH ah al _) := aH
        have alt := af.lt
        obtain ⟨a0, a1, ag⟩ := af
        have ag0 := ag 0
        have ag1 := ag 1
        clear aH ag
        go_wp2_with fail
        refine (rfold_two _ _ _ _ _ _ 27 1 4 _ Ha.out HY.out (by omega) (by omega) (by omega) (by omega) (by omega) (by omega)).mono ?_
        rintro e w6 ⟨zh, zl, rfl, hZ, hb⟩
        have HZ : Hid (IsH zh zl (eightsN (gOf s) q (beginN s) (j + 1))) := hZ
        have S6 : Hid (SI w.heap.size b w w6 (eightsN (gOf s) q (beginN s) j)) := (S5.out.far w4.heap.size yh yl hb4 hBb).later hb
        clear hZ hb S5 X5 x0 x1 xf0 xf1 xlt a0 a1 ag0 ag1 alt Ha
        obtain ⟨ah, al, af, aH⟩ := S6.out.h
        have Ha : Hid (IsH ah al _) := aH
        have alt := af.lt
        obtain ⟨a0, a1, ag⟩ := af
        have ag0 := ag 0
        have ag1 := ag 1
        clear aH ag
        go_wp2
        exact ⟨⟨j + 1, by omega, by go_num, S6.out.put zh zl _ HZ.out hBb⟩, by simp [intOf]; omega⟩
      · have hd : decide ((q : Int) + 8 * (j : Int) + 8 ≤ (s.size : Int)) = false := by simp; omega
        have E8 : Hid (j = s.size % 32 / 8) := by have := HQ.out; show j = s.size % 32 / 8; omega
        by_cases h4 : q + 8 * j + 4 ≤ s.size
        · have hd4 : decide ((q : Int) + 8 * (j : Int) + 4 ≤ (s.size : Int)) = true := by simp; omega
          go_wp2_with fail
          refine (word_any s _ 4 _ (by omega) (by omega) (by omega) (by omega) (by omega)).mono ?_
          rintro e w4 ⟨xh, xl, rfl, hX, hb⟩
          have HX : Hid (IsH xh xl (numN (gOf s) (q + 8 * j) 4)) := by
            rw [show numN (gOf s) (q + 8 * j) 4 = numN (gOf s) ((q : Int) + 8 * (j : Int)).toNat (Int.toNat 4) by congr 1]
            exact hX
          have S4 : Hid (SI w.heap.size b w w4 (eightsN (gOf s) q (beginN s) j)) := SJ.out.later hb
          have hb4 : b < w4.heap.size := by obtain ⟨_, _, h, _⟩ := S4.out.h; exact h.lt
          clear hX hb SJ
          go_wp2_with fail
          refine (prime_any 1 _ (by omega) (by omega)).mono ?_
          rintro e w5 ⟨yh, yl, rfl, hY, hb⟩
          have HY : Hid (IsH yh yl (primeN 1)) := hY
          have S5 : Hid (SI w.heap.size b w w5 (eightsN (gOf s) q (beginN s) j)) := (S4.out.alloc _).later hb
          have X5 : Hid (Half2 w5 w4.heap.size xh xl) := (Half2.new w4 xh xl _ _ rfl).later hb
          obtain ⟨x0, x1, xf⟩ := X5.out
          have xlt : w4.heap.size < w5.heap.size := X5.out.lt
          clear hY hb S4 xf
          go_wp2_with fail
          refine (times_any _ _ _ _ _ _ _ HX.out HY.out).mono ?_
          rintro e w6 ⟨th, tl, rfl, hT, hb⟩
          have HT : Hid (IsH th tl (mulM (numN (gOf s) (q + 8 * j) 4) (primeN 1))) := hT
          have S6 : Hid (SI w.heap.size b w w6 (eightsN (gOf s) q (beginN s) j)) := (S5.out.alloc _).later hb
          have X6 : Hid (Half2 w6 w4.heap.size xh xl) := (X5.out.alloc _).later hb
          obtain ⟨y0, y1, yf⟩ := X6.out
          have yf0 := yf 0
          have yf1 := yf 1
          clear hT hb S5 X5 x0 x1 yf
          obtain ⟨ah, al, af, aH⟩ := S6.out.h
          have Ha : Hid (IsH ah al _) := aH
          have alt := af.lt
          obtain ⟨a0, a1, ag⟩ := af
          have ag0 := ag 0
          have ag1 := ag 1
          clear aH ag
          go_wp2_with fail
          refine (rfold_two _ _ _ _ _ _ 23 2 3 _ Ha.out HT.out (by omega) (by omega) (by omega) (by omega) (by omega) (by omega)).mono ?_
          rintro e w7 ⟨zh, zl, rfl, hZ, hb⟩
          have HZ : Hid (IsH zh zl (step4N (eightsN (gOf s) q (beginN s) j) (numN (gOf s) (q + 8 * j) 4))) := hZ
          have S7 : Hid (SI w.heap.size b w w7 (eightsN (gOf s) q (beginN s) j)) := (S6.out.far w4.heap.size th tl hb4 hBb).later hb
          clear hZ hb S6 X6 y0 y1 yf0 yf1 a0 a1 ag0 ag1 alt Ha
          obtain ⟨ah, al, af, aH⟩ := S7.out.h
          have Ha : Hid (IsH ah al _) := aH
          have alt := af.lt
          obtain ⟨a0, a1, ag⟩ := af
          have ag0 := ag 0
          have ag1 := ag 1
          clear aH ag
          go_wp2_with fail
          have S8 : Hid (SI w.heap.size b w _ (step4N (eightsN (gOf s) q (beginN s) j) (numN (gOf s) (q + 8 * j) 4))) := S7.out.put zh zl _ HZ.out hBb
          go_loopw [4] (fun pv wi => ∃ m : Nat, q + 8 * j + 4 + m ≤ s.size ∧ pv = .int .i64 ((q : Int) + 8 * (j : Int) + 4 + (m : Int)) ∧ SI w.heap.size b w wi (onesN (gOf s) (q + 8 * j + 4) (step4N (eightsN (gOf s) q (beginN s) j) (numN (gOf s) (q + 8 * j) 4)) m)) (fun pv _ => (s.size - intOf pv).toNat)
          case atStart => exact ⟨0, by omega, by go_num, S8.out⟩
          case round =>
            obtain ⟨m, hm, rfl, hsi⟩ := hrel
            have SM : Hid (SI w.heap.size b w wr (onesN (gOf s) (q + 8 * j + 4) (step4N (eightsN (gOf s) q (beginN s) j) (numN (gOf s) (q + 8 * j) 4)) m)) := hsi
            clear hsi S8
            by_cases hl2 : q + 8 * j + 4 + m < s.size
            · go_wp2_with fail
              refine (word_any s _ 1 _ (by omega) (by omega) (by omega) (by omega) (by omega)).mono ?_
              rintro e v4 ⟨xh, xl, rfl, hX, hb⟩
              have HX : Hid (IsH xh xl (numN (gOf s) (q + 8 * j + 4 + m) 1)) := by
                rw [show numN (gOf s) (q + 8 * j + 4 + m) 1 = numN (gOf s) ((q : Int) + 8 * (j : Int) + 4 + (m : Int)).toNat (Int.toNat 1) by congr 1]
                exact hX
              have S4 : Hid (SI w.heap.size b w v4 (onesN (gOf s) (q + 8 * j + 4) (step4N (eightsN (gOf s) q (beginN s) j) (numN (gOf s) (q + 8 * j) 4)) m)) := SM.out.later hb
              have hb4 : b < v4.heap.size := by obtain ⟨_, _, h, _⟩ := S4.out.h; exact h.lt
              clear hX hb SM
              go_wp2_with fail
              refine (prime_any 5 _ (by omega) (by omega)).mono ?_
              rintro e v5 ⟨yh, yl, rfl, hY, hb⟩
              have HY : Hid (IsH yh yl (primeN 5)) := hY
              have S5 : Hid (SI w.heap.size b w v5 (onesN (gOf s) (q + 8 * j + 4) (step4N (eightsN (gOf s) q (beginN s) j) (numN (gOf s) (q + 8 * j) 4)) m)) := (S4.out.alloc _).later hb
              have X5 : Hid (Half2 v5 v4.heap.size xh xl) := (Half2.new v4 xh xl _ _ rfl).later hb
              obtain ⟨x0, x1, xf⟩ := X5.out
              have xlt : v4.heap.size < v5.heap.size := X5.out.lt
              clear hY hb S4 xf
              go_wp2_with fail
              refine (times_any _ _ _ _ _ _ _ HX.out HY.out).mono ?_
              rintro e v6 ⟨th, tl, rfl, hT, hb⟩
              have HT : Hid (IsH th tl (mulM (numN (gOf s) (q + 8 * j + 4 + m) 1) (primeN 5))) := hT
              have S6 : Hid (SI w.heap.size b w v6 (onesN (gOf s) (q + 8 * j + 4) (step4N (eightsN (gOf s) q (beginN s) j) (numN (gOf s) (q + 8 * j) 4)) m)) := (S5.out.alloc _).later hb
              have X6 : Hid (Half2 v6 v4.heap.size xh xl) := (X5.out.alloc _).later hb
              obtain ⟨y0, y1, yf⟩ := X6.out
              have yf0 := yf 0
              have yf1 := yf 1
              clear hT hb S5 X5 x0 x1 yf
              obtain ⟨ah, al, af, aH⟩ := S6.out.h
              have Ha : Hid (IsH ah al _) := aH
              have alt := af.lt
              obtain ⟨a0, a1, ag⟩ := af
              have ag0 := ag 0
              have ag1 := ag 1
              clear aH ag
              go_wp2_with fail
              refine (rfold_one _ _ _ _ _ _ 11 1 _ Ha.out HT.out (by omega) (by omega) (by omega) (by omega)).mono ?_
              rintro e v7 ⟨zh, zl, rfl, hZ, hb⟩
              have HZ : Hid (IsH zh zl (onesN (gOf s) (q + 8 * j + 4) (step4N (eightsN (gOf s) q (beginN s) j) (numN (gOf s) (q + 8 * j) 4)) (m + 1))) := hZ
              have S7 : Hid (SI w.heap.size b w v7 (onesN (gOf s) (q + 8 * j + 4) (step4N (eightsN (gOf s) q (beginN s) j) (numN (gOf s) (q + 8 * j) 4)) m)) := (S6.out.far v4.heap.size th tl hb4 hBb).later hb
              clear hZ hb S6 X6 y0 y1 yf0 yf1 a0 a1 ag0 ag1 alt Ha
              obtain ⟨ah, al, af, aH⟩ := S7.out.h
              have Ha : Hid (IsH ah al _) := aH
              have alt := af.lt
              obtain ⟨a0, a1, ag⟩ := af
              have ag0 := ag 0
              have ag1 := ag 1
              clear aH ag
              go_wp2
              exact ⟨⟨m + 1, by omega, by go_num, S7.out.put zh zl _ HZ.out hBb⟩, by simp [intOf]; omega⟩
            · have SE : Hid (SI w.heap.size b w wr (restN (gOf s) q (s.size % 32) (beginN s))) := by
                have e := restN_four (gOf s) q (s.size % 32) j m (beginN s) E8.out (by have := HQ.out; omega) (by have := HQ.out; omega) (by have := HQ.out; omega)
                rw [← e]; exact SM.out
              obtain ⟨ah, al, af, aH⟩ := SE.out.h
              have Ha : Hid (IsH ah al _) := aH
              have alt := af.lt
              obtain ⟨a0, a1, ag⟩ := af
              have ag0 := ag 0
              have ag1 := ag 1
              clear aH ag
              clear SM
              go_wp2_with fail
              refine (rlast_any _ _ _ _ Ha.out).mono ?_
              rintro e v9 ⟨zh, zl, rfl, hZ, hb⟩
              have HZ : Hid (IsH zh zl (xsumN s)) := by unfold xsumN; rw [← HQ.out]; exact hZ
              have S9 : Hid (SI w.heap.size b w v9 (restN (gOf s) q (s.size % 32) (beginN s))) := SE.out.later hb
              obtain ⟨r0, r1, rf⟩ := S9.out.res
              have rf0 := rf 0
              have rf1 := rf 1
              clear hZ hb SE rf a0 a1 ag0 ag1 alt Ha
              go_wp2
              have hput := S9.out.res.put zh zl
              exact bodyPost_ret (v := .agg #[.int .i64 zh, .int .i64 zl]) (by simp [results, Try.results30, go_sem, hput.c0, hput.c1]) rfl ⟨zh, zl, rfl, HZ.out, (S9.out.bel.setCell (by dsimp only; omega) _).setCell (by dsimp only; omega) _⟩
        · have hd4 : decide ((q : Int) + 8 * (j : Int) + 4 ≤ (s.size : Int)) = false := by simp; omega
          go_wp2_with fail
          have S8 : Hid (SI w.heap.size b w wr (eightsN (gOf s) q (beginN s) j)) := SJ.out
          go_loopw [4] (fun pv wi => ∃ m : Nat, q + 8 * j + m ≤ s.size ∧ pv = .int .i64 ((q : Int) + 8 * (j : Int) + (m : Int)) ∧ SI w.heap.size b w wi (onesN (gOf s) (q + 8 * j) (eightsN (gOf s) q (beginN s) j) m)) (fun pv _ => (s.size - intOf pv).toNat)
          case atStart => exact ⟨0, by omega, by go_num, S8.out⟩
          case round =>
            obtain ⟨m, hm, rfl, hsi⟩ := hrel
            have SM : Hid (SI w.heap.size b w wr (onesN (gOf s) (q + 8 * j) (eightsN (gOf s) q (beginN s) j) m)) := hsi
            clear hsi S8
            by_cases hl2 : q + 8 * j + m < s.size
            · go_wp2_with fail
              refine (word_any s _ 1 _ (by omega) (by omega) (by omega) (by omega) (by omega)).mono ?_
              rintro e v4 ⟨xh, xl, rfl, hX, hb⟩
              have HX : Hid (IsH xh xl (numN (gOf s) (q + 8 * j + m) 1)) := by
                rw [show numN (gOf s) (q + 8 * j + m) 1 = numN (gOf s) ((q : Int) + 8 * (j : Int) + (m : Int)).toNat (Int.toNat 1) by congr 1]
                exact hX
              have S4 : Hid (SI w.heap.size b w v4 (onesN (gOf s) (q + 8 * j) (eightsN (gOf s) q (beginN s) j) m)) := SM.out.later hb
              have hb4 : b < v4.heap.size := by obtain ⟨_, _, h, _⟩ := S4.out.h; exact h.lt
              clear hX hb SM
              go_wp2_with fail
              refine (prime_any 5 _ (by omega) (by omega)).mono ?_
              rintro e v5 ⟨yh, yl, rfl, hY, hb⟩
              have HY : Hid (IsH yh yl (primeN 5)) := hY
              have S5 : Hid (SI w.heap.size b w v5 (onesN (gOf s) (q + 8 * j) (eightsN (gOf s) q (beginN s) j) m)) := (S4.out.alloc _).later hb
              have X5 : Hid (Half2 v5 v4.heap.size xh xl) := (Half2.new v4 xh xl _ _ rfl).later hb
              obtain ⟨x0, x1, xf⟩ := X5.out
              have xlt : v4.heap.size < v5.heap.size := X5.out.lt
              clear hY hb S4 xf
              go_wp2_with fail
              refine (times_any _ _ _ _ _ _ _ HX.out HY.out).mono ?_
              rintro e v6 ⟨th, tl, rfl, hT, hb⟩
              have HT : Hid (IsH th tl (mulM (numN (gOf s) (q + 8 * j + m) 1) (primeN 5))) := hT
              have S6 : Hid (SI w.heap.size b w v6 (onesN (gOf s) (q + 8 * j) (eightsN (gOf s) q (beginN s) j) m)) := (S5.out.alloc _).later hb
              have X6 : Hid (Half2 v6 v4.heap.size xh xl) := (X5.out.alloc _).later hb
              obtain ⟨y0, y1, yf⟩ := X6.out
              have yf0 := yf 0
              have yf1 := yf 1
              clear hT hb S5 X5 x0 x1 yf
              obtain ⟨ah, al, af, aH⟩ := S6.out.h
              have Ha : Hid (IsH ah al _) := aH
              have alt := af.lt
              obtain ⟨a0, a1, ag⟩ := af
              have ag0 := ag 0
              have ag1 := ag 1
              clear aH ag
              go_wp2_with fail
              refine (rfold_one _ _ _ _ _ _ 11 1 _ Ha.out HT.out (by omega) (by omega) (by omega) (by omega)).mono ?_
              rintro e v7 ⟨zh, zl, rfl, hZ, hb⟩
              have HZ : Hid (IsH zh zl (onesN (gOf s) (q + 8 * j) (eightsN (gOf s) q (beginN s) j) (m + 1))) := hZ
              have S7 : Hid (SI w.heap.size b w v7 (onesN (gOf s) (q + 8 * j) (eightsN (gOf s) q (beginN s) j) m)) := (S6.out.far v4.heap.size th tl hb4 hBb).later hb
              clear hZ hb S6 X6 y0 y1 yf0 yf1 a0 a1 ag0 ag1 alt Ha
              obtain ⟨ah, al, af, aH⟩ := S7.out.h
              have Ha : Hid (IsH ah al _) := aH
              have alt := af.lt
              obtain ⟨a0, a1, ag⟩ := af
              have ag0 := ag 0
              have ag1 := ag 1
              clear aH ag
              go_wp2
              exact ⟨⟨m + 1, by omega, by go_num, S7.out.put zh zl _ HZ.out hBb⟩, by simp [intOf]; omega⟩
            · have SE : Hid (SI w.heap.size b w wr (restN (gOf s) q (s.size % 32) (beginN s))) := by
                have e := restN_none (gOf s) q (s.size % 32) j m (beginN s) E8.out (by have := HQ.out; omega) (by have := HQ.out; omega) (by have := HQ.out; omega)
                rw [← e]; exact SM.out
              obtain ⟨ah, al, af, aH⟩ := SE.out.h
              have Ha : Hid (IsH ah al _) := aH
              have alt := af.lt
              obtain ⟨a0, a1, ag⟩ := af
              have ag0 := ag 0
              have ag1 := ag 1
              clear aH ag
              clear SM
              go_wp2_with fail
              refine (rlast_any _ _ _ _ Ha.out).mono ?_
              rintro e v9 ⟨zh, zl, rfl, hZ, hb⟩
              have HZ : Hid (IsH zh zl (xsumN s)) := by unfold xsumN; rw [← HQ.out]; exact hZ
              have S9 : Hid (SI w.heap.size b w v9 (restN (gOf s) q (s.size % 32) (beginN s))) := SE.out.later hb
              obtain ⟨r0, r1, rf⟩ := S9.out.res
              have rf0 := rf 0
              have rf1 := rf 1
              clear hZ hb SE rf a0 a1 ag0 ag1 alt Ha
              go_wp2
              have hput := S9.out.res.put zh zl
              exact bodyPost_ret (v := .agg #[.int .i64 zh, .int .i64 zl]) (by simp [results, Try.results30, go_sem, hput.c0, hput.c1]) rfl ⟨zh, zl, rfl, HZ.out, (S9.out.bel.setCell (by dsimp only; omega) _).setCell (by dsimp only; omega) _⟩
end Go.Proofs.Ytkfilgfcgmohlaa
namespace Go.Proofs.Ytkfilgfcgmohlaa
/-! The two checksums are one. -/
theorem w_nat (n : Nat) : IntKind.u64.wrap (n : Int) = ((n % 18446744073709551616 : Nat) : Int) := by rw [IntKind.wrap_u64]; omega
theorem w_mul (a b : Nat) : IntKind.u64.wrap ((a : Int) * (b : Int)) = ((mulM a b : Nat) : Int) := by
  rw [show (a : Int) * (b : Int) = ((a * b : Nat) : Int) by push_cast; rfl, w_nat]; rfl
theorem w_add (a b : Nat) : IntKind.u64.wrap ((a : Int) + (b : Int)) = ((addM a b : Nat) : Int) := by
  rw [show (a : Int) + (b : Int) = ((a + b : Nat) : Int) by push_cast; rfl, w_nat]; rfl
theorem mulM_lt (a b : Nat) : mulM a b < 18446744073709551616 := Nat.mod_lt _ (by omega)
theorem addM_lt (a b : Nat) : addM a b < 18446744073709551616 := Nat.mod_lt _ (by omega)
theorem xor_lt (a b : Nat) (ha : a < 18446744073709551616) (hb : b < 18446744073709551616) : a ^^^ b < 18446744073709551616 := Nat.xor_lt_two_pow (n := 64) ha hb
theorem rol_nat (x k : Nat) (hx : x < 18446744073709551616) : Xi.rol (x : Int) k = ((rolN x k : Nat) : Int) := by
  unfold Xi.rol rolN
  have e1 : IntKind.u64.wrap ((x : Int) * 2 ^ k) = ((x * 2 ^ k % 18446744073709551616 : Nat) : Int) := by
    rw [show (x : Int) * 2 ^ k = ((x * 2 ^ k : Nat) : Int) by push_cast; rfl, w_nat]
  have e2 : (x : Int) / 2 ^ (64 - k) = ((x / 2 ^ (64 - k) : Nat) : Int) := by push_cast; rfl
  rw [e1, e2, u64_or_nat _ _ (Nat.mod_lt _ (by omega)) (Nat.lt_of_le_of_lt (Nat.div_le_self _ _) hx)]
theorem p1 : primeN 1 = 11400714785074694791 := rfl
theorem p2 : primeN 2 = 14029467366897019727 := rfl
theorem p3 : primeN 3 = 1609587929392839161 := rfl
theorem p4 : primeN 4 = 9650029242287828579 := rfl
theorem p5 : primeN 5 = 2870177450012600261 := rfl
theorem lapN_lt (v x : Nat) : lapN v x < 18446744073709551616 := mulM_lt _ _
theorem lap_nat (v x : Nat) : Xi.lap (v : Int) (x : Int) = ((lapN v x : Nat) : Int) := by
  unfold Xi.lap lapN
  rw [show (14029467366897019727 : Int) = ((primeN 2 : Nat) : Int) from rfl, show (11400714785074694791 : Int) = ((primeN 1 : Nat) : Int) from rfl, w_mul, w_add, rol_nat _ _ (addM_lt _ _), w_mul]
theorem lap_zero (x : Nat) : Xi.lap 0 (x : Int) = ((lapN 0 x : Nat) : Int) := lap_nat 0 x
theorem xor_nat (a b : Nat) (ha : a < 18446744073709551616) (hb : b < 18446744073709551616) : bits .xor .u64 (a : Int) (b : Int) = ((a ^^^ b : Nat) : Int) := u64_xor_nat a b ha hb
theorem mix_nat (h v : Nat) (hh : h < 18446744073709551616) : Xi.mix (h : Int) (v : Int) = ((addM (mulM (h ^^^ lapN 0 v) (primeN 1)) (primeN 4) : Nat) : Int) := by
  unfold Xi.mix
  rw [lap_zero, xor_nat _ _ hh (lapN_lt _ _), show (11400714785074694791 : Int) = ((primeN 1 : Nat) : Int) from rfl, show (9650029242287828579 : Int) = ((primeN 4 : Nat) : Int) from rfl, w_mul, w_add]
theorem addM_zero (a : Nat) (h : a < 18446744073709551616) : addM 0 a = a := by unfold addM; rw [Nat.zero_add]; exact Nat.mod_eq_of_lt h
theorem joined_nat (L : Nat → Int) (n : Nat → Nat) (hL : ∀ k, k < 4 → L k = (n k : Int)) (hn : ∀ k, k < 4 → n k < 18446744073709551616) : Xi.joined L = ((s4 n 4 : Nat) : Int) := by
  have h0 : Xi.join0 (L 0) (L 1) (L 2) (L 3) = ((s3 n 4 : Nat) : Int) := by
    unfold Xi.join0
    rw [hL 0 (by omega), hL 1 (by omega), hL 2 (by omega), hL 3 (by omega), rol_nat _ _ (hn 0 (by omega)), rol_nat _ _ (hn 1 (by omega)), rol_nat _ _ (hn 2 (by omega)), rol_nat _ _ (hn 3 (by omega)), w_add, w_add, w_add]
    congr 1
    show _ = addM (addM (addM (addM 0 (rolN (n 0) 1)) (rolN (n 1) 7)) (rolN (n 2) 12)) (rolN (n 3) 18)
    rw [addM_zero _ (rolN_lt _ _ (hn 0 (by omega)))]
  have hs : ∀ k, s4 n k < 18446744073709551616 := fun k => by cases k <;> exact addM_lt _ _
  have key : ∀ k, k ≤ 4 → Xi.mixTo L (Xi.join0 (L 0) (L 1) (L 2) (L 3)) k = ((s4 n k : Nat) : Int) := by
    intro k
    induction k with
    | zero => intro _; exact h0
    | succ k ih =>
      intro hk
      simp only [Xi.mixTo]
      rw [ih (by omega), hL k (by omega), mix_nat _ _ (hs k)]
      rfl
  exact key 4 (by omega)
theorem foldN_lt (h x k a : Nat) : foldN h x k a < 18446744073709551616 := mulM_lt _ _
theorem step8_nat (h x : Nat) (hh : h < 18446744073709551616) : Xi.step8 (h : Int) (x : Int) = ((step8N h x : Nat) : Int) := by
  unfold Xi.step8 step8N foldN
  rw [lap_zero, xor_nat _ _ hh (lapN_lt _ _), rol_nat _ _ (xor_lt _ _ hh (lapN_lt _ _)), show (11400714785074694791 : Int) = ((primeN 1 : Nat) : Int) from rfl, show (9650029242287828579 : Int) = ((primeN 4 : Nat) : Int) from rfl, w_mul, w_add]
theorem step4_nat (h x : Nat) (hh : h < 18446744073709551616) : Xi.step4 (h : Int) (x : Int) = ((step4N h x : Nat) : Int) := by
  unfold Xi.step4 step4N foldN
  rw [show (11400714785074694791 : Int) = ((primeN 1 : Nat) : Int) from rfl, w_mul, xor_nat _ _ hh (mulM_lt _ _), rol_nat _ _ (xor_lt _ _ hh (mulM_lt _ _)), show (14029467366897019727 : Int) = ((primeN 2 : Nat) : Int) from rfl, show (1609587929392839161 : Int) = ((primeN 3 : Nat) : Int) from rfl, w_mul, w_add]
theorem step1_nat (h x : Nat) (hh : h < 18446744073709551616) : Xi.step1 (h : Int) (x : Int) = ((step1N h x : Nat) : Int) := by
  unfold Xi.step1 step1N foldN
  rw [show (2870177450012600261 : Int) = ((primeN 5 : Nat) : Int) from rfl, w_mul, xor_nat _ _ hh (mulM_lt _ _), rol_nat _ _ (xor_lt _ _ hh (mulM_lt _ _)), show (11400714785074694791 : Int) = ((primeN 1 : Nat) : Int) from rfl, w_mul]
theorem fin_nat (h : Nat) (hh : h < 18446744073709551616) : Xi.fin (h : Int) = ((lastN h : Nat) : Int) := by
  have d : ∀ (x k : Nat) (c : Int), c = ((2 ^ k : Nat) : Int) → (x : Int) / c = ((x / 2 ^ k : Nat) : Int) := fun x k c hc => by rw [hc]; push_cast; rfl
  have dl : ∀ (x k : Nat), x < 18446744073709551616 → x / 2 ^ k < 18446744073709551616 := fun x k hx => Nat.lt_of_le_of_lt (Nat.div_le_self _ _) hx
  have e1 : Xi.fin1 (h : Int) = ((last1 h : Nat) : Int) := by
    unfold Xi.fin1 last1
    rw [d h 33 8589934592 rfl, xor_nat _ _ hh (dl _ _ hh), show (14029467366897019727 : Int) = ((primeN 2 : Nat) : Int) from rfl, w_mul]
  have l1 : last1 h < 18446744073709551616 := mulM_lt _ _
  have e2 : Xi.fin2 ((last1 h : Nat) : Int) = ((last2 (last1 h) : Nat) : Int) := by
    unfold Xi.fin2 last2
    rw [d (last1 h) 29 536870912 rfl, xor_nat _ _ l1 (dl _ _ l1), show (1609587929392839161 : Int) = ((primeN 3 : Nat) : Int) from rfl, w_mul]
  have l2 : last2 (last1 h) < 18446744073709551616 := mulM_lt _ _
  unfold Xi.fin lastN
  rw [e1, e2, d (last2 (last1 h)) 32 4294967296 rfl, xor_nat _ _ l2 (dl _ _ l2)]
theorem numTo_nat (g : Nat → Nat) (hg : ∀ i, g i < 256) (p n : Nat) (hn : n ≤ 8) : ∀ j, j ≤ n → Xi.numTo (fun i => (g i : Int)) p n j = ((numN g (p + (n - j)) j : Nat) : Int)
  | 0, _ => rfl
  | j + 1, hj => by
    simp only [Xi.numTo]
    rw [numTo_nat g hg p n hn j (by omega)]
    have hb := numN_lt g hg j (p + (n - j))
    have hp : 256 ^ j ≤ 256 ^ 7 := Nat.pow_le_pow_right (by omega) (by omega)
    have hgl := hg (p + (n - 1 - j))
    rw [show ((numN g (p + (n - j)) j : Nat) : Int) * 256 = ((numN g (p + (n - j)) j * 256 : Nat) : Int) from rfl, w_nat, Nat.mod_eq_of_lt (by omega), u64_or_nat _ _ (by omega) (by omega), nat_join 8 _ _ (by omega) (by omega)]
    congr 1
    rw [show p + (n - (j + 1)) = p + (n - 1 - j) by omega]
    simp only [numN]
    rw [show p + (n - 1 - j) + 1 = p + (n - j) by omega]
    omega
theorem num_nat (g : Nat → Nat) (hg : ∀ i, g i < 256) (p n : Nat) (hn : n ≤ 8) : Xi.num (fun i => (g i : Int)) p n = ((numN g p n : Nat) : Int) := by
  have := numTo_nat g hg p n hn n (Nat.le_refl _)
  rw [Nat.sub_self, Nat.add_zero] at this
  exact this
theorem lane0_nat (k : Nat) (hk : k < 4) : Xi.lane0 k = ((lane0N k : Nat) : Int) := by
  match k, hk with
  | 0, _ => decide +kernel
  | 1, _ => decide +kernel
  | 2, _ => decide +kernel
  | 3, _ => decide +kernel
theorem lane_nat (s : ByteArray) (k : Nat) (hk : k < 4) : ∀ m, Xi.lane (fun i => (gOf s i : Int)) k m = ((laneN s m k : Nat) : Int)
  | 0 => by rw [show laneN s 0 k = lane0N k by simp [laneN]]; exact lane0_nat k hk
  | m + 1 => by
    simp only [Xi.lane]
    rw [lane_nat s k hk m, num_nat _ (gOf_lt s) _ _ (by omega), lap_nat]
    rfl
theorem laneN_lt (s : ByteArray) (k : Nat) (hk : k < 4) (m : Nat) : laneN s m k < 18446744073709551616 := by
  cases m with
  | zero =>
    rw [show laneN s 0 k = lane0N k by simp [laneN]]
    match k, hk with
    | 0, _ => exact addM_lt _ _
    | 1, _ => decide +kernel
    | 2, _ => decide +kernel
    | 3, _ => exact mulM_lt _ _
  | succ m => rw [show laneN s (m + 1) k = lapN (laneN s m k) (numN (gOf s) (32 * m + 8 * k) 8) by simp [laneN]]; exact lapN_lt _ _
theorem eightsN_lt (g : Nat → Nat) (p h : Nat) (hh : h < 18446744073709551616) (j : Nat) : eightsN g p h j < 18446744073709551616 := by
  cases j with
  | zero => exact hh
  | succ j => exact addM_lt _ _
theorem onesN_lt (g : Nat → Nat) (p h : Nat) (hh : h < 18446744073709551616) (j : Nat) : onesN g p h j < 18446744073709551616 := by
  cases j with
  | zero => exact hh
  | succ j => exact foldN_lt _ _ _ _
theorem eights_nat (g : Nat → Nat) (hg : ∀ i, g i < 256) (p h : Nat) (hh : h < 18446744073709551616) : ∀ j, Xi.eights (fun i => (g i : Int)) p (h : Int) j = ((eightsN g p h j : Nat) : Int)
  | 0 => rfl
  | j + 1 => by
    simp only [Xi.eights, eightsN]
    rw [eights_nat g hg p h hh j, num_nat g hg _ _ (by omega), step8_nat _ _ (eightsN_lt g p h hh j)]
theorem ones_nat (g : Nat → Nat) (hg : ∀ i, g i < 256) (p h : Nat) (hh : h < 18446744073709551616) : ∀ j, Xi.ones (fun i => (g i : Int)) p (h : Int) j = ((onesN g p h j : Nat) : Int)
  | 0 => rfl
  | j + 1 => by
    simp only [Xi.ones, onesN]
    rw [ones_nat g hg p h hh j, num_nat g hg _ _ (by omega), step1_nat _ _ (onesN_lt g p h hh j)]
theorem rest_nat (g : Nat → Nat) (hg : ∀ i, g i < 256) (p n h : Nat) (hh : h < 18446744073709551616) : Xi.rest (fun i => (g i : Int)) p n (h : Int) = ((restN g p n h : Nat) : Int) := by
  unfold Xi.rest restN
  by_cases c : 8 * (n / 8) + 4 ≤ n
  · rw [if_pos c, if_pos c, eights_nat g hg p h hh, num_nat g hg _ _ (by omega), step4_nat _ _ (eightsN_lt g p h hh _), ones_nat g hg _ _ (show step4N _ _ < _ from addM_lt _ _)]
  · rw [if_neg c, if_neg c, eights_nat g hg p h hh, ones_nat g hg _ _ (eightsN_lt g p h hh _)]
theorem restN_lt (g : Nat → Nat) (p n h : Nat) (hh : h < 18446744073709551616) : restN g p n h < 18446744073709551616 := by
  unfold restN
  split
  · exact onesN_lt _ _ _ (addM_lt _ _) _
  · exact onesN_lt _ _ _ (eightsN_lt _ _ _ hh _) _
theorem sum_nat (s : ByteArray) : Xi.sum s.data.toList = ((xsumN s : Nat) : Int) := by
  have hlen : s.data.toList.length = s.size := by rw [Array.length_toList]; rfl
  have hbt : Xi.byte s.data.toList = fun i => ((gOf s i : Nat) : Int) := rfl
  unfold Xi.sum Xi.xxh xsumN
  rw [hlen, hbt]
  have hh : Xi.head (fun i => ((gOf s i : Nat) : Int)) s.size = (((if 32 ≤ s.size then headN s else primeN 5) : Nat) : Int) := by
    unfold Xi.head
    by_cases c : 32 ≤ s.size
    · rw [if_pos c, if_pos c]
      exact joined_nat _ _ (fun k hk => lane_nat s k hk _) (fun k hk => laneN_lt s k hk _)
    · rw [if_neg c, if_neg c]; rfl
  rw [hh, w_add]
  show Xi.fin (Xi.rest _ _ _ ((beginN s : Nat) : Int)) = _
  have hb : beginN s < 18446744073709551616 := addM_lt _ _
  rw [rest_nat _ (gOf_lt s) _ _ _ hb, fin_nat _ (restN_lt _ _ _ _ hb)]
end Go.Proofs.Ytkfilgfcgmohlaa
namespace Go.Proofs.Ytkfilgfcgmohlaa
open Go.RowKit
theorem gOf_extract (s : ByteArray) (a b i : Nat) (h : a + i < b) (hb : b ≤ s.size) : gOf (s.extract a b) i = gOf s (a + i) := by
  rw [← gOf_at _ _ (by rw [ByteArray.size_extract]; omega), ← gOf_at _ _ (by omega), ByteArray.getElem_extract]
theorem num_step (g : Nat → Nat) (hg : ∀ i, g i < 256) (n j : Nat) (hn : n ≤ 8) (hj : j < n) : bits .or .u64 (IntKind.u64.wrap (((numN g (n - j) j : Nat) : Int) * 256)) ((g (n - 1 - j) : Nat) : Int) = ((numN g (n - (j + 1)) (j + 1) : Nat) : Int) := by
  have h1 := numTo_nat g hg 0 n hn j (by omega)
  have h2 := numTo_nat g hg 0 n hn (j + 1) (by omega)
  rw [Nat.zero_add] at h1 h2
  rw [← h1, ← h2]
  show _ = bits .or .u64 _ _
  rw [Nat.zero_add]
set_option maxHeartbeats 1000000 in
theorem pnum_no (d : Nat) (rest : ByteArray) (n : Int) (w : World) (hc : w.cell? ⟨d, 0, none⟩ = some (.string rest)) (hn : n < 0 ∨ (rest.size : Int) < n) :
    Calls Try.prog 48 #[.pointer (some ⟨d, 0, none⟩), .int .i64 n] w fun x w' => x = .returned (.tuple #[.int .u64 0, .bool false]) ∧ w' = w := by
  go_enter Try.func48, Try.ntmps48
  go_wp2_with fail
  refine (ptake_no d rest n _ hc hn).mono ?_
  rintro x w1 ⟨rfl, hw1⟩
  rw [hw1]
  go_wp2_with fail
  go_ret2
  exact ⟨rfl, rfl⟩
set_option maxHeartbeats 1000000 in
theorem pnum_ok (d : Nat) (rest : ByteArray) (n : Nat) (w : World) (hc : w.cell? ⟨d, 0, none⟩ = some (.string rest)) (hz : w.frozen? ⟨d, 0, none⟩ = false) (hn : n ≤ rest.size) (h8 : n ≤ 8) :
    Calls Try.prog 48 #[.pointer (some ⟨d, 0, none⟩), .int .i64 (n : Int)] w fun x w' => x = .returned (.tuple #[.int .u64 ((numN (gOf rest) 0 n : Nat) : Int), .bool true]) ∧ w' = w.setCell ⟨d, 0, none⟩ (.string (rest.extract n rest.size)) := by
  have hsz : (rest.extract 0 n).size = n := by rw [ByteArray.size_extract]; omega
  have hszI : ((rest.extract 0 n).size : Int) = (n : Int) := by omega
  have hg : ∀ i, i < n → gOf (rest.extract 0 n) i = gOf rest i := by
    intro i hi
    rw [gOf_extract rest 0 n i (by omega) hn, Nat.zero_add]
  obtain ⟨P, hP⟩ : ∃ P, P = rest.extract 0 n := ⟨_, rfl⟩
  have HP : Hid (P = rest.extract 0 n) := hP
  rw [← hP] at hsz hszI hg
  have HG : Hid (∀ i, i < n → gOf P i = gOf rest i) := hg
  go_enter Try.func48, Try.ntmps48
  go_wp2_with fail
  refine (ptake_ok d rest n _ hc hz hn).mono ?_
  rintro x w1 ⟨rfl, hw1⟩
  rw [← hP]
  clear hP
  have HW1 : Hid (w1 = w.setCell ⟨d, 0, none⟩ (.string (rest.extract n rest.size))) := hw1
  clear hw1 hg
  go_wp2_with fail
  go_loop [8, 9] (fun xv iv => ∃ j : Nat, j ≤ n ∧ iv = .int .i64 ((n : Int) - 1 - (j : Int)) ∧ xv = .int .u64 ((numN (gOf rest) (n - j) j : Nat) : Int)) (fun _ iv => (intOf iv + 1).toNat)
  case atStart => exact ⟨0, by omega, by rw [show (n : Int) - 1 - ((0 : Nat) : Int) = (n : Int) - 1 by omega], rfl⟩
  case round =>
    obtain ⟨j, hj, rfl, rfl⟩ := hrel
    by_cases hjn : j = n
    · subst hjn
      have hb : decide ((0 : Int) ≤ (j : Int) - 1 - (j : Int)) = false := decide_eq_false (by omega)
      go_wp2_with fail
      go_ret2
      exact ⟨rfl, HW1.out⟩
    · have hjl : j < n := by omega
      obtain ⟨i, hi⟩ : ∃ i : Nat, i = n - 1 - j := ⟨_, rfl⟩
      have hiI : (n : Int) - 1 - (j : Int) = (i : Int) := by omega
      rw [hiI]
      have hiP : i < P.size := by omega
      have HGE : Hid (gOf P i = gOf rest i) := HG.out i (by omega)
      have hgl := gOf_lt rest i
      have hw8 : IntKind.u64.wrap ((gOf rest i : Nat) : Int) = ((gOf rest i : Nat) : Int) := IntWalk.u64_in _ (by omega)
      have hst := num_step (gOf rest) (gOf_lt rest) n j h8 hjl
      rw [← hi] at hst
      have HST : Hid (bits .or .u64 (IntKind.u64.wrap (((numN (gOf rest) (n - j) j : Nat) : Int) * 256)) ((gOf rest i : Nat) : Int) = ((numN (gOf rest) (n - (j + 1)) (j + 1) : Nat) : Int)) := hst
      have hi0 : (0 : Int) ≤ (i : Int) := by omega
      have hj1 : Hid ((n : Int) - 1 - ((j + 1 : Nat) : Int) = (i : Int) - 1) := by show _ = _; omega
      clear hst hi hiI
      go_wp2_with fail
      go_round
      case rel =>
        refine ⟨j + 1, by omega, ?_, ?_⟩
        · rw [hj1.out]
        · rw [gOf_at P i hiP, HGE.out, hw8, HST.out]
      case measure => simp [intOf]
end Go.Proofs.Ytkfilgfcgmohlaa
namespace Go.Proofs.Ytkfilgfcgmohlaa
open Go.RowKit
theorem and32 : ∀ T : Nat, T < 256 → (bits .and .u64 (T : Int) 32 != 0) = decide (T / 32 % 2 = 1) := by decide +kernel
theorem and4 : ∀ T : Nat, T < 256 → (bits .and .u64 (T : Int) 4 != 0) = decide (T / 4 % 2 = 1) := by decide +kernel
theorem and8 : ∀ T : Nat, T < 256 → (bits .and .u64 (T : Int) 8 != 0) = decide (T / 8 % 2 = 1) := by decide +kernel
theorem and3 : ∀ T : Nat, T < 256 → bits .and .u64 (T : Int) 3 = ((T % 4 : Nat) : Int) := by decide +kernel
/-- how wide a frame's fields are -/
def winW (T : Nat) : Nat := if T / 32 % 2 = 1 then 0 else 1
def dictW (T : Nat) : Nat := [0, 1, 2, 4].getD (T % 4) 0
def sizeW (T : Nat) : Nat := if T / 64 = 0 then (if T / 32 % 2 = 1 then 1 else 0) else [0, 2, 4, 8].getD (T / 64) 0
set_option maxHeartbeats 1000000 in
theorem pWinW (T : Nat) (hT : T < 256) (w : World) : Calls Try.prog 71 #[.int .u64 (T : Int)] w fun x w' => x = .returned (.int .i64 (winW T : Int)) ∧ w' = w := by
  have h32 := and32 T hT
  obtain ⟨sg, hsg⟩ : ∃ sg, sg = decide (T / 32 % 2 = 1) := ⟨_, rfl⟩
  rw [← hsg] at h32
  have HW : Hid (winW T = if sg then 0 else 1) := by show _ = _; rw [hsg]; unfold winW; split <;> simp_all
  clear hsg
  go_enter Try.func71, Try.ntmps71
  cases sg with
  | true =>
    go_wp2_with fail
    go_ret
    exact ⟨by rw [HW.out]; rfl, rfl⟩
  | false =>
    go_wp2_with fail
    go_ret
    exact ⟨by rw [HW.out]; rfl, rfl⟩
set_option maxHeartbeats 1000000 in
theorem pDictW (T : Nat) (hT : T < 256) (w : World) : Calls Try.prog 72 #[.int .u64 (T : Int)] w fun x w' => x = .returned (.int .i64 (dictW T : Int)) ∧ w' = w := by
  have h3 := and3 T hT
  obtain ⟨q, hq⟩ : ∃ q, q = T % 4 := ⟨_, rfl⟩
  rw [← hq] at h3
  have HW : Hid (dictW T = [0, 1, 2, 4].getD q 0) := by show _ = _; rw [hq]; rfl
  have hq4 : q < 4 := by omega
  clear hq
  go_enter Try.func72, Try.ntmps72
  rcases (show q = 0 ∨ q = 1 ∨ q = 2 ∨ q = 3 by omega) with rfl | rfl | rfl | rfl
  all_goals
    go_wp2_with fail
    go_ret
    exact ⟨by rw [HW.out]; rfl, rfl⟩
set_option maxHeartbeats 1000000 in
theorem pSizeW (T : Nat) (hT : T < 256) (w : World) : Calls Try.prog 73 #[.int .u64 (T : Int)] w fun x w' => x = .returned (.int .i64 (sizeW T : Int)) ∧ w' = w := by
  have h32 := and32 T hT
  obtain ⟨sg, hsg⟩ : ∃ sg, sg = decide (T / 32 % 2 = 1) := ⟨_, rfl⟩
  rw [← hsg] at h32
  obtain ⟨q, hq⟩ : ∃ q, q = T / 64 := ⟨_, rfl⟩
  have hqI : (T : Int) / 64 = (q : Int) := by omega
  have HW : Hid (sizeW T = if q = 0 then (if sg then 1 else 0) else [0, 2, 4, 8].getD q 0) := by
    show _ = _
    unfold sizeW
    rw [← hq, hsg]
    by_cases h : T / 32 % 2 = 1 <;> simp [h]
  have hq4 : q < 4 := by omega
  clear hq hsg
  go_enter Try.func73, Try.ntmps73
  rcases (show q = 0 ∨ q = 1 ∨ q = 2 ∨ q = 3 by omega) with rfl | rfl | rfl | rfl
  · cases sg with
    | true =>
      go_wp2_with fail
      go_ret
      exact ⟨by rw [HW.out]; rfl, rfl⟩
    | false =>
      go_wp2_with fail
      go_ret
      exact ⟨by rw [HW.out]; rfl, rfl⟩
  all_goals
    go_wp2_with fail
    go_ret
    exact ⟨by rw [HW.out]; rfl, rfl⟩
def mostP (W : Nat) : Nat := if W < 131072 then W else 131072
set_option maxRecDepth 100000 in
set_option maxHeartbeats 1000000 in
/-- no block of the frame is greater -/
theorem pMost (d : Nat) (W : Nat) (w : World) (hc : w.cell? ⟨d, 0, none⟩ = some (.int .u64 (W : Int))) :
    Calls Try.prog 63 #[.pointer (some ⟨d, 0, none⟩)] w fun x w' => x = .returned (.int .i64 (mostP W : Int)) ∧ w' = w := by
  by_cases h : W < 131072
  · have hd : decide ((W : Int) < 131072) = true := decide_eq_true (by omega)
    have hw : IntKind.i64.wrap (W : Int) = (W : Int) := i64_id _ (by omega) (by omega)
    have HI : Hid (mostP W = W) := by show _ = _; unfold mostP; rw [if_pos h]
    go_enter Try.func63, Try.ntmps63
    go_wp2_with fail
    go_ret
    exact ⟨by rw [HI.out]; rfl, rfl⟩
  · have hd : decide ((W : Int) < 131072) = false := decide_eq_false (by omega)
    have HI : Hid (mostP W = 131072) := by show _ = _; unfold mostP; rw [if_neg h]
    go_enter Try.func63, Try.ntmps63
    go_wp2_with fail
    go_ret
    exact ⟨by rw [HI.out]; rfl, rfl⟩
end Go.Proofs.Ytkfilgfcgmohlaa
namespace Go.Proofs.Ytkfilgfcgmohlaa
open Go.RowKit
/-- the window that a byte tells -/
def winOf (w : Nat) : Nat := 2 ^ (10 + w / 8) + 2 ^ (10 + w / 8) / 8 * (w % 8)
def wideN (b : Nat) : Nat := 1024 * 2 ^ (b / 8) + 1024 * 2 ^ (b / 8) / 8 * (b % 8)
set_option maxHeartbeats 1000000 in
theorem pWinOf (v : Nat) (hv : v < 256) (w : World) : Calls Try.prog 91 #[.int .u64 (v : Int)] w fun x w' => x = .returned (.int .u64 (winOf v : Int)) ∧ w' = w := by
  obtain ⟨q, hq⟩ : ∃ q, q = v / 8 := ⟨_, rfl⟩
  obtain ⟨m, hm⟩ : ∃ m, m = v % 8 := ⟨_, rfl⟩
  have hqI : (v : Int) / 8 = (q : Int) := by omega
  have hmI : (v : Int) % 8 = (m : Int) := by omega
  have HW : Hid (winOf v = 2 ^ (10 + q) + 2 ^ (10 + q) / 8 * m) := by show _ = _; unfold winOf; rw [hq, hm]
  have hq32 : q < 32 := by omega
  have hm8 : m < 8 := by omega
  clear hq hm
  obtain ⟨P, hP⟩ : ∃ P, P = 2 ^ (10 + q) := ⟨_, rfl⟩
  have hPb : P ≤ 2 ^ 41 := by rw [hP]; exact Nat.pow_le_pow_right (by omega) (by omega)
  have hw1 : IntKind.u64.wrap ((2 : Int) ^ (10 + q)) = (P : Int) := by
    rw [show (2 : Int) ^ (10 + q) = ((2 ^ (10 + q) : Nat) : Int) by norm_cast, ← hP]
    exact IntWalk.u64_in _ (by omega)
  obtain ⟨P8, hP8⟩ : ∃ P8, P8 = P / 8 := ⟨_, rfl⟩
  have ht : Int.tdiv (P : Int) 8 = (P8 : Int) := by rw [Int.tdiv_eq_ediv_of_nonneg (by omega)]; omega
  have hte : (P : Int) / 8 = (P8 : Int) := by omega
  have hw2 : IntKind.u64.wrap (P8 : Int) = (P8 : Int) := IntWalk.u64_in _ (by omega)
  have hPm : P8 * m ≤ 2 ^ 41 := Nat.le_trans (Nat.mul_le_mul_left P8 (show m ≤ 8 by omega)) (by omega)
  have hw3 : IntKind.u64.wrap ((P8 : Int) * (m : Int)) = ((P8 * m : Nat) : Int) := by
    rw [show (P8 : Int) * (m : Int) = ((P8 * m : Nat) : Int) by norm_cast]
    exact IntWalk.u64_in _ (by omega)
  obtain ⟨PM, hPM⟩ : ∃ PM, PM = P8 * m := ⟨_, rfl⟩
  rw [← hPM] at hw3 hPm
  have hw4 : IntKind.u64.wrap ((P : Int) + (PM : Int)) = (winOf v : Int) := by
    rw [HW.out, ← hP, ← hP8, ← hPM, show (P : Int) + (PM : Int) = ((P + PM : Nat) : Int) by omega]
    exact IntWalk.u64_in _ (by omega)
  clear hP hP8 hPM
  go_enter Try.func91, Try.ntmps91
  go_wp2_with fail
  go_ret
  exact ⟨rfl, rfl⟩
theorem winOf_wide (v : Nat) : winOf v = wideN v := by
  unfold winOf wideN
  rw [Nat.pow_add, show (2 : Nat) ^ 10 = 1024 from rfl]
end Go.Proofs.Ytkfilgfcgmohlaa
