import Derived.Test.YtipdjbkkpjlamaaGreatRH
import Derived.WalkKit
import Derived.WalkSpells
import Derived.WalkLawsBesides
import Derived.Deep.DeepCutAuto
namespace Go.Proofs.YtipdjbkkpjlamaaGreat
open Go.RowKit
/-- what 'Sum' holds in memory: h, the result's place -/
structure SI (B b : Nat) (w wr : World) (v : Nat) : Prop where
  h : ∃ hh hl, Half2 wr b hh hl ∧ IsH hh hl v
  res : Half2 wr B 0 0
  bel : Below B w wr
theorem SI.later {B b : Nat} {w wr w1 : World} {v : Nat} (k : SI B b w wr v) (hb : Below wr.heap.size wr w1) : SI B b w w1 v := by
  obtain ⟨hh, hl, h, hH⟩ := k.h
  exact ⟨⟨hh, hl, h.later hb, hH⟩, k.res.later hb, k.bel.trans (hb.mono (Nat.le_of_lt k.res.lt))⟩
theorem SI.alloc {B b : Nat} {w wr : World} {v : Nat} (k : SI B b w wr v) (o : Obj) : SI B b w (wr.alloc o) v := by
  obtain ⟨hh, hl, h, hH⟩ := k.h
  exact ⟨⟨hh, hl, h.alloc o, hH⟩, k.res.alloc o, k.bel.alloc (Nat.le_of_lt k.res.lt) o⟩
theorem SI.put {B b : Nat} {w wr : World} {v : Nat} (k : SI B b w wr v) (h l : Int) (m : Nat) (hH : IsH h l m) (hB : B < b) : SI B b w ((wr.setCell ⟨b, 0, none⟩ (.int .i64 h)).setCell ⟨b, 1, none⟩ (.int .i64 l)) m := by
  obtain ⟨hh, hl, h0, _⟩ := k.h
  exact ⟨⟨h, l, h0.put h l, hH⟩, (k.res.other _ _ _ (by omega)).other _ _ _ (by omega), (k.bel.setCell (by dsimp only; omega) _).setCell (by dsimp only; omega) _⟩
theorem SI.far {B b : Nat} {w wr : World} {v : Nat} (k : SI B b w wr v) (c : Nat) (h l : Int) (hc : b < c) (hB : B < b) : SI B b w ((wr.setCell ⟨c, 0, none⟩ (.int .i64 h)).setCell ⟨c, 1, none⟩ (.int .i64 l)) v := by
  obtain ⟨hh, hl, h0, hH⟩ := k.h
  exact ⟨⟨hh, hl, (h0.other _ _ _ (by omega)).other _ _ _ (by omega), hH⟩, (k.res.other _ _ _ (by omega)).other _ _ _ (by omega), (k.bel.setCell (by dsimp only; omega) _).setCell (by dsimp only; omega) _⟩
def step8N (h x : Nat) : Nat := addM (foldN h (lapN 0 x) 27 1) (primeN 4)
def step4N (h x : Nat) : Nat := addM (foldN h (mulM x (primeN 1)) 23 2) (primeN 3)
def step1N (h x : Nat) : Nat := foldN h (mulM x (primeN 5)) 11 1
def eightsN (g : Nat → Nat) (p h : Nat) : Nat → Nat
  | 0 => h
  | j + 1 => step8N (eightsN g p h j) (numN g (p + 8 * j) 8)
def onesN (g : Nat → Nat) (p h : Nat) : Nat → Nat
  | 0 => h
  | j + 1 => step1N (onesN g p h j) (numN g (p + j) 1)
def restN (g : Nat → Nat) (p n h : Nat) : Nat :=
  if 8 * (n / 8) + 4 ≤ n then onesN g (p + 8 * (n / 8) + 4) (step4N (eightsN g p h (n / 8)) (numN g (p + 8 * (n / 8)) 4)) (n - 8 * (n / 8) - 4)
  else onesN g (p + 8 * (n / 8)) (eightsN g p h (n / 8)) (n - 8 * (n / 8))
def beginN (s : ByteArray) : Nat := addM (if 32 ≤ s.size then headN s else primeN 5) s.size
def xsumN (s : ByteArray) : Nat := lastN (restN (gOf s) (32 * (s.size / 32)) (s.size % 32) (beginN s))
theorem restN_four (g : Nat → Nat) (p n j m h : Nat) (e : j = n / 8) (h4 : 8 * j + 4 ≤ n) (hm : ¬ 8 * j + 4 + m < n) (hm' : 8 * j + 4 + m ≤ n) :
    onesN g (p + 8 * j + 4) (step4N (eightsN g p h j) (numN g (p + 8 * j) 4)) m = restN g p n h := by
  unfold restN
  subst e
  rw [if_pos h4, show n - 8 * (n / 8) - 4 = m by omega]
theorem restN_none (g : Nat → Nat) (p n j m h : Nat) (e : j = n / 8) (h4 : ¬ 8 * j + 4 ≤ n) (hm : ¬ 8 * j + m < n) (hm' : 8 * j + m ≤ n) :
    onesN g (p + 8 * j) (eightsN g p h j) m = restN g p n h := by
  unfold restN
  subst e
  rw [if_neg h4, show n - 8 * (n / 8) = m by omega]
theorem isH_len (n : Nat) (h : n ≤ 1099511627776) (h0 : (n : Int) < 4294967296) : IsH 0 (n : Int) n := ⟨by omega, by omega, by omega⟩
set_option maxRecDepth 100000 in
set_option maxHeartbeats 4000000 in
theorem rsum_any (s : ByteArray) (w : World) (hs : s.size ≤ 4294967295) :
    Calls Tryz.prog 31 #[.string s] w fun e w' =>
      ∃ rh rl, e = .returned (.agg #[.int .i64 rh, .int .i64 rl]) ∧ IsH rh rl (xsumN s) ∧ Below w.heap.size w w' := by
  have HSZ : Hid (s.size ≤ 4294967295) := hs
  go_enter Tryz.func31, Tryz.ntmps31
  go_wp2_with fail
  refine (prime_any 5 _ (by omega) (by omega)).mono ?_
  rintro e w1 ⟨ph, pl, rfl, hP, hb⟩
  have HP : Hid (IsH ph pl (primeN 5)) := hP
  have R1 : Hid (Half2 w1 w.heap.size 0 0) := (Half2.new w 0 0 _ _ rfl).later hb
  have B1 : Hid (Below w.heap.size w w1) := ((Below.refl _ _).alloc (Nat.le_refl _) _).trans (hb.mono (by simp))
  have hBb : w.heap.size < w1.heap.size := R1.out.lt
  clear hP hb
  have S1 : Hid (SI w.heap.size w1.heap.size w (w1.alloc (.cells #[.int .i64 ph, .int .i64 pl] 78)) (primeN 5)) := ⟨⟨ph, pl, Half2.new w1 ph pl _ _ rfl, HP.out⟩, R1.out.alloc _, B1.out.alloc (by omega) _⟩
  obtain ⟨b, hbb⟩ : ∃ b, b = w1.heap.size := ⟨_, rfl⟩
  rw [← hbb] at S1 hBb
  go_upto_if 13 with fail
  rw [← hbb]
  clear R1 B1
  go_cut [] (fun wc => SI w.heap.size b w wc (if 32 ≤ s.size then headN s else primeN 5))
  case first =>
    by_cases h32 : 32 ≤ s.size
    · obtain ⟨W1, hW1⟩ : ∃ W1, W1 = (w1.alloc (.cells #[.int .i64 ph, .int .i64 pl] 78)) := ⟨_, rfl⟩
      rw [← hW1] at S1 ⊢
      clear hW1 hbb
      go_wp2_with fail
      refine (rlanes_any s _ (by omega)).mono ?_
      rintro e w2 ⟨lh, ll, rfl, hL, hb⟩
      have HL : Hid (IsH lh ll (headN s)) := hL
      have S2 : Hid (SI w.heap.size b w w2 (primeN 5)) := S1.out.later hb
      obtain ⟨ah, al, af, aH⟩ := S2.out.h
      have Ha : Hid (IsH ah al _) := aH
      have alt := af.lt
      obtain ⟨a0, a1, ag⟩ := af
      have ag0 := ag 0
      have ag1 := ag 1
      clear aH ag
      clear hL hb S1
      go_wp2_with fail
      go_meet
      rw [if_pos h32]
      exact S2.out.put lh ll _ HL.out hBb
    · go_wp2_with fail
      go_meet
      rw [if_neg h32]
      exact S1.out
  case rest =>
    have SC : Hid (SI w.heap.size b w wc (if 32 ≤ s.size then headN s else primeN 5)) := hcut
    clear hcut S1 hbb
    obtain ⟨ah, al, af, aH⟩ := SC.out.h
    have Ha : Hid (IsH ah al _) := aH
    have alt := af.lt
    obtain ⟨a0, a1, ag⟩ := af
    have ag0 := ag 0
    have ag1 := ag 1
    clear aH ag
    go_wp2_with fail
    refine (plus_any _ _ _ _ _ s.size _ Ha.out (isH_len s.size (by omega) (by omega))).mono ?_
    rintro e w2 ⟨ch, cl, rfl, hC, hb⟩
    have HC : Hid (IsH ch cl (beginN s)) := hC
    have S2 : Hid (SI w.heap.size b w w2 (if 32 ≤ s.size then headN s else primeN 5)) := SC.out.later hb
    clear hC hb SC a0 a1 ag0 ag1 alt Ha
    obtain ⟨ah, al, af, aH⟩ := S2.out.h
    have Ha : Hid (IsH ah al _) := aH
    have alt := af.lt
    obtain ⟨a0, a1, ag⟩ := af
    have ag0 := ag 0
    have ag1 := ag 1
    clear aH ag
    go_wp2_with fail
    have S3 : Hid (SI w.heap.size b w ((w2.setCell ⟨b, 0, none⟩ (.int .i64 ch)).setCell ⟨b, 1, none⟩ (.int .i64 cl)) (beginN s)) := S2.out.put ch cl _ HC.out hBb
    obtain ⟨W3, hW3⟩ : ∃ W3, W3 = ((w2.setCell ⟨b, 0, none⟩ (.int .i64 ch)).setCell ⟨b, 1, none⟩ (.int .i64 cl)) := ⟨_, rfl⟩
    rw [← hW3] at S3 ⊢
    clear hW3 S2 a0 a1 ag0 ag1 alt Ha HP
    obtain ⟨q, hq⟩ : ∃ q, q = 32 * (s.size / 32) := ⟨_, rfl⟩
    have HQ : Hid (q = 32 * (s.size / 32)) := hq
    have hq1 : q ≤ s.size := by omega
    clear hq
    go_loopw [4] (fun pv wr => ∃ j : Nat, q + 8 * j ≤ s.size ∧ pv = .int .i64 ((q : Int) + 8 * (j : Int)) ∧ SI w.heap.size b w wr (eightsN (gOf s) q (beginN s) j)) (fun pv _ => (s.size - intOf pv).toNat)
    case atStart => exact ⟨0, by omega, by have := HQ.out; go_num, S3.out⟩
    case round =>
      obtain ⟨j, hj, rfl, hsi⟩ := hrel
      have SJ : Hid (SI w.heap.size b w wr (eightsN (gOf s) q (beginN s) j)) := hsi
      clear hsi
      by_cases hlt : q + 8 * j + 8 ≤ s.size
      · go_wp2_with fail
        refine (word_any s _ 8 _ (by omega) (by omega) (by omega) (by omega) (by omega)).mono ?_
        rintro e w4 ⟨xh, xl, rfl, hX, hb⟩
        have HX : Hid (IsH xh xl (numN (gOf s) (q + 8 * j) 8)) := by
          rw [show numN (gOf s) (q + 8 * j) 8 = numN (gOf s) ((q : Int) + 8 * (j : Int)).toNat (Int.toNat 8) by congr 1]
          exact hX
        have S4 : Hid (SI w.heap.size b w w4 (eightsN (gOf s) q (beginN s) j)) := SJ.out.later hb
        have hb4 : b < w4.heap.size := by obtain ⟨_, _, h, _⟩ := S4.out.h; exact h.lt
        clear hX hb SJ
        go_wp2_with fail
        refine (rlap_any _ _ _ _ 0 _ _ ⟨rfl, rfl, by omega⟩ HX.out).mono ?_
        rintro e w5 ⟨yh, yl, rfl, hY, hb⟩
        have HY : Hid (IsH yh yl (lapN 0 (numN (gOf s) (q + 8 * j) 8))) := hY
        have S5 : Hid (SI w.heap.size b w w5 (eightsN (gOf s) q (beginN s) j)) := (S4.out.alloc _).later hb
        have X5 : Hid (Half2 w5 w4.heap.size xh xl) := (Half2.new w4 xh xl _ _ rfl).later hb
        obtain ⟨x0, x1, xf⟩ := X5.out
        have xf0 := xf 0
        have xf1 := xf 1
        have xlt := X5.out.lt
        clear hY hb S4 xf
        obtain ⟨ah, al, af, aH⟩ := S5.out.h
        have Ha : Hid (IsH ah al _) := aH
        have alt := af.lt
        obtain ⟨a0, a1, ag⟩ := af
        have ag0 := ag 0
        have ag1 := ag 1
        clear aH ag
        go_wp2_with fail
        refine (rfold_two _ _ _ _ _ _ 27 1 4 _ Ha.out HY.out (by omega) (by omega) (by omega) (by omega) (by omega) (by omega)).mono ?_
        rintro e w6 ⟨zh, zl, rfl, hZ, hb⟩
        have HZ : Hid (IsH zh zl (eightsN (gOf s) q (beginN s) (j + 1))) := hZ
        have S6 : Hid (SI w.heap.size b w w6 (eightsN (gOf s) q (beginN s) j)) := (S5.out.far w4.heap.size yh yl hb4 hBb).later hb
        clear hZ hb S5 X5 x0 x1 xf0 xf1 xlt a0 a1 ag0 ag1 alt Ha
        obtain ⟨ah, al, af, aH⟩ := S6.out.h
        have Ha : Hid (IsH ah al _) := aH
        have alt := af.lt
        obtain ⟨a0, a1, ag⟩ := af
        have ag0 := ag 0
        have ag1 := ag 1
        clear aH ag
        go_wp2
        exact ⟨⟨j + 1, by omega, by go_num, S6.out.put zh zl _ HZ.out hBb⟩, by simp [intOf]; omega⟩
      · have hd : decide ((q : Int) + 8 * (j : Int) + 8 ≤ (s.size : Int)) = false := by simp; omega
        have E8 : Hid (j = s.size % 32 / 8) := by have := HQ.out; show j = s.size % 32 / 8; omega
        by_cases h4 : q + 8 * j + 4 ≤ s.size
        · have hd4 : decide ((q : Int) + 8 * (j : Int) + 4 ≤ (s.size : Int)) = true := by simp; omega
          go_wp2_with fail
          refine (word_any s _ 4 _ (by omega) (by omega) (by omega) (by omega) (by omega)).mono ?_
          rintro e w4 ⟨xh, xl, rfl, hX, hb⟩
          have HX : Hid (IsH xh xl (numN (gOf s) (q + 8 * j) 4)) := by
            rw [show numN (gOf s) (q + 8 * j) 4 = numN (gOf s) ((q : Int) + 8 * (j : Int)).toNat (Int.toNat 4) by congr 1]
            exact hX
          have S4 : Hid (SI w.heap.size b w w4 (eightsN (gOf s) q (beginN s) j)) := SJ.out.later hb
          have hb4 : b < w4.heap.size := by obtain ⟨_, _, h, _⟩ := S4.out.h; exact h.lt
          clear hX hb SJ
          go_wp2_with fail
          refine (prime_any 1 _ (by omega) (by omega)).mono ?_
          rintro e w5 ⟨yh, yl, rfl, hY, hb⟩
          have HY : Hid (IsH yh yl (primeN 1)) := hY
          have S5 : Hid (SI w.heap.size b w w5 (eightsN (gOf s) q (beginN s) j)) := (S4.out.alloc _).later hb
          have X5 : Hid (Half2 w5 w4.heap.size xh xl) := (Half2.new w4 xh xl _ _ rfl).later hb
          obtain ⟨x0, x1, xf⟩ := X5.out
          have xlt : w4.heap.size < w5.heap.size := X5.out.lt
          clear hY hb S4 xf
          go_wp2_with fail
          refine (times_any _ _ _ _ _ _ _ HX.out HY.out).mono ?_
          rintro e w6 ⟨th, tl, rfl, hT, hb⟩
          have HT : Hid (IsH th tl (mulM (numN (gOf s) (q + 8 * j) 4) (primeN 1))) := hT
          have S6 : Hid (SI w.heap.size b w w6 (eightsN (gOf s) q (beginN s) j)) := (S5.out.alloc _).later hb
          have X6 : Hid (Half2 w6 w4.heap.size xh xl) := (X5.out.alloc _).later hb
          obtain ⟨y0, y1, yf⟩ := X6.out
          have yf0 := yf 0
          have yf1 := yf 1
          clear hT hb S5 X5 x0 x1 yf
          obtain ⟨ah, al, af, aH⟩ := S6.out.h
          have Ha : Hid (IsH ah al _) := aH
          have alt := af.lt
          obtain ⟨a0, a1, ag⟩ := af
          have ag0 := ag 0
          have ag1 := ag 1
          clear aH ag
          go_wp2_with fail
          refine (rfold_two _ _ _ _ _ _ 23 2 3 _ Ha.out HT.out (by omega) (by omega) (by omega) (by omega) (by omega) (by omega)).mono ?_
          rintro e w7 ⟨zh, zl, rfl, hZ, hb⟩
          have HZ : Hid (IsH zh zl (step4N (eightsN (gOf s) q (beginN s) j) (numN (gOf s) (q + 8 * j) 4))) := hZ
          have S7 : Hid (SI w.heap.size b w w7 (eightsN (gOf s) q (beginN s) j)) := (S6.out.far w4.heap.size th tl hb4 hBb).later hb
          clear hZ hb S6 X6 y0 y1 yf0 yf1 a0 a1 ag0 ag1 alt Ha
          obtain ⟨ah, al, af, aH⟩ := S7.out.h
          have Ha : Hid (IsH ah al _) := aH
          have alt := af.lt
          obtain ⟨a0, a1, ag⟩ := af
          have ag0 := ag 0
          have ag1 := ag 1
          clear aH ag
          go_wp2_with fail
          have S8 : Hid (SI w.heap.size b w _ (step4N (eightsN (gOf s) q (beginN s) j) (numN (gOf s) (q + 8 * j) 4))) := S7.out.put zh zl _ HZ.out hBb
          go_loopw [4] (fun pv wi => ∃ m : Nat, q + 8 * j + 4 + m ≤ s.size ∧ pv = .int .i64 ((q : Int) + 8 * (j : Int) + 4 + (m : Int)) ∧ SI w.heap.size b w wi (onesN (gOf s) (q + 8 * j + 4) (step4N (eightsN (gOf s) q (beginN s) j) (numN (gOf s) (q + 8 * j) 4)) m)) (fun pv _ => (s.size - intOf pv).toNat)
          case atStart => exact ⟨0, by omega, by go_num, S8.out⟩
          case round =>
            obtain ⟨m, hm, rfl, hsi⟩ := hrel
            have SM : Hid (SI w.heap.size b w wr (onesN (gOf s) (q + 8 * j + 4) (step4N (eightsN (gOf s) q (beginN s) j) (numN (gOf s) (q + 8 * j) 4)) m)) := hsi
            clear hsi S8
            by_cases hl2 : q + 8 * j + 4 + m < s.size
            · go_wp2_with fail
              refine (word_any s _ 1 _ (by omega) (by omega) (by omega) (by omega) (by omega)).mono ?_
              rintro e v4 ⟨xh, xl, rfl, hX, hb⟩
              have HX : Hid (IsH xh xl (numN (gOf s) (q + 8 * j + 4 + m) 1)) := by
                rw [show numN (gOf s) (q + 8 * j + 4 + m) 1 = numN (gOf s) ((q : Int) + 8 * (j : Int) + 4 + (m : Int)).toNat (Int.toNat 1) by congr 1]
                exact hX
              have S4 : Hid (SI w.heap.size b w v4 (onesN (gOf s) (q + 8 * j + 4) (step4N (eightsN (gOf s) q (beginN s) j) (numN (gOf s) (q + 8 * j) 4)) m)) := SM.out.later hb
              have hb4 : b < v4.heap.size := by obtain ⟨_, _, h, _⟩ := S4.out.h; exact h.lt
              clear hX hb SM
              go_wp2_with fail
              refine (prime_any 5 _ (by omega) (by omega)).mono ?_
              rintro e v5 ⟨yh, yl, rfl, hY, hb⟩
              have HY : Hid (IsH yh yl (primeN 5)) := hY
              have S5 : Hid (SI w.heap.size b w v5 (onesN (gOf s) (q + 8 * j + 4) (step4N (eightsN (gOf s) q (beginN s) j) (numN (gOf s) (q + 8 * j) 4)) m)) := (S4.out.alloc _).later hb
              have X5 : Hid (Half2 v5 v4.heap.size xh xl) := (Half2.new v4 xh xl _ _ rfl).later hb
              obtain ⟨x0, x1, xf⟩ := X5.out
              have xlt : v4.heap.size < v5.heap.size := X5.out.lt
              clear hY hb S4 xf
              go_wp2_with fail
              refine (times_any _ _ _ _ _ _ _ HX.out HY.out).mono ?_
              rintro e v6 ⟨th, tl, rfl, hT, hb⟩
              have HT : Hid (IsH th tl (mulM (numN (gOf s) (q + 8 * j + 4 + m) 1) (primeN 5))) := hT
              have S6 : Hid (SI w.heap.size b w v6 (onesN (gOf s) (q + 8 * j + 4) (step4N (eightsN (gOf s) q (beginN s) j) (numN (gOf s) (q + 8 * j) 4)) m)) := (S5.out.alloc _).later hb
              have X6 : Hid (Half2 v6 v4.heap.size xh xl) := (X5.out.alloc _).later hb
              obtain ⟨y0, y1, yf⟩ := X6.out
              have yf0 := yf 0
              have yf1 := yf 1
              clear hT hb S5 X5 x0 x1 yf
              obtain ⟨ah, al, af, aH⟩ := S6.out.h
              have Ha : Hid (IsH ah al _) := aH
              have alt := af.lt
              obtain ⟨a0, a1, ag⟩ := af
              have ag0 := ag 0
              have ag1 := ag 1
              clear aH ag
              go_wp2_with fail
              refine (rfold_one _ _ _ _ _ _ 11 1 _ Ha.out HT.out (by omega) (by omega) (by omega) (by omega)).mono ?_
              rintro e v7 ⟨zh, zl, rfl, hZ, hb⟩
              have HZ : Hid (IsH zh zl (onesN (gOf s) (q + 8 * j + 4) (step4N (eightsN (gOf s) q (beginN s) j) (numN (gOf s) (q + 8 * j) 4)) (m + 1))) := hZ
              have S7 : Hid (SI w.heap.size b w v7 (onesN (gOf s) (q + 8 * j + 4) (step4N (eightsN (gOf s) q (beginN s) j) (numN (gOf s) (q + 8 * j) 4)) m)) := (S6.out.far v4.heap.size th tl hb4 hBb).later hb
              clear hZ hb S6 X6 y0 y1 yf0 yf1 a0 a1 ag0 ag1 alt Ha
              obtain ⟨ah, al, af, aH⟩ := S7.out.h
              have Ha : Hid (IsH ah al _) := aH
              have alt := af.lt
              obtain ⟨a0, a1, ag⟩ := af
              have ag0 := ag 0
              have ag1 := ag 1
              clear aH ag
              go_wp2
              exact ⟨⟨m + 1, by omega, by go_num, S7.out.put zh zl _ HZ.out hBb⟩, by simp [intOf]; omega⟩
            · have SE : Hid (SI w.heap.size b w wr (restN (gOf s) q (s.size % 32) (beginN s))) := by
                have e := restN_four (gOf s) q (s.size % 32) j m (beginN s) E8.out (by have := HQ.out; omega) (by have := HQ.out; omega) (by have := HQ.out; omega)
                rw [← e]; exact SM.out
              obtain ⟨ah, al, af, aH⟩ := SE.out.h
              have Ha : Hid (IsH ah al _) := aH
              have alt := af.lt
              obtain ⟨a0, a1, ag⟩ := af
              have ag0 := ag 0
              have ag1 := ag 1
              clear aH ag
              clear SM
              go_wp2_with fail
              refine (rlast_any _ _ _ _ Ha.out).mono ?_
              rintro e v9 ⟨zh, zl, rfl, hZ, hb⟩
              have HZ : Hid (IsH zh zl (xsumN s)) := by unfold xsumN; rw [← HQ.out]; exact hZ
              have S9 : Hid (SI w.heap.size b w v9 (restN (gOf s) q (s.size % 32) (beginN s))) := SE.out.later hb
              obtain ⟨r0, r1, rf⟩ := S9.out.res
              have rf0 := rf 0
              have rf1 := rf 1
              clear hZ hb SE rf a0 a1 ag0 ag1 alt Ha
              go_wp2
              have hput := S9.out.res.put zh zl
              exact bodyPost_ret (v := .agg #[.int .i64 zh, .int .i64 zl]) (by simp [results, Tryz.results31, go_sem, hput.c0, hput.c1]) rfl ⟨zh, zl, rfl, HZ.out, (S9.out.bel.setCell (by dsimp only; omega) _).setCell (by dsimp only; omega) _⟩
        · have hd4 : decide ((q : Int) + 8 * (j : Int) + 4 ≤ (s.size : Int)) = false := by simp; omega
          go_wp2_with fail
          have S8 : Hid (SI w.heap.size b w wr (eightsN (gOf s) q (beginN s) j)) := SJ.out
          go_loopw [4] (fun pv wi => ∃ m : Nat, q + 8 * j + m ≤ s.size ∧ pv = .int .i64 ((q : Int) + 8 * (j : Int) + (m : Int)) ∧ SI w.heap.size b w wi (onesN (gOf s) (q + 8 * j) (eightsN (gOf s) q (beginN s) j) m)) (fun pv _ => (s.size - intOf pv).toNat)
          case atStart => exact ⟨0, by omega, by go_num, S8.out⟩
          case round =>
            obtain ⟨m, hm, rfl, hsi⟩ := hrel
            have SM : Hid (SI w.heap.size b w wr (onesN (gOf s) (q + 8 * j) (eightsN (gOf s) q (beginN s) j) m)) := hsi
            clear hsi S8
            by_cases hl2 : q + 8 * j + m < s.size
            · go_wp2_with fail
              refine (word_any s _ 1 _ (by omega) (by omega) (by omega) (by omega) (by omega)).mono ?_
              rintro e v4 ⟨xh, xl, rfl, hX, hb⟩
              have HX : Hid (IsH xh xl (numN (gOf s) (q + 8 * j + m) 1)) := by
                rw [show numN (gOf s) (q + 8 * j + m) 1 = numN (gOf s) ((q : Int) + 8 * (j : Int) + (m : Int)).toNat (Int.toNat 1) by congr 1]
                exact hX
              have S4 : Hid (SI w.heap.size b w v4 (onesN (gOf s) (q + 8 * j) (eightsN (gOf s) q (beginN s) j) m)) := SM.out.later hb
              have hb4 : b < v4.heap.size := by obtain ⟨_, _, h, _⟩ := S4.out.h; exact h.lt
              clear hX hb SM
              go_wp2_with fail
              refine (prime_any 5 _ (by omega) (by omega)).mono ?_
              rintro e v5 ⟨yh, yl, rfl, hY, hb⟩
              have HY : Hid (IsH yh yl (primeN 5)) := hY
              have S5 : Hid (SI w.heap.size b w v5 (onesN (gOf s) (q + 8 * j) (eightsN (gOf s) q (beginN s) j) m)) := (S4.out.alloc _).later hb
              have X5 : Hid (Half2 v5 v4.heap.size xh xl) := (Half2.new v4 xh xl _ _ rfl).later hb
              obtain ⟨x0, x1, xf⟩ := X5.out
              have xlt : v4.heap.size < v5.heap.size := X5.out.lt
              clear hY hb S4 xf
              go_wp2_with fail
              refine (times_any _ _ _ _ _ _ _ HX.out HY.out).mono ?_
              rintro e v6 ⟨th, tl, rfl, hT, hb⟩
              have HT : Hid (IsH th tl (mulM (numN (gOf s) (q + 8 * j + m) 1) (primeN 5))) := hT
              have S6 : Hid (SI w.heap.size b w v6 (onesN (gOf s) (q + 8 * j) (eightsN (gOf s) q (beginN s) j) m)) := (S5.out.alloc _).later hb
              have X6 : Hid (Half2 v6 v4.heap.size xh xl) := (X5.out.alloc _).later hb
              obtain ⟨y0, y1, yf⟩ := X6.out
              have yf0 := yf 0
              have yf1 := yf 1
              clear hT hb S5 X5 x0 x1 yf
              obtain ⟨ah, al, af, aH⟩ := S6.out.h
              have Ha : Hid (IsH ah al _) := aH
              have alt := af.lt
              obtain ⟨a0, a1, ag⟩ := af
              have ag0 := ag 0
              have ag1 := ag 1
              clear aH ag
              go_wp2_with fail
              refine (rfold_one _ _ _ _ _ _ 11 1 _ Ha.out HT.out (by omega) (by omega) (by omega) (by omega)).mono ?_
              rintro e v7 ⟨zh, zl, rfl, hZ, hb⟩
              have HZ : Hid (IsH zh zl (onesN (gOf s) (q + 8 * j) (eightsN (gOf s) q (beginN s) j) (m + 1))) := hZ
              have S7 : Hid (SI w.heap.size b w v7 (onesN (gOf s) (q + 8 * j) (eightsN (gOf s) q (beginN s) j) m)) := (S6.out.far v4.heap.size th tl hb4 hBb).later hb
              clear hZ hb S6 X6 y0 y1 yf0 yf1 a0 a1 ag0 ag1 alt Ha
              obtain ⟨ah, al, af, aH⟩ := S7.out.h
              have Ha : Hid (IsH ah al _) := aH
              have alt := af.lt
              obtain ⟨a0, a1, ag⟩ := af
              have ag0 := ag 0
              have ag1 := ag 1
              clear aH ag
              go_wp2
              exact ⟨⟨m + 1, by omega, by go_num, S7.out.put zh zl _ HZ.out hBb⟩, by simp [intOf]; omega⟩
            · have SE : Hid (SI w.heap.size b w wr (restN (gOf s) q (s.size % 32) (beginN s))) := by
                have e := restN_none (gOf s) q (s.size % 32) j m (beginN s) E8.out (by have := HQ.out; omega) (by have := HQ.out; omega) (by have := HQ.out; omega)
                rw [← e]; exact SM.out
              obtain ⟨ah, al, af, aH⟩ := SE.out.h
              have Ha : Hid (IsH ah al _) := aH
              have alt := af.lt
              obtain ⟨a0, a1, ag⟩ := af
              have ag0 := ag 0
              have ag1 := ag 1
              clear aH ag
              clear SM
              go_wp2_with fail
              refine (rlast_any _ _ _ _ Ha.out).mono ?_
              rintro e v9 ⟨zh, zl, rfl, hZ, hb⟩
              have HZ : Hid (IsH zh zl (xsumN s)) := by unfold xsumN; rw [← HQ.out]; exact hZ
              have S9 : Hid (SI w.heap.size b w v9 (restN (gOf s) q (s.size % 32) (beginN s))) := SE.out.later hb
              obtain ⟨r0, r1, rf⟩ := S9.out.res
              have rf0 := rf 0
              have rf1 := rf 1
              clear hZ hb SE rf a0 a1 ag0 ag1 alt Ha
              go_wp2
              have hput := S9.out.res.put zh zl
              exact bodyPost_ret (v := .agg #[.int .i64 zh, .int .i64 zl]) (by simp [results, Tryz.results31, go_sem, hput.c0, hput.c1]) rfl ⟨zh, zl, rfl, HZ.out, (S9.out.bel.setCell (by dsimp only; omega) _).setCell (by dsimp only; omega) _⟩
end Go.Proofs.YtipdjbkkpjlamaaGreat
