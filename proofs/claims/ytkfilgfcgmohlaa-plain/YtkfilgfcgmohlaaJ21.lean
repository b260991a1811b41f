import Derived.Test.YtkfilgfcgmohlaaJ11
import Derived.Test.YtkfilgfcgmohlaaJ20
import Derived.WalkKit
import Derived.WalkSpells
import Derived.WalkLawsBesides
import Derived.Laws.BytesArg
namespace Go.Proofs.Ytkfilgfcgmohlaa
open Go.RowKit
def toI (n : Nat) : Int := (n : Int)
theorem strOf_ba (l : List Nat) : strOfNums (l.map toI) = baOf l := by
  unfold strOfNums baOf
  rw [List.map_map]
  rfl
/-- 'string(bytes)' -/
theorem conv_bytes (w : World) (g off cap : Nat) (l : List Nat) (h : ∀ i, i < l.length → w.cell? ⟨g, off + i, none⟩ = some (.int .u8 (l.getD i 0 : Int))) :
    (convert 33 9 (.slice (some ⟨g, off, none⟩) l.length cap)).run Try.prog w = .ok (.string (baOf l)) w := by
  rw [← strOf_ba]
  refine run_convert_bytes_arg (P := Try.prog) w 33 5 Try.underlying33 Try.underlying5 g off l.length cap (l.map toI) (by simp) (fun i hi => ?_) 9 Try.underlying9
  rw [h i hi]
  simp [List.getD, hi, toI]
theorem mk_out (n : Nat) (hn : n ≤ 131072) (w : World) : (Instr.makeSlice 33 (.int .i64 0) (.int .i64 (n : Int))).run Try.prog w = .ok (.slice (some ⟨w.heap.size, 0, none⟩) 0 n) (w.alloc (.cells (madeCells #[.int .u8 0] n) 5)) := by
  obtain ⟨i, hi, hz, h1, h2⟩ := pInfo pByte
  have := run_make (P := Try.prog) w 33 5 i (.int .u8 0) Try.underlying33 hi hz .i64 .i64 0 n (by omega) (by omega) (by rw [h2]; omega) (by omega)
  rw [h1, Int.toNat_natCast, Nat.mul_one] at this
  exact this
/-- one call's work begins -/
theorem DSt.start (w : World) (s : ByteArray) (lim : Nat) (hl : lim ≤ 131072) : DSt ((w.alloc (.cells (madeCells #[.int .u8 0] lim) 5)).alloc (.cells #[.string s, .int .i64 (lim : Int), .slice (some ⟨w.heap.size, 0, none⟩) 0 lim] 79)) (w.heap.size + 1) w.heap.size s lim 0 [] := by
  have hsz : (w.alloc (.cells (madeCells #[.int .u8 0] lim) 5)).heap.size = w.heap.size + 1 := World.size_alloc _ _
  have hc : ∀ i, ((w.alloc (.cells (madeCells #[.int .u8 0] lim) 5)).alloc (.cells #[.string s, .int .i64 (lim : Int), .slice (some ⟨w.heap.size, 0, none⟩) 0 lim] 79)).cell? ⟨w.heap.size + 1, i, none⟩ = (#[.string s, .int .i64 (lim : Int), .slice (some ⟨w.heap.size, 0, none⟩) 0 lim] : Array Value)[i]? := fun i => by rw [← hsz, World.cell?_alloc_new]
  have hg : ∀ i, ((w.alloc (.cells (madeCells #[.int .u8 0] lim) 5)).alloc (.cells #[.string s, .int .i64 (lim : Int), .slice (some ⟨w.heap.size, 0, none⟩) 0 lim] 79)).cell? ⟨w.heap.size, i, none⟩ = (madeCells #[.int .u8 0] lim)[i]? := fun i => by
    rw [World.cell?_of_block (w := w.alloc (.cells (madeCells #[.int .u8 0] lim) 5)) (a := ⟨w.heap.size, i, none⟩) (Below.heap_alloc _ _ _ (by show w.heap.size < _; omega)), World.cell?_alloc_new]
  refine ⟨⟨s, hc 0, RestAt.start s⟩, hc 1, hc 2, fun i => by simp, fun i => by simp, fun i hi => ?_, fun i hi => by simp at hi, by simp, by omega, by rw [World.size_alloc, hsz]; omega, hl, fun x hx => by cases hx⟩
  rw [hg i, ← Array.getElem?_toList, toList_madeCells_one]
  simp [hi]
/-- the arguments are refused -/
def argBad (s : ByteArray) (limit slack : Int) : Bool := decide (16384 < s.size ∨ limit < 0 ∨ 131072 < limit ∨ slack < 0 ∨ 64 < slack)
/-- what Decode answers, by what the bytes say -/
def ansS : Res → ByteArray → Int → Prop
  | .met, _, _ => True
  | .bad e, t, e' => t = ByteArray.empty ∧ e' = e
  | .go _ out _, t, e' => t = baOf out ∧ e' = 0
def DecP (s : ByteArray) (limit slack : Int) (w : World) (x : Ending) (w' : World) : Prop :=
  Below w.heap.size w w' ∧ ∃ t e, x = .returned (.tuple #[.string t, .int .i64 e]) ∧ (if argBad s limit slack then t = ByteArray.empty ∧ e = 1 else ansS (readS s limit 0 []) t e)
theorem argBad_no {s : ByteArray} {limit slack : Int} (h : argBad s limit slack = false) : s.size ≤ 16384 ∧ 0 ≤ limit ∧ limit ≤ 131072 ∧ 0 ≤ slack ∧ slack ≤ 64 := by
  have := of_decide_eq_false h
  omega
theorem upg_below {d g N : Nat} {w w0 w1 : World} (h : Below N w w0) (hu : Upg d g w0 w1) (hd : N ≤ d) (hg : N ≤ g) (hN : N ≤ w0.heap.size) : Below N w w1 :=
  ⟨hu.1.trans h.os, hu.2.1.trans h.tape, hu.2.2.1.trans h.output, Nat.le_trans h.size hu.2.2.2.1, fun k hk => (hu.2.2.2.2 k (by omega) (by omega) (by omega)).trans (h.block k hk)⟩
set_option maxRecDepth 100000 in
set_option maxHeartbeats 2000000 in
theorem pDecode (s : ByteArray) (limit slack : Int) (w : World) :
    Calls Try.prog 24 #[.string s, .int .i64 limit, .int .i64 slack] w fun x w' => DecP s limit slack w x w' := by
  cases hab : argBad s limit slack with
  | true =>
    have hor := of_decide_eq_true hab
    have HA : Hid (argBad s limit slack = true) := hab
    clear hab
    by_cases h1 : 16384 < s.size
    · have b1 : decide ((16384 : Int) < (s.size : Int)) = true := decide_eq_true (by omega)
      go_enter Try.func24, Try.ntmps24
      go_wp2_with fail
      go_ret2
      exact ⟨Below.refl _ _, _, _, rfl, by rw [HA.out]; exact ⟨rfl, rfl⟩⟩
    · have b1 : decide ((16384 : Int) < (s.size : Int)) = false := decide_eq_false (by omega)
      by_cases h2 : limit < 0
      · have b2 : decide (limit < 0) = true := decide_eq_true (by omega)
        go_enter Try.func24, Try.ntmps24
        go_wp2_with fail
        go_ret2
        exact ⟨Below.refl _ _, _, _, rfl, by rw [HA.out]; exact ⟨rfl, rfl⟩⟩
      · have b2 : decide (limit < 0) = false := decide_eq_false (by omega)
        by_cases h3 : 131072 < limit
        · have b3 : decide (131072 < limit) = true := decide_eq_true (by omega)
          go_enter Try.func24, Try.ntmps24
          go_wp2_with fail
          go_ret2
          exact ⟨Below.refl _ _, _, _, rfl, by rw [HA.out]; exact ⟨rfl, rfl⟩⟩
        · have b3 : decide (131072 < limit) = false := decide_eq_false (by omega)
          by_cases h4 : slack < 0
          · have b4 : decide (slack < 0) = true := decide_eq_true (by omega)
            go_enter Try.func24, Try.ntmps24
            go_wp2_with fail
            go_ret2
            exact ⟨Below.refl _ _, _, _, rfl, by rw [HA.out]; exact ⟨rfl, rfl⟩⟩
          · have b4 : decide (slack < 0) = false := decide_eq_false (by omega)
            have b5 : decide (64 < slack) = true := decide_eq_true (by omega)
            go_enter Try.func24, Try.ntmps24
            go_wp2_with fail
            go_ret2
            exact ⟨Below.refl _ _, _, _, rfl, by rw [HA.out]; exact ⟨rfl, rfl⟩⟩
  | false =>
    obtain ⟨r1, r2, r3, r4, r5⟩ := argBad_no hab
    have HA : Hid (argBad s limit slack = false) := hab
    obtain ⟨lim, rfl⟩ : ∃ lim : Nat, limit = (lim : Int) := ⟨limit.toNat, by omega⟩
    have b1 : decide ((16384 : Int) < (s.size : Int)) = false := decide_eq_false (by omega)
    have b2 : decide ((lim : Int) < 0) = false := decide_eq_false (by omega)
    have b3 : decide (131072 < (lim : Int)) = false := decide_eq_false (by omega)
    have b4 : decide (slack < 0) = false := decide_eq_false (by omega)
    have b5 : decide (64 < slack) = false := decide_eq_false (by omega)
    have hmk : ∀ wz : World, (Instr.makeSlice 33 (.int .i64 0) (.int .i64 (lim : Int))).run Try.prog wz = .ok (.slice (some ⟨wz.heap.size, 0, none⟩) 0 lim) (wz.alloc (.cells (madeCells #[.int .u8 0] lim) 5)) := mk_out lim (by omega)
    have HD0 := DSt.start w s lim (by omega)
    clear hab
    go_enter Try.func24, Try.ntmps24
    go_wp2_with fail
    obtain ⟨W0, hW0⟩ : ∃ W0, W0 = (w.alloc (.cells (madeCells #[.int .u8 0] lim) 5)).alloc (.cells #[.string s, .int .i64 (lim : Int), .slice (some ⟨w.heap.size, 0, none⟩) 0 lim] 79) := ⟨_, rfl⟩
    rw [← hW0] at HD0 ⊢
    have HB0 : Hid (DSt W0 (w.heap.size + 1) w.heap.size s lim 0 [] ∧ Below w.heap.size w W0) := ⟨HD0, by rw [hW0]; exact ((Below.refl _ _).alloc (Nat.le_refl _) _).alloc (by rw [World.size_alloc]; omega) _⟩
    have hws : w.heap.size ≤ W0.heap.size := HB0.out.2.size
    clear HD0 hW0 hmk
    obtain ⟨d, hd⟩ : ∃ d, d = w.heap.size + 1 := ⟨_, rfl⟩
    obtain ⟨g, hg⟩ : ∃ g, g = w.heap.size := ⟨_, rfl⟩
    rw [← hd, ← hg] at HB0
    rw [← hd, ← hg]
    have HBel : Hid (∀ wr, Upg d g W0 wr → Below w.heap.size w wr) := fun wr hu => upg_below (by rw [hg] at HB0; exact HB0.out.2) hu (by omega) (by omega) hws
    have HDG : Hid (d = w.heap.size + 1 ∧ g = w.heap.size) := ⟨hd, hg⟩
    clear hd hg
    go_loopw [9] (fun _ wr => ∃ (k' : Nat) (out' : List Nat), DSt wr d g s lim k' out' ∧ Upg d g W0 wr ∧ readS s (lim : Int) 0 [] = readS s (lim : Int) k' out') (fun _ wr => restLen wr d)
    case atStart => exact ⟨0, [], HB0.out.1, Upg.refl _ _ _, rfl⟩
    case round =>
      obtain ⟨k', out', hs, hu, hb⟩ := hrel
      have HS : Hid (DSt wr d g s lim k' out' ∧ Upg d g W0 wr ∧ readS s (lim : Int) 0 [] = readS s (lim : Int) k' out') := ⟨hs, hu, hb⟩
      obtain ⟨r, hr, hra⟩ := hs.rest
      have hrs := hra.size
      have hle := hra.le
      have k2 := hs.c2
      have HN : Hid (Calls Try.prog 31 #[.pointer (some ⟨d, 0, none⟩)] wr fun x w' => StepP d g s lim (nextS s (lim : Int) k' out') wr x w') := pNext d g s lim k' out' wr hs
      have HCV : Hid ((convert 33 9 (.slice (some ⟨g, 0, none⟩) out'.length lim)).run Try.prog wr = .ok (.string (baOf out')) wr) := conv_bytes wr g 0 lim out' (fun i hi => by rw [Nat.zero_add]; exact hs.og i hi)
      clear hs hu hb hra
      by_cases hlt : k' < s.size
      · have hb : decide ((0 : Int) < (r.size : Int)) = true := decide_eq_true (by omega)
        clear k2 HCV
        go_wp2_with fail
        refine HN.out.mono ?_
        intro x w2 hq
        cases hnx : nextS s (lim : Int) k' out' using Res.elim with
        | met =>
          rw [hnx] at hq
          obtain ⟨hq0, e, he, rfl⟩ := hq
          have heb : (e != 0) = true := by simp [he]
          have HR : Hid (readS s (lim : Int) 0 [] = .met) := by show _ = _; rw [HS.out.2.2, readS_met hlt hnx]
          have HU0 : Hid (Upg d g W0 w2) := HS.out.2.1.trans hq0
          clear hnx he HN hq0
          go_wp2_with fail
          go_ret2
          refine ⟨HBel.out _ HU0.out, _, _, rfl, ?_⟩
          rw [HA.out, HR.out]
          exact trivial
        | bad e =>
          have he := nextS_bad hnx
          rw [hnx] at hq
          obtain ⟨hq0, hq⟩ := hq
          obtain rfl : x = _ := hq
          have HU0 : Hid (Upg d g W0 w2) := HS.out.2.1.trans hq0
          have heb : (e != 0) = true := by simp [he]
          have HR : Hid (readS s (lim : Int) 0 [] = .bad e) := by show _ = _; rw [HS.out.2.2, readS_bad hlt hnx]
          clear hnx he HN hq0
          go_wp2_with fail
          go_ret2
          refine ⟨HBel.out _ HU0.out, _, _, rfl, ?_⟩
          rw [HA.out, HR.out]
          exact ⟨rfl, rfl⟩
        | go p2 o2 l =>
          rw [hnx] at hq
          obtain ⟨hq2, rfl, hq1⟩ := hq
          have HE : Hid (DSt w2 d g s lim p2 o2 ∧ Upg d g W0 w2 ∧ readS s (lim : Int) 0 [] = readS s (lim : Int) p2 o2 ∧ k' < p2) := ⟨hq1, HS.out.2.1.trans hq2, by rw [HS.out.2.2, readS_on hlt hnx], nextS_go hnx⟩
          clear hnx hq1 hq2 HN
          go_wp2_with fail
          refine ⟨⟨p2, o2, HE.out.1, HE.out.2.1, HE.out.2.2.1⟩, ?_⟩
          rw [HE.out.1.left.1, HS.out.1.left.1]
          have := HE.out.2.2.2
          omega
      · have hb : decide ((0 : Int) < (r.size : Int)) = false := decide_eq_false (by omega)
        have hcv := HCV.out
        go_wp2_with fail
        go_ret2
        refine ⟨HBel.out _ HS.out.2.1, _, _, rfl, ?_⟩
        rw [HA.out, HS.out.2.2, readS_end hlt]
        exact ⟨rfl, rfl⟩
end Go.Proofs.Ytkfilgfcgmohlaa
namespace Go.Proofs.Ytkfilgfcgmohlaa
open Go.RowKit
theorem or_byteW (h g : Nat) (hh : h < 1099511627776) (hg : g < 256) : bits .or .i64 ((h : Int) * 256) (g : Int) = ((g + 256 * h : Nat) : Int) := by
  rw [show ((h : Int) * 256) = ((h * 256 : Nat) : Int) by omega, i64_or _ _ (by omega) (by omega), nat_join 8 (h * 256) g (by omega) (by omega)]
  omega
theorem gOf_none (s : ByteArray) (i : Nat) (h : s.size ≤ i) : gOf s i = 0 := by
  unfold gOf
  rw [List.getD_eq_getElem?_getD, List.getElem?_eq_none (by rw [Array.length_toList]; exact h)]
  rfl
set_option maxRecDepth 100000 in
set_option maxHeartbeats 1000000 in
theorem le_any (s : ByteArray) (p n : Nat) (w : World) (hs : s.size ≤ 1099511627776) (hp : p ≤ 1048576) (hn : n ≤ 5) :
    Calls Try.prog 66 #[.string s, .int .i64 (p : Int), .int .i64 (n : Int)] w fun e w' => e = .returned (.int .i64 (numN (gOf s) p n : Int)) ∧ w' = w := by
  go_enter Try.func66, Try.ntmps66
  go_wp2_with fail
  go_loop [7, 8] (fun vv iv => ∃ k : Nat, k ≤ n ∧ iv = .int .i64 ((k : Int) - 1) ∧ vv = .int .i64 (numN (gOf s) (p + k) (n - k) : Int)) (fun _ iv => (intOf iv + 1).toNat)
  case atStart => exact ⟨n, Nat.le_refl _, rfl, by rw [Nat.sub_self]; rfl⟩
  case round =>
    obtain ⟨k, hk, rfl, rfl⟩ := hrel
    cases k with
    | zero =>
      go_wp2_with fail
      go_ret
      exact ⟨rfl, rfl⟩
    | succ k =>
      rw [show ((k + 1 : Nat) : Int) - 1 = (k : Int) by omega]
      have hv := numN_lt (gOf s) (gOf_lt s) (n - (k + 1)) (p + (k + 1))
      have h4 : 256 ^ (n - (k + 1)) ≤ 256 ^ 4 := Nat.pow_le_pow_right (n := 256) (by omega) (by omega)
      have HE : Hid (numN (gOf s) (p + k) (n - k) = gOf s (p + k) + 256 * numN (gOf s) (p + (k + 1)) (n - (k + 1))) := by
        show _ = _
        rw [show n - k = (n - (k + 1)) + 1 by omega, numN]; rfl
      obtain ⟨v, hve⟩ : ∃ v, v = numN (gOf s) (p + (k + 1)) (n - (k + 1)) := ⟨_, rfl⟩
      rw [← hve] at hv HE ⊢
      have hv4 : v < 4294967296 := by omega
      clear hve hv h4
      have hgl := gOf_lt s (p + k)
      by_cases hpk : p + k < s.size
      · have hix : ∀ wz, (Instr.index 9 (.string s) (.int .i64 ((p : Int) + (k : Int)))).run Try.prog wz = .ok (.int .u8 ((gOf s (p + k) : Nat) : Int)) wz := run_at s _ (p + k) (by omega) hpk
        have hw8 : IntKind.i64.wrap (gOf s (p + k) : Int) = (gOf s (p + k) : Int) := i64_id _ (by omega) (by omega)
        obtain ⟨b, hb⟩ : ∃ b, b = gOf s (p + k) := ⟨_, rfl⟩
        rw [← hb] at hix hgl hw8 HE
        have hor := or_byteW v b (by omega) hgl
        clear hb
        go_wp2_with fail
        go_round
        case rel => exact ⟨k, by omega, rfl, by rw [HE.out]; first | rfl | rw [hor] | (congr 1; rw [hor])⟩
        case measure => simp [intOf]
      · rw [gOf_none s (p + k) (by omega)] at HE
        go_wp2_with fail
        go_round
        case rel => exact ⟨k, by omega, rfl, by rw [HE.out]; congr 1; omega⟩
        case measure => simp [intOf]
/-- how many bytes a block may give, and take -/
def mostN (W : Int) : Int := if W < 131072 then W else 131072
set_option maxHeartbeats 1000000 in
theorem most_any (f : Nat) (W : Int) (w : World) (h : w.cell? ⟨f, 0, none⟩ = some (.int .i64 W)) :
    Calls Try.prog 37 #[.pointer (some ⟨f, 0, none⟩)] w fun e w' => e = .returned (.int .i64 (mostN W)) ∧ w' = w := by
  by_cases hW : W < 131072
  · have HE : Hid (mostN W = W) := by show _ = _; unfold mostN; rw [if_pos hW]
    go_enter Try.func37, Try.ntmps37
    go_wp2_with fail
    go_ret
    exact ⟨by rw [HE.out]; rfl, rfl⟩
  · have HE : Hid (mostN W = 131072) := by show _ = _; unfold mostN; rw [if_neg hW]
    go_enter Try.func37, Try.ntmps37
    go_wp2_with fail
    go_ret
    exact ⟨by rw [HE.out]; rfl, rfl⟩
/-- how many bits tell more behind a code -/
def llX : List Nat := [1, 1, 1, 1, 2, 2, 3, 3, 4, 6, 7, 8, 9, 10, 11, 12, 13, 14, 15, 16]
def mlX : List Nat := [1, 1, 1, 1, 2, 2, 3, 3, 4, 4, 5, 7, 8, 9, 10, 11, 12, 13, 14, 15, 16]
def extraN (t code : Nat) : Nat := if t = 1 then code else if t = 0 then (if 16 ≤ code then llX.getD (code - 16) 0 else 0) else (if 32 ≤ code then mlX.getD (code - 32) 0 else 0)
theorem ll_cell (W : World) (j : Nat) (hj : j < 20) : (W.alloc (Obj.cells (llX.map fun (x : Nat) => Value.int .i64 (x : Int)).toArray 3)).cell? ⟨W.heap.size, j, none⟩ = some (.int .i64 (llX.getD j 0 : Int)) := by
  rw [World.cell?_alloc_new]
  simp [List.getD_eq_getElem?_getD, show j < llX.length from hj]
theorem ml_cell (W : World) (j : Nat) (hj : j < 21) : (W.alloc (Obj.cells (mlX.map fun (x : Nat) => Value.int .i64 (x : Int)).toArray 3)).cell? ⟨W.heap.size, j, none⟩ = some (.int .i64 (mlX.getD j 0 : Int)) := by
  rw [World.cell?_alloc_new]
  simp [List.getD_eq_getElem?_getD, show j < mlX.length from hj]
end Go.Proofs.Ytkfilgfcgmohlaa
