import Derived.Test.YtkfilgfcgmohlaaJ09
import Derived.WalkKit
import Derived.WalkSpells
import Derived.WalkLawsBesides
import Derived.Deep.AppendLies
import Derived.Laws.OwnMore
import Derived.Deep.RegionLaw
import Derived.Deep.CutRange
namespace Go.Proofs.Ytkfilgfcgmohlaa
open Go.RowKit
/-- code s is what k bits say -/
def Hits (a : Nat → Nat) (n log m : Nat) (f : Nat → Nat) (pos k s : Nat) : Prop := s < n ∧ cBit a log s = k ∧ cVal a n s = highN m f pos k
/-- the next symbol is s, of k bits -/
structure SymAt (a : Nat → Nat) (n log m : Nat) (f : Nat → Nat) (pos k s : Nat) : Prop where
  hit : Hits a n log m f pos k s
  pos1 : 1 ≤ k
  le : k ≤ 11
  first : ∀ s', s' < s → ¬ Hits a n log m f pos k s'
  before : ∀ k', 1 ≤ k' → k' < k → ∀ s', ¬ Hits a n log m f pos k' s'
theorem CdAt.upd {w w' : World} {g n r : Nat} {a : Nat → Nat} {log : Nat} (h : CdAt w g n a log) (hu : Upd r w w') (hg : g < w.heap.size) (hne : g ≠ r) : CdAt w' g n a log :=
  ⟨fun s hs => (hu.cell (p := ⟨g, s * 2, none⟩) hg hne).trans (h.b s hs), fun s hs => (hu.cell (p := ⟨g, s * 2 + 1, none⟩) hg hne).trans (h.v s hs)⟩
/-- what symbol answers -/
def SymQ (a : Nat → Nat) (n log m : Nat) (f : Nat → Nat) (pos r g : Nat) (w : World) (e : Ending) (w' : World) : Prop :=
  ∃ k s, SymAt a n log m f pos k s ∧ e = .returned (.int .i64 (s : Int)) ∧ RdAt w' r g m f (pos + k) ∧ Upd r w w'
set_option maxRecDepth 100000 in
set_option maxHeartbeats 2000000 in
theorem symbol_any (a : Nat → Nat) (n log m : Nat) (f : Nat → Nat) (pos r g gc cap : Nat) (w : World) (hW : Whole a n log) (hc : CdAt w gc n a log) (hn0 : 0 < n) (hn : n ≤ 256) (hne : gc ≠ r) (h : RdAt w r g m f pos) :
    Calls Try.prog 95 #[.slice (some ⟨gc, 0, none⟩) n cap, .pointer (some ⟨r, 0, none⟩)] w fun e w' => SymQ a n log m f pos r g w e w' := by
  have hgl : gc < w.heap.size := block_lt_of_cell (hc.b 0 hn0)
  have hf := h.two
  obtain ⟨k0, s0, hk1, hk11, hs0, hb0, hv0⟩ := hW.found m f hf pos
  obtain ⟨K, hK, ⟨hK1, hKs⟩, hKm⟩ := least (P := fun k => 1 ≤ k ∧ ∃ s, Hits a n log m f pos k s) k0 ⟨hk1, s0, hs0, hb0, hv0⟩
  have HK : Hid ((∃ s, Hits a n log m f pos K s) ∧ ∀ j, j < K → ¬ (1 ≤ j ∧ ∃ s, Hits a n log m f pos j s)) := ⟨hKs, hKm⟩
  have hK11 : K ≤ 11 := by omega
  have HC : Hid (CdAt w gc n a log) := hc
  have HR : Hid (RdAt w r g m f pos) := h
  clear hc h hk1 hk11 hs0 hb0 hv0 hK hKs hKm
  go_enter Try.func95, Try.ntmps95
  go_wp2_with fail
  go_loopw [5, 6] (fun vv nv wr => ∃ i : Nat, i < K ∧ nv = .int .i64 ((i : Int) + 1) ∧ vv = .int .i64 (highN m f pos i : Int) ∧ RdAt wr r g m f (pos + i) ∧ Upd r w wr) (fun _ nv _ => (K + 1 - intOf nv).toNat)
  case atStart => exact ⟨0, by omega, rfl, rfl, HR.out, Upd.refl _ _⟩
  case round =>
    clear HR
    obtain ⟨i, hi, rfl, rfl, hR, hU⟩ := hrel
    have HU : Hid (Upd r w wr) := hU
    have hhi := highN_lt m f hf pos i
    have hp11 : 2 ^ i ≤ 2 ^ 11 := Nat.pow_le_pow_right (by omega) (by omega)
    clear hU
    go_wp2_with fail
    refine (rd_bit r g m f (pos + i) _ hR).mono ?_
    rintro e w1 ⟨rfl, hR1, hU1⟩
    have hx2 := rb_lt m f hf (pos + i)
    have HE : Hid (highN m f pos (i + 1) = 2 * highN m f pos i + rb m f (pos + i)) := rfl
    obtain ⟨x, hx⟩ : ∃ x, x = rb m f (pos + i) := ⟨_, rfl⟩
    obtain ⟨v0, hv0⟩ : ∃ v0, v0 = highN m f pos i := ⟨_, rfl⟩
    rw [← hx] at hx2 HE ⊢
    rw [← hv0] at hhi HE ⊢
    have HR1 : Hid (RdAt w1 r g m f (pos + (i + 1))) := hR1
    have HU1 : Hid (Upd r w w1) := HU.out.trans hU1
    have HC1 : Hid (CdAt w1 gc n a log) := HC.out.upd HU1.out hgl hne
    obtain ⟨v, hv⟩ : ∃ v, v = 2 * v0 + x := ⟨_, rfl⟩
    have hvI : (2 : Int) * (v0 : Int) + (x : Int) = (v : Int) := by omega
    have HV : Hid (highN m f pos (i + 1) = v) := by show _ = _; rw [HE.out, hv]
    have hvb : v ≤ 4096 := by omega
    clear hx hv0 hR hR1 hU1 HU hv HE
    go_wp2_with fail
    try simp only [hvI]
    clear hvI
    go_loop [8] (fun sv => ∃ s : Nat, s ≤ n ∧ sv = .int .i64 s ∧ ∀ s', s' < s → ¬ Hits a n log m f pos (i + 1) s') (fun sv => (n - intOf sv).toNat)
    case atStart => exact ⟨0, by omega, rfl, fun s' h => by omega⟩
    case round =>
      obtain ⟨s, hs, rfl, hno⟩ := hrel
      have HNO : Hid (∀ s', s' < s → ¬ Hits a n log m f pos (i + 1) s') := hno
      clear hno
      by_cases hsn : s < n
      · have cb := HC1.out.b s hsn
        have cv := HC1.out.v s hsn
        have hsI : (s : Int) < (n : Int) := by omega
        have hs0 : (0 : Int) ≤ (s : Int) := by omega
        obtain ⟨b, hb⟩ : ∃ b, b = cBit a log s := ⟨_, rfl⟩
        obtain ⟨y, hy⟩ : ∃ y, y = cVal a n s := ⟨_, rfl⟩
        have HBY : Hid (Hits a n log m f pos (i + 1) s ↔ b = i + 1 ∧ y = v) := by
          show _ ↔ _
          unfold Hits
          rw [hb, hy, HV.out]
          exact ⟨fun h => h.2, fun h => ⟨hsn, h⟩⟩
        rw [← hb] at cb
        rw [← hy] at cv
        clear hb hy
        by_cases hbi : b = i + 1
        · subst hbi
          have hb1 : (((i + 1 : Nat) : Int) == (i : Int) + 1) = true := by rw [beq_iff_eq]; omega
          by_cases hyv : y = v
          · subst hyv
            have hb2 : ((y : Int) == (y : Int)) = true := by simp
            go_wp2_with fail
            go_ret
            have hh := HBY.out.2 (by simp)
            refine ⟨i + 1, s, ⟨hh, by omega, by omega, HNO.out, fun k' h1 h2 s' hs' => HK.out.2 k' (by omega) ⟨h1, s', hs'⟩⟩, rfl, HR1.out, HU1.out⟩
          · have hb2 : ((y : Int) == (v : Int)) = false := by rw [beq_eq_false_iff_ne]; omega
            go_wp2_with fail
            go_round
            case rel =>
              refine ⟨s + 1, by omega, by go_num, fun s' hs' => ?_⟩
              rcases Nat.lt_or_ge s' s with h' | h'
              · exact HNO.out s' h'
              · obtain rfl : s' = s := by omega
                exact fun hh => hyv (HBY.out.1 hh).2
            case measure => simp [intOf]; omega
        · have hb1 : ((b : Int) == (i : Int) + 1) = false := by rw [beq_eq_false_iff_ne]; omega
          go_wp2_with fail
          go_round
          case rel =>
            refine ⟨s + 1, by omega, by go_num, fun s' hs' => ?_⟩
            rcases Nat.lt_or_ge s' s with h' | h'
            · exact HNO.out s' h'
            · obtain rfl : s' = s := by omega
              exact fun hh => hbi (HBY.out.1 hh).1
          case measure => simp [intOf]; omega
      · obtain rfl : s = n := by omega
        have hiK : i + 1 < K := by
          rcases Nat.lt_or_ge (i + 1) K with h' | h'
          · exact h'
          · exfalso
            obtain rfl : K = i + 1 := by omega
            obtain ⟨s', hs'⟩ := HK.out.1
            exact HNO.out s' hs'.1 hs'
        go_wp2_with fail
        exact ⟨⟨i + 1, hiK, by go_num, by rw [HV.out], HR1.out, HU1.out⟩, by simp [intOf]; omega⟩
end Go.Proofs.Ytkfilgfcgmohlaa
namespace Go.Proofs.Ytkfilgfcgmohlaa
open Go.RowKit
theorem fByte : (Try.prog.info? 5).map (fun i => (i.zero, i.size, i.bytes)) = some (some (.int .u8 0), 1, 1) := by kernel_rfl
/-- bytes as values -/
def bvs (l : List Nat) : List Value := l.map fun (x : Nat) => Value.int .u8 (x : Int)
theorem bvs_len (l : List Nat) : (bvs l).length = l.length := by simp [bvs]
theorem bvs_append (l : List Nat) (x : Nat) : bvs (l ++ [x]) = bvs l ++ [.int .u8 (x : Int)] := by simp [bvs]
theorem bvs_app (l k : List Nat) : bvs (l ++ k) = bvs l ++ bvs k := by simp [bvs]
theorem bvs_at (l : List Nat) (i : Nat) (h : i < l.length) : (bvs l)[i]? = some (.int .u8 (wAt l i : Int)) := by simp [bvs, wAt, h]
/-- one byte more, at a plain region's list -/
theorem ba_list {wr W : World} {B : Nat} {v : Value} {m : Nat} {xs : List Value} {ops : Array Oper} {rest : List Oper} {o : Oper} {a : Act} {Q : Exit → Act → World → Prop} (hgd : o.guard = none) (s x : Operand)
    (ho : o.op = .call { callee := .builtin .append, args := #[s, x], argTypes := #[33, 33] }) (hs : a.eval s = v) {gb : Nat} (hx : a.eval x = .slice (some ⟨gb, 0, none⟩) 1 1)
    {y : Int} (hm : m ≤ 1099511627) (h : wr.ownsRow B 5 1 v m xs) (hB : B ≤ wr.heap.size) (hb : Below wr.heap.size wr W) (hn : W.cell? ⟨gb, 0, none⟩ = some (.int .u8 y))
    (hK : ∀ g1 cap1 w2, Hid (w2.ownsRow B 5 1 (.slice (some ⟨g1, 0, none⟩) (m + 1) cap1) (m + 1) (xs ++ [.int .u8 y]) ∧ Below B wr w2) → wpList Try.prog ops Q rest (a.put o.dst (.slice (some ⟨g1, 0, none⟩) (m + 1) cap1)) w2) :
    wpList Try.prog ops Q (o :: rest) a W := by
  refine wpList_plain hgd fun _ hKK => ?_
  obtain ⟨g1, cap1, w2, hr, h2, h4⟩ := ap_run Try.underlying33 fByte rfl (by decide) (row_below h hb) (by omega) (by omega) (Nat.le_trans hB hb.size) [.int .u8 y] rfl (one_new hn) (by intro v hv; simp at hv; subst hv; rfl) o.type
  unfold Oper.wp execOp
  simp only [ho, resolve, invoke, builtin, Sem.run_bind, Sem.run_pure, Result.andThen_ok, List.map_toArray, List.map_cons, List.map_nil, hs, hx, hr]
  exact hKK _ _ (hK g1 cap1 w2 ⟨h2, (hb.mono hB).trans h4⟩)
/-- a reader, and a row of one's own -/
structure RRow (w wr : World) (B r g n : Nat) (f : Nat → Nat) (pos E : Nat) (v : Value) (m : Nat) (xs : List Value) : Prop where
  rd : RdAt wr r g n f pos
  row : wr.ownsRow B E 1 v m xs
  bel : Below w.heap.size w wr
  big : B ≤ wr.heap.size
  rB : r < B
  gB : 0 < n → g < B
  rw_ : w.heap.size ≤ r
theorem RRow.reads {w wr w1 : World} {B r g n : Nat} {f : Nat → Nat} {pos pos' E : Nat} {v : Value} {m : Nat} {xs : List Value} (h : RRow w wr B r g n f pos E v m xs) (hr : RdAt w1 r g n f pos') (hu : Upd r wr w1) : RRow w w1 B r g n f pos' E v m xs :=
  ⟨hr, row_upd h.row hu h.rB, h.bel.trans (hu.below h.rw_ h.bel.size), Nat.le_trans h.big hu.size, h.rB, h.gB, h.rw_⟩
theorem RRow.more {w wr w1 : World} {B r g n : Nat} {f : Nat → Nat} {pos E : Nat} {v v' : Value} {m m' : Nat} {xs xs' : List Value} (h : RRow w wr B r g n f pos E v m xs) (hr : w1.ownsRow B E 1 v' m' xs') (hb : Below B wr w1) : RRow w w1 B r g n f pos E v' m' xs' :=
  ⟨h.rd.below hb h.rB h.gB, hr, h.bel.trans (hb.mono (Nat.le_of_lt (Nat.lt_of_le_of_lt h.rw_ h.rB))), Nat.le_trans h.big hb.size, h.rB, h.gB, h.rw_⟩
theorem RRow.sm {w wr w1 : World} {B r g n : Nat} {f : Nat → Nat} {pos E : Nat} {v : Value} {m : Nat} {xs : List Value} (h : RRow w wr B r g n f pos E v m xs) (hs : Sm wr w1) : RRow w w1 B r g n f pos E v m xs := h.reads (h.rd.sm hs) (hs.upd r)
/-- symbols out of a stream, while bits are there -/
def Syms (a : Nat → Nat) (n log m : Nat) (f : Nat → Nat) (l : List Nat) (pos : Nat) : Prop :=
  ∃ ps : Nat → Nat, ps 0 = 0 ∧ ps l.length = pos ∧ ∀ i, i < l.length → ps i ≤ m ∧ ∃ k, SymAt a n log m f (ps i) k (l.getD i 0) ∧ ps (i + 1) = ps i + k
theorem Syms.nil {a : Nat → Nat} {n log m : Nat} {f : Nat → Nat} : Syms a n log m f [] 0 := ⟨fun _ => 0, rfl, rfl, fun i hi => by simp at hi⟩
theorem Syms.more {a : Nat → Nat} {n log m : Nat} {f : Nat → Nat} {l : List Nat} {pos k s : Nat} (h : Syms a n log m f l pos) (hp : pos ≤ m) (hs : SymAt a n log m f pos k s) : Syms a n log m f (l ++ [s]) (pos + k) := by
  obtain ⟨ps, h1, h2, h3⟩ := h
  refine ⟨fun i => if i ≤ l.length then ps i else pos + k, by simp [h1], by simp only [List.length_append, List.length_singleton]; rw [if_neg (by omega)], fun i hi => ?_⟩
  rw [List.length_append, List.length_singleton] at hi
  by_cases hl : i < l.length
  · obtain ⟨g1, k', g2, g3⟩ := h3 i hl
    dsimp only
    rw [if_pos (by omega), if_pos (by omega)]
    refine ⟨g1, k', ?_, g3⟩
    rw [List.getD_eq_getElem?_getD, List.getElem?_append_left hl, ← List.getD_eq_getElem?_getD]
    exact g2
  · obtain rfl : i = l.length := by omega
    dsimp only
    rw [if_pos (by omega), if_neg (by omega), h2]
    refine ⟨hp, k, ?_, rfl⟩
    rw [List.getD_eq_getElem?_getD, List.getElem?_append_right (by omega), Nat.sub_self]
    exact hs
theorem CdAt.below {w w' : World} {g n B : Nat} {a : Nat → Nat} {log : Nat} (h : CdAt w g n a log) (hb : Below B w w') (hg : g < B) : CdAt w' g n a log :=
  ⟨fun s hs => (hb.cell (p := ⟨g, s * 2, none⟩) hg).trans (h.b s hs), fun s hs => (hb.cell (p := ⟨g, s * 2 + 1, none⟩) hg).trans (h.v s hs)⟩
/-- what Symbols answers: the bytes; is the stream used up just so? -/
def SymsR (a : Nat → Nat) (n log : Nat) (s : ByteArray) (cnt : Nat) (l : List Nat) (ok : Bool) : Prop :=
  (NoLead s ∧ l = [] ∧ ok = false) ∨ ∃ z pos, Lead s z ∧ Syms a n log (bkN s z) (bkF s z) l pos ∧ l.length ≤ cnt ∧ (l.length = cnt ∨ bkN s z < pos) ∧ ok = decide (pos = bkN s z)
def SymsQ (a : Nat → Nat) (n log : Nat) (s : ByteArray) (cnt : Nat) (w : World) (e : Ending) (w' : World) : Prop :=
  ∃ v l ok, e = .returned (.tuple #[v, .bool ok]) ∧ SymsR a n log s cnt l ok ∧ Below w.heap.size w w' ∧ w'.ownsRow w.heap.size 5 1 v l.length (bvs l)
theorem sym_lt {a : Nat → Nat} {n log m : Nat} {f : Nat → Nat} {pos k s : Nat} (h : SymAt a n log m f pos k s) : s < n := h.hit.1
set_option maxRecDepth 100000 in
set_option maxHeartbeats 2000000 in
theorem symbols_any (a : Nat → Nat) (n log gc cap cnt : Nat) (s : ByteArray) (w : World) (hW : Whole a n log) (hc : CdAt w gc n a log) (hn0 : 0 < n) (hn : n ≤ 256) (hs : s.size ≤ 1073741824) (hcnt : cnt ≤ 1048576) :
    Calls Try.prog 77 #[.slice (some ⟨gc, 0, none⟩) n cap, .string s, .int .i64 (cnt : Int)] w fun e w' => SymsQ a n log s cnt w e w' := by
  have hgl : gc < w.heap.size := block_lt_of_cell (hc.b 0 hn0)
  have HC : Hid (CdAt w gc n a log) := hc
  clear hc
  go_enter Try.func77, Try.ntmps77
  go_wp2_with fail
  refine (backward_any s _ hs).mono ?_
  rintro e w1 ⟨r, ok, rfl, hb, hr, hcase⟩
  rcases hcase with ⟨rfl, hnl⟩ | ⟨rfl, z, g, hL, hR⟩
  · have HB : Hid (Below w.heap.size w w1 ∧ NoLead s) := ⟨hb, hnl⟩
    clear hb hr hnl
    go_wp2_with fail
    go_ret2
    exact ⟨_, [], false, rfl, .inl ⟨HB.out.2, rfl, rfl⟩, HB.out.1, World.ownsRow_nil _ _ _ _⟩
  · have HL : Hid (Lead s z) := hL
    obtain ⟨m, hm⟩ : ∃ m, m = bkN s z := ⟨_, rfl⟩
    obtain ⟨f, hf⟩ : ∃ f, f = bkF s z := ⟨_, rfl⟩
    rw [← hm, ← hf] at hR
    have HMF : Hid (m = bkN s z ∧ f = bkF s z) := ⟨hm, hf⟩
    obtain ⟨B, hB⟩ : ∃ B, B = w1.heap.size := ⟨_, rfl⟩
    have HR : Hid (RRow w w1 B r g m f 0 5 (.slice none 0 0) 0 (bvs [])) := ⟨hR, World.ownsRow_nil _ _ _ _, hb, by omega, by rw [hB]; exact hR.lt, by rw [hB]; exact hR.glt, hr⟩
    have hBw : w.heap.size ≤ B := by rw [hB]; exact hb.size
    have hgr : gc ≠ r := by omega
    clear hL hR hb hr hm hf hB
    go_wp2_with fail
    go_loopw [10] (fun ov wr => ∃ l pos, l.length ≤ cnt ∧ Syms a n log m f l pos ∧ RRow w wr B r g m f pos 5 ov l.length (bvs l)) (fun ov _ => cnt + 1 - sLen ov)
    case atStart => exact ⟨[], 0, by simp, .nil, HR.out⟩
    case round =>
      clear HR
      obtain ⟨l, pos, hl, hS, hR⟩ := hrel
      have HR : Hid (RRow w wr B r g m f pos 5 u10 l.length (bvs l)) := hR
      have HS : Hid (Syms a n log m f l pos) := hS
      have cov := hR.rd.over
      obtain ⟨sp, cp, hsv⟩ : ∃ sp cp, u10 = .slice sp l.length cp := by
        rcases hR.row.2 with ⟨hv, h0⟩ | ⟨gg, cap, cur, hv, _⟩
        · exact ⟨none, 0, by rw [hv, h0]⟩
        · exact ⟨_, cap, hv⟩
      subst hsv
      have hrd := hR.rd
      have HCr : Hid (CdAt wr gc n a log) := HC.out.below hR.bel hgl
      clear hR hS
      by_cases hlc : l.length < cnt ∧ pos ≤ m
      · have hb1 : decide ((l.length : Int) < (cnt : Int)) = true := decide_eq_true (by omega)
        rw [show decide (m < pos) = false by simp; omega] at cov
        go_wp2_with fail
        refine (symbol_any a n log m f pos r g gc cap _ hW HCr.out hn0 hn hgr hrd).mono ?_
        rintro e w2 ⟨k, y, hsy, rfl, hR2, hU2⟩
        have hyn := sym_lt hsy
        have HR2 : Hid (RRow w w2 B r g m f (pos + k) 5 (.slice sp l.length cp) l.length (bvs l)) := HR.out.reads hR2 hU2
        have HS2 : Hid (Syms a n log m f (l ++ [y]) (pos + k)) := .more HS.out hlc.2 hsy
        have hrow := HR2.out.row
        have hbig := HR2.out.big
        have hyw : IntKind.u8.wrap (y : Int) = (y : Int) := IntWalk.u8_in _ (by omega)
        clear hsy hR2 hU2 hrd cov
        go_wp2_with (at_builtin; refine ba_list (by rfl) (.tmp 34) (.tmp 37) (by rfl) (by first | rfl | simp) (gb := w2.heap.size) (y := (y : Int)) (by simp [Act.eval]) (by omega) hrow hbig (by repeat (first | exact Below.refl _ _ | refine Below.drew ?_ | refine Below.alloc ?_ (by simp <;> omega) _)) (by simp) ?_; intro g1 cap1 w4 hfin)
        refine ⟨⟨l ++ [y], pos + k, by simp; omega, HS2.out, ?_⟩, ?_⟩
        · rw [bvs_append, List.length_append, List.length_singleton]
          exact HR2.out.more hfin.out.1 hfin.out.2
        · show cnt + 1 - (l.length + 1) < cnt + 1 - l.length
          omega
      · have HF : Hid (l.length = cnt ∨ m < pos) := by show _ ∨ _; omega
        by_cases hlc1 : l.length < cnt
        · have hb1 : decide ((l.length : Int) < (cnt : Int)) = true := decide_eq_true (by omega)
          rw [show decide (m < pos) = true by simp; omega] at cov
          go_wp2_with fail
          refine (rd_whole r g m f pos _ hrd).mono ?_
          rintro e w2 ⟨rfl, hs2⟩
          have HR2 := HR.out.sm hs2
          have HRH : Hid (RRow w w2 B r g m f pos 5 (.slice sp l.length cp) l.length (bvs l)) := HR2
          clear HR2 hs2 cov hrd
          go_wp2_with fail
          go_ret2
          refine ⟨_, l, _, rfl, .inr ⟨z, pos, HL.out, ?_, hl, ?_, ?_⟩, HRH.out.bel, row_mono HRH.out.row hBw⟩
          · rw [← HMF.out.1, ← HMF.out.2]; exact HS.out
          · rw [← HMF.out.1]; exact HF.out
          · rw [← HMF.out.1]
        · have hb1 : decide ((l.length : Int) < (cnt : Int)) = false := decide_eq_false (by omega)
          go_wp2_with fail
          refine (rd_whole r g m f pos _ hrd).mono ?_
          rintro e w2 ⟨rfl, hs2⟩
          have HR2 := HR.out.sm hs2
          have HRH : Hid (RRow w w2 B r g m f pos 5 (.slice sp l.length cp) l.length (bvs l)) := HR2
          clear HR2 hs2 cov hrd
          go_wp2_with fail
          go_ret2
          refine ⟨_, l, _, rfl, .inr ⟨z, pos, HL.out, ?_, hl, ?_, ?_⟩, HRH.out.bel, row_mono HRH.out.row hBw⟩
          · rw [← HMF.out.1, ← HMF.out.2]; exact HS.out
          · rw [← HMF.out.1]; exact HF.out
          · rw [← HMF.out.1]
end Go.Proofs.Ytkfilgfcgmohlaa
namespace Go.Proofs.Ytkfilgfcgmohlaa
open Go.RowKit
/-- a table at block t, all of it in the blocks lo .. hi -/
structure TabAt (w : World) (lo hi t size log : Nat) (F Bt L : Nat → Nat) : Prop where
  ex : ∃ gs gb gl, w.cell? ⟨t, 0, none⟩ = some (.int .i64 (log : Int)) ∧ w.cell? ⟨t, 1, none⟩ = some (.slice (some ⟨gs, 0, none⟩) size size) ∧ w.cell? ⟨t, 1 + 1, none⟩ = some (.slice (some ⟨gb, 0, none⟩) size size) ∧ w.cell? ⟨t, 1 + 1 + 1, none⟩ = some (.slice (some ⟨gl, 0, none⟩) size size) ∧
    ArrF w gs size F ∧ ArrF w gb size Bt ∧ ArrF w gl size L ∧ lo ≤ gs ∧ gs < hi ∧ lo ≤ gb ∧ gb < hi ∧ lo ≤ gl ∧ gl < hi
  tlo : lo ≤ t
  thi : t < hi
theorem TabAt.keep {w w' : World} {lo hi t size log : Nat} {F Bt L : Nat → Nat} (h : TabAt w lo hi t size log F Bt L) (hk : ∀ k, lo ≤ k → k < hi → w'.heap[k]? = w.heap[k]?) : TabAt w' lo hi t size log F Bt L := by
  obtain ⟨gs, gb, gl, h0, h1, h2, h3, h4, h5, h6, h7, h8, h9, h10, h11, h12⟩ := h.ex
  have ht := hk t h.tlo h.thi
  exact ⟨⟨gs, gb, gl, (World.cell?_of_block (a := ⟨t, 0, none⟩) ht).trans h0, (World.cell?_of_block (a := ⟨t, 1, none⟩) ht).trans h1, (World.cell?_of_block (a := ⟨t, 1 + 1, none⟩) ht).trans h2, (World.cell?_of_block (a := ⟨t, 1 + 1 + 1, none⟩) ht).trans h3,
    h4.keep (hk gs h7 h8), h5.keep (hk gb h9 h10), h6.keep (hk gl h11 h12), h7, h8, h9, h10, h11, h12⟩, h.tlo, h.thi⟩
theorem TabAt.below {w w' : World} {lo hi t size log B : Nat} {F Bt L : Nat → Nat} (h : TabAt w lo hi t size log F Bt L) (hb : Below B w w') (hB : hi ≤ B) : TabAt w' lo hi t size log F Bt L := h.keep (fun k _ h2 => hb.block k (by omega))
theorem TabAt.upd {w w' : World} {lo hi t size log r : Nat} {F Bt L : Nat → Nat} (h : TabAt w lo hi t size log F Bt L) (hu : Upd r w w') (hh : hi ≤ w.heap.size) (hr : hi ≤ r) : TabAt w' lo hi t size log F Bt L := h.keep (fun k _ h2 => hu.block k (by omega) (by omega))
theorem OfW.tab {w w' : World} {t gs gb gl size log : Nat} {F B L : Nat → Nat} (h : OfW w w' t gs gb gl size log F B L) (h0 : 0 < size) : TabAt w' w.heap.size w'.heap.size t size log F B L :=
  ⟨⟨gs, gb, gl, h.c0, h.c1, h.c2, h.c3, h.s, h.b, h.l, h.dt.2.1, h.s.lt h0, h.dt.2.2.1, h.b.lt h0, h.dt.2.2.2, h.l.lt h0⟩, h.dt.1, block_lt_of_cell h.c0⟩
/-- weights that two states say in turn -/
def pwR (sym bit low : Nat → Nat) (m : Nat) (f : Nat → Nat) : Nat → Nat → Nat → Nat → List Nat → Option (List Nat)
  | 0, _, _, _, _ => none
  | k + 1, c, d, pos, l => if m - pos < bit c then some (l ++ [sym c] ++ [sym d]) else pwR sym bit low m f k d (low c + highN m f pos (bit c)) (pos + bit c) (l ++ [sym c])
def tailS (s : ByteArray) (nb : Nat) : ByteArray := s.extract nb s.size
/-- what pairwise says: none, or the weights -/
def pairM (s : ByteArray) (r : Option (List Nat)) : Prop :=
  match headR s 6 11 with
  | none => r = none
  | some (o, log, nb) => (NoLead (tailS s nb) ∧ r = none) ∨ ∃ z, Lead (tailS s nb) z ∧ r = if bkN (tailS s nb) z < 2 * log then none else
      pwR (symT o (2 ^ log)) (bitT o log) (lowT o log) (bkN (tailS s nb) z) (bkF (tailS s nb) z) 256 (highN (bkN (tailS s nb) z) (bkF (tailS s nb) z) 0 log) (highN (bkN (tailS s nb) z) (bkF (tailS s nb) z) log log) (2 * log) []
structure PairR (s : ByteArray) (r : Option (List Nat)) : Prop where
  out : pairM s r
def PairQ (s : ByteArray) (w : World) (e : Ending) (w' : World) : Prop :=
  ∃ r, PairR s r ∧ Below w.heap.size w w' ∧ match r with
    | none => ∃ v, e = .returned (.tuple #[v, .bool false])
    | some l => ∃ v, e = .returned (.tuple #[v, .bool true]) ∧ w'.ownsRow w.heap.size 3 1 v l.length (ivs (l.map fun (x : Nat) => (x : Int))) ∧ l.length ≤ 257 ∧ ∀ i, i < l.length → wAt l i ≤ 11
theorem RRow.store {w wr : World} {B r g n : Nat} {f : Nat → Nat} {pos E : Nat} {v : Value} {m : Nat} {xs : List Value} (h : RRow w wr B r g n f pos E v m xs) (p : Addr) (u : Value) (h1 : r ≠ p.block) (h2 : 0 < n → g ≠ p.block) (h3 : p.block < B) (h4 : w.heap.size ≤ p.block) : RRow w (wr.setCell p u) B r g n f pos E v m xs :=
  ⟨h.rd.keep (Below.heap_setCell _ _ _ _ h1) (fun hn => Below.heap_setCell _ _ _ _ (h2 hn)), row_same h.row (fun k hk => Below.heap_setCell _ _ _ _ (by have := (row_lt h.row k hk).1; omega)), h.bel.setCell h4 _, by rw [World.size_setCell]; exact h.big, h.rB, h.gB, h.rw_⟩
theorem pow_size {log : Nat} (h5 : 5 ≤ log) (h9 : log ≤ 9) : isSize (2 ^ log) := by
  have : log = 5 ∨ log = 6 ∨ log = 7 ∨ log = 8 ∨ log = 9 := by omega
  rcases this with rfl | rfl | rfl | rfl | rfl <;> simp [isSize]
theorem headR_row {o : List Int} {w : World} {B cap g : Nat} (h : w.ownsRow B 3 1 (.slice (some ⟨g, 0, none⟩) o.length cap) o.length (ivs o)) : ∀ i, i < o.length → w.cell? ⟨g, i, none⟩ = some (.int .i64 (oAt o i)) := fun i hi => by
  rw [World.ownsRow.cellAt h i (by omega)]; exact ivs_at o i hi
theorem dist_pos {top : Nat} {o : List Int} {size : Nat} (h : Dist top o size) (h0 : 0 < size) : 0 < o.length := by
  rcases Nat.eq_zero_or_pos o.length with e | e
  · have : o = [] := List.length_eq_zero_iff.1 e
    have hs := h.sum
    rw [this] at hs; simp [absS] at hs; omega
  · exact e
end Go.Proofs.Ytkfilgfcgmohlaa
