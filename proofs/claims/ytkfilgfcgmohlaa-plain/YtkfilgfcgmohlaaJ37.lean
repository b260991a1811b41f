import Derived.Test.YtkfilgfcgmohlaaJ36
import Derived.WalkKit
import Derived.WalkSpells
import Derived.WalkLawsBesides
import Derived.Deep.CutRange
import Derived.Deep.CutBlock
import Derived.Deep.QuietTactic
import Derived.BigQuiet
import Derived.Deep.RegionWith
namespace Go.Proofs.Ytkfilgfcgmohlaa
open Go.RowKit
/-- what is left to read, while there is no error -/
def leftW (n b : Nat) (w : World) : Nat := match w.cell? ⟨b, 15, none⟩, w.cell? ⟨b, 1, none⟩ with
  | some (.int _ e), some (.int _ p) => if e = 0 then n + 1 - p.toNat else 0
  | _, _ => 0
theorem FSt0.left {w : World} {b : Nat} {Y : Nat → Prop} {s : ByteArray} {limit : Int} {p : Nat} {out : List Nat} {e : Int} {fr : Nat} {C : Nat → Value} (h : FSt0 w b Y s limit p out e fr C) (n : Nat) : leftW n b w = if e = 0 then n + 1 - p else 0 := by
  have h1 := h.wc.c 1 (by omega)
  have h15 := h.wc.c 15 (by omega)
  rw [h.c1] at h1
  rw [h.c15] at h15
  unfold leftW
  rw [h1, h15]
  rfl
/-- the head of a frame was no head -/
theorem RSt.head {N0 : Nat} {w w' : World} {b : Nat} {s : ByteArray} {limit : Int} {p p' : Nat} {out : List Nat} {e e' : Int} {C C' : Nat → Value} {fs : List (Nat × Value × List Int)} (h : RSt N0 w b s limit p out e C fs) (hW : Wc w' b C') (hU : Upd b w w') (hC : ∀ i, i ≠ 1 → i ≠ 15 → C' i = C i) (h1 : C' 1 = .int .i64 (p' : Int)) (h15 : C' 15 = .int .i64 e') (he : e' = 0 → e = 0) (hp : e' = 0 → p ≤ p' ∧ p' ≤ s.size) : RSt N0 w' b s limit p' out e' C' fs ∧ UpdS (fun j => N0 ≤ j) w w' := by
  obtain ⟨fr, F⟩ := h.st
  have e3 := hC 3 (by omega) (by omega)
  have e4 := hC 4 (by omega) (by omega)
  have hX : UpdS (Xs b (C 3) (Z4 (C 4))) w w' := hU.updS (.inl rfl)
  refine ⟨⟨⟨fr, by rw [e4]; exact F.take hW hU hC h1 h15⟩, by rw [e4]; exact row_same h.fs4 (fun g hg => hU.block g (row_lt h.fs4 g hg).2 (fun e => F.nb (e ▸ hg))), fun x hx => by rw [e3, e4]; exact (h.fin x hx).upd hX (fun _ _ e => e), fun h0 => ?_, by rw [e3, e4]; exact h.low⟩, hX.sub (fun j _ e => h.low j e)⟩
  have := h.pl (he h0)
  have := hp h0
  omega
/-- where the blocks of a frame stand, against what they say -/
def BlkR (s : ByteArray) (limit M : Int) (P : Nat) (out : List Nat) (en : Bool) (p' : Nat) (out' : List Nat) (e' : Int) : Prop :=
  if e' ≠ 0 then blocksS s limit M P out = .bad e' else if en = true then blocksS s limit M P out = .go p' out' true else blocksS s limit M P out = blocksS s limit M p' out'
theorem BlkR.step {s : ByteArray} {limit M : Int} {P : Nat} {out : List Nat} {p' : Nat} {out' : List Nat} (h : BlkR s limit M P out false p' out' 0) {last : Bool} {p2 : Nat} {o2 : List Nat} {e2 : Int} (hq : match blkS s limit M p' out' with | none => False | some (.inl e) => e2 = e | some (.inr (p3, o3, l)) => e2 = 0 ∧ p2 = p3 ∧ o2 = o3 ∧ last = l) : BlkR s limit M P out last p2 o2 e2 := by
  unfold BlkR at h ⊢
  rw [if_neg (by simp), if_neg (by simp)] at h
  cases hb : blkS s limit M p' out' using Res.elim with
  | met => rw [hb] at hq; exact hq.elim
  | bad e =>
    rw [hb] at hq
    have he := blkS_bad hb
    have hq' : e2 = e := hq
    rw [hq', if_pos he, h, blocksS_bad hb]
  | go p3 o3 l =>
    rw [hb] at hq
    obtain ⟨rfl, rfl, rfl, rfl⟩ := hq
    rw [if_neg (by simp)]
    cases last with
    | true => rw [if_pos rfl, h, blocksS_last hb]
    | false => rw [if_neg (by simp), h, blocksS_on hb]
theorem BlkR.met {s : ByteArray} {limit M : Int} {P : Nat} {out : List Nat} {p' : Nat} {out' : List Nat} (h : BlkR s limit M P out false p' out' 0) (hq : blkS s limit M p' out' = .met) : blocksS s limit M P out = .met := by
  unfold BlkR at h
  rw [if_neg (by simp), if_neg (by simp)] at h
  rw [h, blocksS_met hq]
/-- behind a frame's blocks, and behind each of the two looks that follow -/
def AftQ (N0 b f : Nat) (s : ByteArray) (limit : Int) (P : Nat) (out : List Nat) (D0 : Nat → Value) (fs : List (Nat × Value × List Int)) (w : World) (r : Res) (G : Nat → List Nat → Res) (wx : World) : Prop :=
  ∃ (p' : Nat) (out' : List Nat) (e' : Int) (C' D' : Nat → Value) (ks' : List Int), BSt N0 wx b f s limit p' out' e' out.length C' D' fs ks' ∧ (∀ i, i ≠ 5 → D' i = D0 i) ∧ UpdS (fun j => N0 ≤ j) w wx ∧ (e' = 0 → P ≤ p') ∧ (((2 : Int) ∈ ks' ∧ r = .met) ∨ (e' ≠ 0 ∧ r = .bad e') ∨ (e' = 0 ∧ r = G p' out'))
theorem sm_drewN (w : World) (n : Nat) : Sm w (w.drewN n) := ⟨rfl, rfl, rfl, rfl⟩
/-- what stands behind the look at the size -/
def endC (s : ByteArray) (ck : Bool) (a : Nat) (p : Nat) (out : List Nat) : Res :=
  if ck = true then
    if s.size < p + 4 then .bad 2
    else if numN (gOf s) p 4 ≠ low32 (xsumN (baOf (out.drop a))) then .bad 16
    else .go (p + 4) out true
  else .go p out true
theorem endS_is (s : ByteArray) (td ck : Bool) (SZ a p : Nat) (out : List Nat) : endS s td ck SZ a p out = if td = true ∧ SZ ≠ out.length - a then .bad 15 else endC s ck a p out := rfl
theorem size_ne {SZ a n : Nat} (h : SZ < 18446744073709551616) (ha : a ≤ n) (hn : n ≤ 1000000000) : ((n : Int) - (a : Int) != wrap64 (SZ : Int)) = decide (SZ ≠ n - a) := by
  by_cases e : SZ = n - a
  · rw [decide_eq_false (fun h => h e), bne_eq_false_iff_eq, e, wrap_small _ (by omega)]; omega
  · rw [decide_eq_true e, bne_iff_ne]
    rcases wrap_cases SZ h with ⟨e1, e2⟩ | ⟨e1, e2⟩
    · omega
    · omega
/-- 'string(bytes)', wherever they lie -/
theorem conv_cut (w : World) (pa : Option Addr) (g off n cap : Nat) (l : List Nat) (hq : pa = none ∨ ∃ ab ao, pa = some ⟨ab, ao, none⟩) (hn : l.length = n) (hp : n ≠ 0 → pa = some ⟨g, off, none⟩) (h : ∀ i, i < n → w.cell? ⟨g, off + i, none⟩ = some (.int .u8 (l.getD i 0 : Int))) :
    (convert 33 9 (.slice pa n cap)).run Try.prog w = .ok (.string (baOf l)) w := by
  subst hn
  by_cases h0 : l.length = 0
  · have hl : l = [] := List.length_eq_zero_iff.1 h0
    subst hl
    rcases hq with rfl | ⟨ab, ao, rfl⟩
    · exact run_convert_bytes_nil (P := Try.prog) w 33 5 Try.underlying33 Try.underlying5 0 cap 9 Try.underlying9
    · exact conv_bytes w ab ao cap [] (fun i hi => by simp at hi)
  · rw [hp h0]
    exact conv_bytes w g off cap l h
theorem addr_add (g o n : Nat) : (⟨g, o, none⟩ : Addr).add n = ⟨g, o + n, none⟩ := by unfold Addr.add; split <;> simp_all
theorem bvs_get (l : List Nat) (i : Nat) (h : i < l.length) : (bvs l)[i]? = some (.int .u8 (l.getD i 0 : Int)) := by simp [bvs, List.getD, h]
/-- what came out from place a on, as a string -/
theorem out_conv {w : World} {pa : Option Addr} {cap : Nat} {out : List Nat} (h : OutAt w (.slice pa out.length cap) out) (a : Nat) (ha : a ≤ out.length) : out.length ≤ cap ∧ ∀ w' : World, w'.heap = w.heap → (convert 33 9 (.slice (if cap = a then pa else Option.map (fun x => x.add a) pa) (out.length - a) (cap - a))).run Try.prog w' = .ok (.string (baOf (out.drop a))) w' := by
  rcases h.row.2 with ⟨e1, e2⟩ | ⟨g, cp, cur, e1, _, e3, e4, _, e6, e7⟩
  · injection e1 with e1a e1b e1c
    subst e1a e1c
    refine ⟨by omega, fun w' _ => ?_⟩
    exact conv_cut w' _ 0 0 _ _ (out.drop a) (.inl (by split <;> rfl)) (by rw [List.length_drop]) (fun h => by omega) (fun i hi => by omega)
  · injection e1 with e1a e1b e1c
    subst e1a e1c
    refine ⟨e4, fun w' hw => ?_⟩
    refine conv_cut w' _ g a _ _ (out.drop a) (.inr ?_) (by rw [List.length_drop]) (fun h0 => ?_) (fun i hi => ?_)
    · split
      · exact ⟨g, 0, rfl⟩
      · exact ⟨g, 0 + a, by rw [Option.map_some, addr_add]⟩
    · rw [if_neg (by omega), Option.map_some, addr_add, Nat.zero_add]
    · rw [World.cell?_of_block (w := w) (a := ⟨g, a + i, none⟩) (by rw [hw])]
      have hx : cur.toList[a + i]? = some (.int .u8 (out.getD (a + i) 0 : Int)) := by
        rw [← bvs_get out (a + i) (by omega), ← e7, List.getElem?_take_of_lt (by omega)]
      simp only [World.cell?, e3]
      rw [← Array.getElem?_toList, hx]
      simp [List.getD]
set_option maxRecDepth 100000 in
set_option maxHeartbeats 8000000 in
theorem frame_w (N0 b : Nat) (s : ByteArray) (limit : Int) (p : Nat) (out : List Nat) (C : Nat → Value) (fs : List (Nat × Value × List Int)) (w : World) (h : RSt N0 w b s limit p out 0 C fs) (hs : s.size ≤ 16384) :
    Calls Try.prog 22 #[.pointer (some ⟨b, 0, none⟩)] w fun x w' => FrmQ N0 b s limit p fs (frameS s limit p out) w x w' := by
  obtain ⟨fr0, F0⟩ := h.st
  obtain ⟨hpl, hol, hfl⟩ := h.pl rfl
  have HR0 : Hid (RSt N0 w b s limit p out 0 C fs) := h
  have HF0 : Hid (FSt0 w b (Z4 (C 4)) s limit p out 0 fr0 C) := F0
  have hCC : CC C p 0 = C := by
    unfold CC
    rw [upV_id F0.c15, upV_id F0.c1]
  have HHD : Hid (Calls Try.prog 28 #[.pointer (some ⟨b, 0, none⟩)] w fun x w' => HeaderQ b C s p 0 w x w') := header_w b C s p 0 w (by rw [hCC]; exact F0.wc) F0.c0 (by omega) (by omega)
  have hbl : b < w.heap.size := F0.wc.lt
  clear h F0 hCC
  go_enter Try.func22, Try.ntmps22
  go_wp2_with fail
  refine HHD.out.mono ?_
  rintro x w1 ⟨v, hrel, rfl, hst⟩
  obtain ⟨he7, hok⟩ := head_is hrel
  rw [he7] at hst
  have hCk : ∀ i, i ≠ 1 → i ≠ 15 → CC C v.p4 (hdE s p) i = C i := fun i h1 h2 => by unfold CC; rw [upV_other _ _ _ _ h1, upV_other _ _ _ _ h2]
  have c15 := hst.wc.c 15 (by omega)
  rw [CC_15] at c15
  by_cases he : hdE s p = 0
  · obtain ⟨k1, k2, k3, k4, k5, k6, k7, k8⟩ := hok he
    have hFS : frameS s limit p out = afterS s (decide (0 < sizeW (gOf s p))) (decide (gOf s p / 4 % 2 = 1)) (hSize (gOf s p) (hdZ s p)) out.length (blocksS s limit (hdM s p) (hdEnd s p) out) := by
      unfold frameS; rw [if_neg (fun h => h he)]
    rw [he, k1, k3, k5, k7, k8] at hst
    rw [he] at c15
    obtain ⟨P, hP⟩ : ∃ P, P = hdEnd s p := ⟨_, rfl⟩
    obtain ⟨Wn, hWn⟩ : ∃ Wn, Wn = hWin (gOf s p) (hdV s p) (hdZ s p) := ⟨_, rfl⟩
    obtain ⟨SZ, hSZ⟩ : ∃ SZ, SZ = hSize (gOf s p) (hdZ s p) := ⟨_, rfl⟩
    obtain ⟨td, htd⟩ : ∃ td, td = decide (0 < sizeW (gOf s p)) := ⟨_, rfl⟩
    obtain ⟨ck, hck⟩ : ∃ ck, ck = decide (gOf s p / 4 % 2 = 1) := ⟨_, rfl⟩
    have hMM : hdM s p = mostN (Wn : Int) := by rw [most_is, hWn]; rfl
    have hpP : p < P := by rw [hP]; exact hdEnd_gt s p
    have hPs : P ≤ s.size := by rw [hP]; exact k2
    rw [← hP, ← hWn, ← hSZ, ← htd, ← hck] at hst
    rw [← hP, ← hSZ, ← htd, ← hck, hMM] at hFS
    rw [← hSZ] at k6
    obtain ⟨sg, hsg⟩ : ∃ sg, sg = v.sg := ⟨_, rfl⟩
    rw [← hsg] at hst
    have HFS : Hid (frameS s limit p out = afterS s td ck SZ out.length (blocksS s limit (mostN (Wn : Int)) P out)) := hFS
    have HSZ : Hid (SZ < 18446744073709551616) := k6
    clear hFS hP hWn hSZ htd hck hMM k1 k2 k3 k4 k5 k6 k7 k8 hok he7 hrel hCk he hsg
    have HST : Hid (HSt w w1 b w.heap.size C P 0 (Wn : Int) (wrap64 (SZ : Int)) sg td ck) := hst
    obtain ⟨f, hf⟩ : ∃ f, f = w.heap.size := ⟨_, rfl⟩
    have hb1 : ∀ j, (C 4).ownBlock = some j → j < w.heap.size ∧ j ≠ b := fun j hj => ⟨(row_lt HR0.out.fs4 j hj).2, fun e => HF0.out.nb (e ▸ hj)⟩
    have HB4 : Hid (∀ j, (C 4).ownBlock = some j → j < w.heap.size ∧ j ≠ b) := hb1
    have HR4 : Hid (w1.ownsRow 0 42 1 (C 4) fs.length (ptrs fs)) := row_same HR0.out.fs4 (fun g hg => hst.upd.block g (hb1 g hg).1 (hb1 g hg).2)
    obtain ⟨p4, g4, c4, hv4, _⟩ := row_open HR0.out.fs4
    have HV4 : Hid (C 4 = .slice p4 fs.length c4) := hv4
    rw [hv4] at HR4
    have d4 := hst.wc.c 4 (by omega)
    rw [show CC C P 0 4 = C 4 from by unfold CC; rw [upV_other _ _ _ _ (by omega), upV_other _ _ _ _ (by omega)], hv4] at d4
    have hfl1 : fs.length ≤ 16384 := by omega
    have hb1l : b < w1.heap.size := hst.wc.lt
    clear hst hb1 hv4
    rw [← hf]
    have HFE : Hid (f = w.heap.size) := hf
    clear hf
    go_upto_region 3 with (at_builtin; refine apg_list Try.underlying34 fPtr rfl (by decide) (by rfl) (.tmp 18) (.tmp 20) (by rfl) (by first | rfl | simp) (gb := w1.heap.size) (by simp [Act.eval]) HR4.out (by omega) (by omega) (by repeat (first | exact Below.refl _ _ | refine Below.drew ?_ | refine Below.alloc ?_ (by simp <;> omega) _)) [.pointer (some ⟨f, 0, none⟩)] (by rfl) (news_at (fun j hj => by rcases (show j = 0 by simp at hj; omega) with rfl; simp)) (fun u hu => by simp at hu; subst hu; rfl) ?_; intro g1 cap1 w2 hfin)
    obtain ⟨v4, hv4e⟩ : ∃ v4, v4 = Value.slice (some ⟨g1, 0, none⟩) (fs.length + 1) cap1 := ⟨_, rfl⟩
    have hU2 := hfin.out.2.1
    rw [← HV4.out] at hU2
    have HN : Hid (w2.ownsRow 0 42 1 v4 (fs.length + 1) (ptrs fs ++ [.pointer (some ⟨w.heap.size, 0, none⟩)]) ∧ UpdS (fun q => (C 4).ownBlock = some q) w1 w2 ∧ Moved w1 (C 4) v4) := ⟨by rw [hv4e, ← HFE.out]; exact hfin.out.1, hU2, by rw [HV4.out, hv4e]; exact hfin.out.2.2⟩
    have HW2 : Hid (Wc w2 b (CC C P 0)) := HST.out.wc.keep (hU2.block b hb1l (fun e => (HB4.out b e).2 rfl))
    have hC1 : ∀ i, i ≠ 1 → i ≠ 15 → CC C P 0 i = C i := fun i h1 h2 => by unfold CC; rw [upV_other _ _ _ _ h1, upV_other _ _ _ _ h2]
    have HC1 : Hid ((∀ i, i ≠ 1 → i ≠ 15 → CC C P 0 i = C i) ∧ CC C P 0 1 = .int .i64 (P : Int) ∧ CC C P 0 15 = .int .i64 0) := ⟨hC1, CC_1 _ _ _, CC_15 _ _ _⟩
    obtain ⟨C1, hC1e⟩ : ∃ C1, C1 = CC C P 0 := ⟨_, rfl⟩
    rw [← hC1e] at HW2 HC1
    have x4 := HW2.out.c 4 (by omega)
    rw [HC1.out.1 4 (by omega) (by omega), HV4.out] at x4
    have z4 := HW2.out.fz 4
    obtain ⟨po, co, hvo⟩ := HF0.out.oa.shape
    have x3 := HW2.out.c 3 (by omega)
    rw [HC1.out.1 3 (by omega) (by omega), hvo] at x3
    have x5 := HW2.out.c 5 (by omega)
    rw [HC1.out.1 5 (by omega) (by omega), HF0.out.c5] at x5
    have z5 := HW2.out.fz 5
    obtain ⟨W3, hW3⟩ : ∃ W3, W3 = (w2.setCell ⟨b, 4, none⟩ v4).setCell ⟨b, 5, none⟩ (.int .i64 (out.length : Int)) := ⟨_, rfl⟩
    obtain ⟨C3, hC3⟩ : ∃ C3, C3 = upV (upV C1 4 v4) 5 (.int .i64 (out.length : Int)) := ⟨_, rfl⟩
    have HW3 : Hid (Wc W3 b C3 ∧ Upd b w2 W3) := by
      rw [hW3, hC3]
      exact ⟨(HW2.out.set 4 (by omega) _).set 5 (by omega) _, ((Upd.refl b w2).setCell 4 _).setCell 5 _⟩
    have HC3 : Hid ((∀ i, i ≠ 1 → i ≠ 15 → i ≠ 4 → i ≠ 5 → C3 i = C i) ∧ C3 1 = .int .i64 (P : Int) ∧ C3 15 = .int .i64 0 ∧ C3 4 = v4 ∧ C3 5 = .int .i64 (out.length : Int)) := by
      rw [hC3]
      refine ⟨fun i h1 h2 h3 h4 => ?_, ?_, ?_, ?_, upV_same _ _ _⟩
      · rw [upV_other _ _ _ _ h4, upV_other _ _ _ _ h3]; exact HC1.out.1 i h1 h2
      · rw [upV_other _ _ _ _ (by omega), upV_other _ _ _ _ (by omega)]; exact HC1.out.2.1
      · rw [upV_other _ _ _ _ (by omega), upV_other _ _ _ _ (by omega)]; exact HC1.out.2.2
      · rw [upV_other _ _ _ _ (by omega), upV_same]
    clear hfin hU2 hC1 hC1e hC3 hvo d4 c15 HR4
    go_upto_region 5 with fail
    rw [← hv4e, ← hW3]
    clear hW3 x4 z4 x3 x5 z5 hv4e
    go_wp2_with fail
    go_loopw [4] (fun tv wr => ∃ (t : Nat) (Cx : Nat → Value), tv = .int .i64 (t : Int) ∧ t ≤ 3 ∧ Wc wr b Cx ∧ Upd b W3 wr ∧ (∀ i, i ≠ 7 → i ≠ 8 → i ≠ 9 → Cx i = C3 i) ∧ ∀ i, i < t → Cx (7 + i) = .pointer none) (fun tv _ => (3 - intOf tv).toNat)
    case atStart => exact ⟨0, C3, rfl, by omega, HW3.out.1, Upd.refl _ _, fun _ _ _ _ => rfl, fun i hi => by omega⟩
    case round =>
      obtain ⟨t, Cx, rfl, ht, hWx, hUx, hCx, hN7⟩ := hrel
      have HX : Hid (Wc wr b Cx ∧ Upd b W3 wr ∧ (∀ i, i ≠ 7 → i ≠ 8 → i ≠ 9 → Cx i = C3 i) ∧ ∀ i, i < t → Cx (7 + i) = .pointer none) := ⟨hWx, hUx, hCx, hN7⟩
      by_cases ht3 : t < 3
      · have htI : (t : Int) < 3 := by omega
        have ht0 : (0 : Int) ≤ (t : Int) := by omega
        have ca := hWx.c (7 + t) (by omega)
        have fa := hWx.fz (7 + t)
        clear hWx hUx hCx hN7
        go_wp2_with fail
        refine ⟨⟨t + 1, upV Cx (7 + t) (.pointer none), by go_num, by omega, HX.out.1.set (7 + t) (by omega) _, HX.out.2.1.setCell (7 + t) _, fun i h1 h2 h3 => ?_, fun i hi => ?_⟩, by simp [intOf]; omega⟩
        · rw [upV_other _ _ _ _ (by omega)]; exact HX.out.2.2.1 i h1 h2 h3
        · by_cases e : i = t
          · subst e; exact upV_same _ _ _
          · rw [upV_other _ _ _ _ (by omega)]; exact HX.out.2.2.2 i (by omega)
      · have htd : decide ((t : Int) < 3) = false := decide_eq_false (by omega)
        have y14 := hWx.c 14 (by omega)
        have q14 := hWx.fz 14
        have y10 := hWx.c 10 (by omega)
        have q10 := hWx.fz 10
        have y11 := hWx.c 11 (by omega)
        have q11 := hWx.fz 11
        have y12 := hWx.c 12 (by omega)
        have q12 := hWx.fz 12
        obtain ⟨W4, hW4⟩ : ∃ W4, W4 = (((wr.setCell ⟨b, 14, none⟩ (.bool false)).setCell ⟨b, 10, none⟩ (.int .i64 1)).setCell ⟨b, 11, none⟩ (.int .i64 4)).setCell ⟨b, 12, none⟩ (.int .i64 8) := ⟨_, rfl⟩
        obtain ⟨D0, hD0⟩ : ∃ D0, D0 = DD (Wn : Int) (wrap64 (SZ : Int)) sg td ck := ⟨_, rfl⟩
        have HBG : Hid (∃ CS, BSt N0 W4 b f s limit P out 0 out.length CS D0 fs [] ∧ UpdS (fun j => N0 ≤ j) w W4) := by
          obtain ⟨CS, hCS⟩ : ∃ CS, CS = upV (upV (upV (upV Cx 14 (.bool false)) 10 (.int .i64 1)) 11 (.int .i64 4)) 12 (.int .i64 8) := ⟨_, rfl⟩
          have hk : ∀ i, i ≠ 14 → i ≠ 10 → i ≠ 11 → i ≠ 12 → CS i = Cx i := fun i h1 h2 h3 h4 => by rw [hCS, upV_other _ _ _ _ h4, upV_other _ _ _ _ h3, upV_other _ _ _ _ h2, upV_other _ _ _ _ h1]
          have hk3 : ∀ i, i ≠ 14 → i ≠ 10 → i ≠ 11 → i ≠ 12 → i ≠ 7 → i ≠ 8 → i ≠ 9 → CS i = C3 i := fun i h1 h2 h3 h4 h5 h6 h7 => (hk i h1 h2 h3 h4).trans (hCx i h5 h6 h7)
          have hU4 : Upd b w2 W4 := by rw [hW4]; exact HW3.out.2.trans ((((hUx.setCell 14 _).setCell 10 _).setCell 11 _).setCell 12 _)
          have hWc4 : Wc W4 b CS := by rw [hW4, hCS]; exact (((hWx.set 14 (by omega) _).set 10 (by omega) _).set 11 (by omega) _).set 12 (by omega) _
          refine ⟨CS, ?_⟩
          rw [HFE.out, hD0]
          refine BSt.begin HR0.out HST.out HN.out.1 HN.out.2.1 HN.out.2.2 hU4 hWc4 ?_ ?_ ?_ ?_ ?_ ?_ ?_ (fun i hi => ?_) ?_ ?_ ?_ ?_ ?_ ?_ hpP hPs
          · exact (hk3 0 (by omega) (by omega) (by omega) (by omega) (by omega) (by omega) (by omega)).trans (HC3.out.1 0 (by omega) (by omega) (by omega) (by omega))
          · exact (hk3 1 (by omega) (by omega) (by omega) (by omega) (by omega) (by omega) (by omega)).trans HC3.out.2.1
          · exact (hk3 2 (by omega) (by omega) (by omega) (by omega) (by omega) (by omega) (by omega)).trans (HC3.out.1 2 (by omega) (by omega) (by omega) (by omega))
          · exact (hk3 3 (by omega) (by omega) (by omega) (by omega) (by omega) (by omega) (by omega)).trans (HC3.out.1 3 (by omega) (by omega) (by omega) (by omega))
          · exact (hk3 4 (by omega) (by omega) (by omega) (by omega) (by omega) (by omega) (by omega)).trans HC3.out.2.2.2.1
          · exact (hk3 5 (by omega) (by omega) (by omega) (by omega) (by omega) (by omega) (by omega)).trans HC3.out.2.2.2.2
          · exact (hk3 6 (by omega) (by omega) (by omega) (by omega) (by omega) (by omega) (by omega)).trans (HC3.out.1 6 (by omega) (by omega) (by omega) (by omega))
          · exact (hk (7 + i) (by omega) (by omega) (by omega) (by omega)).trans (hN7 i (by omega))
          · rw [hCS, upV_other _ _ _ _ (by omega), upV_other _ _ _ _ (by omega), upV_same]
          · rw [hCS, upV_other _ _ _ _ (by omega), upV_same]
          · rw [hCS, upV_same]
          · exact (hk3 13 (by omega) (by omega) (by omega) (by omega) (by omega) (by omega) (by omega)).trans (HC3.out.1 13 (by omega) (by omega) (by omega) (by omega))
          · rw [hCS, upV_other _ _ _ _ (by omega), upV_other _ _ _ _ (by omega), upV_other _ _ _ _ (by omega), upV_same]
          · exact (hk3 15 (by omega) (by omega) (by omega) (by omega) (by omega) (by omega) (by omega)).trans HC3.out.2.2.1
        have HD0 : Hid (D0 = DD (Wn : Int) (wrap64 (SZ : Int)) sg td ck) := hD0
        clear hWx hUx hCx hN7 hD0 HX
        go_upto_block 2 with fail
        rw [← hW4]
        clear hW4 y14 q14 y10 q10 y11 q11 y12 q12 htd ht ht3
        go_cut [] from 58 to 69 (AftQ N0 b f s limit P out D0 fs w (frameS s limit p out) (fun p' out' => endS s td ck SZ out.length p' out'))
        case first =>
          obtain ⟨CS, hBS, hBU⟩ := HBG.out
          have HBS : Hid (BSt N0 W4 b f s limit P out 0 out.length CS D0 fs [] ∧ UpdS (fun j => N0 ≤ j) w W4) := ⟨hBS, hBU⟩
          clear hBS hBU HBG
          go_wp2_with fail
          go_loopw [5] (fun lv wr => ∃ (en : Bool) (p' : Nat) (out' : List Nat) (e' : Int) (C' D' : Nat → Value) (ks' : List Int), lv = .bool en ∧ BSt N0 wr b f s limit p' out' e' out.length C' D' fs ks' ∧ (∀ i, i ≠ 5 → D' i = D0 i) ∧ UpdS (fun j => N0 ≤ j) w wr ∧ (e' = 0 → P ≤ p') ∧ (((2 : Int) ∈ ks' ∧ blocksS s limit (mostN (Wn : Int)) P out = .met) ∨ BlkR s limit (mostN (Wn : Int)) P out en p' out' e')) (fun _ wr => leftW s.size b wr)
          case atStart => exact ⟨false, P, out, 0, CS, D0, [], rfl, HBS.out.1, fun _ _ => rfl, HBS.out.2, fun _ => Nat.le_refl _, .inr (by unfold BlkR; rw [if_neg (by simp), if_neg (by simp)])⟩
          case round =>
            rename World => wA
            obtain ⟨en, p', out', e', C', D', ks', rfl, hB, hD, hU, hPp, hR⟩ := hrel
            have HB : Hid (BSt N0 wA b f s limit p' out' e' out.length C' D' fs ks' ∧ (∀ i, i ≠ 5 → D' i = D0 i) ∧ UpdS (fun j => N0 ≤ j) w wA ∧ (e' = 0 → P ≤ p') ∧ (((2 : Int) ∈ ks' ∧ blocksS s limit (mostN (Wn : Int)) P out = .met) ∨ BlkR s limit (mostN (Wn : Int)) P out en p' out' e')) := ⟨hB, hD, hU, hPp, hR⟩
            have c15 := hB.st.wc.c 15 (by omega)
            rw [hB.st.c15] at c15
            clear hB hD hU hPp hR
            cases en with
            | true =>
              have HAF : Hid (AftQ N0 b f s limit P out D0 fs w (frameS s limit p out) (fun p' out' => endS s td ck SZ out.length p' out') wA) := by
                refine ⟨p', out', e', C', D', ks', HB.out.1, HB.out.2.1, HB.out.2.2.1, HB.out.2.2.2.1, ?_⟩
                rcases HB.out.2.2.2.2 with g | g
                · exact .inl ⟨g.1, by rw [HFS.out, g.2]; rfl⟩
                · refine .inr ?_
                  unfold BlkR at g
                  by_cases he : e' = 0
                  · rw [if_neg (fun h => h he), if_pos rfl] at g
                    exact .inr ⟨he, by rw [HFS.out, g]; rfl⟩
                  · rw [if_pos he] at g
                    exact .inl ⟨he, by rw [HFS.out, g]; rfl⟩
              go_wp2_with fail
              go_meet
              exact HAF.out
            | false =>
              by_cases he : e' = 0
              · subst he
                have hd0 : D' 0 = .int .i64 (Wn : Int) := by rw [HB.out.2.1 0 (by omega), HD0.out]; rfl
                have HBW : Hid (Calls Try.prog 29 #[.pointer (some ⟨b, 0, none⟩), .pointer (some ⟨f, 0, none⟩)] wA fun x w' => BlkQ N0 b f s limit p' out' out.length D' fs ks' (mostN (Wn : Int)) wA x w') := block_w N0 b f s limit p' out' out.length C' D' fs ks' (Wn : Int) wA HB.out.1 hd0 (by omega) hs
                have HP0 : Hid (P ≤ p') := HB.out.2.2.2.1 rfl
                clear hd0
                go_wp2_with fail
                refine HBW.out.mono ?_
                rintro x wB ⟨last, p2, o2, e2, C2, D2, ks2, rfl, g1, g2, g3, g4, g5, g6⟩
                have HN2 : Hid (BSt N0 wB b f s limit p2 o2 e2 out.length C2 D2 fs ks2 ∧ (∀ i, i ≠ 5 → D2 i = D0 i) ∧ UpdS (fun j => N0 ≤ j) w wB ∧ (e2 = 0 → P ≤ p2) ∧ (((2 : Int) ∈ ks2 ∧ blocksS s limit (mostN (Wn : Int)) P out = .met) ∨ BlkR s limit (mostN (Wn : Int)) P out last p2 o2 e2) ∧ leftW s.size b wB < leftW s.size b wA) := by
                  refine ⟨g1, fun i hi => (g2 i hi).trans (HB.out.2.1 i hi), HB.out.2.2.1.same g4, fun h => by have := g3 h; have := HP0.out; omega, ?_, ?_⟩
                  · rcases HB.out.2.2.2.2 with e | e
                    · exact .inl ⟨g5 e.1, e.2⟩
                    · rcases g6 with g | g
                      · exact .inl ⟨g.1, e.met g.2⟩
                      · exact .inr (e.step g)
                  · rw [g1.st.to0.left s.size, HB.out.1.st.to0.left s.size, if_pos rfl]
                    have := HB.out.1.pl
                    by_cases h2 : e2 = 0
                    · rw [if_pos h2]; have := g3 h2; omega
                    · rw [if_neg h2]; omega
                clear g1 g2 g3 g4 g5 g6 HBW
                go_wp2_with fail
                exact ⟨⟨last, p2, o2, e2, C2, D2, ks2, rfl, HN2.out.1, HN2.out.2.1, HN2.out.2.2.1, HN2.out.2.2.2.1, HN2.out.2.2.2.2.1⟩, HN2.out.2.2.2.2.2⟩
              · have heb : (e' == 0) = false := by rw [beq_eq_false_iff_ne]; exact he
                have HAF : Hid (AftQ N0 b f s limit P out D0 fs w (frameS s limit p out) (fun p' out' => endS s td ck SZ out.length p' out') wA) := by
                  refine ⟨p', out', e', C', D', ks', HB.out.1, HB.out.2.1, HB.out.2.2.1, HB.out.2.2.2.1, ?_⟩
                  rcases HB.out.2.2.2.2 with g | g
                  · exact .inl ⟨g.1, by rw [HFS.out, g.2]; rfl⟩
                  · refine .inr (.inl ⟨he, ?_⟩)
                    unfold BlkR at g
                    rw [if_pos he] at g
                    rw [HFS.out, g]; rfl
                clear he
                go_wp2_with fail
                go_meet
                exact HAF.out
        case rest =>
          have HAF : Hid (AftQ N0 b f s limit P out D0 fs w (frameS s limit p out) (fun p' out' => endS s td ck SZ out.length p' out') wc) := hcut
          clear hcut HBG
          obtain ⟨r, hr⟩ : ∃ r, r = frameS s limit p out := ⟨_, rfl⟩
          rw [← hr] at HAF
          have HRR : Hid (r = frameS s limit p out) := hr
          clear hr
          obtain ⟨p', out', e', C', D', ks', hB, hD, hU, hPp, hR⟩ := HAF.out
          have HB : Hid (BSt N0 wc b f s limit p' out' e' out.length C' D' fs ks' ∧ (∀ i, i ≠ 5 → D' i = D0 i) ∧ UpdS (fun j => N0 ≤ j) w wc ∧ (e' = 0 → P ≤ p') ∧ (((2 : Int) ∈ ks' ∧ r = .met) ∨ (e' ≠ 0 ∧ r = .bad e') ∨ (e' = 0 ∧ r = endS s td ck SZ out.length p' out'))) := ⟨hB, hD, hU, hPp, hR⟩
          have c15 := hB.st.wc.c 15 (by omega)
          rw [hB.st.c15] at c15
          obtain ⟨po', co', hvo'⟩ := hB.st.oa.shape
          have x3 := hB.st.wc.c 3 (by omega)
          rw [hvo'] at x3
          have x5 := hB.st.wc.c 5 (by omega)
          rw [hB.st.c5] at x5
          have d3 := hB.fc.c 3 (by omega)
          rw [hD 3 (by omega), HD0.out, show DD (Wn : Int) (wrap64 (SZ : Int)) sg td ck 3 = .bool td from rfl] at d3
          have d1 := hB.fc.c 1 (by omega)
          rw [hD 1 (by omega), HD0.out, show DD (Wn : Int) (wrap64 (SZ : Int)) sg td ck 1 = .int .i64 (wrap64 (SZ : Int)) from rfl] at d1
          have hol' : out'.length ≤ 715827882 := by have := hB.ol; have := hB.pl; omega
          have hoo : out.length ≤ out'.length := hB.st.fl
          obtain ⟨Bs, hBs⟩ : ∃ Bs : Bool, Bs = decide (SZ ≠ out'.length - out.length) := ⟨_, rfl⟩
          have hne : ((out'.length : Int) - (out.length : Int) != wrap64 (SZ : Int)) = Bs := by rw [hBs]; exact size_ne HSZ.out hoo (by omega)
          have HBs : Hid (Bs = decide (SZ ≠ out'.length - out.length)) := hBs
          obtain ⟨z, hz⟩ : ∃ z, z = wrap64 (SZ : Int) := ⟨_, rfl⟩
          rw [← hz] at d1 hne
          have hooI : (out.length : Int) ≤ (out'.length : Int) := by omega
          clear hB hD hU hPp hR HAF hBs hz hvo'
          go_upto_region 16 with fail
          go_cut [97] from 70 to 97 (fun v wx => v = .bool (decide (e' = 0) && (td && Bs)) ∧ Sm wc wx)
          case first =>
            by_cases he : e' = 0
            · have hed : decide (e' = 0) = true := decide_eq_true he
              subst he
              cases td with
              | false =>
                go_quiet (fail)
                go_wp2_with fail
                go_meet
                exact ⟨by simp, sm_drewN _ _⟩
              | true =>
                go_quiet (fail)
                go_wp2_with fail
                go_meet
                exact ⟨by simp, sm_drewN _ _⟩
            · have hed : decide (e' = 0) = false := decide_eq_false he
              have heb : (e' == 0) = false := by rw [beq_eq_false_iff_ne]; exact he
              clear he
              go_quiet (fail)
              go_wp2_with fail
              go_meet
              exact ⟨by simp [hed], sm_drewN _ _⟩
          case rest =>
            obtain ⟨rfl, hsm⟩ := hcut
            rename World => wE
            obtain ⟨hBE, hUE⟩ := HB.out.1.below (hsm.below _)
            have HBE : Hid (BSt N0 wE b f s limit p' out' e' out.length C' D' fs ks' ∧ UpdS (fun j => N0 ≤ j) w wE) := ⟨hBE, HB.out.2.2.1.same hUE⟩
            clear hBE hUE hsm c15 x3 x5 d3 d1 hne
            obtain ⟨B, hBB⟩ : ∃ B : Bool, B = (decide (e' = 0) && (td && Bs)) := ⟨_, rfl⟩
            rw [← hBB]
            have HBB : Hid (B = (decide (e' = 0) && (td && Bs))) := hBB
            clear hBB
            go_upto_if 97 with fail
            go_cut [] from 98 to 99 (AftQ N0 b f s limit P out D0 fs w r (fun p' out' => endC s ck out.length p' out'))
            case first =>
              cases B with
              | true =>
                have hall := HBB.out.symm
                rw [Bool.and_eq_true, Bool.and_eq_true] at hall
                obtain ⟨h1, h2, h3⟩ := hall
                have he0 := of_decide_eq_true h1
                have HE0 : Hid (e' = 0 ∧ td = true ∧ SZ ≠ out'.length - out.length) := ⟨he0, h2, of_decide_eq_true (by rw [← HBs.out]; exact h3)⟩
                clear h1 h2 h3 he0
                go_wp2_with fail
                refine (bad_any b C' e' 15 _ HBE.out.1.st.wc HBE.out.1.st.c15).mono ?_
                rintro x w5 ⟨rfl, hW5, hU5⟩
                have HAF : Hid (AftQ N0 b f s limit P out D0 fs w r (fun p' out' => endC s ck out.length p' out') w5) := by
                  have hee : errN e' 15 = 15 := by unfold errN; rw [if_pos HE0.out.1]
                  rw [hee] at hW5
                  obtain ⟨g1, g2⟩ := HBE.out.1.own hW5 hU5 (fun i h1 h2 => upV_other _ _ _ _ h2) ((upV_other _ _ _ _ (by omega)).trans HBE.out.1.st.c1) (upV_same _ _ _) (fun h => by omega) (Nat.le_refl _) HBE.out.1.pl
                  refine ⟨p', out', 15, _, D', ks', g1, HB.out.2.1, HBE.out.2.same g2, fun h => by omega, ?_⟩
                  rcases HB.out.2.2.2.2 with g | g | g
                  · exact .inl g
                  · exact absurd HE0.out.1 g.1
                  · refine .inr (.inl ⟨by omega, ?_⟩)
                    rw [g.2, endS_is, if_pos ⟨HE0.out.2.1, HE0.out.2.2⟩]
                clear hW5 hU5
                go_wp2_with fail
                go_meet
                exact HAF.out
              | false =>
                have HAF : Hid (AftQ N0 b f s limit P out D0 fs w r (fun p' out' => endC s ck out.length p' out') wE) := by
                  refine ⟨p', out', e', C', D', ks', HBE.out.1, HB.out.2.1, HBE.out.2, HB.out.2.2.2.1, ?_⟩
                  rcases HB.out.2.2.2.2 with g | g | g
                  · exact .inl g
                  · exact .inr (.inl g)
                  · refine .inr (.inr ⟨g.1, ?_⟩)
                    rw [g.2, endS_is, if_neg]
                    rintro ⟨h1, h2⟩
                    have := HBB.out
                    rw [decide_eq_true g.1, h1, HBs.out, decide_eq_true h2] at this
                    exact absurd this (by decide)
                go_wp2_with fail
                go_meet
                exact HAF.out
            case rest =>
              rename World => wF
              have HAF : Hid (AftQ N0 b f s limit P out D0 fs w r (fun p' out' => endC s ck out.length p' out') wF) := hcut
              clear hcut HB HBE HBB HBs
              clear p' out' e' C' D' ks' hol' hoo hooI
              obtain ⟨p', out', e', C', D', ks', hB, hD, hU, hPp, hR⟩ := HAF.out
              have HB : Hid (BSt N0 wF b f s limit p' out' e' out.length C' D' fs ks' ∧ (∀ i, i ≠ 5 → D' i = D0 i) ∧ UpdS (fun j => N0 ≤ j) w wF ∧ (e' = 0 → P ≤ p') ∧ (((2 : Int) ∈ ks' ∧ r = .met) ∨ (e' ≠ 0 ∧ r = .bad e') ∨ (e' = 0 ∧ r = endC s ck out.length p' out'))) := ⟨hB, hD, hU, hPp, hR⟩
              have c15 := hB.st.wc.c 15 (by omega)
              rw [hB.st.c15] at c15
              have d4 := hB.fc.c 4 (by omega)
              rw [hD 4 (by omega), HD0.out, show DD (Wn : Int) (wrap64 (SZ : Int)) sg td ck 4 = .bool ck from rfl] at d4
              clear hB hD hU hPp hR HAF
              go_upto_region 18 with fail
              go_cut [110] from 100 to 110 (fun v wx => v = .bool (decide (e' = 0) && ck) ∧ wx = wF)
              case first =>
                by_cases he : e' = 0
                · have hed : decide (e' = 0) = true := decide_eq_true he
                  subst he
                  cases ck with
                  | false =>
                    go_wp2_with fail
                    go_meet
                    exact ⟨by simp, rfl⟩
                  | true =>
                    go_wp2_with fail
                    go_meet
                    exact ⟨by simp, rfl⟩
                · have hed : decide (e' = 0) = false := decide_eq_false he
                  have heb : (e' == 0) = false := by rw [beq_eq_false_iff_ne]; exact he
                  clear he
                  go_wp2_with fail
                  go_meet
                  exact ⟨by simp [hed], rfl⟩
              case rest =>
                obtain ⟨rfl, hwx⟩ := hcut
                rw [hwx]
                clear hwx c15 d4
                obtain ⟨B, hBB⟩ : ∃ B : Bool, B = (decide (e' = 0) && ck) := ⟨_, rfl⟩
                rw [← hBB]
                have HBB : Hid (B = (decide (e' = 0) && ck)) := hBB
                clear hBB
                go_upto_if 110 with fail
                go_cut [] from 111 to 129 (AftQ N0 b f s limit P out D0 fs w r (fun p' out' => .go p' out' true))
                case first =>
                  cases B with
                  | false =>
                    have HAF : Hid (AftQ N0 b f s limit P out D0 fs w r (fun p' out' => .go p' out' true) wF) := by
                      refine ⟨p', out', e', C', D', ks', HB.out.1, HB.out.2.1, HB.out.2.2.1, HB.out.2.2.2.1, ?_⟩
                      rcases HB.out.2.2.2.2 with g | g | g
                      · exact .inl g
                      · exact .inr (.inl g)
                      · refine .inr (.inr ⟨g.1, ?_⟩)
                        have hb := HBB.out
                        rw [decide_eq_true g.1, Bool.true_and] at hb
                        rw [g.2, ← hb]; rfl
                    go_wp2_with fail
                    go_meet
                    exact HAF.out
                  | true =>
                    have hall := HBB.out.symm
                    rw [Bool.and_eq_true] at hall
                    have he0 := of_decide_eq_true hall.1
                    have hck := hall.2
                    clear hall
                    subst he0
                    have HCK : Hid (ck = true) := hck
                    clear hck
                    have HP0 : Hid (P ≤ p') := HB.out.2.2.2.1 rfl
                    have HTK : Hid (Calls Try.prog 21 #[.pointer (some ⟨b, 0, none⟩), .int .i64 ((4 : Nat) : Int)] wF fun x w' => x = .returned (.int .i64 (takeV s p' 0 4)) ∧ Wc w' b (upV (upV C' 15 (.int .i64 (takeE s p' 0 4))) 1 (.int .i64 (takeP s p' 0 4 : Int))) ∧ Upd b wF w') := take_any b C' s p' 0 4 wF HB.out.1.st.wc HB.out.1.st.c0 HB.out.1.st.c1 HB.out.1.st.c15 (by omega) (by have := HB.out.1.pl; omega) (by omega)
                    have H4 : Hid ((takeE s p' 0 4 = 2 ∧ takeP s p' 0 4 = p' ∧ s.size < p' + 4) ∨ (takeE s p' 0 4 = 0 ∧ takeV s p' 0 4 = (numN (gOf s) p' 4 : Int) ∧ takeP s p' 0 4 = p' + 4 ∧ p' + 4 ≤ s.size)) := by
                      by_cases hc : s.size < p' + 4
                      · exact .inl ⟨(take_no hc).1, (take_no hc).2.2, hc⟩
                      · refine .inr ⟨(take_yes (by omega)).1, ?_, (take_yes (by omega)).2.2, by omega⟩
                        rw [(take_yes (by omega)).2.1, wrap_small]
                        have := num_small s p' 4 (by omega)
                        omega
                    have HPS : Hid (p' ≤ takeP s p' 0 4 ∧ takeP s p' 0 4 ≤ s.size) := by
                      have := HB.out.1.pl
                      rcases H4.out with ⟨_, h2, _⟩ | ⟨_, _, h3, _⟩
                      · rw [h2]; exact ⟨by omega, by omega⟩
                      · rw [h3]; exact ⟨by omega, by omega⟩
                    obtain ⟨E4, hE4⟩ : ∃ E4, E4 = takeE s p' 0 4 := ⟨_, rfl⟩
                    obtain ⟨V4, hV4⟩ : ∃ V4, V4 = takeV s p' 0 4 := ⟨_, rfl⟩
                    obtain ⟨P4, hP4⟩ : ∃ P4, P4 = takeP s p' 0 4 := ⟨_, rfl⟩
                    rw [← hE4, ← hV4, ← hP4] at HTK H4
                    rw [← hP4] at HPS
                    clear hE4 hV4 hP4
                    go_wp2_with fail
                    refine HTK.out.mono ?_
                    rintro x w5 ⟨rfl, hW5, hU5⟩
                    obtain ⟨hB5, hUh5⟩ := HB.out.1.own hW5 hU5 (fun i h1 h2 => by rw [upV_other _ _ _ _ h1, upV_other _ _ _ _ h2]) (upV_same _ _ _) (by rw [upV_other _ _ _ _ (by omega), upV_same]) (fun _ => rfl) HPS.out.1 HPS.out.2
                    obtain ⟨C5, hC5⟩ : ∃ C5, C5 = upV (upV C' 15 (.int .i64 E4)) 1 (.int .i64 (P4 : Int)) := ⟨_, rfl⟩
                    rw [← hC5] at hB5
                    have HB5 : Hid (BSt N0 w5 b f s limit P4 out' E4 out.length C5 D' fs ks' ∧ UpdS (fun j => N0 ≤ j) w w5) := ⟨hB5, HB.out.2.2.1.same hUh5⟩
                    obtain ⟨po', co', hvo'⟩ := hB5.st.oa.shape
                    have x3 := hB5.st.wc.c 3 (by omega)
                    rw [hvo'] at x3
                    have x5 := hB5.st.wc.c 5 (by omega)
                    rw [hB5.st.c5] at x5
                    have hoo : out.length ≤ out'.length := hB5.st.fl
                    have hol' : out'.length ≤ 715827882 := by have := hB5.ol; have := hB5.pl; omega
                    obtain ⟨hco, hcv⟩ := out_conv (w := w5) (pa := po') (cap := co') (out := out') (by have := hB5.st.oa; rw [hvo'] at this; exact this) out.length hoo
                    obtain ⟨X, hX⟩ : ∃ X, X = baOf (out'.drop out.length) := ⟨_, rfl⟩
                    have hXs : X.size ≤ 4294967295 := by rw [hX, baOf_size, List.length_drop]; omega
                    have HXX : Hid (X = baOf (out'.drop out.length)) := hX
                    have hb5l : b < w5.heap.size := hB5.st.wc.lt
                    have HOA : Hid (OutAt w5 (.slice po' out'.length co') out') := by have := hB5.st.oa; rw [hvo'] at this; exact this
                    rw [← hX] at hcv
                    have kcv := hcv w5.drew rfl
                    have HSM : Hid (Calls Try.prog 30 #[.string X] w5.drew fun e w' => ∃ rh rl, e = .returned (.agg #[.int .i64 rh, .int .i64 rl]) ∧ IsH rh rl (xsumN X) ∧ Below w5.drew.heap.size w5.drew w') := rsum_any X w5.drew hXs
                    have hooI : (out.length : Int) ≤ (out'.length : Int) := by omega
                    have hcoI : (out'.length : Int) ≤ (co' : Int) := by omega
                    clear hW5 hU5 hB5 hUh5 hC5 hvo' hX hcv
                    go_upto_region 20 with fail
                    go_cut [7] from 113 to 123 (fun v wx => ∃ (k7 : Nat) (rl : Int), v = .pointer (some ⟨k7, 0, none⟩) ∧ wx.cell? ⟨k7, 1, none⟩ = some (.int .i64 rl) ∧ rl = ((low32 (xsumN X) : Nat) : Int) ∧ Below w5.heap.size w5 wx)
                    case first =>
                      clear HB HB5 HR0 HF0 HHD HFS HST HN HW2 HC1 HW3 HC3 HTK H4 HPS
                      have HKC : Hid (∀ wz : World, wz = w5.drew ∨ wz = (w5.alloc (Obj.cells #[.int .i64 0, .int .i64 0] 74)).drew → (convert 33 9 (.slice (if co' = out.length then po' else Option.map (fun x => x.add out.length) po') (out'.length - out.length) (co' - out.length))).run Try.prog wz = .ok (.string X) wz) := by
                        rintro wz (rfl | rfl)
                        · exact kcv
                        · rw [HXX.out]
                          exact (out_conv (w := w5.alloc (Obj.cells #[.int .i64 0, .int .i64 0] 74)) (pa := po') (cap := co') (out := out') ⟨row_below HOA.out.row ((Below.refl _ _).alloc (Nat.le_refl _) _)⟩ out.length hoo).2 _ rfl
                      have HSM2 : Hid (Calls Try.prog 30 #[.string X] (w5.alloc (Obj.cells #[.int .i64 0, .int .i64 0] 74)).drew fun e w' => ∃ rh rl, e = .returned (.agg #[.int .i64 rh, .int .i64 rl]) ∧ IsH rh rl (xsumN X) ∧ Below (w5.alloc (Obj.cells #[.int .i64 0, .int .i64 0] 74)).drew.heap.size (w5.alloc (Obj.cells #[.int .i64 0, .int .i64 0] 74)).drew w') := rsum_any X _ hXs
                      have HBL2 : Hid (∀ w6, Below (w5.alloc (Obj.cells #[.int .i64 0, .int .i64 0] 74)).drew.heap.size (w5.alloc (Obj.cells #[.int .i64 0, .int .i64 0] 74)).drew w6 → w6.heap[w5.heap.size]? = (w5.alloc (Obj.cells #[.int .i64 0, .int .i64 0] 74)).heap[w5.heap.size]?) := fun w6 hb => hb.block w5.heap.size (by show w5.heap.size < (w5.alloc _).heap.size; rw [World.size_alloc]; omega)
                      have HQ2 : Hid (∀ w6 (i : Nat), Below (w5.alloc (Obj.cells #[.int .i64 0, .int .i64 0] 74)).drew.heap.size (w5.alloc (Obj.cells #[.int .i64 0, .int .i64 0] 74)).drew w6 → w6.cell? ⟨w5.heap.size, i, none⟩ = (#[.int .i64 0, .int .i64 0] : Array Value)[i]?) := fun w6 i hb => by
                        rw [World.cell?_of_block (w := w5.alloc (Obj.cells #[.int .i64 0, .int .i64 0] 74)) (a := ⟨w5.heap.size, i, none⟩) (HBL2.out w6 hb), World.cell?_alloc_new]
                      have HZ2 : Hid (∀ w6 (i : Nat), Below (w5.alloc (Obj.cells #[.int .i64 0, .int .i64 0] 74)).drew.heap.size (w5.alloc (Obj.cells #[.int .i64 0, .int .i64 0] 74)).drew w6 → w6.frozen? ⟨w5.heap.size, i, none⟩ = false) := fun w6 i hb => by
                        rw [World.frozen?_of_block (w := w5.alloc (Obj.cells #[.int .i64 0, .int .i64 0] 74)) (a := ⟨w5.heap.size, i, none⟩) (HBL2.out w6 hb)]; simp
                      have HLO : Hid (∀ rh rl : Int, IsH rh rl (xsumN X) → rl = ((low32 (xsumN X) : Nat) : Int)) := fun rh rl h => h.lo
                      have HN1 : Hid (∀ (w6 : World) (rh rl : Int), (w6.alloc (Obj.cells #[.int .i64 rh, .int .i64 rl] 74)).cell? ⟨w6.heap.size, 1, none⟩ = some (.int .i64 rl)) := fun w6 rh rl => by rw [World.cell?_alloc_new]; rfl
                      have HBA : Hid (∀ (w6 : World) (rh rl : Int), Below w5.drew.heap.size w5.drew w6 → Below w5.heap.size w5 (w6.alloc (Obj.cells #[.int .i64 rh, .int .i64 rl] 74))) := fun w6 rh rl hb => (⟨hb.os, hb.tape, hb.output, hb.size, hb.block⟩ : Below w5.heap.size w5 w6).alloc hb.size _
                      have HN2 : Hid (∀ (w6 : World) (rh rl : Int), Below (w5.alloc (Obj.cells #[.int .i64 0, .int .i64 0] 74)).drew.heap.size (w5.alloc (Obj.cells #[.int .i64 0, .int .i64 0] 74)).drew w6 → ((w6.setCell ⟨w5.heap.size, 0, none⟩ (.int .i64 rh)).setCell ⟨w5.heap.size, 1, none⟩ (.int .i64 rl)).cell? ⟨w5.heap.size, 1, none⟩ = some (.int .i64 rl)) := fun w6 rh rl hb => cs_same (by rw [cs_other (addr_ne (by omega))]; exact HQ2.out w6 1 hb)
                      have HBC : Hid (∀ (w6 : World) (rh rl : Int), Below (w5.alloc (Obj.cells #[.int .i64 0, .int .i64 0] 74)).drew.heap.size (w5.alloc (Obj.cells #[.int .i64 0, .int .i64 0] 74)).drew w6 → Below w5.heap.size w5 ((w6.setCell ⟨w5.heap.size, 0, none⟩ (.int .i64 rh)).setCell ⟨w5.heap.size, 1, none⟩ (.int .i64 rl))) := fun w6 rh rl hb => by
                        have h1 : Below w5.heap.size w5 (w5.alloc (Obj.cells #[.int .i64 0, .int .i64 0] 74)) := (Below.refl _ _).alloc (Nat.le_refl _) _
                        have h2 : Below w5.heap.size w5 w6 := ⟨hb.os.trans h1.os, hb.tape.trans h1.tape, hb.output.trans h1.output, Nat.le_trans h1.size hb.size, fun i hi => (hb.block i (by show i < (w5.alloc _).heap.size; rw [World.size_alloc]; omega)).trans (h1.block i hi)⟩
                        exact (h2.setCell (Nat.le_refl _) _).setCell (Nat.le_refl _) _
                      clear kcv
                      by_cases hcap : co' = out.length
                      · have hol2 : out'.length = out.length := by omega
                        have kcv1 := HKC.out _ (.inl rfl)
                        have kcv2 := HKC.out _ (.inr rfl)
                        rw [if_pos hcap, hol2, hcap, Nat.sub_self] at kcv1 kcv2
                        rw [hol2, hcap] at x3
                        clear hooI hcoI hoo hol' hco hcap hol2 HXX HKC HOA
                        obtain ⟨L, hL⟩ : ∃ L, L = out.length := ⟨_, rfl⟩
                        rw [← hL] at x3 x5
                        clear hL
                        go_region_with (first
                          | (go_at_call 30; with_reducible refine HSM.out.mono ?_; rintro x w6 ⟨rh, rl, rfl, hH, hb6⟩)
                          | (go_at_call 30; with_reducible refine HSM2.out.mono ?_; rintro x w6 ⟨rh, rl, rfl, hH, hb6⟩; have q0 := HQ2.out w6 0 hb6; have q1 := HQ2.out w6 1 hb6; have z0 := HZ2.out w6 0 hb6; have z1 := HZ2.out w6 1 hb6))
                        all_goals
                          go_wp2_with fail
                          go_simp
                          go_meet
                          first
                            | exact ⟨w6.heap.size, rl, rfl, HN1.out w6 rh rl, HLO.out rh rl hH, HBA.out w6 rh rl hb6⟩
                            | exact ⟨w5.heap.size, rl, rfl, HN2.out w6 rh rl hb6, HLO.out rh rl hH, HBC.out w6 rh rl hb6⟩
                      · have kcv1 := HKC.out _ (.inl rfl)
                        have kcv2 := HKC.out _ (.inr rfl)
                        rw [if_neg hcap] at kcv1 kcv2
                        have hcapI : ¬ ((co' : Int) = (out.length : Int)) := by omega
                        clear HKC
                        go_region_with (first
                          | (go_at_call 30; with_reducible refine HSM.out.mono ?_; rintro x w6 ⟨rh, rl, rfl, hH, hb6⟩)
                          | (go_at_call 30; with_reducible refine HSM2.out.mono ?_; rintro x w6 ⟨rh, rl, rfl, hH, hb6⟩; have q0 := HQ2.out w6 0 hb6; have q1 := HQ2.out w6 1 hb6; have z0 := HZ2.out w6 0 hb6; have z1 := HZ2.out w6 1 hb6))
                        all_goals
                          go_wp2_with fail
                          go_simp
                          go_meet
                          first
                            | exact ⟨w6.heap.size, rl, rfl, HN1.out w6 rh rl, HLO.out rh rl hH, HBA.out w6 rh rl hb6⟩
                            | exact ⟨w5.heap.size, rl, rfl, HN2.out w6 rh rl hb6, HLO.out rh rl hH, HBC.out w6 rh rl hb6⟩
                    case rest =>
                      obtain ⟨k7, rl, rfl, hc1, hrl, hbel⟩ := hcut
                      rename World => wG
                      obtain ⟨hBG, hUG⟩ := HB5.out.1.below hbel
                      have HBG : Hid (BSt N0 wG b f s limit P4 out' E4 out.length C5 D' fs ks' ∧ UpdS (fun j => N0 ≤ j) w wG) := ⟨hBG, HB5.out.2.same hUG⟩
                      have HRL : Hid (rl = ((low32 (xsumN X) : Nat) : Int)) := hrl
                      clear hBG hUG hbel hrl x3 x5 kcv hXs
                      have HEN : Hid (∀ (E5 : Int) (w7 : World) (C7 : Nat → Value), BSt N0 w7 b f s limit P4 out' E5 out.length C7 D' fs ks' → UpdS (fun j => N0 ≤ j) w w7 → ((E4 = 2 ∧ E5 = 2) ∨ (E4 = 0 ∧ E5 = 0 ∧ rl = V4) ∨ (E4 = 0 ∧ E5 = 16 ∧ rl ≠ V4)) → AftQ N0 b f s limit P out D0 fs w r (fun p' out' => .go p' out' true) w7) := by
                        intro E5 w7 C7 g1 g2 g3
                        have hPP := HPS.out.1
                        have hP0 := HP0.out
                        refine ⟨P4, out', E5, C7, D', ks', g1, HB.out.2.1, g2, fun _ => by omega, ?_⟩
                        rcases HB.out.2.2.2.2 with g | g | g
                        · exact .inl g
                        · exact absurd rfl g.1
                        · refine .inr ?_
                          have hr2 := g.2
                          unfold endC at hr2
                          rw [if_pos HCK.out, ← HXX.out] at hr2
                          rcases H4.out with ⟨h1, h2, h3⟩ | ⟨h1, h2, h3, h4⟩
                          · rw [if_pos h3] at hr2
                            rcases g3 with g3 | g3 | g3
                            · exact .inl ⟨by omega, by rw [hr2, g3.2]⟩
                            · omega
                            · omega
                          · rw [if_neg (by omega)] at hr2
                            rcases g3 with g3 | g3 | g3
                            · omega
                            · have : numN (gOf s) p' 4 = low32 (xsumN X) := by have := HRL.out; omega
                              rw [if_neg (fun h => h this)] at hr2
                              exact .inr ⟨g3.2.1, by rw [hr2, h3]⟩
                            · have : numN (gOf s) p' 4 ≠ low32 (xsumN X) := by have := HRL.out; omega
                              rw [if_pos this] at hr2
                              exact .inl ⟨by omega, by rw [hr2, g3.2.1]⟩
                      have HE4 : Hid (E4 = 2 ∨ E4 = 0) := by
                        rcases H4.out with h | h
                        · exact .inl h.1
                        · exact .inr h.1
                      by_cases hv : rl = V4
                      · have hvb : (rl != V4) = false := by rw [hv]; simp
                        have HAF : Hid (AftQ N0 b f s limit P out D0 fs w r (fun p' out' => .go p' out' true) wG) := HEN.out E4 wG C5 HBG.out.1 HBG.out.2 (by
                          rcases HE4.out with h | h
                          · exact .inl ⟨h, h⟩
                          · exact .inr (.inl ⟨h, h, hv⟩))
                        clear hv
                        go_wp2_with fail
                        go_meet
                        exact HAF.out
                      · have hvb : (rl != V4) = true := by simp [hv]
                        have HV : Hid (rl ≠ V4) := hv
                        clear hv
                        go_wp2_with fail
                        refine (bad_any b C5 E4 16 _ HBG.out.1.st.wc HBG.out.1.st.c15).mono ?_
                        rintro x w7 ⟨rfl, hW7, hU7⟩
                        obtain ⟨g1, g2⟩ := HBG.out.1.own (e' := errN E4 16) hW7 hU7 (fun i h1 h2 => upV_other _ _ _ _ h2) ((upV_other _ _ _ _ (by omega)).trans HBG.out.1.st.c1) (upV_same _ _ _) (fun h => by unfold errN at h; split at h <;> omega) (Nat.le_refl _) HBG.out.1.pl
                        have HAF : Hid (AftQ N0 b f s limit P out D0 fs w r (fun p' out' => .go p' out' true) w7) := HEN.out (errN E4 16) w7 _ g1 (HBG.out.2.same g2) (by
                          unfold errN
                          rcases HE4.out with h | h
                          · rw [if_neg (by omega)]; exact .inl ⟨h, h⟩
                          · rw [if_pos h]; exact .inr (.inr ⟨h, rfl, HV.out⟩))
                        clear hW7 hU7 g1 g2
                        go_wp2_with fail
                        go_meet
                        exact HAF.out
                case rest =>
                  rename World => wH
                  clear HB p' out' e' C' D' ks' HBB
                  obtain ⟨p', out', e', C', D', ks', hB, hD, hU, hPp, hR⟩ := hcut
                  have c1 := hB.st.wc.c 1 (by omega)
                  rw [hB.st.c1] at c1
                  have d6 := hB.fc.c 6 (by omega)
                  have z6 := hB.fc.fz 6
                  obtain ⟨g1, g2⟩ := hB.setF 6 (by omega) (by omega) (.int .i64 (p' : Int))
                  have HQ : Hid (FrmQ N0 b s limit p fs r w (.returned (.tuple #[])) (wH.setCell ⟨f, 6, none⟩ (.int .i64 (p' : Int)))) := by
                    refine ⟨p', out', e', C', _, rfl, g1.close (fun h => by have := hPp h; omega), fun h => by have := hPp h; omega, hU.same g2, ?_, ?_⟩
                    · rintro ⟨x, hx, h2⟩
                      exact ⟨x, List.mem_append_left _ hx, h2⟩
                    · rcases hR with g | g | g
                      · exact .inl ⟨⟨_, List.mem_append_right _ (List.mem_singleton.2 rfl), g.1⟩, g.2⟩
                      · exact .inr (by rw [g.2])
                      · exact .inr (by rw [g.2]; exact ⟨g.1, rfl, rfl⟩)
                  clear hB hD hU hPp hR g1 g2
                  go_wp2_with fail
                  refine bodyPost_end (results_none rfl _ _ _) rfl ?_
                  rw [← HRR.out]
                  exact HQ.out
  · have heb : (hdE s p != 0) = true := by simp [he]
    have HQ : Hid (FrmQ N0 b s limit p fs (frameS s limit p out) w (.returned (.tuple #[])) w1) := by
      obtain ⟨g1, g2⟩ := HR0.out.head hst.wc hst.upd hCk (CC_1 _ _ _) (CC_15 _ _ _) (fun h => absurd h he) (fun h => absurd h he)
      refine ⟨v.p4, out, hdE s p, _, fs, rfl, g1, fun h => absurd h he, g2, fun h => h, .inr ?_⟩
      have : frameS s limit p out = .bad (hdE s p) := by unfold frameS; rw [if_pos he]
      rw [this]
    clear he hst hrel hok he7 hCk
    go_wp2_with fail
    exact bodyPost_ret (results_none rfl _ _ _) rfl HQ.out
end Go.Proofs.Ytkfilgfcgmohlaa
