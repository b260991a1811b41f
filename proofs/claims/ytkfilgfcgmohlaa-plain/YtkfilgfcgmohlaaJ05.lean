import Derived.Test.YtkfilgfcgmohlaaJ04
import Derived.WalkKit
import Derived.WalkSpells
import Derived.WalkLawsBesides
import Derived.Deep.QuietTactic
import Derived.BigQuiet
namespace Go.Proofs.Ytkfilgfcgmohlaa
open Go.RowKit
/-- the world of Header: the reader, the list so far -/
structure HdW (w wr : World) (B r g n : Nat) (f : Nat → Nat) (pos : Nat) (v : Value) (o : List Int) : Prop where
  rd : RdAt wr r g n f pos
  row : wr.ownsRow B 3 1 v o.length (ivs o)
  bel : Below w.heap.size w wr
  big : B ≤ wr.heap.size
  rB : r < B
  gB : 0 < n → g < B
  rw_ : w.heap.size ≤ r
theorem HdW.reads {w wr w1 : World} {B r g n : Nat} {f : Nat → Nat} {pos pos' : Nat} {v : Value} {o : List Int} (h : HdW w wr B r g n f pos v o) (hr : RdAt w1 r g n f pos') (hu : Upd r wr w1) : HdW w w1 B r g n f pos' v o :=
  ⟨hr, row_upd h.row hu h.rB, h.bel.trans (hu.below h.rw_ h.bel.size), Nat.le_trans h.big hu.size, h.rB, h.gB, h.rw_⟩
theorem HdW.more {w wr w1 : World} {B r g n : Nat} {f : Nat → Nat} {pos : Nat} {v v' : Value} {o : List Int} {x : Int} {m : Nat} (h : HdW w wr B r g n f pos v o) (hm : m = o.length + 1) (hr : w1.ownsRow B 3 1 v' m (ivs o ++ [.int .i64 x])) (hb : Below B wr w1) : HdW w w1 B r g n f pos v' (o ++ [x]) := by
  refine ⟨h.rd.below hb h.rB h.gB, ?_, h.bel.trans (hb.mono (Nat.le_of_lt (Nat.lt_of_le_of_lt h.rw_ h.rB))), Nat.le_trans h.big hb.size, h.rB, h.gB, h.rw_⟩
  rw [ivs_append, List.length_append, List.length_singleton, ← hm]; exact hr
theorem HdW.sm {w wr w1 : World} {B r g n : Nat} {f : Nat → Nat} {pos : Nat} {v : Value} {o : List Int} (h : HdW w wr B r g n f pos v o) (hs : Sm wr w1) : HdW w w1 B r g n f pos v o := h.reads (h.rd.sm hs) (hs.upd r)
/-- what is yet to come, ahead of a test of the loop on runs -/
def HdC (n : Nat) (f : Nat → Nat) (top fuel left v more : Nat) (o : List Int) (pos : Nat) (R : Option (List Int × Nat)) : Prop :=
  (v = 1 ∧ more = 3 ∧ o.length ≤ top + 2 ∧ ∃ k, top + 3 ≤ k + o.length ∧ (zrun n f top k o pos).bind (fun x => hdr n f top fuel left x.1 x.2) = R) ∨
  ((v ≠ 1 ∨ more ≠ 3) ∧ (if top + 1 < o.length then none else hdr n f top fuel left o pos) = R)
theorem cut300_or (s : ByteArray) : (300 < s.size ∧ cut300 s = s.extract 0 300) ∨ (¬ 300 < s.size ∧ cut300 s = s) := by
  unfold cut300
  by_cases h : 300 < s.size
  · exact .inl ⟨h, if_pos h⟩
  · exact .inr ⟨h, if_neg h⟩
theorem pow_int (k q : Nat) (h : q = 2 ^ k) : (2 : Int) ^ k = (q : Int) := by rw [h]; norm_cast
set_option maxRecDepth 100000 in
set_option maxHeartbeats 4000000 in
theorem header_any (s : ByteArray) (most top : Nat) (w : World) (hs : s.size ≤ 1073741824) (hm : most ≤ 9) (ht : top ≤ 255) :
    Calls Try.prog 83 #[.string s, .int .i64 (most : Int), .int .i64 (top : Int)] w fun e w' => HeadQ s most top w e w' := by
  obtain ⟨c, hc⟩ : ∃ c, c = cut300 s := ⟨_, rfl⟩
  have hcs := (cut300_le s).1
  rw [← hc] at hcs
  have HC : Hid (c = cut300 s) := hc
  have hd : ∀ b, decide (300 < s.size) = b → decide ((300 : Int) < (s.size : Int)) = b := by intro b hb; rw [← hb]; exact decide_eq_decide.2 (by omega)
  rcases cut300_or s with ⟨h300, hcc⟩ | ⟨h300, hcc⟩
  all_goals
    rw [← hc] at hcc
    clear hc
    have hd300 := hd _ (by first | exact decide_eq_true h300 | exact decide_eq_false h300)
    clear hd
    go_enter Try.func83, Try.ntmps83
    go_wp2_with fail
    first | rw [← hcc] | skip
    refine Calls.mono (show Calls _ _ _ _ _ from by first | exact forward_any c _ (by omega) | (rw [← hcc]; exact forward_any c _ (by omega))) ?_
    rintro e w1 ⟨r, g, rfl, hR, hB, hr⟩
    have HR : Hid (RdAt w1 r g (8 * c.size) (fbit c) 0) := hR
    have HB : Hid (Below w.heap.size w w1 ∧ w.heap.size ≤ r) := ⟨hB, hr⟩
    clear hR hB hr
    obtain ⟨n, hn⟩ : ∃ n, n = 8 * c.size := ⟨_, rfl⟩
    obtain ⟨f, hf⟩ : ∃ f, f = fbit c := ⟨_, rfl⟩
    have HN : Hid (n = 8 * (cut300 s).size ∧ f = fbit (cut300 s)) := by rw [← HC.out]; exact ⟨hn, hf⟩
    rw [← hn, ← hf] at HR
    have hn2 : n ≤ 2400 := by omega
    have hf2 : ∀ i, f i < 2 := by rw [hf]; exact fbit_lt c
    clear hn hf
    go_wp2_with fail
    refine (rd_low r g n f 0 4 _ HR.out (by omega)).mono ?_
    rintro e w2 ⟨rfl, hR2, hU⟩
    obtain ⟨L, hL⟩ : ∃ L, L = lowN n f 0 4 := ⟨_, rfl⟩
    have HL : Hid (L = lowN n f 0 4) := hL
    have hL16 : L < 16 := by rw [hL]; exact lowN_lt n f hf2 0 4
    rw [← hL]
    have HG : Hid (logR s = L + 5) := by
      show _ = _
      unfold logR; rw [← HN.out.1, ← HN.out.2, HL.out]
    have HW : Hid (HdW w w2 w2.heap.size r g n f 4 (.slice none 0 0) []) :=
      ⟨hR2, World.ownsRow_nil _ _ _ _, HB.out.1.trans (hU.below HB.out.2 HB.out.1.size), Nat.le_refl _, hR2.lt, hR2.glt, HB.out.2⟩
    have hBw : w.heap.size ≤ w2.heap.size := HW.out.bel.size
    clear hL hR2 hU
    by_cases hmost : most < L + 5
    · go_wp2_with fail
      (try simp only [Exit.inBlock, Exit.then]); refine bodyPost_ret (results_tmp4 rfl _ _ _) rfl ?_
      refine ⟨HW.out.bel, ?_⟩
      have e : headR s most top = none := by unfold headR; rw [HG.out, if_pos hmost]
      rw [e]
      exact ⟨_, _, _, rfl⟩
    · have hdm : decide ((most : Int) < (L : Int) + 5) = false := decide_eq_false (by omega)
      obtain ⟨q, hq⟩ : ∃ q, q = 2 ^ (L + 5) := ⟨_, rfl⟩
      have hp := pow_int (L + 5) q hq
      have hq5 : q ≤ 512 := by
        have : 2 ^ (L + 5) ≤ 2 ^ 9 := Nat.pow_le_pow_right (by omega) (by omega)
        omega
      obtain ⟨R, hRd⟩ : ∃ R, R = hdr n f top (top + 3) q [] 4 := ⟨_, rfl⟩
      have HRR : Hid (R = hdr n f top (top + 3) q [] 4) := hRd
      have HH : Hid (headR s most top = R.bind fun x => if n < x.2 then none else some (x.1, L + 5, (x.2 + 7) / 8)) := by
        show _ = _
        unfold headR
        rw [HG.out, if_neg hmost, ← HN.out.1, ← HN.out.2, ← hq, hRd]
      obtain ⟨B, hBe⟩ : ∃ B, B = w2.heap.size := ⟨_, rfl⟩
      rw [← hBe] at HW hBw
      have HNone : Hid (∀ (e : Ending) (w' : World), R = none → Below w.heap.size w w' → e = .returned (.tuple #[.slice none 0 0, .int .i64 0, .int .i64 0, .bool false]) → HeadQ s most top w e w') := by
        intro e w' hR0 hb he
        refine ⟨hb, ?_⟩
        rw [HH.out, hR0, Option.bind_none]
        exact ⟨_, _, _, he⟩
      clear hRd hq hBe HG HL HN
      go_wp2_with fail
      simp only [hp]
      clear hp
      go_loopw [12, 13] (fun lv ov wr => ∃ (left : Nat) (o : List Int) (pos fuel : Nat), lv = .int .i64 left ∧ left ≤ 512 ∧ o.length ≤ top + 1 ∧ top + 3 ≤ fuel + o.length ∧ HdW w wr B r g n f pos ov o ∧ hdr n f top fuel left o pos = R) (fun _ ov _ => top + 3 - sLen ov)
      case atStart => exact ⟨q, [], 4, top + 3, rfl, hq5, by simp, by simp, HW.out, HRR.out.symm⟩
      case round =>
        clear HW HRR
        obtain ⟨left, o, pos, fuel, rfl, hl, ho, hfu, hW, hR⟩ := hrel
        have HW : Hid (HdW w wr B r g n f pos u13 o) := hW
        have HR : Hid (hdr n f top fuel left o pos = R) := hR
        have hrd := hW.rd
        clear hW hR
        by_cases hl0 : left = 0
        · subst hl0
          have HE : Hid (R = some (o, pos)) := by
            show _ = _
            rw [← HR.out]
            cases fuel with
            | zero => omega
            | succ k => rw [hdr, if_pos rfl]
          have c1 := hrd.at_
          have c2 := hrd.over
          have HQ : ∀ {e : Ending} {w' : World}, Sm wr w' → e = .returned (.tuple #[u13, .int .i64 ((L + 5 : Nat) : Int), .int .i64 (((min pos n + 7) / 8 : Nat) : Int), .bool (!decide (n < pos))]) → HeadQ s most top w e w' := by
            intro e w' hsm he
            refine ⟨HW.out.bel.trans (hsm.below _), ?_⟩
            rw [HH.out, HE.out, Option.bind_some]
            simp only
            by_cases hpn : n < pos
            · rw [if_pos hpn]
              exact ⟨u13, ((L + 5 : Nat) : Int), (((min pos n + 7) / 8 : Nat) : Int), by rw [he, show decide (n < pos) = true by simp [hpn]]; rfl⟩
            · rw [if_neg hpn]
              refine ⟨u13, ?_, ?_⟩
              · rw [he, show min pos n = pos by omega]; simp [hpn]
              · exact row_same (row_mono HW.out.row (by omega)) (fun g _ => by rw [hsm.heap])
          have HQH : Hid (∀ {e : Ending} {w' : World}, Sm wr w' → e = .returned (.tuple #[u13, .int .i64 ((L + 5 : Nat) : Int), .int .i64 (((min pos n + 7) / 8 : Nat) : Int), .bool (!decide (n < pos))]) → HeadQ s most top w e w') := @HQ
          obtain ⟨mn, hmn⟩ : ∃ mn, mn = min pos n := ⟨_, rfl⟩
          have hmn2 : mn ≤ n := by omega
          rw [← hmn] at c1 HQH
          obtain ⟨ov, hov⟩ : ∃ ov, ov = decide (n < pos) := ⟨_, rfl⟩
          rw [← hov] at c2 HQH
          clear HQ hrd hmn hov HH HE
          go_wp2_with fail
          go_region
          go_wp2_with fail
          (try simp only [Exit.inBlock, Exit.then]); refine bodyPost_ret (results_tmp4 rfl _ _ _) rfl ?_
          exact HQH.out ((Sm.refl wr).drew) (by rw [show (((mn + 7) / 8 : Nat) : Int) = ((mn : Int) + 7) / 8 by omega, show ((L + 5 : Nat) : Int) = (L : Int) + 5 by omega]; rfl)
        · have hl1 : 1 ≤ left := by omega
          go_wp2_with fail
          refine (value_any r g n f pos (left + 1) _ hrd (by omega) (by omega)).mono ?_
          rintro e w3 ⟨rfl, hR3, hU3⟩
          have HW3 : Hid (HdW w w3 B r g n f (valP n f pos (left + 1)) u13 o) := HW.out.reads hR3 hU3
          have hVle := valN_le n f hf2 pos (left + 1) (by omega)
          obtain ⟨V, hV⟩ : ∃ V, V = valN n f pos (left + 1) := ⟨_, rfl⟩
          obtain ⟨p, hp'⟩ : ∃ p, p = valP n f pos (left + 1) := ⟨_, rfl⟩
          have HD : Hid (hdr n f top fuel left o pos = if V = 1 then (zrun n f top (top + 3) (o ++ [(V : Int) - 1]) p).bind (fun x => hdr n f top (fuel - 1) (leftN left V) x.1 x.2)
              else if top + 1 < (o ++ [(V : Int) - 1]).length then none else hdr n f top (fuel - 1) (leftN left V) (o ++ [(V : Int) - 1]) p) := by
            show _ = _
            cases fuel with
            | zero => omega
            | succ k => rw [hdr, if_neg hl0, ← hV, ← hp', Nat.add_sub_cancel]
          rw [← hp'] at HW3
          rw [← hV] at hVle ⊢
          clear hV hp' hR3 hU3 hrd
          have hrow := HW3.out.row
          have hbig := HW3.out.big
          have hol : (o.length : Int) ≤ 256 := by omega
          obtain ⟨l2, hl2⟩ : ∃ l2, l2 = leftN left V := ⟨_, rfl⟩
          have HL2 : Hid (l2 = leftN left V) := hl2
          have hl2b : l2 ≤ 512 := by rw [hl2]; unfold leftN; split <;> omega
          rcases (show V = 0 ∨ V = 1 ∨ 2 ≤ V by omega) with hV0 | hV1 | hV2
          · subst hV0
            rw [if_neg (by omega)] at HD
            go_wp2_with (at_builtin; refine ia_list (by rfl) (.tmp 39) (.tmp 42) (by rfl) (by first | rfl | simp) (gb := w3.heap.size) (y := -1) (by simp [Act.eval]) (by omega) hrow hbig (by repeat (first | exact Below.refl _ _ | refine Below.drew ?_ | refine Below.alloc ?_ (by simp <;> omega) _)) (by simp) ?_; intro g1 cap1 w4 hfin)
            have HW4 : Hid (HdW w w4 B r g n f p (.slice (some ⟨g1, 0, none⟩) (o.length + 1) cap1) (o ++ [-1])) := HW3.out.more rfl hfin.out.1 hfin.out.2
            clear hfin
            go_loopw [13, 15] (fun ov mv wr => ov = .slice (some ⟨g1, 0, none⟩) (o.length + 1) cap1 ∧ mv = .int .i64 3 ∧ wr = w4) (fun _ _ _ => 0)
            case atStart => exact ⟨rfl, rfl, rfl⟩
            case round =>
              obtain ⟨rfl, rfl, rfl⟩ := hrel
              by_cases hlen : top + 1 < o.length + 1
              · go_wp2_with fail
                (try simp only [Exit.inBlock, Exit.then]); refine bodyPost_ret (results_tmp4 rfl _ _ _) rfl ?_
                refine HNone.out _ _ ?_ HW4.out.bel rfl
                rw [← HR.out, HD.out, if_pos (by simpa using hlen)]
              · go_wp2_with fail
                refine ⟨⟨l2, _, p, fuel - 1, ?_, hl2b, ?_, ?_, HW4.out, ?_⟩, ?_⟩
                · rw [HL2.out]; unfold leftN; go_num
                · simp; omega
                · simp; omega
                · rw [HL2.out, ← HR.out, HD.out, if_neg (by simpa using hlen)]; rfl
                · show top + 3 - (o.length + 1) < _
                  rw [row_sLen HW.out.row]; omega
          · subst hV1
            rw [if_pos rfl] at HD
            go_wp2_with (at_builtin; refine ia_list (by rfl) (.tmp 39) (.tmp 42) (by rfl) (by first | rfl | simp) (gb := w3.heap.size) (y := 0) (by simp [Act.eval]) (by omega) hrow hbig (by repeat (first | exact Below.refl _ _ | refine Below.drew ?_ | refine Below.alloc ?_ (by simp <;> omega) _)) (by simp) ?_; intro g1 cap1 w4 hfin)
            have HW4 : Hid (HdW w w4 B r g n f p (.slice (some ⟨g1, 0, none⟩) (o.length + 1) cap1) (o ++ [0])) := HW3.out.more rfl hfin.out.1 hfin.out.2
            clear hfin
            have HC4 : Hid (HdC n f top (fuel - 1) l2 1 3 (o ++ [0]) p R) := .inl ⟨rfl, rfl, by simp; omega, top + 3, by simp, by rw [HL2.out, ← HR.out, HD.out]; rfl⟩
            have HLL : Hid (l2 = left) := by show _ = _; rw [HL2.out]; unfold leftN; simp
            go_loopw [13, 15] (fun ov mv wr => ∃ (more : Nat) (o' : List Int) (p' : Nat), mv = .int .i64 more ∧ more ≤ 3 ∧ o.length + 1 ≤ o'.length ∧ HdW w wr B r g n f p' ov o' ∧ HdC n f top (fuel - 1) l2 1 more o' p' R) (fun ov mv _ => if intOf mv = 3 then top + 6 - sLen ov else 0)
            case atStart => exact ⟨3, _, p, rfl, by omega, by simp, HW4.out, HC4.out⟩
            case round =>
              clear HW4 HC4 HD hrow hbig
              obtain ⟨more, o', p', rfl, hm3, hol', hW', hC'⟩ := hrel
              have HW' : Hid (HdW w wr B r g n f p' u13 o') := hW'
              have hrd' := hW'.rd
              clear hW'
              rcases hC' with ⟨_, hmore, hlen', k, hk, hz⟩ | ⟨hne, hz⟩
              · subst hmore
                have HZ : Hid ((zrun n f top k o' p').bind (fun x => hdr n f top (fuel - 1) l2 x.1 x.2) = R) := hz
                clear hz
                go_wp2_with fail
                refine (rd_low r g n f p' 2 _ hrd' (by omega)).mono ?_
                rintro e w5 ⟨rfl, hR5, hU5⟩
                have HW5 : Hid (HdW w w5 B r g n f (p' + 2) u13 o') := HW'.out.reads hR5 hU5
                obtain ⟨M, hM⟩ : ∃ M, M = lowN n f p' 2 := ⟨_, rfl⟩
                have hM4 : M < 4 := by rw [hM]; exact lowN_lt n f hf2 p' 2
                have HM : Hid (M = lowN n f p' 2) := hM
                rw [← hM]
                clear hM hR5 hU5 hrd'
                go_wp2_with fail
                go_loopw [13, 16] (fun ov kv wr => ∃ j : Nat, j ≤ M ∧ kv = .int .i64 j ∧ HdW w wr B r g n f (p' + 2) ov (o' ++ List.replicate j 0)) (fun _ kv _ => (M - intOf kv).toNat)
                case atStart => exact ⟨0, by omega, rfl, by simpa using HW5.out⟩
                case round =>
                  obtain ⟨j, hj, rfl, hW6⟩ := hrel
                  have HW6 : Hid (HdW w wr B r g n f (p' + 2) u13 (o' ++ List.replicate j 0)) := hW6
                  have hrow6 := hW6.row
                  have hbig6 := hW6.big
                  have hlj : (o' ++ List.replicate j 0).length = o'.length + j := by simp
                  clear hW6 HW5
                  by_cases hjm : j < M
                  · go_wp2_with (at_builtin; refine ia_list (by rfl) (.tmp 66) (.tmp 67) (by rfl) (by first | rfl | simp) (gb := wr.heap.size) (y := 0) (by simp [Act.eval]) (by omega) hrow6 hbig6 (by repeat (first | exact Below.refl _ _ | refine Below.drew ?_ | refine Below.alloc ?_ (by simp <;> omega) _)) (by simp) ?_; intro g2 cap2 w7 hfin)
                    refine ⟨⟨j + 1, by omega, by go_num, ?_⟩, by simp [intOf]; omega⟩
                    rw [List.replicate_succ', ← List.append_assoc]
                    have hx := HW6.out.more rfl hfin.out.1 hfin.out.2
                    rw [hlj] at hx
                    exact hx
                  · obtain rfl : j = M := by omega
                    cases k with
                    | zero => omega
                    | succ k =>
                      have hsl := row_sLen hrow6
                      obtain ⟨sp, cp, hsv⟩ : ∃ sp cp, u13 = .slice sp (o' ++ List.replicate j 0).length cp := by
                        rcases hrow6.2 with ⟨hv, h0⟩ | ⟨gg, cap, cur, hv, _⟩
                        · exact ⟨none, 0, by rw [hv, h0]⟩
                        · exact ⟨_, cap, hv⟩
                      have HSL : Hid (sLen u13 = (o' ++ List.replicate j 0).length) := hsl
                      have HZ2 : Hid (zrun n f top (k + 1) o' p' = if top + 1 < (o' ++ List.replicate j 0).length then none else if j = 3 then zrun n f top k (o' ++ List.replicate j 0) (p' + 2) else some (o' ++ List.replicate j 0, p' + 2)) := by
                        show _ = _
                        rw [zrun, ← HM.out]
                      rw [hlj] at hsv HZ2 HSL
                      have hsl' := row_sLen HW'.out.row
                      have HSL' := hsl'
                      clear hsl hrow6 hbig6
                      by_cases hlen2 : top + 1 < o'.length + j
                      · rw [hsv]
                        go_wp2_with fail
                        (try simp only [Exit.inBlock, Exit.then]); refine bodyPost_ret (results_tmp4 rfl _ _ _) rfl ?_
                        refine HNone.out _ _ ?_ HW6.out.bel rfl
                        rw [← HZ.out, HZ2.out, if_pos hlen2]; rfl
                      · rw [if_neg hlen2] at HZ2
                        have HC7 : Hid (HdC n f top (fuel - 1) l2 1 j (o' ++ List.replicate j 0) (p' + 2) R) := by
                          by_cases hj3 : j = 3
                          · subst hj3
                            rw [if_pos rfl] at HZ2
                            exact .inl ⟨rfl, rfl, by rw [hlj]; omega, k, by rw [hlj]; omega, by rw [← HZ2.out]; exact HZ.out⟩
                          · rw [if_neg hj3] at HZ2
                            refine .inr ⟨.inr hj3, ?_⟩
                            rw [hlj, if_neg hlen2, ← HZ.out, HZ2.out]; rfl
                        rw [hsv]
                        go_wp2_with fail
                        rw [← hsv]
                        refine ⟨⟨j, _, p' + 2, rfl, by omega, by rw [hlj]; omega, HW6.out, HC7.out⟩, ?_⟩
                        rw [HSL.out, HSL']
                        by_cases hj3 : (j : Int) = 3
                        · rw [if_pos (show intOf (Value.int .i64 (j : Int)) = 3 from hj3), if_pos (show intOf (Value.int .i64 ((3 : Nat) : Int)) = 3 from rfl)]; omega
                        · rw [if_neg (show ¬ intOf (Value.int .i64 (j : Int)) = 3 from hj3), if_pos (show intOf (Value.int .i64 ((3 : Nat) : Int)) = 3 from rfl)]; omega
              · have hmo : more ≠ 3 := by
                  rcases hne with h | h
                  · exact absurd rfl h
                  · exact h
                have HZ : Hid ((if top + 1 < o'.length then none else hdr n f top (fuel - 1) l2 o' p') = R) := hz
                have hmb : ((more : Int) == 3) = false := by simp; omega
                obtain ⟨sp, cp, hsv⟩ : ∃ sp cp, u13 = .slice sp o'.length cp := by
                  rcases HW'.out.row.2 with ⟨hv, h0⟩ | ⟨gg, cap, cur, hv, _⟩
                  · exact ⟨none, 0, by rw [hv, h0]⟩
                  · exact ⟨_, cap, hv⟩
                subst hsv
                clear hz hne hrd'
                by_cases hlen2 : top + 1 < o'.length
                · go_wp2_with fail
                  (try simp only [Exit.inBlock, Exit.then]); refine bodyPost_ret (results_tmp4 rfl _ _ _) rfl ?_
                  refine HNone.out _ _ ?_ HW'.out.bel rfl
                  rw [← HZ.out, if_pos hlen2]
                · go_wp2_with fail
                  refine ⟨⟨l2, _, p', fuel - 1, ?_, hl2b, by omega, by omega, HW'.out, ?_⟩, ?_⟩
                  · rw [HLL.out]
                  · rw [← HZ.out, if_neg hlen2]
                  · show top + 3 - o'.length < _
                    rw [row_sLen HW.out.row]; omega
          · rw [if_neg (by omega)] at HD
            go_wp2_with (at_builtin; refine ia_list (by rfl) (.tmp 39) (.tmp 42) (by rfl) (by first | rfl | simp) (gb := w3.heap.size) (y := (V : Int) - 1) (by simp [Act.eval]) (by omega) hrow hbig (by repeat (first | exact Below.refl _ _ | refine Below.drew ?_ | refine Below.alloc ?_ (by simp <;> omega) _)) (by simp) ?_; intro g1 cap1 w4 hfin)
            have HW4 : Hid (HdW w w4 B r g n f p (.slice (some ⟨g1, 0, none⟩) (o.length + 1) cap1) (o ++ [(V : Int) - 1])) := HW3.out.more rfl hfin.out.1 hfin.out.2
            clear hfin
            go_loopw [13, 15] (fun ov mv wr => ov = .slice (some ⟨g1, 0, none⟩) (o.length + 1) cap1 ∧ mv = .int .i64 3 ∧ wr = w4) (fun _ _ _ => 0)
            case atStart => exact ⟨rfl, rfl, rfl⟩
            case round =>
              obtain ⟨rfl, rfl, rfl⟩ := hrel
              by_cases hlen : top + 1 < o.length + 1
              · go_wp2_with fail
                (try simp only [Exit.inBlock, Exit.then]); refine bodyPost_ret (results_tmp4 rfl _ _ _) rfl ?_
                refine HNone.out _ _ ?_ HW4.out.bel rfl
                rw [← HR.out, HD.out, if_pos (by simpa using hlen)]
              · go_wp2_with fail
                refine ⟨⟨l2, _, p, fuel - 1, ?_, hl2b, ?_, ?_, HW4.out, ?_⟩, ?_⟩
                · rw [HL2.out]; unfold leftN; rw [if_neg (by omega)]; go_num
                · simp; omega
                · simp; omega
                · rw [HL2.out, ← HR.out, HD.out, if_neg (by simpa using hlen)]
                · show top + 3 - (o.length + 1) < _
                  rw [row_sLen HW.out.row]; omega
end Go.Proofs.Ytkfilgfcgmohlaa
