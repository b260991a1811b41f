import Derived.Test.YtkfilgfcgmohlaaJ05
import Derived.Test.YtkfilgfcgmohlaaJ08
import Derived.WalkKit
import Derived.WalkSpells
import Derived.WalkLawsBesides
import Derived.Deep.AppendLies
import Derived.Laws.OwnMore
import Derived.Deep.QuietTactic
import Derived.BigQuiet
namespace Go.Proofs.Ytkfilgfcgmohlaa
open Go.RowKit
/-- several numbers at once, at a plain region's list -/
theorem ia_listM {wr W : World} {B : Nat} {v : Value} {m : Nat} {xs : List Value} {ops : Array Oper} {rest : List Oper} {o : Oper} {a : Act} {Q : Exit → Act → World → Prop} (hgd : o.guard = none) (s x : Operand)
    (ho : o.op = .call { callee := .builtin .append, args := #[s, x], argTypes := #[83, 83] }) (hs : a.eval s = v) {gb k cp : Nat} (hx : a.eval x = .slice (some ⟨gb, 0, none⟩) k cp)
    {ys : List Int} (hk : ys.length = k) (hk0 : 0 < k) (hm : m + k ≤ 1099511627) (h : wr.ownsRow B 3 1 v m xs) (hB : B ≤ wr.heap.size) (hb : Below wr.heap.size wr W) (hn : ∀ i, i < k → W.cell? ⟨gb, i, none⟩ = some (.int .i64 (ys.getD i 0)))
    (hK : ∀ g1 cap1 w2, Hid (w2.ownsRow B 3 1 (.slice (some ⟨g1, 0, none⟩) (m + k) cap1) (m + k) (xs ++ ivs ys) ∧ Below B wr w2) → wpList Try.prog ops Q rest (a.put o.dst (.slice (some ⟨g1, 0, none⟩) (m + k) cap1)) w2) :
    wpList Try.prog ops Q (o :: rest) a W := by
  refine wpList_plain hgd fun _ hKK => ?_
  obtain ⟨i0, hi0, hz0, hz1, hz2⟩ := fInfo fInt
  have hr0 := row_below h hb
  obtain ⟨g1, cap1, w2, hr, hown, hgrow, hat, hlt⟩ := run_append_lies (P := Try.prog) W 83 o.type B 3 i0 (.int .i64 0) 1 8 Try.underlying83 hi0 hz0 hz1 hz2 rfl (by decide) v m xs hr0 ⟨gb, 0, none⟩ k cp (ivs ys) (by rw [ivs_len]; omega)
    (by
      intro j u hj
      have hjl : j < k := by
        rcases Nat.lt_or_ge j k with h' | h'
        · exact h'
        · rw [List.getElem?_eq_none (by rw [ivs_len]; omega)] at hj; cases hj
      rw [ivs_at ys j (by omega)] at hj
      cases hj
      have hadd : (⟨gb, 0, none⟩ : Addr).add j = ⟨gb, j, none⟩ := by unfold Addr.add; split <;> simp_all
      rw [hadd]; exact hn j hjl)
    (by intro u hu; simp [ivs] at hu; obtain ⟨_, _, rfl⟩ := hu; rfl) hk0 (by unfold maxLen; omega) (by omega) (Nat.le_trans hB hb.size) _ rfl
  unfold Oper.wp execOp
  simp only [ho, resolve, invoke, builtin, Sem.run_bind, Sem.run_pure, Result.andThen_ok, List.map_toArray, List.map_cons, List.map_nil, hs, hx, hr]
  exact hKK _ _ (hK g1 cap1 w2 ⟨hown, (hb.mono hB).trans ⟨hgrow.os, hgrow.tape, hgrow.output, hgrow.size, fun k hk => hgrow.block k (by have := hb.size; omega) (fun e => by have := row_lt hr0 k e.symm; omega)⟩⟩)
theorem fCode : (Try.prog.info? 157).map (fun i => (i.zero, i.size, i.bytes)) = some (some (.agg #[.int .i64 0, .int .i64 0]), 2, 16) := by kernel_rfl
/-- one code more, at a plain region's list -/
theorem cd_list {wr W : World} {B : Nat} {v : Value} {m : Nat} {xs : List Value} {ops : Array Oper} {rest : List Oper} {o : Oper} {a : Act} {Q : Exit → Act → World → Prop} (hgd : o.guard = none) (s x : Operand)
    (ho : o.op = .call { callee := .builtin .append, args := #[s, x], argTypes := #[38, 38] }) (hs : a.eval s = v) {gb : Nat} (hx : a.eval x = .slice (some ⟨gb, 0, none⟩) 1 1)
    {y z : Int} (hm : m ≤ 1099511627) (hB : B ≤ wr.heap.size) (hb : Below B wr W) (hrw : W.ownsRow B 157 2 v m xs) (hn0 : W.cell? ⟨gb, 0, none⟩ = some (.int .i64 y)) (hn1 : W.cell? ⟨gb, 1, none⟩ = some (.int .i64 z))
    (hK : ∀ g1 cap1 w2, Hid (w2.ownsRow B 157 2 (.slice (some ⟨g1, 0, none⟩) (m + 1) cap1) (m + 1) (xs ++ [.int .i64 y, .int .i64 z]) ∧ Below B wr w2) → wpList Try.prog ops Q rest (a.put o.dst (.slice (some ⟨g1, 0, none⟩) (m + 1) cap1)) w2) :
    wpList Try.prog ops Q (o :: rest) a W := by
  refine wpList_plain hgd fun _ hKK => ?_
  obtain ⟨g1, cap1, w2, hr, h2, h4⟩ := ap_run Try.underlying38 fCode rfl (by decide) hrw (by omega) (by omega) (Nat.le_trans hB hb.size) [.int .i64 y, .int .i64 z] rfl
    (by
      intro j u hj
      have hadd : (⟨gb, 0, none⟩ : Addr).add j = ⟨gb, j, none⟩ := by unfold Addr.add; split <;> simp_all
      have hj2 : j = 0 ∨ j = 1 := by
        rcases Nat.lt_or_ge j 2 with h0 | h0
        · omega
        · rw [List.getElem?_eq_none (by simp; omega)] at hj; cases hj
      rw [hadd]
      rcases hj2 with rfl | rfl
      · simp at hj; subst hj; exact hn0
      · simp at hj; subst hj; exact hn1) (by intro v hv; simp at hv; rcases hv with rfl | rfl <;> rfl) o.type
  unfold Oper.wp execOp
  simp only [ho, resolve, invoke, builtin, Sem.run_bind, Sem.run_pure, Result.andThen_ok, List.map_toArray, List.map_cons, List.map_nil, hs, hx, hr]
  exact hKK _ _ (hK g1 cap1 w2 ⟨h2, hb.trans h4⟩)
theorem new_one {W : World} {x y : Value} {t : TypeId} {g : Nat} (hg : W.heap.size = g) : (W.alloc (.cells #[x, y] t)).cell? ⟨g, 0, none⟩ = some x := by subst hg; simp
theorem new_two {W : World} {x y : Value} {t : TypeId} {g : Nat} (hg : W.heap.size = g) : (W.alloc (.cells #[x, y] t)).cell? ⟨g, 1, none⟩ = some y := by subst hg; simp
/-- codes as values -/
def codeV (a : Nat → Nat) (n log : Nat) : Nat → List Value
  | 0 => []
  | s + 1 => codeV a n log s ++ [.int .i64 (cBit a log s : Int), .int .i64 (cVal a n s : Int)]
theorem codeV_len (a : Nat → Nat) (n log : Nat) : ∀ s, (codeV a n log s).length = s * 2
  | 0 => rfl
  | s + 1 => by rw [codeV, List.length_append, codeV_len a n log s]; simp; omega
theorem codeV_at (a : Nat → Nat) (n log : Nat) : ∀ m s, s < m → (codeV a n log m)[s * 2]? = some (.int .i64 (cBit a log s : Int)) ∧ (codeV a n log m)[s * 2 + 1]? = some (.int .i64 (cVal a n s : Int))
  | 0, s, h => by omega
  | m + 1, s, h => by
    rw [codeV]
    by_cases e : s < m
    · rw [List.getElem?_append_left (by rw [codeV_len]; omega), List.getElem?_append_left (by rw [codeV_len]; omega)]
      exact codeV_at a n log m s e
    · obtain rfl : s = m := by omega
      rw [List.getElem?_append_right (by rw [codeV_len]; omega), List.getElem?_append_right (by rw [codeV_len]; omega), codeV_len]
      simp
/-- codes at block g -/
structure CdAt (w : World) (g n : Nat) (a : Nat → Nat) (log : Nat) : Prop where
  b : ∀ s, s < n → w.cell? ⟨g, s * 2, none⟩ = some (.int .i64 (cBit a log s : Int))
  v : ∀ s, s < n → w.cell? ⟨g, s * 2 + 1, none⟩ = some (.int .i64 (cVal a n s : Int))
/-- what Codes answers -/
def CodesQ (l : List Nat) (w : World) (e : Ending) (w' : World) : Prop :=
  Below w.heap.size w w' ∧ match codesR l with
    | none => e = .returned (.tuple #[.slice none 0 0, .bool false])
    | some (all, log) => ∃ g cap, e = .returned (.tuple #[.slice (some ⟨g, 0, none⟩) all.length cap, .bool true]) ∧ w.heap.size ≤ g ∧ CdAt w' g all.length (wAt all) log
theorem sumW_le (l : List Nat) (n : Nat) (h : ∀ i, i < n → wAt l i ≤ 11) : sumW l n ≤ n * 1024 := by
  refine sumN_le n (fun t ht => ?_)
  have h1 := h t ht
  unfold shW
  have : 2 ^ wAt l t ≤ 2 ^ 11 := Nat.pow_le_pow_right (by omega) h1
  omega
set_option maxRecDepth 100000 in
set_option maxHeartbeats 4000000 in
theorem codes_any (l : List Nat) (gw cap : Nat) (pa : Option Addr) (w : World) (hc : ∀ i, i < l.length → w.cell? ⟨gw, i, none⟩ = some (.int .i64 (wAt l i : Int))) (hpa : 0 < l.length → pa = some ⟨gw, 0, none⟩) (hl : l.length ≤ 300) :
    Calls Try.prog 94 #[.slice pa l.length cap] w fun e w' => CodesQ l w e w' := by
  have HC : Hid (∀ i, i < l.length → w.cell? ⟨gw, i, none⟩ = some (.int .i64 (wAt l i : Int))) := hc
  have HP : Hid (0 < l.length → pa = some ⟨gw, 0, none⟩) := hpa
  have HNone : Hid (codesR l = none → ∀ (e : Ending) (w' : World), Below w.heap.size w w' → e = .returned (.tuple #[.slice none 0 0, .bool false]) → CodesQ l w e w') := by
    intro hn e w' hb he
    refine ⟨hb, ?_⟩
    rw [hn]; exact he
  clear hc hpa
  go_enter Try.func94, Try.ntmps94
  go_wp2_with fail
  go_loop [4, 5] (fun mv sv => ∃ s : Nat, s ≤ l.length ∧ sv = .int .i64 s ∧ mv = .int .i64 (sumW l s : Int) ∧ ∀ i, i < s → wAt l i ≤ 11) (fun _ sv => (l.length - intOf sv).toNat)
  case atStart => exact ⟨0, by omega, rfl, rfl, fun i hi => by omega⟩
  case round =>
    obtain ⟨s, hs, rfl, rfl, h11⟩ := hrel
    have H11 : Hid (∀ i, i < s → wAt l i ≤ 11) := h11
    have hsb := sumW_le l s h11
    have hsb2 : sumW l s ≤ 307200 := by omega
    clear h11 hsb
    by_cases hlt : s < l.length
    · obtain rfl := HP.out (by omega)
      have c := HC.out s hlt
      have hlI : (s : Int) < (l.length : Int) := by omega
      have h0I : (0 : Int) ≤ (s : Int) := by omega
      obtain ⟨x, hx⟩ : ∃ x, x = wAt l s := ⟨_, rfl⟩
      have HX : Hid (x = wAt l s) := hx
      rw [← hx] at c
      clear hx
      by_cases hbig : 11 < x
      · have hn : codesR l = none := by unfold codesR; rw [if_pos ⟨s, hlt, by rw [← HX.out]; exact hbig⟩]
        have HN : Hid (codesR l = none) := hn
        clear hn
        go_wp2_with fail
        go_ret2
        exact HNone.out HN.out _ _ (Below.refl _ _) rfl
      · obtain ⟨P, hP⟩ : ∃ P, P = 2 ^ x := ⟨_, rfl⟩
        have hp := pow_int x P hP
        have hPb : P ≤ 2048 := by
          have : 2 ^ x ≤ 2 ^ 11 := Nat.pow_le_pow_right (by omega) (by omega)
          omega
        have HE : Hid (sumW l (s + 1) = sumW l s + P / 2) := by
          show _ = _
          unfold sumW
          rw [sumN, ← HX.out]; unfold shW; rw [hP]
        clear hP
        go_wp2_with fail
        go_round
        case rel =>
          refine ⟨s + 1, by omega, by go_num, ?_, fun i hi => ?_⟩
          · rw [HE.out]; rfl
          · rcases Nat.lt_or_ge i s with h' | h'
            · exact H11.out i h'
            · obtain rfl : i = s := by omega
              rw [← HX.out]; omega
        case measure => simp [intOf]; omega
    · obtain rfl : s = l.length := by omega
      have HA : Hid (¬ ∃ i, i < l.length ∧ 11 < wAt l i) := fun ⟨i, h1, h2⟩ => by have := H11.out i h1; omega
      obtain ⟨S, hS⟩ : ∃ S, S = sumW l l.length := ⟨_, rfl⟩
      have HS : Hid (S = sumW l l.length) := hS
      rw [← hS] at hsb2 ⊢
      clear hS
      by_cases h0 : S = 0
      · subst h0
        have HN : Hid (codesR l = none) := by show _ = _; unfold codesR; rw [if_neg HA.out, if_pos (Or.inl HS.out.symm)]
        go_wp2_with fail
        go_ret2
        exact HNone.out HN.out _ _ (Below.refl _ _) rfl
      · have hS0 : ((S : Int) == 0) = false := by simp; omega
        by_cases h255 : 255 < l.length
        · have HN : Hid (codesR l = none) := by show _ = _; unfold codesR; rw [if_neg HA.out, if_pos (Or.inr h255)]
          have hb2 : decide ((255 : Int) < (l.length : Int)) = true := decide_eq_true (by omega)
          go_wp2_with fail
          go_ret2
          exact HNone.out HN.out _ _ (Below.refl _ _) rfl
        · have hb2 : decide ((255 : Int) < (l.length : Int)) = false := decide_eq_false (by omega)
          go_wp2_with fail
          refine (wide_any S _ (by omega)).mono ?_
          rintro e w1 ⟨rfl, hw1⟩
          rw [hw1]
          clear hw1
          have hlg := wid_lt 19 S (by omega)
          obtain ⟨log, hlog⟩ : ∃ log, log = wid S := ⟨_, rfl⟩
          have HL : Hid (log = wid S) := hlog
          rw [← hlog] at hlg ⊢
          clear hlog
          have HB : Hid (codesR l = if lastK S log log = 0 ∨ 11 < log then none else if ¬ ∃ i, i < l.length + 1 ∧ wAt (l ++ [lastK S log log]) i = 1 then none else some (l ++ [lastK S log log], log)) := by
            show _ = _
            unfold codesR
            rw [if_neg HA.out, ← HS.out, ← HL.out, if_neg (by omega)]
          go_wp2_with fail
          obtain ⟨P2, hP2⟩ : ∃ P2, P2 = 2 ^ log := ⟨_, rfl⟩
          have hp2 := pow_int log P2 hP2
          have hP2b : P2 ≤ 524288 := by
            have : 2 ^ log ≤ 2 ^ 19 := Nat.pow_le_pow_right (by omega) hlg
            omega
          have HP2 : Hid (P2 = 2 ^ log) := hP2
          clear hP2
          go_loopw [7, 8] (fun mv kv wr => ∃ j : Nat, j ≤ log ∧ kv = .int .i64 ((j : Int) + 1) ∧ mv = .int .i64 (lastK S log j : Int) ∧ Sm w wr) (fun _ kv _ => (log + 1 - intOf kv).toNat)
          case atStart => exact ⟨0, by omega, rfl, rfl, Sm.refl w⟩
          case round =>
            obtain ⟨j, hj, rfl, rfl, hsm⟩ := hrel
            have HSM : Hid (Sm w wr) := hsm
            clear hsm
            by_cases hjl : j < log
            · obtain ⟨P1, hP1⟩ : ∃ P1, P1 = 2 ^ (j + 1) := ⟨_, rfl⟩
              have hp1 := pow_int (j + 1) P1 hP1
              have hP1b : P1 ≤ 524288 := by
                have : 2 ^ (j + 1) ≤ 2 ^ 19 := Nat.pow_le_pow_right (by omega) (by omega)
                omega
              have HE : Hid (lastK S log (j + 1) = if S + P1 / 2 = P2 then j + 1 else lastK S log j) := by
                show _ = _
                rw [lastK, HP2.out]; unfold shW; rw [hP1]
              clear hP1
              have hjt : ((j : Int) + 1).toNat = j + 1 := by omega
              by_cases he : S + P1 / 2 = P2
              · rw [if_pos he] at HE
                have hbe : ((S : Int) + (P1 : Int) / 2 == (P2 : Int)) = true := by rw [beq_iff_eq]; omega
                go_wp2_with fail
                go_region
                go_wp2_with fail
                exact ⟨⟨j + 1, by omega, by go_num, by rw [HE.out]; go_num, HSM.out.trans ((Sm.refl wr).drew)⟩, by simp [intOf]; omega⟩
              · rw [if_neg he] at HE
                have hbe : ((S : Int) + (P1 : Int) / 2 == (P2 : Int)) = false := by rw [beq_eq_false_iff_ne]; omega
                go_wp2_with fail
                go_region
                go_wp2_with fail
                exact ⟨⟨j + 1, by omega, by go_num, by rw [HE.out], HSM.out.trans ((Sm.refl wr).drew)⟩, by simp [intOf]; omega⟩
            · obtain rfl : j = log := by omega
              obtain ⟨K, hK⟩ : ∃ K, K = lastK S j j := ⟨_, rfl⟩
              have hKj : K ≤ j := by
                rcases Nat.eq_zero_or_pos K with h | h
                · omega
                · have := (lastK_ok S j j (by omega)).2; omega
              rw [← hK] at HB ⊢
              have HK : Hid (K = lastK S j j) := hK
              clear hK
              by_cases hK0 : K = 0
              · subst hK0
                rw [if_pos (Or.inl rfl)] at HB
                go_wp2_with fail
                go_ret2
                exact HNone.out HB.out _ _ (HSM.out.below _) rfl
              have hKb : ((K : Int) == 0) = false := by rw [beq_eq_false_iff_ne]; omega
              by_cases hl11 : 11 < j
              · rw [if_pos (Or.inr hl11)] at HB
                have hb3 : decide ((11 : Int) < (j : Int)) = true := decide_eq_true (by omega)
                go_wp2_with fail
                go_ret2
                exact HNone.out HB.out _ _ (HSM.out.below _) rfl
              have hb3 : decide ((11 : Int) < (j : Int)) = false := decide_eq_false (by omega)
              rw [if_neg (by omega)] at HB
              have hlp : 0 < l.length := by
                rcases Nat.eq_zero_or_pos l.length with h | h
                · exfalso
                  have := HS.out
                  rw [h] at this
                  exact h0 this
                · exact h
              obtain rfl := HP.out hlp
              have HCW : Hid (∀ i, i < l.length → wr.cell? ⟨gw, i, none⟩ = some (.int .i64 ((l.map (fun (x : Nat) => (x : Int))).getD i 0))) := by
                intro i hi
                rw [HSM.out.cell, HC.out i hi]
                simp [wAt, hi]
              go_upto_region 21 with (at_builtin; refine ia_listM (B := wr.heap.size) (xs := []) (by rfl) (.tmp 65) (.tmp 66) (by rfl) (by first | rfl | simp) (gb := gw) (k := l.length) (cp := cap) (by simp [Act.eval]) (ys := l.map (fun (x : Nat) => (x : Int))) (by simp) hlp (by omega) (World.ownsRow_nil _ _ _ _) (Nat.le_refl _) (Below.refl _ _) HCW.out ?_; intro g1 cap1 w2 hfin)
              have hrow2 : w2.ownsRow wr.heap.size 3 1 (.slice (some ⟨g1, 0, none⟩) l.length cap1) l.length (ivs (l.map (fun (x : Nat) => (x : Int)))) := by
                have := hfin.out.1
                rw [Nat.zero_add, List.nil_append] at this
                exact this
              have hbw2 : wr.heap.size ≤ w2.heap.size := hfin.out.2.size
              go_wp2_with (at_builtin; refine ia_list (by rfl) (.tmp 68) (.tmp 70) (by rfl) (by first | rfl | simp) (gb := w2.heap.size) (y := (K : Int)) (by simp [Act.eval]) (by omega) hrow2 hbw2 (by repeat (first | exact Below.refl _ _ | refine Below.drew ?_ | refine Below.alloc ?_ (by simp <;> omega) _)) (by simp) ?_; intro g2 cap2 w3 hfin2)
              obtain ⟨n, hn⟩ : ∃ n, n = l.length + 1 := ⟨_, rfl⟩
              obtain ⟨a, ha⟩ : ∃ a, a = wAt (l ++ [K]) := ⟨_, rfl⟩
              have HBW : Hid (Below w.heap.size w w3) := (HSM.out.below _).trans ((hfin.out.2.trans hfin2.out.2).mono (by rw [HSM.out.heap]; exact Nat.le_refl _))
              have HRA : Hid (∀ i, i < n → w3.cell? ⟨g2, i, none⟩ = some (.int .i64 (a i : Int))) := by
                intro i hi
                rw [World.ownsRow.cellAt hfin2.out.1 i (by omega)]
                by_cases hx : i < l.length
                · rw [List.getElem?_append_left (by rw [ivs_len]; simp; exact hx), ivs_at _ _ (by simp; exact hx), ha, wAt_app _ _ _ hx]
                  simp [wAt, hx]
                · obtain rfl : i = l.length := by omega
                  rw [List.getElem?_append_right (by rw [ivs_len]; simp), ivs_len, ha, wAt_end]
                  simp
              have ha11 : ∀ i, i < n → a i ≤ 11 := by
                intro i hi
                by_cases hx : i < l.length
                · rw [ha, wAt_app _ _ _ hx]; exact H11.out i hx
                · obtain rfl : i = l.length := by omega
                  rw [ha, wAt_end]; omega
              have HA11 : Hid (∀ i, i < n → a i ≤ 11) := ha11
              have hg2 : wr.heap.size ≤ g2 ∧ g2 < w3.heap.size := row_lt hfin2.out.1 g2 rfl
              have HAN : Hid (n = l.length + 1 ∧ a = wAt (l ++ [K])) := ⟨hn, ha⟩
              rw [← hn, ← ha] at HB
              rw [← hn]
              have hn256 : n ≤ 256 := by omega
              have HWS : Hid (w.heap.size ≤ w3.heap.size) := HBW.out.size
              clear hn ha ha11 hfin hfin2 hrow2 hbw2 HCW
              go_loop [10, 11] (fun bv sv => ∃ (s : Nat) (b : Bool), s ≤ n ∧ sv = .int .i64 s ∧ bv = .bool b ∧ (b = true ↔ ∃ i, i < s ∧ a i = 1)) (fun _ sv => (n - intOf sv).toNat)
              case atStart => exact ⟨0, false, by omega, rfl, rfl, ⟨(fun h => by cases h), fun ⟨i, h, _⟩ => by omega⟩⟩
              case round =>
                obtain ⟨s, b, hs, rfl, rfl, hb⟩ := hrel
                have HBB : Hid (b = true ↔ ∃ i, i < s ∧ a i = 1) := hb
                clear hb
                by_cases hsn : s < n
                · have cs := HRA.out s hsn
                  have hsI : (s : Int) < (n : Int) := by omega
                  have hs0 : (0 : Int) ≤ (s : Int) := by omega
                  cases b with
                  | true =>
                    go_wp2_with fail
                    go_round
                    case rel =>
                      refine ⟨s + 1, true, by omega, by go_num, rfl, ⟨fun _ => ?_, fun _ => rfl⟩⟩
                      obtain ⟨i, h1, h2⟩ := HBB.out.1 rfl
                      exact ⟨i, by omega, h2⟩
                    case measure => simp [intOf]; omega
                  | false =>
                    obtain ⟨x, hx⟩ : ∃ x, x = a s := ⟨_, rfl⟩
                    have HX : Hid (x = a s) := hx
                    rw [← hx] at cs
                    clear hx
                    by_cases hx1 : x = 1
                    · subst hx1
                      go_wp2_with fail
                      go_round
                      case rel => exact ⟨s + 1, true, by omega, by go_num, rfl, ⟨fun _ => ⟨s, by omega, HX.out.symm⟩, fun _ => rfl⟩⟩
                      case measure => simp [intOf]; omega
                    · have hxb : ((x : Int) == 1) = false := by rw [beq_eq_false_iff_ne]; omega
                      go_wp2_with fail
                      go_round
                      case rel =>
                        refine ⟨s + 1, false, by omega, by go_num, rfl, ⟨(fun h => by cases h), fun ⟨i, h1, h2⟩ => ?_⟩⟩
                        rcases Nat.lt_or_ge i s with h' | h'
                        · exact HBB.out.2 ⟨i, h', h2⟩
                        · obtain rfl : i = s := by omega
                          exact absurd (HX.out.trans h2) hx1
                      case measure => simp [intOf]; omega
                · obtain rfl : s = n := by omega
                  cases b with
                  | false =>
                    rw [if_pos (fun h => by have := HBB.out.2 h; cases this)] at HB
                    go_wp2_with fail
                    go_ret2
                    exact HNone.out HB.out _ _ HBW.out rfl
                  | true =>
                    rw [if_neg (fun h => h (HBB.out.1 rfl))] at HB
                    have HWH : Hid (Whole a s j) := by
                      have := (codesR_ok HB.out).1
                      rw [← HAN.out.2, show (l ++ [K]).length = s by rw [HAN.out.1]; simp] at this
                      exact this
                    clear HNone HA HS H11 HC HP HBB
                    go_wp2_with fail
                    go_loopw [12, 13] (fun ov sv wr => ∃ k : Nat, k ≤ s ∧ sv = .int .i64 k ∧ wr.ownsRow w3.heap.size 157 2 ov k (codeV a s j k) ∧ Below w3.heap.size w3 wr) (fun _ sv _ => (s - intOf sv).toNat)
                    case atStart => exact ⟨0, by omega, rfl, World.ownsRow_nil _ _ _ _, Below.refl _ _⟩
                    case round =>
                      obtain ⟨k, hk, rfl, hrw, hbw⟩ := hrel
                      obtain ⟨w4, rfl⟩ : ∃ w4, w4 = wr := ⟨_, rfl⟩
                      have HRW : Hid (w4.ownsRow w3.heap.size 157 2 u12 k (codeV a s j k) ∧ Below w3.heap.size w3 w4) := ⟨hrw, hbw⟩
                      have hws : w3.heap.size ≤ w4.heap.size := hbw.size
                      have hgl : g2 < w4.heap.size := by omega
                      clear hrw hbw
                      by_cases hks : k < s
                      · have HRK : Hid (∀ i, i < s → w4.cell? ⟨g2, i, none⟩ = some (.int .i64 (a i : Int))) := fun i hi => (HRW.out.2.cell (p := ⟨g2, i, none⟩) hg2.2).trans (HRA.out i hi)
                        have cs := HRK.out k hks
                        have hkI : (k : Int) < (s : Int) := by omega
                        have hk0 : (0 : Int) ≤ (k : Int) := by omega
                        obtain ⟨x, hx⟩ : ∃ x, x = a k := ⟨_, rfl⟩
                        have HX : Hid (x = a k) := hx
                        rw [← hx] at cs
                        have hx11 : x ≤ 11 := by rw [hx]; exact HA11.out k hks
                        clear hx
                        by_cases hx0 : x = 0
                        · subst hx0
                          have HCB : Hid (cBit a j k = 0 ∧ cVal a s k = 0) := by
                            show _ ∧ _
                            unfold cBit cVal
                            rw [← HX.out, if_pos rfl, if_pos rfl]; exact ⟨rfl, rfl⟩
                          go_wp2_with (at_builtin; refine cd_list (by rfl) (.tmp 155) (.tmp 157) (by rfl) (by first | rfl | simp) (gb := w4.heap.size + 1) (y := 0) (z := 0) (by simp [Act.eval]) (by omega) hws (((Below.refl _ _).alloc hws _).alloc (by simp; omega) _) (row_below HRW.out.1 (((Below.refl _ _).alloc (Nat.le_refl _) _).alloc (by simp) _)) (by simp) (by simp) ?_; intro g4 cap4 w6 hfin)
                          refine ⟨⟨k + 1, by omega, by go_num, ?_, HRW.out.2.trans hfin.out.2⟩, by simp [intOf]; omega⟩
                          rw [codeV, HCB.out.1, HCB.out.2]; exact hfin.out.1
                        · obtain ⟨x1, rfl⟩ : ∃ x1, x = x1 + 1 := ⟨x - 1, by omega⟩
                          have hx1j : x1 + 1 ≤ 11 := hx11
                          have hxj : x1 < j := by
                            have := HWH.out.2.2.2 k hks
                            rw [← HX.out, shW_succ] at this
                            exact (Nat.pow_lt_pow_iff_right (a := 2) (by omega)).1 this
                          go_wp2_with fail
                          generalize hW5 : w4.alloc (Obj.cells #[Value.int IntKind.i64 ((j : Int) + 1 - ((x1 : Int) + 1)), Value.int IntKind.i64 0] 157) = W5
                          have d0 : W5.cell? ⟨w4.heap.size, 0, none⟩ = some (.int .i64 ((j : Int) + 1 - ((x1 : Int) + 1))) := by rw [← hW5]; simp
                          have d1 : W5.cell? ⟨w4.heap.size, 1, none⟩ = some (.int .i64 0) := by rw [← hW5]; simp
                          have df : W5.frozen? ⟨w4.heap.size, 1, none⟩ = false := by rw [← hW5]; simp
                          have ds : W5.heap.size = w4.heap.size + 1 := by rw [← hW5]; simp
                          have D5 : Hid (Below w4.heap.size w4 W5) := by rw [← hW5]; exact (Below.refl _ _).alloc (Nat.le_refl _) _
                          have HR5 : Hid (∀ i, i < s → W5.cell? ⟨g2, i, none⟩ = some (.int .i64 (a i : Int))) := fun i hi => (D5.out.cell (p := ⟨g2, i, none⟩) hgl).trans (HRK.out i hi)
                          clear hW5 cs
                          go_loopw [15, 16] (fun av tv wx => ∃ t : Nat, t ≤ s ∧ tv = .int .i64 t ∧ av = .int .i64 (sumN (ahT a (x1 + 1) k) t : Int) ∧ Sm W5 wx) (fun _ tv _ => (s - intOf tv).toNat)
                          case atStart => exact ⟨0, by omega, rfl, rfl, Sm.refl _⟩
                          case round =>
                            obtain ⟨t, ht, rfl, rfl, hsx⟩ := hrel
                            have hsb3 : sumN (ahT a (x1 + 1) k) t ≤ 262144 := by
                              have := sumN_le (g := ahT a (x1 + 1) k) (c := 1024) t (fun i hi => by
                                unfold ahT
                                split
                                · unfold shW
                                  have : 2 ^ a i ≤ 2 ^ 11 := Nat.pow_le_pow_right (by omega) (HA11.out i (by omega))
                                  omega
                                · omega)
                              omega
                            have HSX : Hid (Sm W5 wr) := hsx
                            have HE : Hid (sumN (ahT a (x1 + 1) k) (t + 1) = sumN (ahT a (x1 + 1) k) t + ahT a (x1 + 1) k t) := rfl
                            obtain ⟨A, hA⟩ : ∃ A, A = sumN (ahT a (x1 + 1) k) t := ⟨_, rfl⟩
                            by_cases hts : t < s
                            · have ct : wr.cell? ⟨g2, t, none⟩ = some (.int .i64 (a t : Int)) := (hsx.cell _).trans (HR5.out t hts)
                              have ck : wr.cell? ⟨g2, k, none⟩ = some (.int .i64 ((x1 + 1 : Nat) : Int)) := by rw [hsx.cell, HR5.out k hks, HX.out]
                              have htI : (t : Int) < (s : Int) := by omega
                              have ht0 : (0 : Int) ≤ (t : Int) := by omega
                              rw [← hA] at hsb3 HE ⊢
                              obtain ⟨y, hy⟩ : ∃ y, y = a t := ⟨_, rfl⟩
                              have hy11 : y ≤ 11 := by rw [hy]; exact HA11.out t hts
                              have HT : Hid (ahT a (x1 + 1) k t = if y < x1 + 1 ∨ (y = x1 + 1 ∧ t < k) then shW y else 0) := by show _ = _; unfold ahT; rw [hy]
                              rw [← hy] at ct
                              obtain ⟨P, hP⟩ : ∃ P, P = 2 ^ y := ⟨_, rfl⟩
                              have hp := pow_int y P hP
                              have hPb : P ≤ 2048 := by
                                have : 2 ^ y ≤ 2 ^ 11 := Nat.pow_le_pow_right (by omega) hy11
                                omega
                              have HSW : Hid (shW y = P / 2) := by show _ = _; unfold shW; rw [hP]
                              clear hsx hA hy hP d0 d1 df ds
                              rcases Nat.lt_trichotomy y (x1 + 1) with hyx | hyx | hyx
                              · rw [HT.out, if_pos (by omega), HSW.out] at HE
                                have hb4 : decide ((y : Int) < ((x1 + 1 : Nat) : Int)) = true := decide_eq_true (by omega)
                                have hb4' : decide ((y : Int) < (x1 : Int) + 1) = true := decide_eq_true (by omega)
                                go_wp2_with fail
                                go_quiet (fail)
                                go_wp2_with fail
                                exact ⟨⟨t + 1, by omega, by go_num, by rw [HE.out]; go_num, HSX.out.trans ((Sm.refl _).drewN _)⟩, by simp [intOf]; omega⟩
                              · subst hyx
                                have hb4 : decide (((x1 + 1 : Nat) : Int) < ((x1 + 1 : Nat) : Int)) = false := decide_eq_false (by omega)
                                have hb5 : (((x1 + 1 : Nat) : Int) == ((x1 + 1 : Nat) : Int)) = true := by simp
                                by_cases htk : t < k
                                · rw [HT.out, if_pos (by omega), HSW.out] at HE
                                  have hb6 : decide ((t : Int) < (k : Int)) = true := decide_eq_true (by omega)
                                  go_wp2_with fail
                                  go_quiet (fail)
                                  go_wp2_with fail
                                  exact ⟨⟨t + 1, by omega, by go_num, by rw [HE.out]; go_num, HSX.out.trans ((Sm.refl _).drewN _)⟩, by simp [intOf]; omega⟩
                                · rw [HT.out, if_neg (by omega)] at HE
                                  have hb6 : decide ((t : Int) < (k : Int)) = false := decide_eq_false (by omega)
                                  go_wp2_with fail
                                  go_quiet (fail)
                                  go_wp2_with fail
                                  exact ⟨⟨t + 1, by omega, by go_num, by rw [HE.out]; go_num, HSX.out.trans ((Sm.refl _).drewN _)⟩, by simp [intOf]; omega⟩
                              · rw [HT.out, if_neg (by omega)] at HE
                                have hb4 : decide ((y : Int) < ((x1 + 1 : Nat) : Int)) = false := decide_eq_false (by omega)
                                have hb4' : decide ((y : Int) < (x1 : Int) + 1) = false := decide_eq_false (by omega)
                                have hb5 : ((y : Int) == ((x1 + 1 : Nat) : Int)) = false := by rw [beq_eq_false_iff_ne]; omega
                                have hb5' : ((y : Int) == (x1 : Int) + 1) = false := by rw [beq_eq_false_iff_ne]; omega
                                go_wp2_with fail
                                go_quiet (fail)
                                go_wp2_with fail
                                exact ⟨⟨t + 1, by omega, by go_num, by rw [HE.out]; go_num, HSX.out.trans ((Sm.refl _).drewN _)⟩, by simp [intOf]; omega⟩
                            · obtain rfl : t = s := by omega
                              have c0 := (hsx.cell _).trans d0
                              have c1 := (hsx.cell _).trans d1
                              have f1 := (hsx.frozen _).trans df
                              have ck : wr.cell? ⟨g2, k, none⟩ = some (.int .i64 ((x1 + 1 : Nat) : Int)) := by rw [hsx.cell, HR5.out k hks, HX.out]
                              obtain ⟨P, hP⟩ : ∃ P, P = 2 ^ x1 := ⟨_, rfl⟩
                              have hp := pow_int x1 P hP
                              have hx1t : ((x1 : Int) + 1 - 1).toNat = x1 := by omega
                              have hlen2 : (codeV a t j k).length = k * 2 := codeV_len a t j k
                              have HCV : Hid (((j : Int) + 1 - ((x1 : Int) + 1)) = (cBit a j k : Int) ∧ ((A : Int) / (P : Int)) = (cVal a t k : Int)) := by
                                show _ ∧ _
                                unfold cBit cVal ahA
                                rw [← HX.out, if_neg (by omega), if_neg (by omega), Nat.add_sub_cancel, ← hA, ← hP]
                                exact ⟨by omega, by norm_cast⟩
                              have hws5 : wr.heap.size = w4.heap.size + 1 := by rw [hsx.heap]; exact ds
                              have HB6 : Hid (Below w4.heap.size w4 wr) := D5.out.trans (hsx.below _)
                              rw [← hA] at hsb3 ⊢
                              clear hsx d0 d1 df ds hA hP
                              go_upto_region 43 with fail
                              have e0 : (wr.setCell ⟨w4.heap.size, 1, none⟩ (.int .i64 ((A : Int) / (P : Int)))).cell? ⟨w4.heap.size, 0, none⟩ = some (.int .i64 ((j : Int) + 1 - ((x1 : Int) + 1))) := (cs_other (addr_ne (by omega))).trans c0
                              have e1 : (wr.setCell ⟨w4.heap.size, 1, none⟩ (.int .i64 ((A : Int) / (P : Int)))).cell? ⟨w4.heap.size, 1, none⟩ = some (.int .i64 ((A : Int) / (P : Int))) := cs_same c1
                              have HB7 : Hid (Below w4.heap.size w4 (wr.setCell ⟨w4.heap.size, 1, none⟩ (.int .i64 ((A : Int) / (P : Int))))) := HB6.out.setCell (Nat.le_refl _) _
                              have hws7 : (wr.setCell ⟨w4.heap.size, 1, none⟩ (.int .i64 ((A : Int) / (P : Int)))).heap.size = w4.heap.size + 1 := by rw [World.size_setCell]; exact hws5
                              go_wp2_with (at_builtin; refine cd_list (by rfl) (.tmp 155) (.tmp 157) (by rfl) (by first | rfl | simp) (gb := w4.heap.size + 1) (y := (j : Int) + 1 - ((x1 : Int) + 1)) (z := (A : Int) / (P : Int)) (by simp [Act.eval]) (by omega) hws ((HB7.out.mono hws).alloc (by rw [World.size_setCell]; omega) _) (row_below HRW.out.1 (HB7.out.alloc (by rw [World.size_setCell]; omega) _)) (new_one hws7) (new_two hws7) ?_; intro g4 cap4 w6 hfin)
                              refine ⟨⟨k + 1, by omega, by go_num, ?_, HRW.out.2.trans hfin.out.2⟩, by simp [intOf]; omega⟩
                              rw [codeV, ← HCV.out.1, ← HCV.out.2]; exact hfin.out.1
                      · obtain rfl : k = s := by omega
                        have hk1 : 0 < k := by have := HAN.out.1; omega
                        obtain ⟨g, cp, hgv, hg1, hg3⟩ := HRW.out.1.form hk1
                        subst hgv
                        go_wp2_with fail
                        go_ret2
                        refine ⟨HBW.out.trans (HRW.out.2.mono HWS.out), ?_⟩
                        rw [HB.out]
                        have hlk : (l ++ [K]).length = k := by rw [HAN.out.1]; simp
                        refine ⟨g, cp, by rw [hlk]; rfl, Nat.le_trans HWS.out hg1, ?_⟩
                        rw [hlk, ← HAN.out.2]
                        exact ⟨fun s hs => by rw [World.ownsRow.cellAt HRW.out.1 _ (by omega)]; exact (codeV_at a k j k s hs).1, fun s hs => by rw [World.ownsRow.cellAt HRW.out.1 _ (by omega)]; exact (codeV_at a k j k s hs).2⟩
end Go.Proofs.Ytkfilgfcgmohlaa
