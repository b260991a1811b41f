import Derived.Test.YtipdjbkkpjlamaaGreatWD
import Derived.WalkKit
import Derived.WalkSpells
import Derived.WalkLawsBesides
import Derived.Deep.QuietTactic
import Derived.BigQuiet
namespace Go.Proofs.YtipdjbkkpjlamaaGreat
open Go.RowKit
/-- which of n things the raw number c speaks of -/
def pickI (c n : Int) : Int := if c < 0 then (-(c + 1)) % n else c % n
theorem pickI_nat (c n : Int) (hn : 0 < n) : ∃ k : Nat, pickI c n = (k : Int) ∧ (k : Int) < n := by
  unfold pickI
  split
  · exact ⟨((-(c + 1)) % n).toNat, by rw [Int.toNat_of_nonneg (Int.emod_nonneg _ (by omega))], by rw [Int.toNat_of_nonneg (Int.emod_nonneg _ (by omega))]; exact Int.emod_lt_of_pos _ hn⟩
  · exact ⟨(c % n).toNat, by rw [Int.toNat_of_nonneg (Int.emod_nonneg _ (by omega))], by rw [Int.toNat_of_nonneg (Int.emod_nonneg _ (by omega))]; exact Int.emod_lt_of_pos _ hn⟩
set_option maxHeartbeats 1000000 in
theorem lpick_at (c : Int) (n : Int) (k : Int) (w : World) (hc : (Lit.int .i64 c).wf = true) (hn : 0 < n) (hn2 : n ≤ 1099511627776) (hk : pickI c n = k) :
    Calls Tryz.prog 14 #[.int .i64 c, .int .i64 n] w fun e w' => e = .returned (.int .i64 k) ∧ w' = w := by
  have hlo : Hid (-9223372036854775808 ≤ c) := i64_low hc
  have HK : Hid (pickI c n = k) := hk
  clear hc hk
  by_cases h : c < 0
  · go_enter Tryz.func14, Tryz.ntmps14
    go_wp2
    go_ret
    have e1 := neg_fold c hlo.out h
    refine ⟨ret_int ?_, rfl⟩
    rw [e1, Int.tmod_eq_emod_of_nonneg (by omega), ← HK.out]
    unfold pickI; rw [if_pos h]
  · go_enter Tryz.func14, Tryz.ntmps14
    go_wp2
    go_ret
    refine ⟨ret_int ?_, rfl⟩
    rw [← HK.out]
    unfold pickI; rw [if_neg (by omega)]
/-- a step on what the caller owns -/
def ownB (k : Int) : Bool := decide (4 ≤ k ∧ k ≤ 8 ∨ 11 ≤ k ∧ k ≤ 17)
set_option maxHeartbeats 1000000 in
theorem owned_any (k : Int) (w : World) :
    Calls Tryz.prog 6 #[.int .i64 k] w fun e w' => e = .returned (.bool (ownB k)) ∧ w' = w := by
  by_cases h1 : k < 4
  · have e : ownB k = false := by unfold ownB; simp; omega
    rw [e]; clear e
    go_enter Tryz.func6, Tryz.ntmps6
    go_wp2
    go_ret
    exact ⟨rfl, rfl⟩
  by_cases h2 : k ≤ 8
  · have e : ownB k = true := by unfold ownB; simp; omega
    rw [e]; clear e
    go_enter Tryz.func6, Tryz.ntmps6
    go_wp2
    go_ret
    exact ⟨rfl, rfl⟩
  by_cases h3 : k < 11
  · have e : ownB k = false := by unfold ownB; simp; omega
    rw [e]; clear e
    go_enter Tryz.func6, Tryz.ntmps6
    go_wp2
    go_ret
    exact ⟨rfl, rfl⟩
  by_cases h4 : k ≤ 17
  · have e : ownB k = true := by unfold ownB; simp; omega
    rw [e]; clear e
    go_enter Tryz.func6, Tryz.ntmps6
    go_wp2
    go_ret
    exact ⟨rfl, rfl⟩
  · have e : ownB k = false := by unfold ownB; simp; omega
    rw [e]; clear e
    go_enter Tryz.func6, Tryz.ntmps6
    go_wp2
    go_ret
    exact ⟨rfl, rfl⟩
/-- a step of a script -/
structure OpV where
  kind : Int
  a : Int
  b : Int
  c : Int
  s : ByteArray
structure OpOk (o : OpV) : Prop where
  wa : (Lit.int .i64 o.a).wf = true
  wb : (Lit.int .i64 o.b).wf = true
  wc : (Lit.int .i64 o.c).wf = true
  ws : o.s.size ≤ 140737488355328
/-- the steps, from offset off of block sb on -/
structure Steps (w : World) (sb off : Nat) (l : List OpV) : Prop where
  c0 : ∀ i o, l[i]? = some o → w.cell? ⟨sb, off + i * 5, none⟩ = some (.int .i64 o.kind)
  c1 : ∀ i o, l[i]? = some o → w.cell? ⟨sb, off + i * 5 + 1, none⟩ = some (.int .i64 o.a)
  c2 : ∀ i o, l[i]? = some o → w.cell? ⟨sb, off + i * 5 + 1 + 1, none⟩ = some (.int .i64 o.b)
  c3 : ∀ i o, l[i]? = some o → w.cell? ⟨sb, off + i * 5 + 1 + 1 + 1, none⟩ = some (.int .i64 o.c)
  c4 : ∀ i o, l[i]? = some o → w.cell? ⟨sb, off + i * 5 + 4, none⟩ = some (.string o.s)
  ok : ∀ o ∈ l, OpOk o
def total : List OpV → Nat
  | [] => 0
  | o :: r => o.s.size + total r
theorem total_append (l m : List OpV) : total (l ++ m) = total l + total m := by
  induction l with
  | nil => simp [total]
  | cons o r ih => simp only [List.cons_append, total]; omega
set_option maxRecDepth 100000 in
set_option maxHeartbeats 1000000 in
theorem small_any (sb off cap : Nat) (l : List OpV) (pa : Option Addr) (w : World) (hp : l ≠ [] → pa = some ⟨sb, off, none⟩) (hs : Steps w sb off l) (hl : l.length ≤ 140737488355328) :
    Calls Tryz.prog 5 #[.slice pa l.length cap] w fun e w' => e = .returned (.bool (decide (l.length + total l ≤ 1048576))) ∧ w' = w := by
  by_cases h0 : 1048576 < l.length
  · have e : decide (l.length + total l ≤ 1048576) = false := by simp; omega
    rw [e]; clear e
    go_enter Tryz.func5, Tryz.ntmps5
    go_wp2
    go_ret
    exact ⟨rfl, rfl⟩
  · have h4 := hs.c4
    have hok := hs.ok
    have HP : Hid (l ≠ [] → pa = some ⟨sb, off, none⟩) := hp
    clear hs hp
    go_enter Tryz.func5, Tryz.ntmps5
    go_wp2
    go_loop [3, 4] (fun nv iv => ∃ i : Nat, i ≤ l.length ∧ iv = .int .i64 i ∧ nv = .int .i64 ((l.length + total (l.take i) : Nat) : Int) ∧ l.length + total (l.take i) ≤ 1048576) (fun _ iv => (l.length - intOf iv).toNat)
    case atStart => exact ⟨0, by omega, rfl, by simp [total], by simp [total]; omega⟩
    case round =>
      obtain ⟨i, hi, rfl, rfl, hn⟩ := hrel
      by_cases hlt : i < l.length
      · obtain rfl := HP.out (by intro e; rw [e] at hlt; simp at hlt)
        obtain ⟨o, ho⟩ : ∃ o, l[i]? = some o := ⟨l[i], List.getElem?_eq_getElem hlt⟩
        have c := h4 i o ho
        have hos := (hok o (List.mem_of_getElem? ho)).ws
        obtain ⟨t, ht⟩ : ∃ t, t = total (l.take i) := ⟨_, rfl⟩
        have HT : Hid (t = total (l.take i)) := ht
        have hT1 : total (l.take (i + 1)) = t + o.s.size := by
          rw [ht, List.take_add_one, ho, total_append]; simp [total]
        have HT1 : Hid (total (l.take (i + 1)) = t + o.s.size) := hT1
        clear hT1
        rw [← ht] at hn ⊢
        clear ht h4 hok
        by_cases hbig : 1048576 < l.length + (t + o.s.size)
        · have HF : Hid (decide (l.length + total l ≤ 1048576) = false) := by
            have e := total_append (l.take (i + 1)) (l.drop (i + 1))
            rw [List.take_append_drop] at e
            have := HT1.out
            show decide _ = false
            simp; omega
          go_wp2
          go_ret
          rw [HF.out]
          exact ⟨rfl, rfl⟩
        · go_wp2
          go_round
          case rel => exact ⟨i + 1, by omega, by go_num, by rw [HT1.out]; go_num, by rw [HT1.out]; omega⟩
          case measure => simp [intOf]; omega
      · have HF : Hid (decide (l.length + total l ≤ 1048576) = true) := by
          rw [List.take_of_length_le (by omega)] at hn
          show decide _ = true
          simp; omega
        clear h4 hok
        go_wp2
        go_ret
        rw [HF.out]
        exact ⟨rfl, rfl⟩
/-- the same world but for draws -/
structure Al (w w' : World) : Prop where
  heap : w'.heap = w.heap
  os : w'.os = w.os
  tape : w'.tape = w.tape
  output : w'.output = w.output
theorem Al.refl (w : World) : Al w w := ⟨rfl, rfl, rfl, rfl⟩
theorem Al.trans {a b c : World} (h : Al a b) (k : Al b c) : Al a c := ⟨k.heap.trans h.heap, k.os.trans h.os, k.tape.trans h.tape, k.output.trans h.output⟩
theorem Al.drew {a b : World} (h : Al a b) : Al a b.drew := ⟨h.heap, h.os, h.tape, h.output⟩
theorem Al.drewN {a b : World} (h : Al a b) (n : Nat) : Al a (b.drewN n) := ⟨h.heap, h.os, h.tape, h.output⟩
theorem Al.cell {a b : World} (h : Al a b) (p : Addr) : b.cell? p = a.cell? p := World.cell?_of_block (by rw [h.heap])
theorem Al.frozen {a b : World} (h : Al a b) (p : Addr) : b.frozen? p = a.frozen? p := World.frozen?_of_block (by rw [h.heap])
theorem Al.below {a b : World} (h : Al a b) (B : Nat) : Below B a b := ⟨h.os, h.tape, h.output, by rw [h.heap]; exact Nat.le_refl _, fun k _ => by rw [h.heap]⟩
set_option maxRecDepth 100000 in
set_option maxHeartbeats 1000000 in
theorem sameInts_any (ga gb n ca cb : Nat) (L : List Int) (pa pb : Option Addr) (w : World) (hn : n ≤ 140737488355328) (ha : 0 < n → pa = some ⟨ga, 0, none⟩) (hb : 0 < n → pb = some ⟨gb, 0, none⟩)
    (h1 : ∀ i, i < n → w.cell? ⟨ga, i, none⟩ = some (.int .i64 (L.getD i 0))) (h2 : ∀ i, i < n → w.cell? ⟨gb, i, none⟩ = some (.int .i64 (L.getD i 0))) :
    Calls Tryz.prog 18 #[.slice pa n ca, .slice pb n cb] w fun e w' => e = .returned (.bool true) ∧ ∃ m, w' = w.drewN m := by
  have HA : Hid (0 < n → pa = some ⟨ga, 0, none⟩) := ha
  have HB : Hid (0 < n → pb = some ⟨gb, 0, none⟩) := hb
  clear ha hb
  have hne : ((n : Int) != (n : Int)) = false := by simp
  go_enter Tryz.func18, Tryz.ntmps18
  go_wp2
  go_loopw [5] (fun iv wr => ∃ i m : Nat, i ≤ n ∧ iv = .int .i64 i ∧ wr = w.drewN m) (fun iv _ => (n - intOf iv).toNat)
  case atStart => exact ⟨0, 0, by omega, rfl, rfl⟩
  case round =>
    obtain ⟨i, m, hi, rfl, rfl⟩ := hrel
    by_cases hlt : i < n
    · obtain rfl := HA.out (by omega)
      obtain rfl := HB.out (by omega)
      have c1 : w.cell? ⟨ga, i, none⟩ = some (.int .i64 (L.getD i 0)) := h1 i hlt
      have c2 : w.cell? ⟨gb, i, none⟩ = some (.int .i64 (L.getD i 0)) := h2 i hlt
      have hi2 : (i : Int) < (n : Int) := by omega
      obtain ⟨x, hx⟩ : ∃ x, x = L.getD i 0 := ⟨_, rfl⟩
      rw [← hx] at c1 c2
      have hxx : (x != x) = false := by simp
      clear hx h1 h2
      go_wp2
      go_quiet (fail)
      go_wp2
      exact ⟨⟨i + 1, m + nq, by omega, by go_num, rfl⟩, by simp [intOf]; omega⟩
    · clear h1 h2
      go_wp2
      go_ret
      exact ⟨rfl, m, rfl⟩
end Go.Proofs.YtipdjbkkpjlamaaGreat
