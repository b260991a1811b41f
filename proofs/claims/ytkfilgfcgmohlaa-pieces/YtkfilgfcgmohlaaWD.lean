import Derived.Test.YtkfilgfcgmohlaaWC
import Derived.WalkSpells
import Derived.WalkLawsBesides
import Derived.Lib.ConvBytes
import Derived.Lib.SlBytesConst
namespace Go.Proofs.Ytkfilgfcgmohlaa
open Go.RowKit
set_option maxRecDepth 100000 in
set_option maxHeartbeats 1000000 in
theorem newSum_any (w : World) :
    Calls Try.prog 15 #[] w fun e w' => e = .returned (.pointer (some ⟨w.heap.size, 0, none⟩)) ∧ w' = w.alloc (.cells zeros 67) := by
  go_enter Try.func15, Try.ntmps15
  go_wp2
  go_ret
  exact ⟨rfl, rfl⟩
theorem Rep.new (w : World) (t : TypeId) : Rep (w.alloc (.cells zeros t)) w.heap.size [] (fun _ => 0) (fun _ => 0) :=
  Rep.zero (fun i _ => by rw [World.cell?_alloc_new]) (fun i => by rw [World.frozen?_alloc_new])
set_option maxRecDepth 100000 in
set_option maxHeartbeats 1000000 in
theorem fsValue_any (b : Nat) (L R : Nat → Int) (l : List UInt8) (w : World) (hp : Rep w b l L R) (hc1 : l.length ≤ 1099511627776) :
    Calls Try.prog 16 #[.pointer (some ⟨b, 0, none⟩)] w fun e w' => e = .returned (.int .i64 (wrap64 (Xi.sum l))) ∧ w' = w := by
  have HR : Hid (Rep w b l L R) := hp
  clear hp
  go_enter Try.func16, Try.ntmps16
  go_wp2_with (go_at_call 25; refine (value_any b L R l _ HR.out hc1).mono ?_; rintro e w' ⟨rfl, rfl⟩)
  go_ret
  exact ⟨rfl, rfl⟩
set_option maxRecDepth 100000 in
set_option maxHeartbeats 1000000 in
theorem fsStart_any (b : Nat) (L R : Nat → Int) (l : List UInt8) (w : World) (hp : Rep w b l L R) :
    Calls Try.prog 18 #[.pointer (some ⟨b, 0, none⟩)] w fun e w' => e = .returned (.tuple #[]) ∧ Upd b w w' ∧ Rep w' b [] (fun _ => 0) (fun _ => 0) := by
  have HR : Hid (SumAt w b L R l.length) := hp.cells
  clear hp
  go_enter Try.func18, Try.ntmps18
  go_wp2_with (go_at_call 27; refine (start_any b L R _ _ HR.out).mono ?_; rintro e w' ⟨rfl, hu⟩)
  go_end0
  exact ⟨rfl, hu⟩
set_option maxRecDepth 100000 in
set_option maxHeartbeats 1000000 in
theorem fsAdd_any (b lb lo cap : Nat) (L R : Nat → Int) (l m : List UInt8) (n : Nat) (pa : Option Addr) (w : World) (hp : Rep w b l L R) (hne : lb ≠ b) (hlb : lb < w.heap.size)
    (hn : n = m.length) (hm : m ≠ [] → pa = some ⟨lb, lo, none⟩) (hcm : ∀ i, i < m.length → w.cell? ⟨lb, lo + i, none⟩ = some (.int .u8 (Xi.byte m i))) (hc1 : l.length + m.length ≤ 1099511627776) :
    Calls Try.prog 17 #[.pointer (some ⟨b, 0, none⟩), .slice pa n cap] w fun e w' => e = .returned (.tuple #[]) ∧ Upd b w w' ∧ ∃ L' R', Rep w' b (l ++ m) L' R' := by
  subst hn
  have H : Hid (Rep w b l L R ∧ lb ≠ b ∧ lb < w.heap.size ∧ (m ≠ [] → pa = some ⟨lb, lo, none⟩) ∧ (∀ i, i < m.length → w.cell? ⟨lb, lo + i, none⟩ = some (.int .u8 (Xi.byte m i))) ∧ l.length + m.length ≤ 1099511627776) := ⟨hp, hne, hlb, hm, hcm, hc1⟩
  clear hp hne hlb hm hcm hc1
  go_enter Try.func17, Try.ntmps17
  go_wp2_with fail
  refine (add_any b lb lo cap L R l m pa w H.out.1 H.out.2.1 H.out.2.2.1 H.out.2.2.2.1 H.out.2.2.2.2.1 H.out.2.2.2.2.2).mono ?_
  rintro e w' ⟨rfl, hu⟩
  go_wp2
  go_end0
  exact ⟨rfl, hu⟩
set_option maxHeartbeats 1000000 in
theorem clipped_any (s : ByteArray) (w : World) (hs : s.size ≤ maxLen) :
    Calls Try.prog 10 #[.string s, .int .i64 4096] w fun e w' => ∃ t : ByteArray, e = .returned (.string t) ∧ t.size ≤ 4096 ∧ w' = w := by
  unfold maxLen at hs
  by_cases h : 4096 < s.size
  · go_enter Try.func10, Try.ntmps10
    go_wp2
    go_ret
    exact ⟨_, rfl, by simp [ByteArray.size_extract]; omega, rfl⟩
  · go_enter Try.func10, Try.ntmps10
    go_wp2
    go_ret
    exact ⟨s, rfl, by omega, rfl⟩
theorem neg_fold (c : Int) (h1 : -9223372036854775808 ≤ c) (h : c < 0) : wrap64 (-wrap64 (c + 1)) = -(c + 1) := by unfold wrap64; omega
theorem i64_low {c : Int} (hc : (Lit.int .i64 c).wf = true) : -9223372036854775808 ≤ c := by simp [Lit.wf, IntKind.min, IntKind.max, IntKind.bits, IntKind.signed] at hc; omega
set_option maxHeartbeats 1000000 in
theorem pick_any (c : Int) (n : Int) (w : World) (hc : (Lit.int .i64 c).wf = true) (hn : 0 < n) (hn2 : n ≤ 1099511627776) :
    Calls Try.prog 20 #[.int .i64 c, .int .i64 n] w fun e w' => ∃ k : Nat, e = .returned (.int .i64 k) ∧ (k : Int) < n ∧ w' = w := by
  have hlo : Hid (-9223372036854775808 ≤ c) := i64_low hc
  clear hc
  by_cases h : c < 0
  · go_enter Try.func20, Try.ntmps20
    go_wp2
    go_ret
    have e1 := neg_fold c hlo.out h
    refine ⟨((-(c + 1)) % n).toNat, ret_int ?_, ?_, rfl⟩
    · rw [e1, Int.tmod_eq_emod_of_nonneg (by omega), Int.toNat_of_nonneg (Int.emod_nonneg _ (by omega))]
    · rw [Int.toNat_of_nonneg (Int.emod_nonneg _ (by omega))]; exact Int.emod_lt_of_pos _ hn
  · go_enter Try.func20, Try.ntmps20
    go_wp2
    go_ret
    refine ⟨(c % n).toNat, ret_int ?_, ?_, rfl⟩
    · rw [Int.toNat_of_nonneg (Int.emod_nonneg _ (by omega))]
    · rw [Int.toNat_of_nonneg (Int.emod_nonneg _ (by omega))]; exact Int.emod_lt_of_pos _ hn
end Go.Proofs.Ytkfilgfcgmohlaa
