import Derived.Test.YtbdndhiamihloaaWC
import Derived.WalkSpells
import Derived.WalkLawsBesides
import Derived.Lib.ConvBytes
import Derived.Lib.SlBytesConst
namespace Go.Proofs.Ytbdndhiamihloaa
open Go.RowKit
set_option maxRecDepth 100000 in
set_option maxHeartbeats 1000000 in
theorem newSum_any (w : World) :
    Calls Try.prog 6 #[] w fun e w' => e = .returned (.pointer (some ⟨w.heap.size, 0, none⟩)) ∧ w' = w.alloc (.cells zeros 37) := by
  go_enter Try.func6, Try.ntmps6
  go_wp2
  go_ret
  exact ⟨rfl, rfl⟩
theorem Rep.new (w : World) (t : TypeId) : Rep (w.alloc (.cells zeros t)) w.heap.size [] (fun _ => 0) (fun _ => 0) :=
  Rep.zero (fun i _ => by rw [World.cell?_alloc_new]) (fun i => by rw [World.frozen?_alloc_new])
set_option maxRecDepth 100000 in
set_option maxHeartbeats 1000000 in
theorem fsValue_any (b : Nat) (L R : Nat → Int) (l : List UInt8) (w : World) (hp : Rep w b l L R) (hc1 : l.length ≤ 1099511627776) :
    Calls Try.prog 7 #[.pointer (some ⟨b, 0, none⟩)] w fun e w' => e = .returned (.int .i64 (wrap64 (Xi.sum l))) ∧ w' = w := by
  have HR : Hid (Rep w b l L R) := hp
  clear hp
  go_enter Try.func7, Try.ntmps7
  go_wp2_with (go_at_call 12; refine (sumValue_any b L R l _ HR.out hc1).mono ?_; rintro e w' ⟨rfl, rfl⟩)
  go_ret
  exact ⟨rfl, rfl⟩
set_option maxRecDepth 100000 in
set_option maxHeartbeats 1000000 in
theorem fsStart_any (b : Nat) (L R : Nat → Int) (l : List UInt8) (w : World) (hp : Rep w b l L R) :
    Calls Try.prog 9 #[.pointer (some ⟨b, 0, none⟩)] w fun e w' => e = .returned (.tuple #[]) ∧ Upd b w w' ∧ Rep w' b [] (fun _ => 0) (fun _ => 0) := by
  have HR : Hid (SumAt w b L R l.length) := hp.cells
  clear hp
  go_enter Try.func9, Try.ntmps9
  go_wp2_with (go_at_call 14; refine (start_any b L R _ _ HR.out).mono ?_; rintro e w' ⟨rfl, hu⟩)
  go_end0
  exact ⟨rfl, hu⟩
set_option maxRecDepth 100000 in
set_option maxHeartbeats 1000000 in
theorem fsAdd_any (b lb lo cap : Nat) (L R : Nat → Int) (l m : List UInt8) (n : Nat) (pa : Option Addr) (w : World) (hp : Rep w b l L R) (hne : lb ≠ b) (hlb : lb < w.heap.size)
    (hn : n = m.length) (hm : m ≠ [] → pa = some ⟨lb, lo, none⟩) (hcm : ∀ i, i < m.length → w.cell? ⟨lb, lo + i, none⟩ = some (.int .u8 (Xi.byte m i))) (hc1 : l.length + m.length ≤ 1099511627776) :
    Calls Try.prog 8 #[.pointer (some ⟨b, 0, none⟩), .slice pa n cap] w fun e w' => e = .returned (.tuple #[]) ∧ Upd b w w' ∧ ∃ L' R', Rep w' b (l ++ m) L' R' := by
  subst hn
  have H : Hid (Rep w b l L R ∧ lb ≠ b ∧ lb < w.heap.size ∧ (m ≠ [] → pa = some ⟨lb, lo, none⟩) ∧ (∀ i, i < m.length → w.cell? ⟨lb, lo + i, none⟩ = some (.int .u8 (Xi.byte m i))) ∧ l.length + m.length ≤ 1099511627776) := ⟨hp, hne, hlb, hm, hcm, hc1⟩
  clear hp hne hlb hm hcm hc1
  go_enter Try.func8, Try.ntmps8
  go_wp2_with fail
  refine (add_any b lb lo cap L R l m pa w H.out.1 H.out.2.1 H.out.2.2.1 H.out.2.2.2.1 H.out.2.2.2.2.1 H.out.2.2.2.2.2).mono ?_
  rintro e w' ⟨rfl, hu⟩
  go_wp2
  go_end0
  exact ⟨rfl, hu⟩
theorem neg_fold (c : Int) (h1 : -9223372036854775808 ≤ c) (h : c < 0) : wrap64 (-wrap64 (c + 1)) = -(c + 1) := by unfold wrap64; omega
theorem i64_low {c : Int} (hc : (Lit.int .i64 c).wf = true) : -9223372036854775808 ≤ c := by simp [Lit.wf, IntKind.min, IntKind.max, IntKind.bits, IntKind.signed] at hc; omega
end Go.Proofs.Ytbdndhiamihloaa
