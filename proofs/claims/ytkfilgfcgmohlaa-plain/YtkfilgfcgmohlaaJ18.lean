import Derived.Test.YtkfilgfcgmohlaaJ17
import Derived.WalkSpells
import Derived.WalkLawsBesides
import Derived.Deep.RegionWith
import Derived.Deep.MidRow
import Derived.Lib.ConvBytes
import Derived.Lib.SlBytesConst
namespace Go.Proofs.Ytkfilgfcgmohlaa
open Go.RowKit
set_option maxRecDepth 100000 in
set_option maxHeartbeats 1000000 in
theorem sumValue_any (b : Nat) (L R : Nat → Int) (l : List UInt8) (w : World) (hp : Rep w b l L R) (hc1 : l.length ≤ 1099511627776) :
    Calls Try.prog 25 #[.pointer (some ⟨b, 0, none⟩)] w fun e w' => e = .returned (.int .u64 (Xi.sum l)) ∧ w' = w := by
  have hc := hp.cells.count
  have HR : Hid (Rep w b l L R) := hp
  have HS : Hid (SumAt w b L R l.length) := hp.cells
  clear hp
  obtain ⟨n, hn⟩ : ∃ n, n = l.length := ⟨_, rfl⟩
  rw [← hn] at hc HS hc1
  have HN : Hid (n = l.length) := hn
  clear hn
  by_cases h32 : 32 ≤ n
  · go_enter Try.func25, Try.ntmps25
    go_wp2_with (first
      | (go_at_call 32; refine (joined_any b L R n _ HS.out).mono ?_; rintro e w' ⟨rfl, rfl⟩)
      | (go_at_call 33; refine (withRest_any b L R n _ _ HS.out hc1).mono ?_; rintro e w' ⟨rfl, rfl⟩)
      | (go_at_call 34; refine (finish_any _ _).mono ?_; rintro e w' ⟨rfl, rfl⟩))
    go_ret
    exact ⟨ret_int (HR.out.long HN.out h32), rfl⟩
  · go_enter Try.func25, Try.ntmps25
    go_wp2_with (first
      | (go_at_call 33; refine (withRest_any b L R n _ _ HS.out hc1).mono ?_; rintro e w' ⟨rfl, rfl⟩)
      | (go_at_call 34; refine (finish_any _ _).mono ?_; rintro e w' ⟨rfl, rfl⟩))
    go_ret
    exact ⟨ret_int (HR.out.bare HN.out h32), rfl⟩
theorem Try.size65 : (Try.prog.info? 65).map (·.size) = some zeros.size := by kernel_rfl
theorem Try.size62 : (Try.prog.info? 62).map (·.size) = some lanes0.size := by kernel_rfl
theorem zeros_one : zeros.all (·.oneCell') = true := by decide +kernel
theorem lanes0_one : lanes0.all (·.oneCell') = true := by simp [lanes0, Value.oneCell']
set_option maxHeartbeats 1000000 in
theorem start_any (b : Nat) (L R : Nat → Int) (c : Int) (w : World) (hs : SumAt w b L R c) :
    Calls Try.prog 27 #[.pointer (some ⟨b, 0, none⟩)] w fun e w' => e = .returned (.tuple #[]) ∧ Upd b w w' ∧ Rep w' b [] (fun _ => 0) (fun _ => 0) := by
  have ht := hs.there 37 (by omega)
  have HS : Hid (SumAt w b L R c) := hs
  clear hs
  go_enter Try.func27, Try.ntmps27
  go_wp2_with (refine wpList_store_mid rfl 65 (.tmp 4) (.tmp 3) rfl b 0 zeros rfl rfl (by rw [zeros_size]; exact ht) Try.size65 zeros_one ?_)
  go_end0
  exact ⟨rfl, (Upd.refl b w).setCells _ _, HS.out.restart⟩
set_option maxHeartbeats 1000000 in
theorem fold_any (b : Nat) (L R : Nat → Int) (c : Nat) (w : World) (hs : SumAt w b L R c) (h32 : 32 < c) :
    Calls Try.prog 35 #[.pointer (some ⟨b, 0, none⟩)] w fun e w' => e = .returned (.tuple #[]) ∧ Upd b w w' ∧ SumAt w' b (lapped L R 4) R c := by
  have hc := hs.count
  have HS : Hid (SumAt w b L R c) := hs
  clear hs
  have hc32 : ((c : Int) == 32) = false := by simp; omega
  go_enter Try.func35, Try.ntmps35
  go_wp2
  clear hc
  go_loopw [2] (fun k wr => ∃ j : Nat, j ≤ 4 ∧ k = .int .i64 j ∧ Upd b w wr ∧ SumAt wr b (lapped L R j) R c) (fun k _ => (4 - intOf k).toNat)
  case atStart => exact ⟨0, by omega, rfl, Upd.refl _ _, by rw [lapped_zero]; exact HS.out⟩
  case round =>
    obtain ⟨j, hj, rfl, hu, hs⟩ := hrel
    by_cases hlt : j < 4
    · have hl : wr.cell? ⟨b, j, none⟩ = some (.int .u64 (L j)) := by rw [hs.lane j hlt, lapped_at]
      have hf := hs.free j
      have HU : Hid (Upd b w wr) := hu
      have HR : Hid (SumAt wr b (lapped L R j) R c) := hs
      clear hu hs HS
      go_wp2_with (go_at_call 53; refine (number_any b (lapped L R j) R c _ _ _ HR.out (by omega) (by omega) (by omega)).mono ?_; rintro e w' ⟨rfl, rfl⟩)
      go_region_with (go_at_call 52; refine (lap_any _ _ _).mono ?_; rintro e w' ⟨rfl, rfl⟩)
      all_goals go_wp2
      exact ⟨⟨j + 1, by omega, by go_num, (HU.out.setCell _ _).drew, (HR.out.lap hlt).drew⟩, by simp [intOf]; omega⟩
    · obtain rfl : j = 4 := by omega
      go_wp2
      go_end0
      exact ⟨rfl, hu, hs⟩
set_option maxHeartbeats 1000000 in
theorem fold_first (b : Nat) (L R : Nat → Int) (w : World) (hs : SumAt w b L R (32 : Nat)) :
    Calls Try.prog 35 #[.pointer (some ⟨b, 0, none⟩)] w fun e w' => e = .returned (.tuple #[]) ∧ Upd b w w' ∧ SumAt w' b (lapped Xi.lane0 R 4) R (32 : Nat) := by
  have hc : w.cell? ⟨b, 36, none⟩ = some (.int .u64 32) := hs.count
  have HS : Hid (SumAt w b L R (32 : Nat)) := hs
  clear hs
  go_enter Try.func35, Try.ntmps35
  go_wp2_with fail
  refine (first_any _).mono ?_
  rintro e w1 ⟨rfl, hw1⟩
  have H1 : Hid (SumAt w1 b L R (32 : Nat)) := by rw [hw1]; exact HS.out.alloc _
  have HU : Hid (Upd b w w1) := by rw [hw1]; exact (Upd.refl b w).alloc _
  clear hw1 hc HS
  go_wp2_with (refine wpList_store_mid rfl 62 (.tmp 12) (.tmp 10) rfl b 0 lanes0 rfl rfl (H1.out.there 4 (by omega)) Try.size62 lanes0_one ?_)
  obtain ⟨w2, hw2⟩ : ∃ w2, w2 = w1.setCells b 0 lanes0.toList := ⟨_, rfl⟩
  have H2 : Hid (SumAt w2 b Xi.lane0 R (32 : Nat)) := by rw [hw2]; exact H1.out.setLanes
  have HV : Hid (Upd b w w2) := by rw [hw2]; exact HU.out.setCells _ _
  rw [← hw2]
  clear hw2 H1 HU
  go_loopw [2] (fun k wr => ∃ j : Nat, j ≤ 4 ∧ k = .int .i64 j ∧ Upd b w wr ∧ SumAt wr b (lapped Xi.lane0 R j) R (32 : Nat)) (fun k _ => (4 - intOf k).toNat)
  case atStart => exact ⟨0, by omega, rfl, HV.out, by rw [lapped_zero]; exact H2.out⟩
  case round =>
    obtain ⟨j, hj, rfl, hu, hs⟩ := hrel
    by_cases hlt : j < 4
    · have hl : wr.cell? ⟨b, j, none⟩ = some (.int .u64 (Xi.lane0 j)) := by rw [hs.lane j hlt, lapped_at]
      have hf := hs.free j
      have HU : Hid (Upd b w wr) := hu
      have HR : Hid (SumAt wr b (lapped Xi.lane0 R j) R (32 : Nat)) := hs
      clear hu hs H2 HV
      go_wp2_with (go_at_call 53; refine (number_any b (lapped Xi.lane0 R j) R (32 : Nat) _ _ _ HR.out (by omega) (by omega) (by omega)).mono ?_; rintro e w' ⟨rfl, rfl⟩)
      go_region_with (go_at_call 52; refine (lap_any _ _ _).mono ?_; rintro e w' ⟨rfl, rfl⟩)
      all_goals go_wp2
      exact ⟨⟨j + 1, by omega, by go_num, (HU.out.setCell _ _).drew, (HR.out.lap hlt).drew⟩, by simp [intOf]; omega⟩
    · obtain rfl : j = 4 := by omega
      go_wp2
      go_end0
      exact ⟨rfl, hu, hs⟩
/-- a whole lot of 32 bytes goes into the lanes -/
theorem fold_all (b : Nat) (L L' R : Nat → Int) (c : Nat) (w : World) (hs : SumAt w b L R c) (hL : c = 32 ∧ L' = Xi.lane0 ∨ 32 < c ∧ L' = L) :
    Calls Try.prog 35 #[.pointer (some ⟨b, 0, none⟩)] w fun e w' => e = .returned (.tuple #[]) ∧ Upd b w w' ∧ SumAt w' b (lapped L' R 4) R c := by
  rcases hL with ⟨rfl, rfl⟩ | ⟨h, rfl⟩
  · exact fold_first b L R w hs
  · exact fold_any b L' R c w hs h
end Go.Proofs.Ytkfilgfcgmohlaa
namespace Go.Proofs.Ytkfilgfcgmohlaa
open Go.RowKit
set_option maxRecDepth 100000 in
set_option maxHeartbeats 1000000 in
theorem add_any (b lb lo cap : Nat) (L R : Nat → Int) (l m : List UInt8) (pa : Option Addr) (w : World) (hp : Rep w b l L R) (hne : lb ≠ b) (hlb : lb < w.heap.size)
    (hm : m ≠ [] → pa = some ⟨lb, lo, none⟩) (hcm : ∀ i, i < m.length → w.cell? ⟨lb, lo + i, none⟩ = some (.int .u8 (Xi.byte m i))) (hc1 : l.length + m.length ≤ 1099511627776) :
    Calls Try.prog 26 #[.pointer (some ⟨b, 0, none⟩), .slice pa m.length cap] w fun e w' => e = .returned (.tuple #[]) ∧ Upd b w w' ∧ ∃ L' R', Rep w' b (l ++ m) L' R' := by
  have HR : Hid (Rep w b l L R) := hp
  clear hp
  go_enter Try.func26, Try.ntmps26
  go_wp2
  go_loopw [4] (fun i wr => ∃ j : Nat, j ≤ m.length ∧ i = .int .i64 j ∧ Upd b w wr ∧ ∃ L' R', Rep wr b (l ++ m.take j) L' R') (fun i _ => (m.length - intOf i).toNat)
  case atStart => exact ⟨0, by omega, rfl, Upd.refl _ _, L, R, by simpa using HR.out⟩
  case round =>
    obtain ⟨j, hj, rfl, hu, L1, R1, hr⟩ := hrel
    clear HR
    by_cases hlt : j < m.length
    · obtain rfl := hm (by intro e; rw [e] at hlt; simp at hlt)
      obtain ⟨n, hn⟩ : ∃ n, n = (l ++ m.take j).length := ⟨_, rfl⟩
      have hn2 : n ≤ 1099511627776 := by rw [hn]; simp; omega
      have hcx : wr.cell? ⟨lb, lo + j, none⟩ = some (.int .u8 (Xi.byte m j)) := (hu.cell (p := ⟨lb, lo + j, none⟩) hlb hne).trans (hcm j hlt)
      have hct : wr.cell? ⟨b, 36, none⟩ = some (.int .u64 n) := by rw [hn]; exact hr.cells.count
      have hfr := hr.cells.free
      have hrs := hr.cells.rest (n % 32) (by omega)
      have HN : Hid (n = (l ++ m.take j).length) := hn
      have HU : Hid (Upd b w wr) := hu
      have HP : Hid (Rep wr b (l ++ m.take j) L1 R1) := hr
      clear hn hu hr hm hcm
      have hfr36 := hfr 36
      have hfrp := hfr (4 + n % 32)
      have hct2 : ∀ v, (wr.setCell ⟨b, 4 + n % 32, none⟩ v).cell? ⟨b, 36, none⟩ = some (.int .u64 n) := fun v => by rw [cs_other (addr_ne (by omega))]; exact hct
      by_cases h31 : n % 32 = 31
      · have hb31 : ((n : Int) % 32 == 31) = true := by simp; omega
        have H31 : Hid (n % 32 = 31) := h31
        clear hfr h31
        go_wp2
        go_region
        all_goals go_wp2_with fail
        obtain ⟨L', hL⟩ : ∃ L', n + 1 = 32 ∧ L' = Xi.lane0 ∨ 32 < n + 1 ∧ L' = L1 := by
          have := H31.out
          by_cases h : n + 1 = 32
          · exact ⟨_, Or.inl ⟨h, rfl⟩⟩
          · exact ⟨_, Or.inr ⟨by omega, rfl⟩⟩
        have HL : Hid (n + 1 = 32 ∧ L' = Xi.lane0 ∨ 32 < n + 1 ∧ L' = L1) := hL
        clear hL
        refine (fold_all b L1 L' _ (n + 1) _ (HP.out.brim HN.out hlt) HL.out).mono ?_
        rintro e w2 ⟨rfl, hu2, hs2⟩
        have HU2 : Hid (Upd b w w2) := ((HU.out.setCell _ _).setCell _ _).drew.trans hu2
        have HP2 : Hid (∃ L' R', Rep w2 b (l ++ m.take (j + 1)) L' R') := HP.out.full HN.out hlt H31.out HL.out hs2
        clear hu2 hs2
        go_wp2
        exact ⟨⟨j + 1, by omega, by go_num, HU2.out, HP2.out⟩, by simp [intOf]; omega⟩
      · have hb31 : ((n : Int) % 32 == 31) = false := by simp; omega
        clear hfr
        go_wp2
        go_region
        all_goals go_wp2
        exact ⟨⟨j + 1, by omega, by go_num, ((HU.out.setCell _ _).setCell _ _).drew, HP.out.push HN.out hlt h31⟩, by simp [intOf]; omega⟩
    · obtain rfl : j = m.length := by omega
      go_wp2
      go_end0
      rw [List.take_length] at hr
      exact ⟨rfl, hu, L1, R1, hr⟩
end Go.Proofs.Ytkfilgfcgmohlaa
namespace Go.Proofs.Ytkfilgfcgmohlaa
open Go.RowKit
set_option maxRecDepth 100000 in
set_option maxHeartbeats 1000000 in
theorem newSum_any (w : World) :
    Calls Try.prog 15 #[] w fun e w' => e = .returned (.pointer (some ⟨w.heap.size, 0, none⟩)) ∧ w' = w.alloc (.cells zeros 67) := by
  go_enter Try.func15, Try.ntmps15
  go_wp2
  go_ret
  exact ⟨rfl, rfl⟩
theorem Rep.new (w : World) (t : TypeId) : Rep (w.alloc (.cells zeros t)) w.heap.size [] (fun _ => 0) (fun _ => 0) :=
  Rep.zero (fun i _ => by rw [World.cell?_alloc_new]) (fun i => by rw [World.frozen?_alloc_new])
set_option maxRecDepth 100000 in
set_option maxHeartbeats 1000000 in
theorem fsValue_any (b : Nat) (L R : Nat → Int) (l : List UInt8) (w : World) (hp : Rep w b l L R) (hc1 : l.length ≤ 1099511627776) :
    Calls Try.prog 16 #[.pointer (some ⟨b, 0, none⟩)] w fun e w' => e = .returned (.int .i64 (wrap64 (Xi.sum l))) ∧ w' = w := by
  have HR : Hid (Rep w b l L R) := hp
  clear hp
  go_enter Try.func16, Try.ntmps16
  go_wp2_with (go_at_call 25; refine (sumValue_any b L R l _ HR.out hc1).mono ?_; rintro e w' ⟨rfl, rfl⟩)
  go_ret
  exact ⟨rfl, rfl⟩
set_option maxRecDepth 100000 in
set_option maxHeartbeats 1000000 in
theorem fsStart_any (b : Nat) (L R : Nat → Int) (l : List UInt8) (w : World) (hp : Rep w b l L R) :
    Calls Try.prog 18 #[.pointer (some ⟨b, 0, none⟩)] w fun e w' => e = .returned (.tuple #[]) ∧ Upd b w w' ∧ Rep w' b [] (fun _ => 0) (fun _ => 0) := by
  have HR : Hid (SumAt w b L R l.length) := hp.cells
  clear hp
  go_enter Try.func18, Try.ntmps18
  go_wp2_with (go_at_call 27; refine (start_any b L R _ _ HR.out).mono ?_; rintro e w' ⟨rfl, hu⟩)
  go_end0
  exact ⟨rfl, hu⟩
set_option maxRecDepth 100000 in
set_option maxHeartbeats 1000000 in
theorem fsAdd_any (b lb lo cap : Nat) (L R : Nat → Int) (l m : List UInt8) (n : Nat) (pa : Option Addr) (w : World) (hp : Rep w b l L R) (hne : lb ≠ b) (hlb : lb < w.heap.size)
    (hn : n = m.length) (hm : m ≠ [] → pa = some ⟨lb, lo, none⟩) (hcm : ∀ i, i < m.length → w.cell? ⟨lb, lo + i, none⟩ = some (.int .u8 (Xi.byte m i))) (hc1 : l.length + m.length ≤ 1099511627776) :
    Calls Try.prog 17 #[.pointer (some ⟨b, 0, none⟩), .slice pa n cap] w fun e w' => e = .returned (.tuple #[]) ∧ Upd b w w' ∧ ∃ L' R', Rep w' b (l ++ m) L' R' := by
  subst hn
  have H : Hid (Rep w b l L R ∧ lb ≠ b ∧ lb < w.heap.size ∧ (m ≠ [] → pa = some ⟨lb, lo, none⟩) ∧ (∀ i, i < m.length → w.cell? ⟨lb, lo + i, none⟩ = some (.int .u8 (Xi.byte m i))) ∧ l.length + m.length ≤ 1099511627776) := ⟨hp, hne, hlb, hm, hcm, hc1⟩
  clear hp hne hlb hm hcm hc1
  go_enter Try.func17, Try.ntmps17
  go_wp2_with fail
  refine (add_any b lb lo cap L R l m pa w H.out.1 H.out.2.1 H.out.2.2.1 H.out.2.2.2.1 H.out.2.2.2.2.1 H.out.2.2.2.2.2).mono ?_
  rintro e w' ⟨rfl, hu⟩
  go_wp2
  go_end0
  exact ⟨rfl, hu⟩
theorem neg_fold (c : Int) (h1 : -9223372036854775808 ≤ c) (h : c < 0) : wrap64 (-wrap64 (c + 1)) = -(c + 1) := by unfold wrap64; omega
theorem i64_low {c : Int} (hc : (Lit.int .i64 c).wf = true) : -9223372036854775808 ≤ c := by simp [Lit.wf, IntKind.min, IntKind.max, IntKind.bits, IntKind.signed] at hc; omega
end Go.Proofs.Ytkfilgfcgmohlaa
