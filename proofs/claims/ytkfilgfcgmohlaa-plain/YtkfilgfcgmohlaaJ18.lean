import Derived.Test.YtkfilgfcgmohlaaJ17
import Derived.WalkSpells
import Derived.WalkLawsBesides
import Derived.Deep.RegionWith
import Derived.Deep.MidRow
import Derived.Lib.ConvBytes
import Derived.Lib.SlBytesConst
import Derived.WalkKit
import Derived.Laws.BitsAllLaws
namespace Go.Proofs.Ytkfilgfcgmohlaa
open Go.RowKit
set_option maxRecDepth 100000 in
set_option maxHeartbeats 1000000 in
theorem sumValue_any (b : Nat) (L R : Nat → Int) (l : List UInt8) (w : World) (hp : Rep w b l L R) (hc1 : l.length ≤ 1099511627776) :
    Calls Try.prog 25 #[.pointer (some ⟨b, 0, none⟩)] w fun e w' => e = .returned (.int .u64 (Xi.sum l)) ∧ w' = w := by
  have hc := hp.cells.count
  have HR : Hid (Rep w b l L R) := hp
  have HS : Hid (SumAt w b L R l.length) := hp.cells
  clear hp
  obtain ⟨n, hn⟩ : ∃ n, n = l.length := ⟨_, rfl⟩
  rw [← hn] at hc HS hc1
  have HN : Hid (n = l.length) := hn
  clear hn
  by_cases h32 : 32 ≤ n
  · go_enter Try.func25, Try.ntmps25
    go_wp2_with (first
      | (go_at_call 32; refine (joined_any b L R n _ HS.out).mono ?_; rintro e w' ⟨rfl, rfl⟩)
      | (go_at_call 33; refine (withRest_any b L R n _ _ HS.out hc1).mono ?_; rintro e w' ⟨rfl, rfl⟩)
      | (go_at_call 34; refine (finish_any _ _).mono ?_; rintro e w' ⟨rfl, rfl⟩))
    go_ret
    exact ⟨ret_int (HR.out.long HN.out h32), rfl⟩
  · go_enter Try.func25, Try.ntmps25
    go_wp2_with (first
      | (go_at_call 33; refine (withRest_any b L R n _ _ HS.out hc1).mono ?_; rintro e w' ⟨rfl, rfl⟩)
      | (go_at_call 34; refine (finish_any _ _).mono ?_; rintro e w' ⟨rfl, rfl⟩))
    go_ret
    exact ⟨ret_int (HR.out.bare HN.out h32), rfl⟩
theorem Try.size65 : (Try.prog.info? 65).map (·.size) = some zeros.size := by kernel_rfl
theorem Try.size62 : (Try.prog.info? 62).map (·.size) = some lanes0.size := by kernel_rfl
theorem zeros_one : zeros.all (·.oneCell') = true := by decide +kernel
theorem lanes0_one : lanes0.all (·.oneCell') = true := by simp [lanes0, Value.oneCell']
set_option maxHeartbeats 1000000 in
theorem start_any (b : Nat) (L R : Nat → Int) (c : Int) (w : World) (hs : SumAt w b L R c) :
    Calls Try.prog 27 #[.pointer (some ⟨b, 0, none⟩)] w fun e w' => e = .returned (.tuple #[]) ∧ Upd b w w' ∧ Rep w' b [] (fun _ => 0) (fun _ => 0) := by
  have ht := hs.there 37 (by omega)
  have HS : Hid (SumAt w b L R c) := hs
  clear hs
  go_enter Try.func27, Try.ntmps27
  go_wp2_with (refine wpList_store_mid rfl 65 (.tmp 4) (.tmp 3) rfl b 0 zeros rfl rfl (by rw [zeros_size]; exact ht) Try.size65 zeros_one ?_)
  go_end0
  exact ⟨rfl, (Upd.refl b w).setCells _ _, HS.out.restart⟩
set_option maxHeartbeats 1000000 in
theorem fold_any (b : Nat) (L R : Nat → Int) (c : Nat) (w : World) (hs : SumAt w b L R c) (h32 : 32 < c) :
    Calls Try.prog 35 #[.pointer (some ⟨b, 0, none⟩)] w fun e w' => e = .returned (.tuple #[]) ∧ Upd b w w' ∧ SumAt w' b (lapped L R 4) R c := by
  have hc := hs.count
  have HS : Hid (SumAt w b L R c) := hs
  clear hs
  have hc32 : ((c : Int) == 32) = false := by simp; omega
  go_enter Try.func35, Try.ntmps35
  go_wp2
  clear hc
  go_loopw [2] (fun k wr => ∃ j : Nat, j ≤ 4 ∧ k = .int .i64 j ∧ Upd b w wr ∧ SumAt wr b (lapped L R j) R c) (fun k _ => (4 - intOf k).toNat)
  case atStart => exact ⟨0, by omega, rfl, Upd.refl _ _, by rw [lapped_zero]; exact HS.out⟩
  case round =>
    obtain ⟨j, hj, rfl, hu, hs⟩ := hrel
    by_cases hlt : j < 4
    · have hl : wr.cell? ⟨b, j, none⟩ = some (.int .u64 (L j)) := by rw [hs.lane j hlt, lapped_at]
      have hf := hs.free j
      have HU : Hid (Upd b w wr) := hu
      have HR : Hid (SumAt wr b (lapped L R j) R c) := hs
      clear hu hs HS
      go_wp2_with (go_at_call 53; refine (number_any b (lapped L R j) R c _ _ _ HR.out (by omega) (by omega) (by omega)).mono ?_; rintro e w' ⟨rfl, rfl⟩)
      go_region_with (go_at_call 52; refine (lap_any _ _ _).mono ?_; rintro e w' ⟨rfl, rfl⟩)
      all_goals go_wp2
      exact ⟨⟨j + 1, by omega, by go_num, (HU.out.setCell _ _).drew, (HR.out.lap hlt).drew⟩, by simp [intOf]; omega⟩
    · obtain rfl : j = 4 := by omega
      go_wp2
      go_end0
      exact ⟨rfl, hu, hs⟩
set_option maxHeartbeats 1000000 in
theorem fold_first (b : Nat) (L R : Nat → Int) (w : World) (hs : SumAt w b L R (32 : Nat)) :
    Calls Try.prog 35 #[.pointer (some ⟨b, 0, none⟩)] w fun e w' => e = .returned (.tuple #[]) ∧ Upd b w w' ∧ SumAt w' b (lapped Xi.lane0 R 4) R (32 : Nat) := by
  have hc : w.cell? ⟨b, 36, none⟩ = some (.int .u64 32) := hs.count
  have HS : Hid (SumAt w b L R (32 : Nat)) := hs
  clear hs
  go_enter Try.func35, Try.ntmps35
  go_wp2_with fail
  refine (first_any _).mono ?_
  rintro e w1 ⟨rfl, hw1⟩
  have H1 : Hid (SumAt w1 b L R (32 : Nat)) := by rw [hw1]; exact HS.out.alloc _
  have HU : Hid (Upd b w w1) := by rw [hw1]; exact (Upd.refl b w).alloc _
  clear hw1 hc HS
  go_wp2_with (refine wpList_store_mid rfl 62 (.tmp 12) (.tmp 10) rfl b 0 lanes0 rfl rfl (H1.out.there 4 (by omega)) Try.size62 lanes0_one ?_)
  obtain ⟨w2, hw2⟩ : ∃ w2, w2 = w1.setCells b 0 lanes0.toList := ⟨_, rfl⟩
  have H2 : Hid (SumAt w2 b Xi.lane0 R (32 : Nat)) := by rw [hw2]; exact H1.out.setLanes
  have HV : Hid (Upd b w w2) := by rw [hw2]; exact HU.out.setCells _ _
  rw [← hw2]
  clear hw2 H1 HU
  go_loopw [2] (fun k wr => ∃ j : Nat, j ≤ 4 ∧ k = .int .i64 j ∧ Upd b w wr ∧ SumAt wr b (lapped Xi.lane0 R j) R (32 : Nat)) (fun k _ => (4 - intOf k).toNat)
  case atStart => exact ⟨0, by omega, rfl, HV.out, by rw [lapped_zero]; exact H2.out⟩
  case round =>
    obtain ⟨j, hj, rfl, hu, hs⟩ := hrel
    by_cases hlt : j < 4
    · have hl : wr.cell? ⟨b, j, none⟩ = some (.int .u64 (Xi.lane0 j)) := by rw [hs.lane j hlt, lapped_at]
      have hf := hs.free j
      have HU : Hid (Upd b w wr) := hu
      have HR : Hid (SumAt wr b (lapped Xi.lane0 R j) R (32 : Nat)) := hs
      clear hu hs H2 HV
      go_wp2_with (go_at_call 53; refine (number_any b (lapped Xi.lane0 R j) R (32 : Nat) _ _ _ HR.out (by omega) (by omega) (by omega)).mono ?_; rintro e w' ⟨rfl, rfl⟩)
      go_region_with (go_at_call 52; refine (lap_any _ _ _).mono ?_; rintro e w' ⟨rfl, rfl⟩)
      all_goals go_wp2
      exact ⟨⟨j + 1, by omega, by go_num, (HU.out.setCell _ _).drew, (HR.out.lap hlt).drew⟩, by simp [intOf]; omega⟩
    · obtain rfl : j = 4 := by omega
      go_wp2
      go_end0
      exact ⟨rfl, hu, hs⟩
/-- a whole lot of 32 bytes goes into the lanes -/
theorem fold_all (b : Nat) (L L' R : Nat → Int) (c : Nat) (w : World) (hs : SumAt w b L R c) (hL : c = 32 ∧ L' = Xi.lane0 ∨ 32 < c ∧ L' = L) :
    Calls Try.prog 35 #[.pointer (some ⟨b, 0, none⟩)] w fun e w' => e = .returned (.tuple #[]) ∧ Upd b w w' ∧ SumAt w' b (lapped L' R 4) R c := by
  rcases hL with ⟨rfl, rfl⟩ | ⟨h, rfl⟩
  · exact fold_first b L R w hs
  · exact fold_any b L' R c w hs h
end Go.Proofs.Ytkfilgfcgmohlaa
namespace Go.Proofs.Ytkfilgfcgmohlaa
open Go.RowKit
set_option maxRecDepth 100000 in
set_option maxHeartbeats 1000000 in
theorem add_any (b lb lo cap : Nat) (L R : Nat → Int) (l m : List UInt8) (pa : Option Addr) (w : World) (hp : Rep w b l L R) (hne : lb ≠ b) (hlb : lb < w.heap.size)
    (hm : m ≠ [] → pa = some ⟨lb, lo, none⟩) (hcm : ∀ i, i < m.length → w.cell? ⟨lb, lo + i, none⟩ = some (.int .u8 (Xi.byte m i))) (hc1 : l.length + m.length ≤ 1099511627776) :
    Calls Try.prog 26 #[.pointer (some ⟨b, 0, none⟩), .slice pa m.length cap] w fun e w' => e = .returned (.tuple #[]) ∧ Upd b w w' ∧ ∃ L' R', Rep w' b (l ++ m) L' R' := by
  have HR : Hid (Rep w b l L R) := hp
  clear hp
  go_enter Try.func26, Try.ntmps26
  go_wp2
  go_loopw [4] (fun i wr => ∃ j : Nat, j ≤ m.length ∧ i = .int .i64 j ∧ Upd b w wr ∧ ∃ L' R', Rep wr b (l ++ m.take j) L' R') (fun i _ => (m.length - intOf i).toNat)
  case atStart => exact ⟨0, by omega, rfl, Upd.refl _ _, L, R, by simpa using HR.out⟩
  case round =>
    obtain ⟨j, hj, rfl, hu, L1, R1, hr⟩ := hrel
    clear HR
    by_cases hlt : j < m.length
    · obtain rfl := hm (by intro e; rw [e] at hlt; simp at hlt)
      obtain ⟨n, hn⟩ : ∃ n, n = (l ++ m.take j).length := ⟨_, rfl⟩
      have hn2 : n ≤ 1099511627776 := by rw [hn]; simp; omega
      have hcx : wr.cell? ⟨lb, lo + j, none⟩ = some (.int .u8 (Xi.byte m j)) := (hu.cell (p := ⟨lb, lo + j, none⟩) hlb hne).trans (hcm j hlt)
      have hct : wr.cell? ⟨b, 36, none⟩ = some (.int .u64 n) := by rw [hn]; exact hr.cells.count
      have hfr := hr.cells.free
      have hrs := hr.cells.rest (n % 32) (by omega)
      have HN : Hid (n = (l ++ m.take j).length) := hn
      have HU : Hid (Upd b w wr) := hu
      have HP : Hid (Rep wr b (l ++ m.take j) L1 R1) := hr
      clear hn hu hr hm hcm
      have hfr36 := hfr 36
      have hfrp := hfr (4 + n % 32)
      have hct2 : ∀ v, (wr.setCell ⟨b, 4 + n % 32, none⟩ v).cell? ⟨b, 36, none⟩ = some (.int .u64 n) := fun v => by rw [cs_other (addr_ne (by omega))]; exact hct
      by_cases h31 : n % 32 = 31
      · have hb31 : ((n : Int) % 32 == 31) = true := by simp; omega
        have H31 : Hid (n % 32 = 31) := h31
        clear hfr h31
        go_wp2
        go_region
        all_goals go_wp2_with fail
        obtain ⟨L', hL⟩ : ∃ L', n + 1 = 32 ∧ L' = Xi.lane0 ∨ 32 < n + 1 ∧ L' = L1 := by
          have := H31.out
          by_cases h : n + 1 = 32
          · exact ⟨_, Or.inl ⟨h, rfl⟩⟩
          · exact ⟨_, Or.inr ⟨by omega, rfl⟩⟩
        have HL : Hid (n + 1 = 32 ∧ L' = Xi.lane0 ∨ 32 < n + 1 ∧ L' = L1) := hL
        clear hL
        refine (fold_all b L1 L' _ (n + 1) _ (HP.out.brim HN.out hlt) HL.out).mono ?_
        rintro e w2 ⟨rfl, hu2, hs2⟩
        have HU2 : Hid (Upd b w w2) := ((HU.out.setCell _ _).setCell _ _).drew.trans hu2
        have HP2 : Hid (∃ L' R', Rep w2 b (l ++ m.take (j + 1)) L' R') := HP.out.full HN.out hlt H31.out HL.out hs2
        clear hu2 hs2
        go_wp2
        exact ⟨⟨j + 1, by omega, by go_num, HU2.out, HP2.out⟩, by simp [intOf]; omega⟩
      · have hb31 : ((n : Int) % 32 == 31) = false := by simp; omega
        clear hfr
        go_wp2
        go_region
        all_goals go_wp2
        exact ⟨⟨j + 1, by omega, by go_num, ((HU.out.setCell _ _).setCell _ _).drew, HP.out.push HN.out hlt h31⟩, by simp [intOf]; omega⟩
    · obtain rfl : j = m.length := by omega
      go_wp2
      go_end0
      rw [List.take_length] at hr
      exact ⟨rfl, hu, L1, R1, hr⟩
end Go.Proofs.Ytkfilgfcgmohlaa
namespace Go.Proofs.Ytkfilgfcgmohlaa
open Go.RowKit
set_option maxRecDepth 100000 in
set_option maxHeartbeats 1000000 in
theorem newSum_any (w : World) :
    Calls Try.prog 15 #[] w fun e w' => e = .returned (.pointer (some ⟨w.heap.size, 0, none⟩)) ∧ w' = w.alloc (.cells zeros 67) := by
  go_enter Try.func15, Try.ntmps15
  go_wp2
  go_ret
  exact ⟨rfl, rfl⟩
theorem Rep.new (w : World) (t : TypeId) : Rep (w.alloc (.cells zeros t)) w.heap.size [] (fun _ => 0) (fun _ => 0) :=
  Rep.zero (fun i _ => by rw [World.cell?_alloc_new]) (fun i => by rw [World.frozen?_alloc_new])
set_option maxRecDepth 100000 in
set_option maxHeartbeats 1000000 in
theorem fsValue_any (b : Nat) (L R : Nat → Int) (l : List UInt8) (w : World) (hp : Rep w b l L R) (hc1 : l.length ≤ 1099511627776) :
    Calls Try.prog 16 #[.pointer (some ⟨b, 0, none⟩)] w fun e w' => e = .returned (.int .i64 (wrap64 (Xi.sum l))) ∧ w' = w := by
  have HR : Hid (Rep w b l L R) := hp
  clear hp
  go_enter Try.func16, Try.ntmps16
  go_wp2_with (go_at_call 25; refine (sumValue_any b L R l _ HR.out hc1).mono ?_; rintro e w' ⟨rfl, rfl⟩)
  go_ret
  exact ⟨rfl, rfl⟩
set_option maxRecDepth 100000 in
set_option maxHeartbeats 1000000 in
theorem fsStart_any (b : Nat) (L R : Nat → Int) (l : List UInt8) (w : World) (hp : Rep w b l L R) :
    Calls Try.prog 18 #[.pointer (some ⟨b, 0, none⟩)] w fun e w' => e = .returned (.tuple #[]) ∧ Upd b w w' ∧ Rep w' b [] (fun _ => 0) (fun _ => 0) := by
  have HR : Hid (SumAt w b L R l.length) := hp.cells
  clear hp
  go_enter Try.func18, Try.ntmps18
  go_wp2_with (go_at_call 27; refine (start_any b L R _ _ HR.out).mono ?_; rintro e w' ⟨rfl, hu⟩)
  go_end0
  exact ⟨rfl, hu⟩
set_option maxRecDepth 100000 in
set_option maxHeartbeats 1000000 in
theorem fsAdd_any (b lb lo cap : Nat) (L R : Nat → Int) (l m : List UInt8) (n : Nat) (pa : Option Addr) (w : World) (hp : Rep w b l L R) (hne : lb ≠ b) (hlb : lb < w.heap.size)
    (hn : n = m.length) (hm : m ≠ [] → pa = some ⟨lb, lo, none⟩) (hcm : ∀ i, i < m.length → w.cell? ⟨lb, lo + i, none⟩ = some (.int .u8 (Xi.byte m i))) (hc1 : l.length + m.length ≤ 1099511627776) :
    Calls Try.prog 17 #[.pointer (some ⟨b, 0, none⟩), .slice pa n cap] w fun e w' => e = .returned (.tuple #[]) ∧ Upd b w w' ∧ ∃ L' R', Rep w' b (l ++ m) L' R' := by
  subst hn
  have H : Hid (Rep w b l L R ∧ lb ≠ b ∧ lb < w.heap.size ∧ (m ≠ [] → pa = some ⟨lb, lo, none⟩) ∧ (∀ i, i < m.length → w.cell? ⟨lb, lo + i, none⟩ = some (.int .u8 (Xi.byte m i))) ∧ l.length + m.length ≤ 1099511627776) := ⟨hp, hne, hlb, hm, hcm, hc1⟩
  clear hp hne hlb hm hcm hc1
  go_enter Try.func17, Try.ntmps17
  go_wp2_with fail
  refine (add_any b lb lo cap L R l m pa w H.out.1 H.out.2.1 H.out.2.2.1 H.out.2.2.2.1 H.out.2.2.2.2.1 H.out.2.2.2.2.2).mono ?_
  rintro e w' ⟨rfl, hu⟩
  go_wp2
  go_end0
  exact ⟨rfl, hu⟩
theorem neg_fold (c : Int) (h1 : -9223372036854775808 ≤ c) (h : c < 0) : wrap64 (-wrap64 (c + 1)) = -(c + 1) := by unfold wrap64; omega
theorem i64_low {c : Int} (hc : (Lit.int .i64 c).wf = true) : -9223372036854775808 ≤ c := by simp [Lit.wf, IntKind.min, IntKind.max, IntKind.bits, IntKind.signed] at hc; omega
end Go.Proofs.Ytkfilgfcgmohlaa
namespace Go.Proofs.Ytkfilgfcgmohlaa
open Go.RowKit
theorem u64_low (x : Nat) (h : x < 18446744073709551616) : bits .and .u64 (x : Int) 4294967295 = ((low32 x : Nat) : Int) := by
  unfold low32
  rw [show (4294967295 : Int) = ((4294967295 : Nat) : Int) from rfl, u64_and_nat x 4294967295 h (by omega)]
  rw [show (4294967295 : Nat) = 2 ^ 32 - 1 from rfl, Nat.and_two_pow_sub_one_eq_mod]
theorem xsumN_lt (s : ByteArray) : xsumN s < 18446744073709551616 := by
  unfold xsumN lastN
  unfold last2
  exact xor_lt _ _ (mulM_lt _ _) (Nat.lt_of_le_of_lt (Nat.div_le_self _ _) (mulM_lt _ _))
theorem DSt.keep {w w' : World} {d g : Nat} {s : ByteArray} {limit k : Nat} {out : List Nat} (h : DSt w d g s limit k out) (hd : w'.heap[d]? = w.heap[d]?) (hg : w'.heap[g]? = w.heap[g]?) (hl : w.heap.size ≤ w'.heap.size) : DSt w' d g s limit k out := by
  obtain ⟨r, h1, h2⟩ := h.rest
  have hc : ∀ i, w'.cell? ⟨d, i, none⟩ = w.cell? ⟨d, i, none⟩ := fun i => World.cell?_of_block (a := ⟨d, i, none⟩) hd
  have hcg : ∀ i, w'.cell? ⟨g, i, none⟩ = w.cell? ⟨g, i, none⟩ := fun i => World.cell?_of_block (a := ⟨g, i, none⟩) hg
  exact ⟨⟨r, (hc 0).trans h1, h2⟩, (hc 1).trans h.c1, (hc 2).trans h.c2, fun i => (World.frozen?_of_block (a := ⟨d, i, none⟩) hd).trans (h.fz i), fun i => (World.frozen?_of_block (a := ⟨g, i, none⟩) hg).trans (h.fg i), fun i hi => by rw [hcg]; exact h.cg i hi, fun i hi => (hcg i).trans (h.og i hi), h.ol, h.ne, Nat.lt_of_lt_of_le h.gl hl, h.lm, h.lt⟩
theorem DSt.alloc {w : World} {d g : Nat} {s : ByteArray} {limit k : Nat} {out : List Nat} (h : DSt w d g s limit k out) (o : Obj) : DSt (w.alloc o) d g s limit k out :=
  h.keep (Below.heap_alloc _ _ _ h.dl) (Below.heap_alloc _ _ _ h.gl) (by rw [World.size_alloc]; omega)
theorem Upg.alloc {d g : Nat} {w w1 : World} (h : Upg d g w w1) (o : Obj) : Upg d g w (w1.alloc o) :=
  ⟨h.1, h.2.1, h.2.2.1, by rw [World.size_alloc]; exact Nat.le_trans h.2.2.2.1 (Nat.le_succ _), fun i h1 h2 h3 => (Below.heap_alloc _ _ _ (Nat.lt_of_lt_of_le h1 h.2.2.2.1)).trans (h.2.2.2.2 i h1 h2 h3)⟩
theorem sumInfo : (Try.prog.info? 65).map (fun i => i.zero) = some (some (.agg zeros)) := by kernel_rfl
theorem alloc_run (w : World) : (Instr.alloc 65 true (.tuple #[])).run Try.prog w = .ok (.pointer (some ⟨w.heap.size, 0, none⟩)) (w.alloc (.cells zeros 65)) := by
  obtain ⟨i, hi, hz⟩ : ∃ i, Try.prog.info? 65 = some i ∧ i.zero = some (.agg zeros) := by
    have h := sumInfo
    cases e : Try.prog.info? 65 with
    | none => rw [e] at h; cases h
    | some i => rw [e] at h; exact ⟨i, rfl, Option.some.inj h⟩
  simp [Instr.alloc, zeroValue, typeInfo, hi, hz, newVar, Value.cells, newRow]
/-- a new sum, at a plain region's list -/
theorem alloc_list {ops : Array Oper} {rest : List Oper} {o : Oper} {a : Act} {w : World} {Q : Exit → Act → World → Prop} (hgd : o.guard = none) (ho : o.op = .alloc 65)
    (h : ∀ w2, Hid (w2 = w.alloc (.cells zeros 65)) → wpList Try.prog ops Q rest (a.put o.dst (.pointer (some ⟨w.heap.size, 0, none⟩))) w2) : wpList Try.prog ops Q (o :: rest) a w := by
  refine wpList_plain hgd fun _ hK => ?_
  unfold Oper.wp execOp
  simp only [ho, Sem.run_bind, Sem.run_pure, Result.andThen_ok, alloc_run]
  exact hK _ _ (h _ rfl)
theorem store_zeros {ops : Array Oper} {rest : List Oper} {op : Oper} {a : Act} {w : World} {Q : Exit → Act → World → Prop} (hgd : op.guard = none) (x y : Operand) (ho : op.op = .store 65 x y)
    (b : Nat) (hx : a.eval x = .pointer (some ⟨b, 0, none⟩)) (hy : a.eval y = .agg zeros) (ht : w.there b 0 37)
    (h : ∀ w2, Hid (w2 = w.setCells b 0 zeros.toList) → wpList Try.prog ops Q rest (a.put op.dst undef) w2) : wpList Try.prog ops Q (op :: rest) a w :=
  wpList_store_mid hgd 65 x y ho b 0 zeros hx hy (by rw [zeros_size]; exact ht) Try.size65 zeros_one (h _ rfl)
def u8s (l : List Nat) : List UInt8 := l.map UInt8.ofNat
theorem u8s_byte (l : List Nat) (h : ∀ x ∈ l, x < 256) (i : Nat) (hi : i < l.length) : Xi.byte (u8s l) i = ((l.getD i 0 : Nat) : Int) := by
  unfold Xi.byte u8s
  have hx : l[i] < 256 := h _ (List.getElem_mem hi)
  rw [List.getD, List.getD, List.getElem?_map, List.getElem?_eq_getElem hi]
  simp only [Option.map_some, Option.getD_some]
  rw [UInt8.toNat_ofNat']
  omega
theorem drop_getD (l : List Nat) (a i : Nat) : (l.drop a).getD i 0 = l.getD (a + i) 0 := by
  rw [List.getD, List.getD, List.getElem?_drop]
set_option maxRecDepth 100000 in
set_option maxHeartbeats 2000000 in
theorem pEnd (d g : Nat) (s : ByteArray) (limit k : Nat) (out : List Nat) (a n : Nat) (pa : Option Addr) (cap : Nat) (win : Int) (told ck : Bool) (size : Nat) (w : World) (h : DSt w d g s limit k out) (hn : out.length = a + n) (hpa : n ≠ 0 → pa = some ⟨g, a, none⟩) (hsz : size < 18446744073709551616) :
    Calls Try.prog 65 #[.pointer (some ⟨d, 0, none⟩), .agg #[.int .u64 win, .bool told, .int .u64 (size : Int), .bool ck], .slice pa n cap] w fun x w' => StepP d g s limit (endS s told ck size a k out) w x w' := by
  have HD : Hid (DSt w d g s limit k out) := h
  have hol := h.ol
  have hlm := h.lm
  have hdl := h.dl
  obtain ⟨r, hr, hra⟩ := h.rest
  have hz := h.fz 0
  clear h
  have hwn : IntKind.u64.wrap (n : Int) = (n : Int) := by rw [IntKind.wrap_u64]; omega
  by_cases h1 : told = true ∧ size ≠ n
  · obtain ⟨rfl, h2⟩ := h1
    have hb : ((size : Int) != (n : Int)) = true := by simp; omega
    go_enter Try.func65, Try.ntmps65
    go_wp2_with fail
    go_ret
    have : endS s true ck size a k out = .bad 15 := by unfold endS; rw [if_pos ⟨rfl, by omega⟩]
    rw [this]; exact ⟨by repeat (first | exact Upg.refl _ _ _ | refine Upg.drew ?_ | refine Upg.alloc ?_ _), rfl⟩
  have HT : Hid (endS s told ck size a k out = if ck = true then (if s.size < k + 4 then .bad 2 else if numN (gOf s) k 4 ≠ low32 (xsumN (baOf (out.drop a))) then .bad 16 else .go (k + 4) out true) else .go k out true) := by
    show _ = _
    unfold endS
    rw [if_neg (fun h => h1 ⟨h.1, by omega⟩)]
  have htb : told = true → ((size : Int) != (n : Int)) = false := by
    intro ht
    have : size = n := by
      by_cases e : size = n
      · exact e
      · exact absurd ⟨ht, e⟩ h1
    subst this; simp
  cases ck with
  | false =>
    rw [if_neg (by decide)] at HT
    cases told with
    | false =>
      go_enter Try.func65, Try.ntmps65
      go_wp2_with fail
      go_ret
      rw [HT.out]
      exact ⟨(Upg.refl _ _ _).alloc _, rfl, HD.out.alloc _⟩
    | true =>
      have htb := htb rfl
      go_enter Try.func65, Try.ntmps65
      go_wp2_with fail
      go_ret
      rw [HT.out]
      exact ⟨(Upg.refl _ _ _).alloc _, rfl, HD.out.alloc _⟩
  | true =>
    rw [if_pos rfl] at HT
    have HBd : Hid (told = true → ((size : Int) != (n : Int)) = false) := htb
    clear htb
    obtain ⟨W0, hW0⟩ : ∃ W0, W0 = w.alloc (Obj.cells #[.int .u64 win, .bool told, .int .u64 (size : Int), .bool true] 109) := ⟨_, rfl⟩
    have HD0 : Hid (DSt W0 d g s limit k out ∧ Upg d g w W0) := by rw [hW0]; exact ⟨HD.out.alloc _, (Upg.refl _ _ _).alloc _⟩
    obtain ⟨r, hr, hra⟩ := HD0.out.1.rest
    have hz := HD0.out.1.fz 0
    go_enter Try.func65, Try.ntmps65
    go_upto_region 1 with fail
    rw [← hW0]
    have k1 : W0.cell? ⟨w.heap.size, 1, none⟩ = some (.bool told) := by rw [hW0, World.cell?_alloc_new]; rfl
    have k2 : W0.cell? ⟨w.heap.size, 2, none⟩ = some (.int .u64 (size : Int)) := by rw [hW0, World.cell?_alloc_new]; rfl
    have k3 : W0.cell? ⟨w.heap.size, 3, none⟩ = some (.bool true) := by rw [hW0, World.cell?_alloc_new]; rfl
    have hdl0 : d < W0.heap.size := HD0.out.1.dl
    have hgl0 : g < W0.heap.size := HD0.out.1.gl
    clear hW0
    go_cut [19] from 10 to 19 (fun v wx => v = .bool false ∧ wx = W0)
    case first =>
      cases told with
      | false =>
        go_wp2_with fail
        go_meet
        exact ⟨rfl, rfl⟩
      | true =>
        have hbd := HBd.out rfl
        go_wp2_with fail
        go_meet
        exact ⟨rfl, rfl⟩
    case rest =>
      obtain ⟨rfl, rfl⟩ := hcut
      clear k1 k2
      go_wp2_with fail
      by_cases hc : s.size < k + 4
      · rw [if_pos hc] at HT
        refine (show Calls _ _ #[.pointer (some ⟨d, 0, none⟩), .int .i64 ((4 : Nat) : Int)] _ _ from numR_no d s r k 4 _ hra hr hc).mono ?_
        rintro x w1 ⟨rfl, hw1⟩
        rw [hw1]
        clear hw1
        go_wp2_with fail
        go_ret
        rw [HT.out]; exact ⟨HD0.out.2, rfl⟩
      · rw [if_neg hc] at HT
        refine (show Calls _ _ #[.pointer (some ⟨d, 0, none⟩), .int .i64 ((4 : Nat) : Int)] _ _ from numR_ok d s r k 4 _ hra hr hz (by omega) (by omega)).mono ?_
        rintro x w1 ⟨rfl, r1, hw1, hr1⟩
        have HD1 : Hid (DSt w1 d g s limit (k + 4) out ∧ Upg d g w w1) := by rw [hw1]; exact ⟨HD0.out.1.set0 hr1, HD0.out.2.trans (Upd.upg ((Upd.refl d _).setCell 0 _))⟩
        have hv : numN (gOf s) k 4 < 4294967296 := numN_lt (gOf s) (gOf_lt s) 4 k
        obtain ⟨V, hV⟩ : ∃ V, V = numN (gOf s) k 4 := ⟨_, rfl⟩
        rw [← hV] at hv HT ⊢
        clear hw1 hr1 hr hra hz hV
        have HV : Hid (V < 4294967296) := hv
        clear hv
        go_upto_region 9 with (first | (refine alloc_list rfl rfl ?_; intro w2 hw2; have HTh : Hid (w2.there w1.heap.size 0 37) := (by rw [hw2.out]; exact (Rep.new w1 _).cells.there 37 (by omega))) | (refine store_zeros rfl (.tmp 9) (.tmp 32) rfl w1.heap.size rfl rfl HTh.out ?_; intro w3 hw3))
        have HR3 : Hid (Rep w3 w1.heap.size [] (fun _ => 0) (fun _ => 0) ∧ Below w1.heap.size w1 w3) := by
          rw [hw3.out, hw2.out]
          exact ⟨(Rep.new w1 _).cells.restart, ((Below.refl w1.heap.size w1).alloc (Nat.le_refl _) _).trans ((Upd.setCells _ _ (Upd.refl w1.heap.size _)).below (Nat.le_refl _) (by rw [World.size_alloc]; omega))⟩
        have HD3 : Hid (DSt w3 d g s limit (k + 4) out ∧ Upg d g w w3) := by
          have hb := HR3.out.2
          exact ⟨HD1.out.1.keep (hb.block d HD1.out.1.dl) (hb.block g HD1.out.1.gl) hb.size, HD1.out.2.trans ⟨hb.os, hb.tape, hb.output, hb.size, fun i h1 _ _ => hb.block i h1⟩⟩
        have hml : (u8s (out.drop a)).length = n := by unfold u8s; rw [List.length_map, List.length_drop]; omega
        have hgs : g < w1.heap.size := HD1.out.1.gl
        have hds : d < w1.heap.size := HD1.out.1.dl
        have HADD : Hid (Calls Try.prog 26 #[.pointer (some ⟨w1.heap.size, 0, none⟩), .slice pa n cap] w3 fun e w' => e = .returned (.tuple #[]) ∧ Upd w1.heap.size w3 w' ∧ ∃ L' R', Rep w' w1.heap.size (u8s (out.drop a)) L' R') := by
          have := add_any w1.heap.size g a cap (fun _ => 0) (fun _ => 0) [] (u8s (out.drop a)) pa w3 HR3.out.1 (by omega) HD3.out.1.gl (fun hne => hpa (fun e => hne (List.length_eq_zero_iff.1 (by rw [hml]; exact e)))) (fun i hi => by
            rw [u8s_byte _ (fun x hx => HD1.out.1.lt x (List.mem_of_mem_drop hx)) i (by rw [hml] at hi; rw [List.length_drop]; omega), drop_getD]
            exact HD3.out.1.og (a + i) (by rw [hml] at hi; omega)) (by rw [hml]; simp only [List.length_nil]; omega)
          rw [hml] at this
          exact this
        clear hw2 hw3 HTh
        go_wp2_with fail
        refine HADD.out.mono ?_
        rintro x w4 ⟨rfl, hu4, L4, R4, hR4⟩
        have HV4 : Hid (Calls Try.prog 25 #[.pointer (some ⟨w1.heap.size, 0, none⟩)] w4 fun e w' => e = .returned (.int .u64 (xsumN (baOf (out.drop a)) : Int)) ∧ w' = w4) := by
          have := sumValue_any w1.heap.size L4 R4 (u8s (out.drop a)) w4 hR4 (by rw [hml]; omega)
          rw [show u8s (out.drop a) = (baOf (out.drop a)).data.toList from rfl, sum_nat] at this
          exact this
        have HD4 : Hid (DSt w4 d g s limit (k + 4) out ∧ Upg d g w w4) := by
          exact ⟨HD3.out.1.keep (hu4.block d HD3.out.1.dl (by omega)) (hu4.block g HD3.out.1.gl (by omega)) hu4.size, ⟨hu4.os.trans HD3.out.2.1, hu4.tape.trans HD3.out.2.2.1, hu4.output.trans HD3.out.2.2.2.1, Nat.le_trans HD3.out.2.2.2.2.1 hu4.size, fun i h1 h2 h3 => (hu4.block i (Nat.lt_of_lt_of_le h1 HD3.out.2.2.2.2.1) (by have := HD1.out.2.2.2.2.1; omega)).trans (HD3.out.2.2.2.2.2 i h1 h2 h3)⟩⟩
        clear hR4 hu4 HADD
        have hsl := xsumN_lt (baOf (out.drop a))
        obtain ⟨X, hX⟩ : ∃ X, X = xsumN (baOf (out.drop a)) := ⟨_, rfl⟩
        rw [← hX] at HT HV4 hsl
        have hlow := u64_low X hsl
        obtain ⟨Y, hY⟩ : ∃ Y, Y = low32 X := ⟨_, rfl⟩
        rw [← hY] at hlow HT
        have HX : Hid (X < 18446744073709551616) := hsl
        clear hX hY hsl
        go_wp2_with fail
        refine HV4.out.mono ?_
        rintro x w5 ⟨rfl, hw5⟩
        rw [hw5]
        clear hw5
        by_cases he : V = Y
        · subst he
          rw [if_neg (by simp)] at HT
          have hb : ((V : Int) != (V : Int)) = false := by simp
          go_wp2_with fail
          go_ret
          rw [HT.out]
          exact ⟨HD4.out.2, rfl, HD4.out.1⟩
        · rw [if_pos he] at HT
          have hb : ((V : Int) != (Y : Int)) = true := by simp; omega
          go_wp2_with fail
          go_ret
          rw [HT.out]
          exact ⟨HD4.out.2, rfl⟩
end Go.Proofs.Ytkfilgfcgmohlaa
