import Derived.Test.YtbdndhiamihloaaWB
import Derived.WalkSpells
import Derived.WalkLawsBesides
import Derived.Deep.RegionWith
namespace Go.Proofs.Ytbdndhiamihloaa
open Go.RowKit
set_option maxRecDepth 100000 in
set_option maxHeartbeats 1000000 in
theorem add_any (b lb lo cap : Nat) (L R : Nat → Int) (l m : List UInt8) (pa : Option Addr) (w : World) (hp : Rep w b l L R) (hne : lb ≠ b) (hlb : lb < w.heap.size)
    (hm : m ≠ [] → pa = some ⟨lb, lo, none⟩) (hcm : ∀ i, i < m.length → w.cell? ⟨lb, lo + i, none⟩ = some (.int .u8 (Xi.byte m i))) (hc1 : l.length + m.length ≤ 1099511627776) :
    Calls Try.prog 13 #[.pointer (some ⟨b, 0, none⟩), .slice pa m.length cap] w fun e w' => e = .returned (.tuple #[]) ∧ Upd b w w' ∧ ∃ L' R', Rep w' b (l ++ m) L' R' := by
  have HR : Hid (Rep w b l L R) := hp
  clear hp
  go_enter Try.func13, Try.ntmps13
  go_wp2
  go_loopw [4] (fun i wr => ∃ j : Nat, j ≤ m.length ∧ i = .int .i64 j ∧ Upd b w wr ∧ ∃ L' R', Rep wr b (l ++ m.take j) L' R') (fun i _ => (m.length - intOf i).toNat)
  case atStart => exact ⟨0, by omega, rfl, Upd.refl _ _, L, R, by simpa using HR.out⟩
  case round =>
    obtain ⟨j, hj, rfl, hu, L1, R1, hr⟩ := hrel
    clear HR
    by_cases hlt : j < m.length
    · obtain rfl := hm (by intro e; rw [e] at hlt; simp at hlt)
      obtain ⟨n, hn⟩ : ∃ n, n = (l ++ m.take j).length := ⟨_, rfl⟩
      have hn2 : n ≤ 1099511627776 := by rw [hn]; simp; omega
      have hcx : wr.cell? ⟨lb, lo + j, none⟩ = some (.int .u8 (Xi.byte m j)) := (hu.cell (p := ⟨lb, lo + j, none⟩) hlb hne).trans (hcm j hlt)
      have hct : wr.cell? ⟨b, 36, none⟩ = some (.int .u64 n) := by rw [hn]; exact hr.cells.count
      have hfr := hr.cells.free
      have hrs := hr.cells.rest (n % 32) (by omega)
      have HN : Hid (n = (l ++ m.take j).length) := hn
      have HU : Hid (Upd b w wr) := hu
      have HP : Hid (Rep wr b (l ++ m.take j) L1 R1) := hr
      clear hn hu hr hm hcm
      have hfr36 := hfr 36
      have hfrp := hfr (4 + n % 32)
      have hct2 : ∀ v, (wr.setCell ⟨b, 4 + n % 32, none⟩ v).cell? ⟨b, 36, none⟩ = some (.int .u64 n) := fun v => by rw [cs_other (addr_ne (by omega))]; exact hct
      by_cases h31 : n % 32 = 31
      · have hb31 : ((n : Int) % 32 == 31) = true := by simp; omega
        have H31 : Hid (n % 32 = 31) := h31
        clear hfr h31
        go_wp2
        go_region
        all_goals go_wp2_with fail
        obtain ⟨L', hL⟩ : ∃ L', n + 1 = 32 ∧ L' = Xi.lane0 ∨ 32 < n + 1 ∧ L' = L1 := by
          have := H31.out
          by_cases h : n + 1 = 32
          · exact ⟨_, Or.inl ⟨h, rfl⟩⟩
          · exact ⟨_, Or.inr ⟨by omega, rfl⟩⟩
        have HL : Hid (n + 1 = 32 ∧ L' = Xi.lane0 ∨ 32 < n + 1 ∧ L' = L1) := hL
        clear hL
        refine (fold_all b L1 L' _ (n + 1) _ (HP.out.brim HN.out hlt) HL.out).mono ?_
        rintro e w2 ⟨rfl, hu2, hs2⟩
        have HU2 : Hid (Upd b w w2) := ((HU.out.setCell _ _).setCell _ _).drew.trans hu2
        have HP2 : Hid (∃ L' R', Rep w2 b (l ++ m.take (j + 1)) L' R') := HP.out.full HN.out hlt H31.out HL.out hs2
        clear hu2 hs2
        go_wp2
        exact ⟨⟨j + 1, by omega, by go_num, HU2.out, HP2.out⟩, by simp [intOf]; omega⟩
      · have hb31 : ((n : Int) % 32 == 31) = false := by simp; omega
        clear hfr
        go_wp2
        go_region
        all_goals go_wp2
        exact ⟨⟨j + 1, by omega, by go_num, ((HU.out.setCell _ _).setCell _ _).drew, HP.out.push HN.out hlt h31⟩, by simp [intOf]; omega⟩
    · obtain rfl : j = m.length := by omega
      go_wp2
      go_end0
      rw [List.take_length] at hr
      exact ⟨rfl, hu, L1, R1, hr⟩
end Go.Proofs.Ytbdndhiamihloaa
