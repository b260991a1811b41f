import Derived.Test.YtipdjbkkpjlamaaGreatSC
import Derived.WalkKit
import Derived.WalkSpells
import Derived.WalkLawsBesides
import Derived.Deep.QuietTactic
import Derived.BigQuiet
namespace Go.Proofs.YtipdjbkkpjlamaaGreat
open Go.RowKit
/-- a list of numbers, as 'sameInts' reads it -/
theorem Row.nums {w : World} {B : Nat} {own : Nat → Nat} {t e c : Nat} {pa : Option Addr} {l : List Int} (h : Row w B own t e 1 (.slice pa l.length c) l.length (nums l)) :
    ∃ g, (0 < l.length → pa = some ⟨g, 0, none⟩) ∧ ∀ i, i < l.length → w.cell? ⟨g, i, none⟩ = some (.int .i64 (l.getD i 0)) := by
  by_cases hn : 0 < l.length
  · obtain ⟨g, cap, hv, _, _, _, hc, _⟩ := h.at hn
    simp at hv
    refine ⟨g, fun _ => hv.1, fun i hi => ?_⟩
    rw [hc i hi]
    show (l.map (Value.int .i64))[i]? = _
    rw [List.getElem?_map, List.getElem?_eq_getElem hi, List.getD_eq_getElem?_getD, List.getElem?_eq_getElem hi]
    rfl
  · exact ⟨0, fun h => absurd h hn, fun i hi => by omega⟩
set_option maxRecDepth 100000 in
set_option maxHeartbeats 2000000 in
theorem looks_any {w0 w : World} {b B : Nat} {own : Nat → Nat} {k c : Nat} {T : List ByteArray} {S : List (Nat × ByteArray)} {I J : List Value} {L : List (List Int)} (h : Inv w0 w b B own k c T S I J L) (hk : k ≤ 1048576) :
    Calls Tryz.prog 9 #[.pointer (some ⟨b, 0, none⟩)] w fun e w' => e = .returned (.bool true) ∧ Inv w0 w' b B own k c T S I J L := by
  have HI : Hid (Inv w0 w b B own k c T S I J L) := h
  have hLk := h.bt.2.2
  obtain ⟨vi, h5, hri⟩ := h.vi
  obtain ⟨vj, h6, hrj⟩ := h.vj
  obtain ⟨pi, ci, rfl⟩ := hri.form
  obtain ⟨pj, cj, rfl⟩ := hrj.form
  obtain ⟨n, hn⟩ : ∃ n, n = L.length := ⟨_, rfl⟩
  rw [h.li.1, ← hn] at h5 hri
  rw [h.li.2, ← hn] at h6 hrj
  have HN : Hid (n = L.length) := hn
  have HRI : Hid (Row w B own 4 24 1 (.slice pi n ci) n I) := hri
  have HRJ : Hid (Row w B own 5 24 1 (.slice pj n cj) n J) := hrj
  have hnk : n ≤ 1048576 := by omega
  clear h hri hrj hn hLk
  go_enter Tryz.func9, Tryz.ntmps9
  go_wp2
  go_loopw [3] (fun iv wr => ∃ i : Nat, i ≤ n ∧ iv = .int .i64 i ∧ Al w wr) (fun iv _ => (n - intOf iv).toNat)
  case atStart => exact ⟨0, by omega, rfl, Al.refl _⟩
  case round =>
    obtain ⟨i, hi, rfl, hal⟩ := hrel
    have HAL : Hid (Al w wr) := hal
    have g5 := (hal.cell ⟨b, 5, none⟩).trans h5
    have g6 := (hal.cell ⟨b, 6, none⟩).trans h6
    clear hal h5 h6
    by_cases hlt : i < n
    · obtain ⟨gi, cpi, hvi, _, _, _, hci, _⟩ := HRI.out.at (by omega)
      obtain ⟨gj, cpj, hvj, _, _, _, hcj, _⟩ := HRJ.out.at (by omega)
      simp at hvi hvj
      obtain ⟨rfl, rfl⟩ := hvi
      obtain ⟨rfl, rfl⟩ := hvj
      obtain ⟨u, v, l, hu, hv, hl, hll, hru, hrv⟩ := HI.out.ints i (by have := HN.out; omega)
      obtain ⟨pu, cu, rfl⟩ := hru.form
      obtain ⟨pv, cv, rfl⟩ := hrv.form
      have ciI : wr.cell? ⟨gi, i, none⟩ = some (.slice pu l.length cu) := (HAL.out.cell _).trans ((hci i hlt).trans hu)
      have cjJ : wr.cell? ⟨gj, i, none⟩ = some (.slice pv l.length cv) := (HAL.out.cell _).trans ((hcj i hlt).trans hv)
      obtain ⟨gu, hgu, hcu⟩ := hru.nums
      obtain ⟨gv, hgv, hcv⟩ := hrv.nums
      have HC : Hid ((0 < l.length → pu = some ⟨gu, 0, none⟩) ∧ (0 < l.length → pv = some ⟨gv, 0, none⟩) ∧ (∀ i, i < l.length → wr.cell? ⟨gu, i, none⟩ = some (.int .i64 (l.getD i 0))) ∧ (∀ i, i < l.length → wr.cell? ⟨gv, i, none⟩ = some (.int .i64 (l.getD i 0)))) := ⟨hgu, hgv, fun i hi => (HAL.out.cell _).trans (hcu i hi), fun i hi => (HAL.out.cell _).trans (hcv i hi)⟩
      obtain ⟨q, hq⟩ : ∃ q, q = l.length := ⟨_, rfl⟩
      have HQ : Hid (q = l.length) := hq
      rw [← hq] at ciI cjJ HC hll
      have hi2 : (i : Int) < (n : Int) := by omega
      clear hci hcj hu hv hl hru hrv hgu hgv hcu hcv hq
      go_wp2
      go_quiet ((go_at_call 18; exact Calls.quiet_of (sameInts_any gu gv q _ _ l _ _ _ (by omega) HC.out.1 HC.out.2.1 (by exact HC.out.2.2.1) (by exact HC.out.2.2.2))))
      go_wp2
      exact ⟨⟨i + 1, by omega, by go_num, HAL.out.drewN _⟩, by simp [intOf]; omega⟩
    · go_wp2
      go_ret
      exact ⟨rfl, HI.out.al HAL.out⟩
end Go.Proofs.YtipdjbkkpjlamaaGreat
