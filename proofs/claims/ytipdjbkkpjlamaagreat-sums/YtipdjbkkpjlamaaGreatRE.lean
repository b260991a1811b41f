import Derived.Test.YtipdjbkkpjlamaaGreatRD
import Derived.Test.YtipdjbkkpjlamaaGreatMC
import Derived.WalkKit
import Derived.WalkSpells
import Derived.WalkLawsBesides
import Derived.Deep.QuietTactic
import Derived.BigQuiet
namespace Go.Proofs.YtipdjbkkpjlamaaGreat
open Go.RowKit
def mulM (a b : Nat) : Nat := a * b % 18446744073709551616
/-- what 'times' holds in memory -/
structure TmAt (B : Nat) (w wr : World) (a b : Nat) (z : Nat → Nat) : Prop where
  xc : ∀ i, i < 4 → wr.cell? ⟨B + 1 + 1 + 1, i, none⟩ = some (.int .i64 (dig a i : Nat))
  yc : ∀ i, i < 4 → wr.cell? ⟨B + 1 + 1 + 1 + 1, i, none⟩ = some (.int .i64 (dig b i : Nat))
  zc : ∀ i, i < 4 → wr.cell? ⟨B + 1 + 1 + 1 + 1 + 1, i, none⟩ = some (.int .i64 (z i : Nat))
  zf : ∀ i, wr.frozen? ⟨B + 1 + 1 + 1 + 1 + 1, i, none⟩ = false
  r0 : wr.cell? ⟨B + 1 + 1, 0, none⟩ = some (.int .i64 0)
  r1 : wr.cell? ⟨B + 1 + 1, 1, none⟩ = some (.int .i64 0)
  rf : ∀ i, wr.frozen? ⟨B + 1 + 1, i, none⟩ = false
  small : ∀ i, z i < 65536
  bel : Below B w wr
theorem TmAt.set {B : Nat} {w wr : World} {a b : Nat} {z : Nat → Nat} (h : TmAt B w wr a b z) (j v : Nat) (hj : j < 4) (hv : v < 65536) :
    TmAt B w (wr.setCell ⟨B + 1 + 1 + 1 + 1 + 1, j, none⟩ (.int .i64 (v : Nat))) a b (updM z j v) where
  xc i hi := by rw [cs_other (blk_ne (by omega))]; exact h.xc i hi
  yc i hi := by rw [cs_other (blk_ne (by omega))]; exact h.yc i hi
  zc i hi := by
    by_cases e : i = j
    · subst e; rw [updM_same]; exact cs_same (h.zc i hi)
    · rw [updM_other _ _ _ _ e, cs_other (addr_ne (by omega))]; exact h.zc i hi
  zf i := by rw [World.frozen?_setCell]; exact h.zf i
  r0 := by rw [cs_other (blk_ne (by omega))]; exact h.r0
  r1 := by rw [cs_other (blk_ne (by omega))]; exact h.r1
  rf i := by rw [World.frozen?_setCell]; exact h.rf i
  small i := by
    by_cases e : i = j
    · subst e; rw [updM_same]; exact hv
    · rw [updM_other _ _ _ _ e]; exact h.small i
  bel := h.bel.setCell (by dsimp only; omega) _
theorem TmAt.drewN {B : Nat} {w wr : World} {a b : Nat} {z : Nat → Nat} (h : TmAt B w wr a b z) (n : Nat) : TmAt B w (wr.drewN n) a b z :=
  ⟨h.xc, h.yc, h.zc, h.zf, h.r0, h.r1, h.rf, h.small, ⟨h.bel.os, h.bel.tape, h.bel.output, h.bel.size, h.bel.block⟩⟩
theorem TmAt.start (w : World) (o1 o2 : Obj) (a b : Nat) (t u v : TypeId) :
    TmAt w.heap.size w ((((((w.alloc o1).alloc o2).alloc (.cells #[.int .i64 0, .int .i64 0] t)).alloc (.cells #[.int .i64 (dig a 0 : Nat), .int .i64 (dig a 1 : Nat), .int .i64 (dig a 2 : Nat), .int .i64 (dig a 3 : Nat)] u)).alloc
      (.cells #[.int .i64 (dig b 0 : Nat), .int .i64 (dig b 1 : Nat), .int .i64 (dig b 2 : Nat), .int .i64 (dig b 3 : Nat)] u)).alloc (.cells #[.int .i64 0, .int .i64 0, .int .i64 0, .int .i64 0] v)) a b (fun _ => 0) where
  xc i hi := by
    rw [World.cell?_alloc_past _ _ _ (by simp), World.cell?_alloc_past _ _ _ (by simp), World.cell?_alloc_at _ _ _ _ (by simp)]
    match i, hi with
    | 0, _ => rfl
    | 1, _ => rfl
    | 2, _ => rfl
    | 3, _ => rfl
  yc i hi := by
    rw [World.cell?_alloc_past _ _ _ (by simp), World.cell?_alloc_at _ _ _ _ (by simp)]
    match i, hi with
    | 0, _ => rfl
    | 1, _ => rfl
    | 2, _ => rfl
    | 3, _ => rfl
  zc i hi := by
    rw [World.cell?_alloc_at _ _ _ _ (by simp)]
    match i, hi with
    | 0, _ => rfl
    | 1, _ => rfl
    | 2, _ => rfl
    | 3, _ => rfl
  zf i := by rw [World.frozen?_alloc_at _ _ _ _ (by simp)]
  r0 := by rw [World.cell?_alloc_past _ _ _ (by simp), World.cell?_alloc_past _ _ _ (by simp), World.cell?_alloc_past _ _ _ (by simp), World.cell?_alloc_at _ _ _ _ (by simp)]; rfl
  r1 := by rw [World.cell?_alloc_past _ _ _ (by simp), World.cell?_alloc_past _ _ _ (by simp), World.cell?_alloc_past _ _ _ (by simp), World.cell?_alloc_at _ _ _ _ (by simp)]; rfl
  rf i := by rw [World.frozen?_alloc_past _ _ _ (by simp), World.frozen?_alloc_past _ _ _ (by simp), World.frozen?_alloc_past _ _ _ (by simp), World.frozen?_alloc_at _ _ _ _ (by simp)]
  small i := by show 0 < 65536; omega
  bel := ((((((Below.refl _ _).alloc (Nat.le_refl _) _).alloc (by simp) _).alloc (by simp; omega) _).alloc (by simp; omega) _).alloc (by simp; omega) _).alloc (by simp; omega) _
set_option maxRecDepth 100000 in
set_option maxHeartbeats 2000000 in
theorem times_any (ah al bh bl : Int) (a b : Nat) (w : World) (ha : IsH ah al a) (hb : IsH bh bl b) :
    Calls Tryz.prog 48 #[.agg #[.int .i64 ah, .int .i64 al], .agg #[.int .i64 bh, .int .i64 bl]] w fun e w' =>
      ∃ h l, e = .returned (.agg #[.int .i64 h, .int .i64 l]) ∧ IsH h l (mulM a b) ∧ Below w.heap.size w w' := by
  obtain ⟨a0, a1, a2, a3⟩ := dig_cells ha
  obtain ⟨b0, b1, b2, b3⟩ := dig_cells hb
  have HA : Hid (IsH bh bl b) := hb
  clear ha hb
  go_enter Tryz.func48, Tryz.ntmps48
  go_wp2
  clear a0 a1 a2 a3 b0 b1 b2 b3
  go_loopw [8] (fun kv wr => ∃ k : Nat, k ≤ 4 ∧ kv = .int .i64 k ∧ ∃ z, TmAt w.heap.size w wr a b z ∧ OutInv a b k z) (fun kv _ => (4 - intOf kv).toNat)
  case atStart => exact ⟨0, by omega, rfl, _, TmAt.start w _ _ a b _ _ _, OutInv.zero a b⟩
  case round =>
    obtain ⟨k, hk, rfl, z, hz, hval⟩ := hrel
    have HV : Hid (OutInv a b k z) := hval
    clear hval
    by_cases hlt : k < 4
    · obtain ⟨wo, hwo⟩ : ∃ wo : World, wo = wr := ⟨_, rfl⟩
      have HZ : Hid (TmAt w.heap.size w wr a b z) := hz
      clear hz
      go_wp2
      go_loopw [9, 10] (fun cv iv wi => ∃ i c : Nat, i + k ≤ 4 ∧ iv = .int .i64 i ∧ cv = .int .i64 c ∧ c < 65536 ∧ ∃ y, TmAt w.heap.size w wi a b y ∧ RowInv a b k i c z y) (fun _ iv _ => (4 - intOf iv).toNat)
      case atStart => exact ⟨0, 0, by omega, rfl, rfl, by omega, z, HZ.out, RowInv.zero a b k z⟩
      case round =>
        obtain ⟨i, c, hik, rfl, rfl, hc, y, hy, he⟩ := hrel
        have HE : Hid (RowInv a b k i c z y) := he
        clear he
        by_cases hin : i + k < 4
        · have cx := hy.xc i (by omega)
          have cy := hy.yc k hlt
          have cz := hy.zc (i + k) hin
          have fz := hy.zf (i + k)
          have HY : Hid (TmAt w.heap.size w wr a b y) := hy
          have sy := hy.small (i + k)
          have sx := dig_lt a i
          have sb := dig_lt b k
          have sm : dig a i * dig b k ≤ 65535 * 65535 := Nat.mul_le_mul (by omega) (by omega)
          have hi1 : (0 : Int) ≤ (i : Int) + (k : Int) := by omega
          have hi2 : (i : Int) + (k : Int) < 4 := by omega
          have hi3 : (i : Int) < 4 := by omega
          have hi4 : (k : Int) < 4 := by omega
          clear hy
          go_wp2
          go_quiet (fail)
          go_wp2
          obtain ⟨v, hv⟩ : ∃ v, v = y (i + k) + dig a i * dig b k + c := ⟨_, rfl⟩
          have ev : ((y (i + k) : Nat) : Int) + ((dig a i : Nat) : Int) * ((dig b k : Nat) : Int) + (c : Int) = (v : Int) := by rw [hv]; push_cast; rfl
          have hvl : v < 4294967296 * 65536 := by rw [hv]; omega
          rw [ev, mask_val v hvl]
          refine ⟨⟨i + 1, v / 65536, by omega, by go_num, by go_num, carry_lt _ _ _ v hv sy sm hc, _, (HY.out.drewN nq).set (i + k) (v % 65536) hin (Nat.mod_lt _ (by omega)), HE.out.step hin v hv⟩, by simp [intOf]; omega⟩
        · have HO : Hid (OutInv a b (k + 1) y) := HE.out.fin hlt (by omega) hy.small HV.out
          go_wp2
          exact ⟨⟨k + 1, by omega, by go_num, y, hy, HO.out⟩, by simp [intOf]; omega⟩
    · obtain rfl : k = 4 := by omega
      have HF : Hid (IsH (bits .or .i64 ((z 3 : Int) * 65536) (z 2 : Int)) (bits .or .i64 ((z 1 : Int) * 65536) (z 0 : Int)) (mulM a b)) := by
        have := isH_val z hz.small
        rwa [HV.out.fin HA.out.lt] at this
      have z0 := hz.zc 0 (by omega)
      have z1 := hz.zc 1 (by omega)
      have z2 := hz.zc 2 (by omega)
      have z3 := hz.zc 3 (by omega)
      have s0 := hz.small 0
      have s1 := hz.small 1
      have s2 := hz.small 2
      have s3 := hz.small 3
      have r0 := hz.r0
      have r1 := hz.r1
      have f0 := hz.rf 0
      have f1 := hz.rf 1
      have HB : Hid (Below w.heap.size w wr) := hz.bel
      clear hz HV HA
      go_wp2
      obtain ⟨h, hh⟩ : ∃ h, h = bits .or .i64 ((z 3 : Int) * 65536) (z 2 : Int) := ⟨_, rfl⟩
      obtain ⟨l, hl⟩ : ∃ l, l = bits .or .i64 ((z 1 : Int) * 65536) (z 0 : Int) := ⟨_, rfl⟩
      rw [← hh, ← hl]
      rw [← hh, ← hl] at HF
      have q0 : ((wr.setCell ⟨w.heap.size + 1 + 1, 0, none⟩ (.int .i64 h)).setCell ⟨w.heap.size + 1 + 1, 1, none⟩ (.int .i64 l)).cell? ⟨w.heap.size + 1 + 1, 0, none⟩ = some (.int .i64 h) := by
        rw [cs_other (addr_ne (by omega))]; exact cs_same r0
      have q1 : ((wr.setCell ⟨w.heap.size + 1 + 1, 0, none⟩ (.int .i64 h)).setCell ⟨w.heap.size + 1 + 1, 1, none⟩ (.int .i64 l)).cell? ⟨w.heap.size + 1 + 1, 1, none⟩ = some (.int .i64 l) := by
        exact cs_same (by rw [cs_other (addr_ne (by omega))]; exact r1)
      exact bodyPost_ret (v := .agg #[.int .i64 h, .int .i64 l]) (by simp [results, Tryz.results48, go_sem, q0, q1]) rfl ⟨h, l, rfl, HF.out, (HB.out.setCell (by dsimp only; omega) _).setCell (by dsimp only; omega) _⟩
end Go.Proofs.YtipdjbkkpjlamaaGreat
