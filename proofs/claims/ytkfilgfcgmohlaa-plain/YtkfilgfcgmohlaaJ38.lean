import Derived.Test.YtkfilgfcgmohlaaJ37
import Derived.WalkKit
import Derived.WalkSpells
import Derived.WalkLawsBesides
import Derived.Deep.CutRange
import Derived.Deep.CutBlock
import Derived.Deep.QuietTactic
import Derived.BigQuiet
namespace Go.Proofs.Ytkfilgfcgmohlaa
open Go.RowKit
/-- a new world's cells -/
def C0 (s : ByteArray) (limit : Int) : Nat → Value
  | 0 => .string s
  | 2 => .int .i64 limit
  | 3 => .slice none 0 0
  | 4 => .slice none 0 0
  | 7 => .pointer none
  | 8 => .pointer none
  | 9 => .pointer none
  | 13 => .slice none 0 0
  | 14 => .bool false
  | _ => .int .i64 0
def newW (s : ByteArray) (limit : Int) : Array Value := #[.string s, .int .i64 0, .int .i64 limit, .slice none 0 0, .slice none 0 0, .int .i64 0, .int .i64 0, .pointer none, .pointer none, .pointer none, .int .i64 0, .int .i64 0, .int .i64 0, .slice none 0 0, .bool false, .int .i64 0]
theorem RSt.start (w : World) (s : ByteArray) (limit : Int) (t : TypeId) : RSt w.heap.size (w.alloc (Obj.cells (newW s limit) t)) w.heap.size s limit 0 [] 0 (C0 s limit) [] := by
  have hW : Wc (w.alloc (Obj.cells (newW s limit) t)) w.heap.size (C0 s limit) := by
    refine ⟨fun i hi => ?_, fun i => by simp⟩
    rw [World.cell?_alloc_new]
    match i, hi with | 0, _ => rfl | 1, _ => rfl | 2, _ => rfl | 3, _ => rfl | 4, _ => rfl | 5, _ => rfl | 6, _ => rfl | 7, _ => rfl | 8, _ => rfl | 9, _ => rfl | 10, _ => rfl | 11, _ => rfl | 12, _ => rfl | 13, _ => rfl | 14, _ => rfl | 15, _ => rfl | _ + 16, h => exact absurd h (by omega)
  refine ⟨⟨0, hW, rfl, rfl, rfl, ⟨World.ownsRow_nil _ _ _ _⟩, rfl, Nat.le_refl _, ⟨0, rfl⟩, fun j hj => (by cases hj), (fun e => by cases e), fun j hj => (by cases hj), fun t ht => .inl ?_, .inl rfl, ⟨0, 0, 0, rfl, rfl, rfl, by omega, by omega, by omega⟩, rfl⟩, World.ownsRow_nil _ _ _ _, fun x hx => (by cases hx), fun _ => ⟨Nat.zero_le _, by simp, Nat.zero_le _⟩, fun j hj => ?_⟩
  · match t, ht with | 0, _ => rfl | 1, _ => rfl | 2, _ => rfl
  · rcases hj with e | e | e
    · omega
    · cases e
    · cases e
/-- where the reading stands, against what the bytes say -/
def RdR (s : ByteArray) (limit : Int) (p : Nat) (out : List Nat) (e : Int) : Prop :=
  if e ≠ 0 then readS s limit 0 [] = .bad e else readS s limit 0 [] = readS s limit p out
theorem RdR.step {s : ByteArray} {limit : Int} {p : Nat} {out : List Nat} (h : RdR s limit p out 0) (hp : p < s.size) {p2 : Nat} {o2 : List Nat} {e2 : Int} (hq : match nextS s limit p out with | none => False | some (.inl e) => e2 = e | some (.inr (p3, o3, _)) => e2 = 0 ∧ p2 = p3 ∧ o2 = o3) : RdR s limit p2 o2 e2 := by
  unfold RdR at h ⊢
  rw [if_neg (by simp)] at h
  cases hb : nextS s limit p out using Res.elim with
  | met => rw [hb] at hq; exact hq.elim
  | bad e =>
    rw [hb] at hq
    have he := nextS_bad hb
    have hq' : e2 = e := hq
    rw [hq', if_pos he, h, readS_bad hp hb]
  | go p3 o3 l =>
    rw [hb] at hq
    obtain ⟨rfl, rfl, rfl⟩ := hq
    rw [if_neg (by simp), h, readS_on hp hb]
theorem RdR.met {s : ByteArray} {limit : Int} {p : Nat} {out : List Nat} (h : RdR s limit p out 0) (hp : p < s.size) (hq : nextS s limit p out = .met) : readS s limit 0 [] = .met := by
  unfold RdR at h
  rw [if_neg (by simp)] at h
  rw [h, readS_met hp hq]
def ReadQ (s : ByteArray) (limit : Int) (w : World) (x : Ending) (w' : World) : Prop :=
  ∃ (p : Nat) (out : List Nat) (e : Int) (C : Nat → Value) (fs : List (Nat × Value × List Int)), x = .returned (.pointer (some ⟨w.heap.size, 0, none⟩)) ∧ RSt w.heap.size w' w.heap.size s limit p out e C fs ∧ Below w.heap.size w w' ∧
    ((MetF fs ∧ readS s limit 0 [] = .met) ∨ match readS s limit 0 [] with | none => False | some (.inl e2) => e = e2 | some (.inr (_, o, _)) => e = 0 ∧ out = o)
theorem RdR.fin {s : ByteArray} {limit : Int} {p : Nat} {out : List Nat} {e : Int} (h : RdR s limit p out e) (hp : e = 0 → ¬ p < s.size) : match readS s limit 0 [] with | none => False | some (.inl e2) => e = e2 | some (.inr (_, o, _)) => e = 0 ∧ out = o := by
  unfold RdR at h
  by_cases he : e = 0
  · rw [if_neg (fun h => h he)] at h
    rw [h, readS_end (hp he)]
    exact ⟨he, rfl⟩
  · rw [if_pos he] at h
    rw [h]
theorem high_below {N : Nat} {w w0 w1 : World} (h : Below N w w0) (hu : UpdS (fun j => N ≤ j) w0 w1) (hN : N ≤ w0.heap.size) : Below N w w1 :=
  ⟨hu.os.trans h.os, hu.tape.trans h.tape, hu.output.trans h.output, Nat.le_trans h.size hu.size, fun k hk => (hu.block k (by omega) (by omega)).trans (h.block k hk)⟩
set_option maxRecDepth 100000 in
set_option maxHeartbeats 4000000 in
theorem read_w (s : ByteArray) (limit : Int) (w : World) (hs : s.size ≤ 16384) :
    Calls Try.prog 12 #[.string s, .int .i64 limit] w fun x w' => ReadQ s limit w x w' := by
  obtain ⟨W0, hW0⟩ : ∃ W0, W0 = w.alloc (Obj.cells (newW s limit) 41) := ⟨_, rfl⟩
  have HS0 : Hid (RSt w.heap.size W0 w.heap.size s limit 0 [] 0 (C0 s limit) [] ∧ Below w.heap.size w W0) := by rw [hW0]; exact ⟨RSt.start w s limit _, (Below.refl _ _).alloc (Nat.le_refl _) _⟩
  go_enter Try.func12, Try.ntmps12
  go_wp2_with fail
  rw [show (#[.string s, .int .i64 0, .int .i64 limit, .slice none 0 0, .slice none 0 0, .int .i64 0, .int .i64 0, .pointer none, .pointer none, .pointer none, .int .i64 0, .int .i64 0, .int .i64 0, .slice none 0 0, .bool false, .int .i64 0] : Array Value) = newW s limit from rfl]
  rw [← hW0]
  obtain ⟨b, hb⟩ : ∃ b, b = w.heap.size := ⟨_, rfl⟩
  rw [← hb]
  have HBE : Hid (b = w.heap.size) := hb
  rw [← hb] at HS0
  clear hb hW0
  go_loopw [6, 7] (fun _ _ wr => ∃ (p : Nat) (out : List Nat) (e : Int) (C : Nat → Value) (fs : List (Nat × Value × List Int)), RSt b wr b s limit p out e C fs ∧ UpdS (fun j => b ≤ j) W0 wr ∧ ((MetF fs ∧ readS s limit 0 [] = .met) ∨ RdR s limit p out e)) (fun _ _ wr => leftW s.size b wr)
  case atStart => exact ⟨0, [], 0, C0 s limit, [], HS0.out.1, UpdS.refl _ _, .inr (by unfold RdR; rw [if_neg (by simp)])⟩
  case round =>
    obtain ⟨p, out, e, C, fs, hR, hU, hM⟩ := hrel
    obtain ⟨fr, F⟩ := hR.st
    have HR : Hid (RSt b wr b s limit p out e C fs ∧ UpdS (fun j => b ≤ j) W0 wr ∧ ((MetF fs ∧ readS s limit 0 [] = .met) ∨ RdR s limit p out e)) := ⟨hR, hU, hM⟩
    have HF : Hid (FSt0 wr b (Z4 (C 4)) s limit p out e fr C) := F
    have c1 := F.wc.c 1 (by omega)
    rw [F.c1] at c1
    have c15 := F.wc.c 15 (by omega)
    rw [F.c15] at c15
    clear hR hU hM F
    by_cases hgo : p < s.size ∧ e = 0
    · obtain ⟨hps, rfl⟩ := hgo
      have hpb : decide ((p : Int) < (s.size : Int)) = true := decide_eq_true (by omega)
      have HEND : Hid (∀ (wx : World) (p' : Nat) (out' : List Nat) (e' : Int) (C' : Nat → Value) (fs' : List (Nat × Value × List Int)), RSt b wx b s limit p' out' e' C' fs' → UpdS (fun j => b ≤ j) wr wx → (e' = 0 → p < p') → (MetF fs → MetF fs') → ((MetF fs' ∧ nextS s limit p out = .met) ∨ match nextS s limit p out with | none => False | some (.inl e) => e' = e | some (.inr (p2, o2, _)) => e' = 0 ∧ p' = p2 ∧ out' = o2) → (∃ (p : Nat) (out : List Nat) (e : Int) (C : Nat → Value) (fs : List (Nat × Value × List Int)), RSt b wx b s limit p out e C fs ∧ UpdS (fun j => b ≤ j) W0 wx ∧ ((MetF fs ∧ readS s limit 0 [] = .met) ∨ RdR s limit p out e)) ∧ leftW s.size b wx < leftW s.size b wr) := by
        intro wx p' out' e' C' fs' g1 g2 g3 g4 g5
        refine ⟨⟨p', out', e', C', fs', g1, HR.out.2.1.same g2, ?_⟩, ?_⟩
        · rcases HR.out.2.2 with h | h
          · exact .inl ⟨g4 h.1, h.2⟩
          · rcases g5 with g | g
            · exact .inl ⟨g.1, h.met hps g.2⟩
            · exact .inr (h.step hps g)
        · obtain ⟨fr', F'⟩ := g1.st
          rw [F'.left s.size, HF.out.left s.size, if_pos rfl]
          by_cases h0 : e' = 0
          · rw [if_pos h0]; have := g3 h0; omega
          · rw [if_neg h0]; omega
      have HTK : Hid (Calls Try.prog 21 #[.pointer (some ⟨b, 0, none⟩), .int .i64 ((4 : Nat) : Int)] wr fun x w' => x = .returned (.int .i64 (takeV s p 0 4)) ∧ Wc w' b (upV (upV C 15 (.int .i64 (takeE s p 0 4))) 1 (.int .i64 (takeP s p 0 4 : Int))) ∧ Upd b wr w') := take_any b C s p 0 4 wr HF.out.wc HF.out.c0 HF.out.c1 HF.out.c15 (by omega) (by omega) (by omega)
      go_wp2_with fail
      refine HTK.out.mono ?_
      rintro x w1 ⟨rfl, hW1, hU1⟩
      clear HTK
      by_cases hc : s.size < p + 4
      · obtain ⟨t1, t2, t3⟩ := take_no hc
        rw [t1, t3] at hW1
        rw [t2]
        have HN : Hid (nextS s limit p out = .bad 2) := by show _ = _; unfold nextS; rw [if_pos hc]
        obtain ⟨C1, hC1⟩ : ∃ C1, C1 = upV (upV C 15 (.int .i64 2)) 1 (.int .i64 (p : Int)) := ⟨_, rfl⟩
        rw [← hC1] at hW1
        have HW1 : Hid (Wc w1 b C1 ∧ Upd b wr w1 ∧ (∀ i, i ≠ 1 → i ≠ 15 → C1 i = C i) ∧ C1 1 = .int .i64 (p : Int) ∧ C1 15 = .int .i64 2) := ⟨hW1, hU1, fun i h1 h2 => by rw [hC1, upV_other _ _ _ _ h1, upV_other _ _ _ _ h2], by rw [hC1, upV_same], by rw [hC1, upV_other _ _ _ _ (by omega), upV_same]⟩
        clear hW1 hU1 t1 t2 t3 hC1
        go_wp2_with fail
        refine (bad_any b C1 2 3 _ HW1.out.1 HW1.out.2.2.2.2).mono ?_
        rintro x w2 ⟨rfl, hW2, hU2⟩
        have HE : Hid ((∃ (p : Nat) (out : List Nat) (e : Int) (C : Nat → Value) (fs : List (Nat × Value × List Int)), RSt b w2 b s limit p out e C fs ∧ UpdS (fun j => b ≤ j) W0 w2 ∧ ((MetF fs ∧ readS s limit 0 [] = .met) ∨ RdR s limit p out e)) ∧ leftW s.size b w2 < leftW s.size b wr) := by
          rw [show errN 2 3 = 2 from rfl] at hW2
          obtain ⟨g1, g2⟩ := HR.out.1.head (e' := 2) hW2 (HW1.out.2.1.trans hU2) (fun i h1 h2 => by rw [upV_other _ _ _ _ h2]; exact HW1.out.2.2.1 i h1 h2) (by rw [upV_other _ _ _ _ (by omega)]; exact HW1.out.2.2.2.1) (upV_same _ _ _) (by omega) (by omega)
          exact HEND.out w2 p out 2 _ fs g1 g2 (by omega) (fun h => h) (.inr (by rw [HN.out]))
        clear hW2 hU2
        go_wp2_with fail
        exact HE.out
      · obtain ⟨t1, t2, t3⟩ := take_yes (s := s) (p := p) (n := 4) (by omega)
        have hv := num_small s p 4 (by omega)
        rw [wrap_small _ (by omega)] at t2
        rw [t1, t3] at hW1
        rw [t2]
        have HX : Hid (nextS s limit p out = if numN (gOf s) p 4 = 4247762216 then frameS s limit (p + 4) out else if 407710288 ≤ numN (gOf s) p 4 ∧ numN (gOf s) p 4 ≤ 407710303 then (if passE s (p + 4) ≠ 0 then .bad (passE s (p + 4)) else .go (p + 4 + 4 + numN (gOf s) (p + 4) 4) out true) else .bad 3) := by
          show _ = _
          unfold nextS
          rw [if_neg hc]
        obtain ⟨V, hV⟩ : ∃ V, V = numN (gOf s) p 4 := ⟨_, rfl⟩
        rw [← hV] at hv HX ⊢
        obtain ⟨C1, hC1⟩ : ∃ C1, C1 = upV (upV C 15 (.int .i64 0)) 1 (.int .i64 ((p + 4 : Nat) : Int)) := ⟨_, rfl⟩
        rw [← hC1] at hW1
        obtain ⟨g1, g2⟩ := HR.out.1.head (e' := 0) (p' := p + 4) hW1 hU1 (fun i h1 h2 => by rw [hC1, upV_other _ _ _ _ h1, upV_other _ _ _ _ h2]) (by rw [hC1, upV_same]) (by rw [hC1, upV_other _ _ _ _ (by omega), upV_same]) (fun _ => rfl) (fun _ => ⟨by omega, by omega⟩)
        have HR1 : Hid (RSt b w1 b s limit (p + 4) out 0 C1 fs ∧ UpdS (fun j => b ≤ j) wr w1) := ⟨g1, g2⟩
        clear hW1 hU1 t1 t2 t3 hC1 g1 g2 hV
        have HPS : Hid (p + 4 ≤ s.size) := by show _ ≤ _; omega
        by_cases h1 : V = 4247762216
        · rw [if_pos h1] at HX
          have hb1 : ((V : Int) == 4247762216) = true := by rw [beq_iff_eq]; omega
          have HFR : Hid (Calls Try.prog 22 #[.pointer (some ⟨b, 0, none⟩)] w1 fun x w' => FrmQ b b s limit (p + 4) fs (frameS s limit (p + 4) out) w1 x w') := frame_w b b s limit (p + 4) out C1 fs w1 HR1.out.1 hs
          clear h1
          go_wp2_with fail
          refine HFR.out.mono ?_
          rintro x w2 ⟨p', out', e', C', fs', rfl, g1, g2, g3, g4, g5⟩
          have HE : Hid ((∃ (p : Nat) (out : List Nat) (e : Int) (C : Nat → Value) (fs : List (Nat × Value × List Int)), RSt b w2 b s limit p out e C fs ∧ UpdS (fun j => b ≤ j) W0 w2 ∧ ((MetF fs ∧ readS s limit 0 [] = .met) ∨ RdR s limit p out e)) ∧ leftW s.size b w2 < leftW s.size b wr) :=
            HEND.out w2 p' out' e' C' fs' g1 (HR1.out.2.same g3) (fun h => by have := g2 h; omega) g4 (by rw [HX.out]; exact g5)
          clear g1 g2 g3 g4 g5
          go_wp2_with fail
          exact HE.out
        · rw [if_neg h1] at HX
          have hb1 : ((V : Int) == 4247762216) = false := by rw [beq_eq_false_iff_ne]; omega
          by_cases h2 : 407710288 ≤ V ∧ V ≤ 407710303
          · rw [if_pos h2] at HX
            have hb2 : decide ((407710288 : Int) ≤ (V : Int)) = true := decide_eq_true (by omega)
            have hb3 : decide ((V : Int) ≤ 407710303) = true := decide_eq_true (by omega)
            obtain ⟨fr1, F1⟩ := HR1.out.1.st
            obtain ⟨P, hP⟩ : ∃ P, P = p + 4 := ⟨_, rfl⟩
            rw [← hP] at HR1 HX HPS F1
            have HPP : Hid (P = p + 4) := hP
            have hPb : P ≤ 16384 := by have := HPS.out; omega
            clear hP h1 h2
            have HTK : Hid (Calls Try.prog 21 #[.pointer (some ⟨b, 0, none⟩), .int .i64 ((4 : Nat) : Int)] w1 fun x w' => x = .returned (.int .i64 (takeV s P 0 4)) ∧ Wc w' b (upV (upV C1 15 (.int .i64 (takeE s P 0 4))) 1 (.int .i64 (takeP s P 0 4 : Int))) ∧ Upd b w1 w') := take_any b C1 s P 0 4 w1 F1.wc F1.c0 F1.c1 F1.c15 (by omega) (by have := HPS.out; omega) (by omega)
            clear F1
            go_wp2_with fail
            refine HTK.out.mono ?_
            rintro x w2 ⟨rfl, hW2, hU2⟩
            clear HTK
            by_cases hc4 : s.size < P + 4
            · obtain ⟨t1, t2, t3⟩ := take_no hc4
              rw [t1, t3] at hW2
              rw [t2]
              have HPE : Hid (passE s P = 2) := by show _ = _; unfold passE; rw [if_pos hc4]
              have d1 := hW2.c 1 (by omega)
              rw [upV_same] at d1
              have z1 := hW2.fz 1
              have HE : Hid ((∃ (p : Nat) (out : List Nat) (e : Int) (C : Nat → Value) (fs : List (Nat × Value × List Int)), RSt b (w2.setCell ⟨b, 1, none⟩ (.int .i64 (P : Int))) b s limit p out e C fs ∧ UpdS (fun j => b ≤ j) W0 (w2.setCell ⟨b, 1, none⟩ (.int .i64 (P : Int))) ∧ ((MetF fs ∧ readS s limit 0 [] = .met) ∨ RdR s limit p out e)) ∧ leftW s.size b (w2.setCell ⟨b, 1, none⟩ (.int .i64 (P : Int))) < leftW s.size b wr) := by
                obtain ⟨g1, g2⟩ := HR1.out.1.head (e' := 2) (p' := P) (hW2.set 1 (by omega) (.int .i64 (P : Int))) (hU2.setCell 1 _) (fun i h1 h2 => by rw [upV_other _ _ _ _ h1, upV_other _ _ _ _ h1, upV_other _ _ _ _ h2]) (upV_same _ _ _) (by rw [upV_other _ _ _ _ (by omega), upV_other _ _ _ _ (by omega), upV_same]) (by omega) (by omega)
                exact HEND.out _ P out 2 _ fs g1 (HR1.out.2.same g2) (by omega) (fun h => h) (.inr (by rw [HX.out, HPE.out]; rfl))
              have hcmp : decide ((s.size : Int) - (P : Int) < 0) = false := decide_eq_false (by have := HPS.out; omega)
              clear hW2 hU2 t1 t2 t3 hc4
              go_wp2_with fail
              exact HE.out
            · obtain ⟨t1, t2, t3⟩ := take_yes (s := s) (p := P) (n := 4) (by omega)
              have hn := num_small s P 4 (by omega)
              rw [wrap_small _ (by omega)] at t2
              rw [t1, t3] at hW2
              rw [t2]
              have HPE : Hid (passE s P = if s.size < P + 4 + numN (gOf s) P 4 then 2 else 0) := by show _ = _; unfold passE; rw [if_neg hc4]
              obtain ⟨n, hne⟩ : ∃ n, n = numN (gOf s) P 4 := ⟨_, rfl⟩
              rw [← hne] at hn HPE HX ⊢
              obtain ⟨C2, hC2⟩ : ∃ C2, C2 = upV (upV C1 15 (.int .i64 0)) 1 (.int .i64 ((P + 4 : Nat) : Int)) := ⟨_, rfl⟩
              rw [← hC2] at hW2
              obtain ⟨Q, hQ⟩ : ∃ Q, Q = P + 4 := ⟨_, rfl⟩
              rw [← hQ] at hC2 HPE HX
              have HQE : Hid (Q = P + 4) := hQ
              have HQS : Hid (Q ≤ s.size) := by show _ ≤ _; omega
              have hQb : Q ≤ 16384 := by have := HQS.out; omega
              have HC2 : Hid ((∀ i, i ≠ 1 → i ≠ 15 → C2 i = C1 i) ∧ C2 1 = .int .i64 (Q : Int) ∧ C2 15 = .int .i64 0 ∧ Wc w2 b C2 ∧ Upd b w1 w2) := ⟨fun i h1 h2 => by rw [hC2, upV_other _ _ _ _ h1, upV_other _ _ _ _ h2], by rw [hC2, upV_same], by rw [hC2, upV_other _ _ _ _ (by omega), upV_same], hW2, hU2⟩
              have d1 := hW2.c 1 (by omega)
              rw [HC2.out.2.1] at d1
              have z1 := hW2.fz 1
              clear hW2 hU2 t1 t2 t3 hC2 hQ hc4 hne
              by_cases hbig : s.size < Q + n
              · rw [if_pos hbig] at HPE
                have hcmp : decide ((s.size : Int) - (Q : Int) < (n : Int)) = true := decide_eq_true (by omega)
                clear hbig
                go_wp2_with fail
                refine (bad_any b C2 0 2 _ HC2.out.2.2.2.1 HC2.out.2.2.1).mono ?_
                rintro x w3 ⟨rfl, hW3, hU3⟩
                have x1 := hW3.c 1 (by omega)
                rw [upV_other _ _ _ _ (by omega), HC2.out.2.1] at x1
                have y1 := hW3.fz 1
                have HE : Hid ((∃ (p : Nat) (out : List Nat) (e : Int) (C : Nat → Value) (fs : List (Nat × Value × List Int)), RSt b (w3.setCell ⟨b, 1, none⟩ (.int .i64 ((Q : Int) + (n : Int)))) b s limit p out e C fs ∧ UpdS (fun j => b ≤ j) W0 (w3.setCell ⟨b, 1, none⟩ (.int .i64 ((Q : Int) + (n : Int)))) ∧ ((MetF fs ∧ readS s limit 0 [] = .met) ∨ RdR s limit p out e)) ∧ leftW s.size b (w3.setCell ⟨b, 1, none⟩ (.int .i64 ((Q : Int) + (n : Int)))) < leftW s.size b wr) := by
                  rw [show errN 0 2 = 2 from rfl] at hW3
                  obtain ⟨g1, g2⟩ := HR1.out.1.head (e' := 2) (p' := Q + n) (hW3.set 1 (by omega) (.int .i64 ((Q : Int) + (n : Int)))) ((HC2.out.2.2.2.2.trans hU3).setCell 1 _) (fun i h1 h2 => by rw [upV_other _ _ _ _ h1, upV_other _ _ _ _ h2]; exact HC2.out.1 i h1 h2) (upV_same _ _ _) (by rw [upV_other _ _ _ _ (by omega), upV_same]) (by omega) (by omega)
                  exact HEND.out _ (Q + n) out 2 _ fs g1 (HR1.out.2.same g2) (by omega) (fun h => h) (.inr (by rw [HX.out, HPE.out]; rfl))
                clear hW3 hU3 d1 z1
                go_wp2_with fail
                exact HE.out
              · rw [if_neg hbig] at HPE
                have hcmp : decide ((s.size : Int) - (Q : Int) < (n : Int)) = false := decide_eq_false (by omega)
                have HE : Hid ((∃ (p : Nat) (out : List Nat) (e : Int) (C : Nat → Value) (fs : List (Nat × Value × List Int)), RSt b (w2.setCell ⟨b, 1, none⟩ (.int .i64 ((Q : Int) + (n : Int)))) b s limit p out e C fs ∧ UpdS (fun j => b ≤ j) W0 (w2.setCell ⟨b, 1, none⟩ (.int .i64 ((Q : Int) + (n : Int)))) ∧ ((MetF fs ∧ readS s limit 0 [] = .met) ∨ RdR s limit p out e)) ∧ leftW s.size b (w2.setCell ⟨b, 1, none⟩ (.int .i64 ((Q : Int) + (n : Int)))) < leftW s.size b wr) := by
                  have hPP := HPP.out
                  have hQQ := HQE.out
                  obtain ⟨g1, g2⟩ := HR1.out.1.head (e' := 0) (p' := Q + n) (HC2.out.2.2.2.1.set 1 (by omega) (.int .i64 ((Q : Int) + (n : Int)))) (HC2.out.2.2.2.2.setCell 1 _) (fun i h1 h2 => by rw [upV_other _ _ _ _ h1]; exact HC2.out.1 i h1 h2) (upV_same _ _ _) (by rw [upV_other _ _ _ _ (by omega)]; exact HC2.out.2.2.1) (fun _ => rfl) (fun _ => ⟨by omega, by omega⟩)
                  refine HEND.out _ (Q + n) out 0 _ fs g1 (HR1.out.2.same g2) (fun _ => by omega) (fun h => h) (.inr ?_)
                  rw [HX.out, HPE.out]
                  exact ⟨rfl, rfl, rfl⟩
                clear hbig
                go_wp2_with fail
                exact HE.out
          · rw [if_neg h2] at HX
            have HC1 : Hid (C1 15 = .int .i64 0 ∧ Wc w1 b C1 ∧ C1 1 = .int .i64 ((p + 4 : Nat) : Int)) := by
              obtain ⟨fr1, F1⟩ := HR1.out.1.st
              exact ⟨F1.c15, F1.wc, F1.c1⟩
            have HDO : Hid (∀ w2, Wc w2 b (upV C1 15 (.int .i64 (errN 0 3))) → Upd b w1 w2 → (∃ (p : Nat) (out : List Nat) (e : Int) (C : Nat → Value) (fs : List (Nat × Value × List Int)), RSt b w2 b s limit p out e C fs ∧ UpdS (fun j => b ≤ j) W0 w2 ∧ ((MetF fs ∧ readS s limit 0 [] = .met) ∨ RdR s limit p out e)) ∧ leftW s.size b w2 < leftW s.size b wr) := by
              intro w2 hW2 hU2
              rw [show errN 0 3 = 3 from rfl] at hW2
              obtain ⟨g1, g2⟩ := HR1.out.1.head (e' := 3) (p' := p + 4) hW2 hU2 (fun i h1 h2 => upV_other _ _ _ _ h2) ((upV_other _ _ _ _ (by omega)).trans HC1.out.2.2) (upV_same _ _ _) (by omega) (by omega)
              exact HEND.out w2 (p + 4) out 3 _ fs g1 (HR1.out.2.same g2) (by omega) (fun h => h) (.inr (by rw [HX.out]))
            by_cases h3 : 407710288 ≤ V
            · have hb2 : decide ((407710288 : Int) ≤ (V : Int)) = true := decide_eq_true (by omega)
              have hb3 : decide ((V : Int) ≤ 407710303) = false := decide_eq_false (by omega)
              clear h1 h2 h3
              go_wp2_with fail
              refine (bad_any b C1 0 3 _ HC1.out.2.1 HC1.out.1).mono ?_
              rintro x w2 ⟨rfl, hW2, hU2⟩
              have HE := HDO.out w2 hW2 hU2
              have HEH : Hid ((∃ (p : Nat) (out : List Nat) (e : Int) (C : Nat → Value) (fs : List (Nat × Value × List Int)), RSt b w2 b s limit p out e C fs ∧ UpdS (fun j => b ≤ j) W0 w2 ∧ ((MetF fs ∧ readS s limit 0 [] = .met) ∨ RdR s limit p out e)) ∧ leftW s.size b w2 < leftW s.size b wr) := HE
              clear hW2 hU2 HE
              go_wp2_with fail
              exact HEH.out
            · have hb2 : decide ((407710288 : Int) ≤ (V : Int)) = false := decide_eq_false (by omega)
              clear h1 h2 h3
              go_wp2_with fail
              refine (bad_any b C1 0 3 _ HC1.out.2.1 HC1.out.1).mono ?_
              rintro x w2 ⟨rfl, hW2, hU2⟩
              have HE := HDO.out w2 hW2 hU2
              have HEH : Hid ((∃ (p : Nat) (out : List Nat) (e : Int) (C : Nat → Value) (fs : List (Nat × Value × List Int)), RSt b w2 b s limit p out e C fs ∧ UpdS (fun j => b ≤ j) W0 w2 ∧ ((MetF fs ∧ readS s limit 0 [] = .met) ∨ RdR s limit p out e)) ∧ leftW s.size b w2 < leftW s.size b wr) := HE
              clear hW2 hU2 HE
              go_wp2_with fail
              exact HEH.out
    · have HQ : Hid (ReadQ s limit w (.returned (.pointer (some ⟨b, 0, none⟩))) wr) := by
        refine ⟨p, out, e, C, fs, by rw [HBE.out], by rw [← HBE.out]; exact HR.out.1, ?_, ?_⟩
        · have h1 := HS0.out.2
          have h2 := HR.out.2.1
          rw [HBE.out] at h1 h2
          exact high_below h1 h2 h1.size
        · rcases HR.out.2.2 with h | h
          · exact .inl h
          · exact .inr (h.fin (fun h0 => fun hlt => hgo ⟨hlt, h0⟩))
      by_cases hlt : p < s.size
      · have hpb : decide ((p : Int) < (s.size : Int)) = true := decide_eq_true (by omega)
        have heb : (e == 0) = false := by rw [beq_eq_false_iff_ne]; exact fun h => hgo ⟨hlt, h⟩
        clear hgo
        go_wp2_with fail
        go_ret
        exact HQ.out
      · have hpb : decide ((p : Int) < (s.size : Int)) = false := decide_eq_false (by omega)
        clear hgo
        go_wp2_with fail
        go_ret
        exact HQ.out
end Go.Proofs.Ytkfilgfcgmohlaa
namespace Go.Proofs.Ytkfilgfcgmohlaa
open Go.RowKit
theorem argBad_yes {s : ByteArray} {limit slack : Int} (h : argBad s limit slack = true) : 16384 < s.size ∨ limit < 0 ∨ 131072 < limit ∨ slack < 0 ∨ 64 < slack := of_decide_eq_true h
theorem readS_bad0 {s : ByteArray} {limit : Int} : ∀ (n p : Nat) (out : List Nat) {e : Int}, s.size - p ≤ n → readS s limit p out = .bad e → e ≠ 0 := by
  intro n
  induction n with
  | zero =>
    intro p out e hn h
    rw [readS_end (by omega)] at h; cases h
  | succ n ih =>
    intro p out e hn h
    by_cases hp : p < s.size
    · cases hb : nextS s limit p out using Res.elim with
      | met => rw [readS_met hp hb] at h; cases h
      | bad e2 => rw [readS_bad hp hb] at h; cases h; exact nextS_bad hb
      | go q o l =>
        have hq := nextS_go hb
        rw [readS_on hp hb] at h
        exact ih q o (by omega) h
    · rw [readS_end hp] at h; cases h
set_option maxRecDepth 100000 in
/-- all that came out, as a string -/
theorem out_all {w : World} {pa : Option Addr} {cap : Nat} {out : List Nat} (h : OutAt w (.slice pa out.length cap) out) (w' : World) (hw : w'.heap = w.heap) : (convert 33 9 (.slice pa out.length cap)).run Try.prog w' = .ok (.string (baOf out)) w' := by
  rcases h.row.2 with ⟨e1, e2⟩ | ⟨g, cp, cur, e1, _, e3, e4, _, e6, e7⟩
  · injection e1 with e1a e1b e1c
    exact conv_cut w' pa 0 0 out.length cap out (.inl e1a) rfl (fun h => absurd e2 h) (fun i hi => by omega)
  · injection e1 with e1a e1b e1c
    refine conv_cut w' pa g 0 out.length cap out (.inr ⟨g, 0, e1a⟩) rfl (fun _ => e1a) (fun i hi => ?_)
    rw [World.cell?_of_block (w := w) (a := ⟨g, 0 + i, none⟩) (by rw [hw])]
    have hx : cur.toList[0 + i]? = some (.int .u8 (out.getD i 0 : Int)) := by
      rw [Nat.zero_add, ← bvs_get out i hi, ← e7, List.getElem?_take_of_lt (by omega)]
    simp only [World.cell?, e3]
    rw [← Array.getElem?_toList, hx]
    rfl
set_option maxRecDepth 100000 in
set_option maxHeartbeats 4000000 in
theorem rDecode (s : ByteArray) (limit slack : Int) (w : World) :
    Calls Try.prog 14 #[.string s, .int .i64 limit, .int .i64 slack] w fun x w' => DecP s limit slack w x w' := by
  cases hab : argBad s limit slack with
  | true =>
    have hor := argBad_yes hab
    have HA : Hid (argBad s limit slack = true) := hab
    clear hab
    by_cases h1 : 16384 < s.size
    · have b1 : decide ((16384 : Int) < (s.size : Int)) = true := decide_eq_true (by omega)
      go_enter Try.func14, Try.ntmps14
      go_wp2_with fail
      go_ret2
      exact ⟨Below.refl _ _, _, _, rfl, by rw [HA.out]; exact ⟨rfl, rfl⟩⟩
    · have b1 : decide ((16384 : Int) < (s.size : Int)) = false := decide_eq_false (by omega)
      by_cases h2 : limit < 0
      · have b2 : decide (limit < 0) = true := decide_eq_true (by omega)
        go_enter Try.func14, Try.ntmps14
        go_wp2_with fail
        go_ret2
        exact ⟨Below.refl _ _, _, _, rfl, by rw [HA.out]; exact ⟨rfl, rfl⟩⟩
      · have b2 : decide (limit < 0) = false := decide_eq_false (by omega)
        by_cases h3 : 131072 < limit
        · have b3 : decide (131072 < limit) = true := decide_eq_true (by omega)
          go_enter Try.func14, Try.ntmps14
          go_wp2_with fail
          go_ret2
          exact ⟨Below.refl _ _, _, _, rfl, by rw [HA.out]; exact ⟨rfl, rfl⟩⟩
        · have b3 : decide (131072 < limit) = false := decide_eq_false (by omega)
          by_cases h4 : slack < 0
          · have b4 : decide (slack < 0) = true := decide_eq_true (by omega)
            go_enter Try.func14, Try.ntmps14
            go_wp2_with fail
            go_ret2
            exact ⟨Below.refl _ _, _, _, rfl, by rw [HA.out]; exact ⟨rfl, rfl⟩⟩
          · have b4 : decide (slack < 0) = false := decide_eq_false (by omega)
            have b5 : decide (64 < slack) = true := decide_eq_true (by omega)
            go_enter Try.func14, Try.ntmps14
            go_wp2_with fail
            go_ret2
            exact ⟨Below.refl _ _, _, _, rfl, by rw [HA.out]; exact ⟨rfl, rfl⟩⟩
  | false =>
    obtain ⟨r1, r2, r3, r4, r5⟩ := argBad_no hab
    have HA : Hid (argBad s limit slack = false) := hab
    have b1 : decide ((16384 : Int) < (s.size : Int)) = false := decide_eq_false (by omega)
    have b2 : decide (limit < 0) = false := decide_eq_false (by omega)
    have b3 : decide (131072 < limit) = false := decide_eq_false (by omega)
    have b4 : decide (slack < 0) = false := decide_eq_false (by omega)
    have b5 : decide (64 < slack) = false := decide_eq_false (by omega)
    have HRD : Hid (Calls Try.prog 12 #[.string s, .int .i64 limit] w fun x w' => ReadQ s limit w x w') := read_w s limit w r1
    clear hab
    go_enter Try.func14, Try.ntmps14
    go_wp2_with fail
    refine HRD.out.mono ?_
    rintro x w1 ⟨p, out, e, C, fs, rfl, hR, hB, hM⟩
    obtain ⟨fr, F⟩ := hR.st
    have c15 := F.wc.c 15 (by omega)
    rw [F.c15] at c15
    obtain ⟨po, co, hvo⟩ := F.oa.shape
    have c3 := F.wc.c 3 (by omega)
    rw [hvo] at c3
    have kcv := out_all (w := w1) (pa := po) (cap := co) (out := out) (by have := F.oa; rw [hvo] at this; exact this) w1 rfl
    have HB : Hid (Below w.heap.size w w1) := hB
    have HAN : Hid (∀ t : ByteArray, (e ≠ 0 → t = ByteArray.empty) → (e = 0 → t = baOf out) → ansS (readS s limit 0 []) t e) := by
      intro t h1 h2
      rcases hM with h | h
      · rw [h.2]; exact trivial
      · cases hr : readS s limit 0 [] using Res.elim with
        | met => exact trivial
        | bad e2 =>
          rw [hr] at h
          have he : e = e2 := h
          have h0 := readS_bad0 _ _ _ (Nat.le_refl _) hr
          exact ⟨h1 (by rw [he]; exact h0), he⟩
        | go p2 o2 l =>
          rw [hr] at h
          obtain ⟨g1, g2⟩ := h
          exact ⟨by rw [h2 g1, g2], g1⟩
    clear hR hB hM F hvo HRD
    by_cases he : e = 0
    · have heb : (e != 0) = false := by simp [he]
      have HE : Hid (e = 0) := he
      clear he
      go_wp2_with fail
      go_ret2
      refine ⟨HB.out, _, _, rfl, ?_⟩
      rw [HA.out]
      have := HAN.out (baOf out) (fun h => absurd HE.out h) (fun _ => rfl)
      rw [HE.out] at this
      exact this
    · have heb : (e != 0) = true := by simp [he]
      have HE : Hid (e ≠ 0) := he
      clear he
      go_wp2_with fail
      go_region
      all_goals
        go_wp2_with fail
        go_ret2
        refine ⟨⟨HB.out.os, HB.out.tape, HB.out.output, HB.out.size, HB.out.block⟩, _, _, rfl, ?_⟩
        rw [HA.out]
        exact HAN.out ByteArray.empty (fun _ => rfl) (fun h => absurd h HE.out)
end Go.Proofs.Ytkfilgfcgmohlaa
namespace Go.Proofs.Ytkfilgfcgmohlaa
open Go.RowKit
/-- the frames' row: each member is a pointer -/
theorem RSt.ptr {N0 : Nat} {w : World} {b : Nat} {s : ByteArray} {limit : Int} {p : Nat} {out : List Nat} {e : Int} {C : Nat → Value} {fs : List (Nat × Value × List Int)} (h : RSt N0 w b s limit p out e C fs) : fs.length ≤ maxLen ∧ ∃ pa cap, C 4 = .slice pa fs.length cap ∧ ∀ i (hi : i < fs.length), ∃ g, pa = some ⟨g, 0, none⟩ ∧ w.cell? ⟨g, i, none⟩ = some (.pointer (some ⟨(fs[i]).1, 0, none⟩)) := by
  rcases h.fs4.2 with ⟨e1, e2⟩ | ⟨g, cp, cur, e1, _, e3, e4, e5, e6, e7⟩
  · exact ⟨by rw [e2]; exact Nat.zero_le _, none, 0, by rw [e1, e2], fun i hi => by omega⟩
  · refine ⟨Nat.le_trans e4 e5, _, cp, e1, fun i hi => ⟨g, rfl, ?_⟩⟩
    have hx : cur.toList[i]? = some (.pointer (some ⟨(fs[i]).1, 0, none⟩)) := by
      have : (ptrs fs)[i]? = some (.pointer (some ⟨(fs[i]).1, 0, none⟩)) := by unfold ptrs; rw [List.getElem?_map, List.getElem?_eq_getElem hi]; rfl
      rw [← this, ← e7, List.getElem?_take_of_lt (by omega)]
    simp only [World.cell?, e3]
    rw [← Array.getElem?_toList, hx]
    rfl
/-- a frame's row of blocks: the kind of each -/
theorem FrOk.kind {w : World} {X : Nat → Prop} {x : Nat × Value × List Int} (h : FrOk w X x) : x.2.2.length ≤ maxLen ∧ ∃ pa cap, x.2.1 = .slice pa x.2.2.length cap ∧ ∀ i, i < x.2.2.length → ∃ g, pa = some ⟨g, 0, none⟩ ∧ w.cell? ⟨g, i * 12, none⟩ = some (.int .i64 (x.2.2.getD i 0)) := by
  obtain ⟨xs, h1, h2⟩ := h.row.row
  rcases h1.2 with ⟨e1, e2⟩ | ⟨g, cp, cur, e1, _, e3, e4, e5, e6, e7⟩
  · exact ⟨by rw [e2]; exact Nat.zero_le _, none, 0, by rw [e1, e2], fun i hi => by omega⟩
  · refine ⟨Nat.le_trans e4 e5, _, cp, e1, fun i hi => ⟨g, rfl, ?_⟩⟩
    have hx : cur.toList[i * 12]? = some (.int .i64 (x.2.2.getD i 0)) := by
      rw [← h2 i hi, ← e7, List.getElem?_take_of_lt (by omega)]
    simp only [World.cell?, e3]
    rw [← Array.getElem?_toList, hx]
    rfl
def MeetQ (s : ByteArray) (limit : Int) (w : World) (x : Ending) (w' : World) : Prop :=
  ∃ m : Bool, x = .returned (.bool m) ∧ Below w.heap.size w w' ∧ (m = false → 16384 < s.size ∨ readS s limit 0 [] ≠ .met)
set_option maxRecDepth 100000 in
set_option maxHeartbeats 4000000 in
theorem meets_w (s : ByteArray) (limit : Int) (w : World) :
    Calls Try.prog 7 #[.string s, .int .i64 limit, .bool false] w fun x w' => MeetQ s limit w x w' := by
  by_cases hbig : 16384 < s.size
  · have b1 : decide ((16384 : Int) < (s.size : Int)) = true := decide_eq_true (by omega)
    have HB : Hid (16384 < s.size) := hbig
    clear hbig
    go_enter Try.func7, Try.ntmps7
    go_wp2_with fail
    go_ret
    exact ⟨false, rfl, Below.refl _ _, fun _ => .inl HB.out⟩
  · have b1 : decide ((16384 : Int) < (s.size : Int)) = false := decide_eq_false (by omega)
    have HRD : Hid (Calls Try.prog 12 #[.string s, .int .i64 limit] w fun x w' => ReadQ s limit w x w') := read_w s limit w (by omega)
    clear hbig
    go_enter Try.func7, Try.ntmps7
    go_wp2_with fail
    refine HRD.out.mono ?_
    rintro x w1 ⟨p, out, e, C, fs, rfl, hR, hB, hM⟩
    obtain ⟨fr, F⟩ := hR.st
    obtain ⟨hfl, p4, cap4, hv4, hp4⟩ := hR.ptr
    have c4 := F.wc.c 4 (by omega)
    rw [hv4] at c4
    have HR : Hid (RSt w.heap.size w1 w.heap.size s limit p out e C fs ∧ Below w.heap.size w w1 ∧ ((MetF fs ∧ readS s limit 0 [] = .met) ∨ match readS s limit 0 [] with | none => False | some (.inl e2) => e = e2 | some (.inr (_, o, _)) => e = 0 ∧ out = o)) := ⟨hR, hB, hM⟩
    have HP4 : Hid (∀ i (hi : i < fs.length), ∃ g, p4 = some ⟨g, 0, none⟩ ∧ w1.cell? ⟨g, i, none⟩ = some (.pointer (some ⟨(fs[i]).1, 0, none⟩))) := hp4
    have hflb : fs.length ≤ 9223372036854775807 := Nat.le_trans hfl (by decide)
    clear hR hB hM F hv4 hp4 HRD hfl
    obtain ⟨b, hb⟩ : ∃ b, b = w.heap.size := ⟨_, rfl⟩
    rw [← hb] at c4
    rw [← hb]
    clear hb
    go_wp2_with fail
    go_loopw [8, 9, 10] (fun iv _ _ wr => ∃ i : Nat, i ≤ fs.length ∧ iv = .int .i64 (i : Int) ∧ wr = w1 ∧ ∀ x ∈ fs.take i, (2 : Int) ∉ x.2.2) (fun iv _ _ _ => (fs.length - intOf iv).toNat)
    case atStart => exact ⟨0, by omega, rfl, rfl, fun x hx => by simp at hx⟩
    case round =>
      obtain ⟨i, hi, rfl, hwr, hno⟩ := hrel
      rw [hwr]
      clear hwr
      have HNO : Hid (∀ x ∈ fs.take i, (2 : Int) ∉ x.2.2) := hno
      clear hno
      by_cases hlt : i < fs.length
      · have hlb : decide ((i : Int) < (fs.length : Int)) = true := decide_eq_true (by omega)
        obtain ⟨g, rfl, hcell⟩ := HP4.out i hlt
        obtain ⟨x, hx⟩ : ∃ x, x = fs[i] := ⟨_, rfl⟩
        rw [← hx] at hcell
        have hmem : x ∈ fs := by rw [hx]; exact List.getElem_mem hlt
        have hfin := HR.out.1.fin x hmem
        obtain ⟨hkl, pk, capk, hvk, hkk⟩ := hfin.kind
        have c5 := hfin.c5
        rw [hvk] at c5
        have HKK : Hid (∀ j, j < x.2.2.length → ∃ gk, pk = some ⟨gk, 0, none⟩ ∧ w1.cell? ⟨gk, j * 12, none⟩ = some (.int .i64 (x.2.2.getD j 0))) := hkk
        have HXE : Hid (x = fs[i]) := hx
        obtain ⟨ks, hks⟩ : ∃ ks, ks = x.2.2 := ⟨_, rfl⟩
        obtain ⟨f, hf⟩ : ∃ f, f = x.1 := ⟨_, rfl⟩
        rw [← hks] at c5 HKK hkl
        rw [← hf] at c5 hcell
        have HKS : Hid (ks = x.2.2) := hks
        have hklb : ks.length ≤ 9223372036854775807 := Nat.le_trans hkl (by decide)
        have hiI : (i : Int) < (fs.length : Int) := by omega
        clear hx hmem hfin hkl hvk hkk hks hf
        go_wp2_with fail
        go_loopw [10] (fun kv wr => ∃ k : Nat, k ≤ ks.length ∧ kv = .int .i64 (k : Int) ∧ wr = w1 ∧ ∀ j, j < k → ks.getD j 0 ≠ 2) (fun kv _ => (ks.length - intOf kv).toNat)
        case atStart => exact ⟨0, by omega, rfl, rfl, fun j hj => by omega⟩
        case round =>
          obtain ⟨k, hk, rfl, hwr, hno⟩ := hrel
          rw [hwr]
          clear hwr
          have HNK : Hid (∀ j, j < k → ks.getD j 0 ≠ 2) := hno
          clear hno
          by_cases hkt : k < ks.length
          · have hkb : decide ((k : Int) < (ks.length : Int)) = true := decide_eq_true (by omega)
            have hkI : (k : Int) < (ks.length : Int) := by omega
            obtain ⟨gk, rfl, hkc⟩ := HKK.out k hkt
            obtain ⟨q, hq⟩ : ∃ q, q = ks.getD k 0 := ⟨_, rfl⟩
            rw [← hq] at hkc
            have HQE : Hid (q = ks.getD k 0) := hq
            clear hq
            by_cases hq2 : q = 2
            · have hqb : (q == 2) = true := by rw [hq2]; rfl
              have HQ : Hid (MeetQ s limit w (.returned (.bool true)) w1) := ⟨true, rfl, HR.out.2.1, fun h => by cases h⟩
              clear hq2
              go_wp2_with fail
              go_ret
              exact HQ.out
            · have hqb : (q == 2) = false := by rw [beq_eq_false_iff_ne]; exact hq2
              have HQ2 : Hid (q ≠ 2) := hq2
              clear hq2
              go_wp2_with fail
              refine ⟨⟨k + 1, by omega, by go_num, by first | rfl | trivial, fun j hj => ?_⟩, by simp [intOf]; omega⟩
              by_cases e : j = k
              · subst e; rw [← HQE.out]; exact HQ2.out
              · exact HNK.out j (by omega)
          · have hkb : decide ((k : Int) < (ks.length : Int)) = false := decide_eq_false (by omega)
            have HAL : Hid (∀ y ∈ fs.take (i + 1), (2 : Int) ∉ y.2.2) := by
              intro y hy h2
              rw [List.take_add_one, List.mem_append] at hy
              rcases hy with hy | hy
              · exact HNO.out y hy h2
              · rw [List.getElem?_eq_getElem hlt] at hy
                have hye : y = x := by rw [HXE.out]; simpa using hy
                rw [hye, ← HKS.out] at h2
                obtain ⟨j, hj, hj2⟩ := List.getElem_of_mem h2
                refine HNK.out j (by omega) ?_
                rw [List.getD_eq_getElem?_getD, List.getElem?_eq_getElem hj, hj2]
                rfl
            go_wp2_with fail
            exact ⟨⟨i + 1, by omega, by go_num, by first | rfl | trivial, HAL.out⟩, by simp [intOf]; omega⟩
      · have hlb : decide ((i : Int) < (fs.length : Int)) = false := decide_eq_false (by omega)
        have HQ : Hid (MeetQ s limit w (.returned (.bool false)) w1) := by
          refine ⟨false, rfl, HR.out.2.1, fun _ => .inr ?_⟩
          rcases HR.out.2.2 with h | h
          · obtain ⟨x, hx, h2⟩ := h.1
            exact absurd h2 (HNO.out x (by rw [List.take_of_length_le (by omega)]; exact hx))
          · intro hm
            rw [hm] at h
            exact h
        go_wp2_with fail
        go_ret
        exact HQ.out
end Go.Proofs.Ytkfilgfcgmohlaa
namespace Go.Proofs.Ytkfilgfcgmohlaa
open Go.RowKit
theorem ans_one {s : ByteArray} {limit slack : Int} (h : argBad s limit slack = true ∨ readS s limit 0 [] ≠ .met) {t u : ByteArray} {e f : Int} (h1 : if argBad s limit slack then t = ByteArray.empty ∧ e = 1 else ansS (readS s limit 0 []) t e) (h2 : if argBad s limit slack then u = ByteArray.empty ∧ f = 1 else ansS (readS s limit 0 []) u f) : u = t ∧ f = e := by
  by_cases ha : argBad s limit slack = true
  · rw [if_pos ha] at h1 h2
    exact ⟨h2.1.trans h1.1.symm, h2.2.trans h1.2.symm⟩
  · rw [if_neg ha] at h1 h2
    cases hr : readS s limit 0 [] using Res.elim with
    | met => rcases h with h | h
             · exact absurd h ha
             · exact absurd hr h
    | bad e2 =>
      rw [hr] at h1 h2
      exact ⟨h2.1.trans h1.1.symm, h2.2.trans h1.2.symm⟩
    | go p o l =>
      rw [hr] at h1 h2
      exact ⟨h2.1.trans h1.1.symm, h2.2.trans h1.2.symm⟩
set_option maxRecDepth 100000 in
set_option maxHeartbeats 2000000 in
theorem method_w (d : Value) (s : ByteArray) (limit slack : Int) (w : World) :
    Calls Try.prog 13 #[d, .string s, .int .i64 limit, .int .i64 slack] w fun x w' => DecP s limit slack w x w' := by
  have HP : Hid (Calls Try.prog 24 #[.string s, .int .i64 limit, .int .i64 slack] w fun x w' => DecP s limit slack w x w') := pDecode s limit slack w
  go_enter Try.func13, Try.ntmps13
  go_wp2_with fail
  refine HP.out.mono ?_
  rintro x w1 ⟨hB, t, e, rfl, hA⟩
  have HQ : Hid (DecP s limit slack w (.returned (.tuple #[.string t, .int .i64 e])) w1) := ⟨hB, t, e, rfl, hA⟩
  clear hB hA
  go_wp2_with fail
  go_ret2
  exact HQ.out
theorem new_w (w : World) :
    Calls Try.prog 8 #[] w fun x w' => ∃ d, x = .returned d ∧ d.oneCell' = true ∧ Below w.heap.size w w' := by
  go_enter Try.func8, Try.ntmps8
  go_wp2_with fail
  go_ret
  exact ⟨_, rfl, rfl, (Below.refl _ _).alloc (Nat.le_refl _) _⟩
set_option maxRecDepth 100000 in
set_option maxHeartbeats 2000000 in
theorem decoded_w (d : Value) (s : ByteArray) (limit slack : Int) (w : World) (h : argBad s limit slack = true ∨ readS s limit 0 [] ≠ .met) :
    Calls Try.prog 9 #[d, .string s, .int .i64 limit, .int .i64 slack] w fun x w' => ∃ t, x = .returned (.tuple #[.string t, .bool true]) ∧ Below w.heap.size w w' := by
  have HP : Hid (Calls Try.prog 13 #[d, .string s, .int .i64 limit, .int .i64 slack] w fun x w' => DecP s limit slack w x w') := method_w d s limit slack w
  have HRF : Hid (∀ w', Calls Try.prog 14 #[.string s, .int .i64 limit, .int .i64 slack] w' fun x w'' => DecP s limit slack w' x w'') := fun w' => rDecode s limit slack w'
  have HH : Hid (argBad s limit slack = true ∨ readS s limit 0 [] ≠ .met) := h
  clear h
  go_enter Try.func9, Try.ntmps9
  go_wp2_with fail
  refine HP.out.mono ?_
  rintro x w1 ⟨hB, t, e, rfl, hA⟩
  have H1 : Hid (Below w.heap.size w w1 ∧ (if argBad s limit slack then t = ByteArray.empty ∧ e = 1 else ansS (readS s limit 0 []) t e)) := ⟨hB, hA⟩
  clear hB hA HP
  go_wp2_with fail
  refine (HRF.out w1).mono ?_
  rintro x w2 ⟨hB, u, f, rfl, hA⟩
  obtain ⟨hu, hf⟩ := ans_one HH.out H1.out.2 hA
  rw [hu, hf]
  have H2 : Hid (Below w.heap.size w w2) := H1.out.1.trans (hB.mono H1.out.1.size)
  clear hB hA HRF H1 HH hu hf
  go_wp2_with fail
  go_ret2
  exact ⟨t, rfl, H2.out⟩
set_option maxRecDepth 100000 in
set_option maxHeartbeats 2000000 in
theorem plain_any (s : ByteArray) (limit slack : Int) (w : World) :
    Calls Try.prog 3 #[.string s, .int .i64 limit, .int .i64 slack] w fun x w' => x = .returned (.bool true) ∧ Below w.heap.size w w' := by
  by_cases hbig : 1048576 < s.size
  · have b1 : decide ((1048576 : Int) < (s.size : Int)) = true := decide_eq_true (by omega)
    clear hbig
    go_enter Try.func3, Try.ntmps3
    go_wp2_with fail
    go_ret
    exact ⟨rfl, Below.refl _ _⟩
  · have b1 : decide ((1048576 : Int) < (s.size : Int)) = false := decide_eq_false (by omega)
    have HM : Hid (Calls Try.prog 7 #[.string s, .int .i64 limit, .bool false] w fun x w' => MeetQ s limit w x w') := meets_w s limit w
    have HNW : Hid (∀ w', Calls Try.prog 8 #[] w' fun x w'' => ∃ d, x = .returned d ∧ d.oneCell' = true ∧ Below w'.heap.size w' w'') := new_w
    clear hbig
    go_enter Try.func3, Try.ntmps3
    go_wp2_with fail
    refine HM.out.mono ?_
    rintro x w1 ⟨m, rfl, hB, hm⟩
    have HB1 : Hid (Below w.heap.size w w1) := hB
    cases m with
    | true =>
      clear hB hm HM HNW
      go_wp2_with fail
      go_ret
      exact ⟨rfl, HB1.out⟩
    | false =>
      have HH : Hid (argBad s limit slack = true ∨ readS s limit 0 [] ≠ .met) := by
        rcases hm rfl with h | h
        · exact .inl (decide_eq_true (.inl h))
        · exact .inr h
      clear hB hm HM
      go_wp2_with fail
      refine (HNW.out w1).mono ?_
      rintro x w2 ⟨d, rfl, hd, hB2⟩
      have HB2 : Hid (Below w.heap.size w w2) := HB1.out.trans (hB2.mono HB1.out.size)
      have HDC : Hid (Calls Try.prog 9 #[d, .string s, .int .i64 limit, .int .i64 slack] w2 fun x w' => ∃ t, x = .returned (.tuple #[.string t, .bool true]) ∧ Below w2.heap.size w2 w') := decoded_w d s limit slack w2 HH.out
      clear hB2 HNW
      go_wp2_with fail
      refine HDC.out.mono ?_
      rintro x w3 ⟨t, rfl, hB3⟩
      have HB3 : Hid (Below w.heap.size w w3) := HB2.out.trans (hB3.mono HB2.out.size)
      clear hB3 HDC
      go_wp2_with fail
      go_ret
      exact ⟨rfl, HB3.out⟩
end Go.Proofs.Ytkfilgfcgmohlaa
