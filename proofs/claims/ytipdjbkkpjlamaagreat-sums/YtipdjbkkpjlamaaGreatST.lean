import Derived.Test.YtipdjbkkpjlamaaGreatSS
import Derived.WalkKit
import Derived.WalkSpells
import Derived.WalkLawsBesides
namespace Go.Proofs.YtipdjbkkpjlamaaGreat
open Go.RowKit
theorem St.bel {w0 w : World} {b B k c : Nat} (h : St w0 w b B k c) : Below B w0 w := by
  obtain ⟨own, T, S, I, J, L, h⟩ := h
  exact h.bel
/-- a world of which nothing has been made -/
theorem St.init (w : World) : St w (w.alloc (.cells #[.slice none 0 0, .slice none 0 0, .slice none 0 0, .slice none 0 0, .int .i64 0, .slice none 0 0, .slice none 0 0, .int .i64 0, .int .i64 0, .int .i64 0, .int .i64 0, .slice none 0 0, .slice none 0 0, .slice none 0 0, .int .i64 0, .int .i64 0, .int .i64 0, .int .i64 0, .int .i64 0, .int .i64 0] 39)) w.heap.size w.heap.size 0 0 := by
  have c : ∀ i, (w.alloc (.cells #[.slice none 0 0, .slice none 0 0, .slice none 0 0, .slice none 0 0, .int .i64 0, .slice none 0 0, .slice none 0 0, .int .i64 0, .int .i64 0, .int .i64 0, .int .i64 0, .slice none 0 0, .slice none 0 0, .slice none 0 0, .int .i64 0, .int .i64 0, .int .i64 0, .int .i64 0, .int .i64 0, .int .i64 0] 39)).cell? ⟨w.heap.size, i, none⟩ = (#[.slice none 0 0, .slice none 0 0, .slice none 0 0, .slice none 0 0, .int .i64 0, .slice none 0 0, .slice none 0 0, .int .i64 0, .int .i64 0, .int .i64 0, .int .i64 0, .slice none 0 0, .slice none 0 0, .slice none 0 0, .int .i64 0, .int .i64 0, .int .i64 0, .int .i64 0, .int .i64 0, .int .i64 0] : Array Value)[i]? := fun i => by rw [World.cell?_alloc_new]
  refine ⟨fun i => if i = w.heap.size then 1 else 0, [], [], [], [], [], by simp, fun i hi => by simp; omega, fun i hi => by simp at hi; simp; omega, fun i hi => ?_, fun i => World.frozen?_alloc_new _ _ _ _, ⟨.slice none 0 0, c 3, World.ownsRow_nil _ _ _ _, fun g hg => by simp [Value.ownBlock] at hg⟩, ⟨.slice none 0 0, c 2, World.ownsRow_nil _ _ _ _, fun g hg => by simp [Value.ownBlock] at hg⟩, ⟨.slice none 0 0, c 5, World.ownsRow_nil _ _ _ _, fun g hg => by simp [Value.ownBlock] at hg⟩, ⟨.slice none 0 0, c 6, World.ownsRow_nil _ _ _ _, fun g hg => by simp [Value.ownBlock] at hg⟩, fun i hi => ?_, ⟨rfl, rfl⟩, fun i l hl => by simp at hl, fun j p hp => by simp at hp, ⟨Nat.le_refl _, Nat.le_refl _, Nat.le_refl _⟩, fun t ht => by simp at ht, fun p hp => by simp at hp, fun l hl => by simp at hl, (Below.refl _ _).alloc (Nat.le_refl _) _⟩
  · exact ⟨_, (c i).trans (Array.getElem?_eq_getElem (by simpa using hi))⟩
  · rcases hi with rfl | rfl | rfl
    · exact ⟨0, c 7, rfl⟩
    · exact ⟨0, c 8, rfl⟩
    · exact ⟨0, c 9, rfl⟩
set_option maxRecDepth 100000 in
set_option maxHeartbeats 2000000 in
theorem upTo_any (sb cap : Nat) (l : List OpV) (pa : Option Addr) (w : World) (hp : l ≠ [] → pa = some ⟨sb, 0, none⟩) (hsb : sb < w.heap.size) (hs : Steps w sb 0 l) (hkd : ∀ o ∈ l, ownB o.kind = true ∨ o.kind = 3 ∨ o.kind = 19 ∨ o.kind = 20 ∨ o.kind = 21) (hz : l.length + total l ≤ 1048576) :
    Calls Tryz.prog 7 #[.slice pa l.length cap] w fun e w' => e = .returned (.int .i64 (-1)) ∧ Below w.heap.size w w' := by
  have HX : Hid ((l ≠ [] → pa = some ⟨sb, 0, none⟩) ∧ Steps w sb 0 l ∧ (∀ o ∈ l, ownB o.kind = true ∨ o.kind = 3 ∨ o.kind = 19 ∨ o.kind = 20 ∨ o.kind = 21)) := ⟨hp, hs, hkd⟩
  clear hp hs hkd
  go_enter Tryz.func7, Tryz.ntmps7
  go_wp2_with fail
  have hI := St.init w
  generalize w.alloc (.cells #[.slice none 0 0, .slice none 0 0, .slice none 0 0, .slice none 0 0, .int .i64 0, .slice none 0 0, .slice none 0 0, .int .i64 0, .int .i64 0, .int .i64 0, .int .i64 0, .slice none 0 0, .slice none 0 0, .slice none 0 0, .int .i64 0, .int .i64 0, .int .i64 0, .int .i64 0, .int .i64 0, .int .i64 0] 39) = W0 at hI ⊢
  go_loopw [4] (fun iv wr => ∃ i : Nat, i ≤ l.length ∧ iv = .int .i64 i ∧ St w wr w.heap.size w.heap.size i (total (l.take i))) (fun iv _ => (l.length - intOf iv).toNat)
  case atStart => exact ⟨0, by omega, rfl, hI⟩
  case round =>
    clear hI
    obtain ⟨i, hi, rfl, hst⟩ := hrel
    have HST : Hid (St w wr w.heap.size w.heap.size i (total (l.take i))) := hst
    by_cases hlt : i < l.length
    · obtain rfl := HX.out.1 (by intro e; rw [e] at hlt; simp at hlt)
      obtain ⟨o, ho⟩ : ∃ o, l[i]? = some o := ⟨l[i], List.getElem?_eq_getElem hlt⟩
      have hT1 : total (l.take (i + 1)) = total (l.take i) + o.s.size := by
        rw [List.take_add_one, ho, total_append]; simp [total]
      have HT1 : Hid (total (l.take (i + 1)) = total (l.take i) + o.s.size) := hT1
      have hle : total (l.take (i + 1)) ≤ total l := by
        have e := total_append (l.take (i + 1)) (l.drop (i + 1))
        rw [List.take_append_drop] at e
        omega
      have hc1 : total (l.take i) + o.s.size ≤ 1048576 := by omega
      have hbl := hst.bel
      have e0 : wr.cell? ⟨sb, i * 5, none⟩ = some (.int .i64 o.kind) := (hbl.cell (p := ⟨sb, i * 5, none⟩) hsb).trans (by have := HX.out.2.1.c0 i o ho; rwa [Nat.zero_add] at this)
      have e1 : wr.cell? ⟨sb, i * 5 + 1, none⟩ = some (.int .i64 o.a) := (hbl.cell (p := ⟨sb, i * 5 + 1, none⟩) hsb).trans (by have := HX.out.2.1.c1 i o ho; rwa [Nat.zero_add] at this)
      have e2 : wr.cell? ⟨sb, i * 5 + 2, none⟩ = some (.int .i64 o.b) := (hbl.cell (p := ⟨sb, i * 5 + 2, none⟩) hsb).trans (by have := HX.out.2.1.c2 i o ho; rwa [Nat.zero_add] at this)
      have e3 : wr.cell? ⟨sb, i * 5 + 3, none⟩ = some (.int .i64 o.c) := (hbl.cell (p := ⟨sb, i * 5 + 3, none⟩) hsb).trans (by have := HX.out.2.1.c3 i o ho; rwa [Nat.zero_add] at this)
      have e4 : wr.cell? ⟨sb, i * 5 + 4, none⟩ = some (.string o.s) := (hbl.cell (p := ⟨sb, i * 5 + 4, none⟩) hsb).trans (by have := HX.out.2.1.c4 i o ho; rwa [Nat.zero_add] at this)
      have HO : Hid (OpOk o ∧ (ownB o.kind = true ∨ o.kind = 3 ∨ o.kind = 19 ∨ o.kind = 20 ∨ o.kind = 21) ∧ total (l.take i) + o.s.size ≤ 1048576) := ⟨HX.out.2.1.ok o (List.mem_of_getElem? ho), HX.out.2.2 o (List.mem_of_getElem? ho), hc1⟩
      have hlt2 : (i : Int) < (l.length : Int) := by omega
      have hik : i ≤ 1048576 := by omega
      have hik2 : i + 1 ≤ 1048576 := by omega
      clear hst hT1 hle hc1 hbl
      go_wp2_with fail
      refine (step_any HST.out hik o HO.out.1 HO.out.2.2 HO.out.2.1).mono ?_
      rintro e w1 ⟨rfl, hh⟩
      rw [← HT1.out] at hh
      have HH : Hid (St w w1 w.heap.size w.heap.size (i + 1) (total (l.take (i + 1)))) := hh
      clear hh e0 e1 e2 e3 e4
      go_wp2_with fail
      obtain ⟨own, T, S, I, J, L, hh⟩ := HH.out
      refine (looks_any hh hik2).mono ?_
      rintro e w2 ⟨rfl, hh2⟩
      have H2 : Hid (St w w2 w.heap.size w.heap.size (i + 1) (total (l.take (i + 1)))) := hh2.st
      clear hh hh2 HH
      go_wp2
      exact ⟨⟨i + 1, by omega, by go_num, H2.out⟩, by simp [intOf]; omega⟩
    · have HF : Hid (Below w.heap.size w wr) := hst.bel
      clear hst
      go_wp2
      go_ret
      exact ⟨rfl, HF.out⟩
end Go.Proofs.YtipdjbkkpjlamaaGreat
