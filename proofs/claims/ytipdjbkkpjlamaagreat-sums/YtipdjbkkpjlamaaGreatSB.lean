import Derived.Test.YtipdjbkkpjlamaaGreatSA
import Derived.Deep.AppendLies
namespace Go.Proofs.YtipdjbkkpjlamaaGreat
open Go.RowKit
/-- a row that the script's world owns, in a block of the tag t -/
structure Row (w : World) (B : Nat) (own : Nat → Nat) (t e size : Nat) (v : Value) (n : Nat) (xs : List Value) : Prop where
  row : w.ownsRow B e size v n xs
  tag : ∀ g, v.ownBlock = some g → own g = t
theorem ownsRow_same {w w' : World} {B e size : Nat} {v : Value} {n : Nat} {xs : List Value} (h : w.ownsRow B e size v n xs) (hb : ∀ g, v.ownBlock = some g → w'.heap[g]? = w.heap[g]?) : w'.ownsRow B e size v n xs := by
  refine ⟨h.1, ?_⟩
  rcases h.2 with h0 | ⟨g, cap, cur, rfl, h1, h2, h3⟩
  · exact .inl h0
  · exact .inr ⟨g, cap, cur, rfl, h1, (hb g rfl).trans h2, h3⟩
theorem ownsRow_lt {w : World} {B e size : Nat} {v : Value} {n : Nat} {xs : List Value} (h : w.ownsRow B e size v n xs) : ∀ g, v.ownBlock = some g → g < w.heap.size ∧ B ≤ g := by
  intro g hg
  rcases h.2 with ⟨rfl, _⟩ | ⟨g', cap, cur, rfl, h1, h2, h3⟩
  · simp [Value.ownBlock] at hg
  · simp [Value.ownBlock] at hg
    subst hg
    refine ⟨?_, h1⟩
    rcases Nat.lt_or_ge g' w.heap.size with hlt | hge
    · exact hlt
    · rw [Array.getElem?_eq_none hge] at h2; cases h2
/-- w' is w but for blocks of the tag t, and new blocks -/
structure Chg (own : Nat → Nat) (t : Nat) (w w' : World) : Prop where
  os : w'.os = w.os
  tape : w'.tape = w.tape
  output : w'.output = w.output
  size : w.heap.size ≤ w'.heap.size
  block : ∀ k, k < w.heap.size → own k ≠ t → w'.heap[k]? = w.heap[k]?
theorem Chg.refl (own : Nat → Nat) (t : Nat) (w : World) : Chg own t w w := ⟨rfl, rfl, rfl, Nat.le_refl _, fun _ _ _ => rfl⟩
theorem Chg.trans {own : Nat → Nat} {t : Nat} {w w1 w2 : World} (h : Chg own t w w1) (k : Chg own t w1 w2) : Chg own t w w2 :=
  ⟨k.os.trans h.os, k.tape.trans h.tape, k.output.trans h.output, Nat.le_trans h.size k.size, fun i hi hb => (k.block i (Nat.lt_of_lt_of_le hi h.size) hb).trans (h.block i hi hb)⟩
theorem Chg.alloc {own : Nat → Nat} {t : Nat} {w w1 : World} (h : Chg own t w w1) (o : Obj) : Chg own t w (w1.alloc o) :=
  h.trans ⟨rfl, rfl, rfl, by simp, fun k hk _ => Below.heap_alloc _ _ _ hk⟩
theorem Chg.drew {own : Nat → Nat} {t : Nat} {w w1 : World} (h : Chg own t w w1) : Chg own t w w1.drew := ⟨h.os, h.tape, h.output, h.size, h.block⟩
theorem Chg.set {own : Nat → Nat} {t : Nat} {w w1 : World} (h : Chg own t w w1) (b i : Nat) (v : Value) (hb : own b = t ∨ w.heap.size ≤ b) : Chg own t w (w1.setCell ⟨b, i, none⟩ v) :=
  ⟨h.os, h.tape, h.output, by rw [World.size_setCell]; exact h.size, fun k hk hne => (Below.heap_setCell _ _ _ _ (by
    intro e; dsimp only at e; subst e
    rcases hb with hb | hb
    · exact hne hb
    · omega)).trans (h.block k hk hne)⟩
theorem Chg.grown {own : Nat → Nat} {t : Nat} {w w1 w2 : World} {row : Option Nat} (h : Chg own t w w1) (hg : w1.grownBy w2 row) (hr : ∀ k, row = some k → own k = t ∨ w.heap.size ≤ k) : Chg own t w w2 :=
  ⟨hg.os.trans h.os, hg.tape.trans h.tape, hg.output.trans h.output, Nat.le_trans h.size hg.size, fun k hk hne => (hg.block k (Nat.lt_of_lt_of_le hk h.size) (by
    intro e
    rcases hr k e.symm with h1 | h1
    · exact hne h1
    · omega)).trans (h.block k hk hne)⟩
theorem Chg.al {own : Nat → Nat} {t : Nat} {w w1 w2 : World} (h : Chg own t w w1) (ha : Al w1 w2) : Chg own t w w2 :=
  ⟨ha.os.trans h.os, ha.tape.trans h.tape, ha.output.trans h.output, by rw [ha.heap]; exact h.size, fun k hk hne => by rw [ha.heap]; exact h.block k hk hne⟩
theorem Chg.upd {own : Nat → Nat} {t b : Nat} {w w1 w2 : World} (h : Chg own t w w1) (hu : Upd b w1 w2) (hb : own b = t ∨ w.heap.size ≤ b) : Chg own t w w2 :=
  ⟨hu.os.trans h.os, hu.tape.trans h.tape, hu.output.trans h.output, Nat.le_trans h.size hu.size, fun k hk hne => (hu.block k (Nat.lt_of_lt_of_le hk h.size) (by
    intro e; subst e
    rcases hb with hb | hb
    · exact hne hb
    · omega)).trans (h.block k hk hne)⟩
theorem Chg.later {own : Nat → Nat} {t : Nat} {w w1 w2 : World} (h : Chg own t w w1) (hb : Below w1.heap.size w1 w2) : Chg own t w w2 :=
  ⟨hb.os.trans h.os, hb.tape.trans h.tape, hb.output.trans h.output, Nat.le_trans h.size hb.size, fun k hk hne => (hb.block k (Nat.lt_of_lt_of_le hk h.size)).trans (h.block k hk hne)⟩
theorem Row.kept {w w' : World} {B : Nat} {own : Nat → Nat} {t t' e size : Nat} {v : Value} {n : Nat} {xs : List Value} (h : Row w B own t e size v n xs) (hc : Chg own t' w w') (hne : t ≠ t') : Row w' B own t e size v n xs :=
  ⟨ownsRow_same h.row (fun g hg => hc.block g (ownsRow_lt h.row g hg).1 (by rw [h.tag g hg]; exact hne)), h.tag⟩
def updO (own : Nat → Nat) (g t : Nat) : Nat → Nat := fun i => if i = g then t else own i
theorem updO_other (own : Nat → Nat) (g t i : Nat) (h : i ≠ g) : updO own g t i = own i := by simp [updO, h]
theorem updO_same (own : Nat → Nat) (g t : Nat) : updO own g t g = t := by simp [updO]
/-- a block that had no tag gets one -/
theorem Row.retag {w : World} {B : Nat} {own : Nat → Nat} {t e size : Nat} {v : Value} {n : Nat} {xs : List Value} (h : Row w B own t e size v n xs) (ht : t ≠ 0) (g u : Nat) (hg : own g = 0) : Row w B (updO own g u) t e size v n xs :=
  ⟨h.row, fun k hk => by
    have := h.tag k hk
    rw [updO_other _ _ _ _ (by intro e; subst e; omega)]; exact this⟩
def flat (S : List (Nat × ByteArray)) : List Value := S.flatMap (fun p => [.pointer (some ⟨p.1, 0, none⟩), .string p.2])
def nums (l : List Int) : List Value := l.map (Value.int .i64)
/-- the world of a script, behind k steps with c bytes: b: its block, B: the first block of the call's own, own: the tags; T: the texts, S: the sums, I, J, L: the lists of numbers -/
structure Inv (w0 w : World) (b B : Nat) (own : Nat → Nat) (k c : Nat) (T : List ByteArray) (S : List (Nat × ByteArray)) (I J : List Value) (L : List (List Int)) : Prop where
  ob : own b = 1
  low : ∀ i, i < B → own i = 0
  new : ∀ i, w.heap.size ≤ i → own i = 0
  cells : ∀ i, i < 20 → ∃ v, w.cell? ⟨b, i, none⟩ = some v
  fz : ∀ i, w.frozen? ⟨b, i, none⟩ = false
  vt : ∃ v, w.cell? ⟨b, 3, none⟩ = some v ∧ Row w B own 2 9 1 v T.length (T.map Value.string)
  vs : ∃ v, w.cell? ⟨b, 2, none⟩ = some v ∧ Row w B own 3 49 2 v S.length (flat S)
  vi : ∃ v, w.cell? ⟨b, 5, none⟩ = some v ∧ Row w B own 4 24 1 v I.length I
  vj : ∃ v, w.cell? ⟨b, 6, none⟩ = some v ∧ Row w B own 5 24 1 v J.length J
  nb : ∀ i, i = 7 ∨ i = 8 ∨ i = 9 → ∃ x, w.cell? ⟨b, i, none⟩ = some (.int .i64 x) ∧ (Lit.int .i64 x).wf = true
  li : I.length = L.length ∧ J.length = L.length
  ll : ∀ i l, L[i]? = some l → ∃ u v, I[i]? = some u ∧ J[i]? = some v ∧ Row w B own (6 + 3 * i) 3 1 u l.length (nums l) ∧ Row w B own (7 + 3 * i) 3 1 v l.length (nums l)
  ss : ∀ j p, S[j]? = some p → own p.1 = 8 + 3 * j ∧ ∃ LL RR, Rep w p.1 p.2.data.toList LL RR
  bt : T.length ≤ k ∧ S.length ≤ k ∧ L.length ≤ k
  zt : ∀ t ∈ T, t.size ≤ 1048576
  zs : ∀ p ∈ S, p.2.size ≤ c
  zl : ∀ l ∈ L, l.length ≤ 1048576
  bel : Below B w0 w
theorem Inv.lt {w0 w : World} {b B : Nat} {own : Nat → Nat} {k c : Nat} {T : List ByteArray} {S : List (Nat × ByteArray)} {I J : List Value} {L : List (List Int)} (h : Inv w0 w b B own k c T S I J L) : b < w.heap.size := by
  obtain ⟨v, hv⟩ := h.cells 0 (by omega); exact block_lt_of_cell hv
theorem Inv.ge {w0 w : World} {b B : Nat} {own : Nat → Nat} {k c : Nat} {T : List ByteArray} {S : List (Nat × ByteArray)} {I J : List Value} {L : List (List Int)} (h : Inv w0 w b B own k c T S I J L) : B ≤ b := by
  rcases Nat.lt_or_ge b B with hlt | hge
  · have := h.low b hlt; have := h.ob; omega
  · exact hge
/-- what turns no tagged block leaves all as it was -/
theorem Inv.quiet {w0 w w' : World} {b B : Nat} {own : Nat → Nat} {k c : Nat} {T : List ByteArray} {S : List (Nat × ByteArray)} {I J : List Value} {L : List (List Int)} (h : Inv w0 w b B own k c T S I J L) (hc : Chg own 0 w w') (hB : Below B w0 w') (hnew : ∀ i, w'.heap.size ≤ i → own i = 0) : Inv w0 w' b B own k c T S I J L := by
  have hb : w'.heap[b]? = w.heap[b]? := hc.block b h.lt (by rw [h.ob]; omega)
  have cell : ∀ i, w'.cell? ⟨b, i, none⟩ = w.cell? ⟨b, i, none⟩ := fun i => World.cell?_of_block (w := w) (a := ⟨b, i, none⟩) hb
  refine ⟨h.ob, h.low, hnew, fun i hi => ?_, fun i => ?_, ?_, ?_, ?_, ?_, fun i hi => ?_, h.li, fun i l hl => ?_, fun j p hp => ?_, h.bt, h.zt, h.zs, h.zl, hB⟩
  · obtain ⟨v, hv⟩ := h.cells i hi; exact ⟨v, (cell i).trans hv⟩
  · rw [World.frozen?_of_block (w := w) (a := ⟨b, i, none⟩) hb]; exact h.fz i
  · obtain ⟨v, hv, hr⟩ := h.vt; exact ⟨v, (cell 3).trans hv, hr.kept hc (by omega)⟩
  · obtain ⟨v, hv, hr⟩ := h.vs; exact ⟨v, (cell 2).trans hv, hr.kept hc (by omega)⟩
  · obtain ⟨v, hv, hr⟩ := h.vi; exact ⟨v, (cell 5).trans hv, hr.kept hc (by omega)⟩
  · obtain ⟨v, hv, hr⟩ := h.vj; exact ⟨v, (cell 6).trans hv, hr.kept hc (by omega)⟩
  · obtain ⟨x, hx, hw⟩ := h.nb i hi; exact ⟨x, (cell i).trans hx, hw⟩
  · obtain ⟨u, v, h1, h2, h3, h4⟩ := h.ll i l hl; exact ⟨u, v, h1, h2, h3.kept hc (by omega), h4.kept hc (by omega)⟩
  · obtain ⟨h1, LL, RR, hr⟩ := h.ss j p hp; exact ⟨h1, LL, RR, hr.of_cells (hc.block p.1 hr.lt (by rw [h1]; omega))⟩
theorem Inv.al {w0 w w' : World} {b B : Nat} {own : Nat → Nat} {k c : Nat} {T : List ByteArray} {S : List (Nat × ByteArray)} {I J : List Value} {L : List (List Int)} (h : Inv w0 w b B own k c T S I J L) (ha : Al w w') : Inv w0 w' b B own k c T S I J L :=
  h.quiet ((Chg.refl own 0 w).al ha) (h.bel.trans (ha.below B)) (fun i hi => h.new i (by rw [ha.heap] at hi; exact hi))
theorem Inv.alloc {w0 w : World} {b B : Nat} {own : Nat → Nat} {k c : Nat} {T : List ByteArray} {S : List (Nat × ByteArray)} {I J : List Value} {L : List (List Int)} (h : Inv w0 w b B own k c T S I J L) (o : Obj) : Inv w0 (w.alloc o) b B own k c T S I J L :=
  h.quiet ((Chg.refl own 0 w).alloc o) (h.bel.alloc (Nat.le_of_lt (Nat.lt_of_le_of_lt h.ge h.lt)) o) (fun i hi => h.new i (by simp at hi; omega))
theorem Inv.later {w0 w w' : World} {b B : Nat} {own : Nat → Nat} {k c : Nat} {T : List ByteArray} {S : List (Nat × ByteArray)} {I J : List Value} {L : List (List Int)} (h : Inv w0 w b B own k c T S I J L) (hb : Below w.heap.size w w') : Inv w0 w' b B own k c T S I J L :=
  h.quiet ((Chg.refl own 0 w).later hb) (h.bel.trans (hb.mono (Nat.le_of_lt (Nat.lt_of_le_of_lt h.ge h.lt)))) (fun i hi => h.new i (Nat.le_trans hb.size hi))
/-- a number, or a slice, of the world's own block is turned: none of the four rows -/
theorem Inv.setPlain {w0 w : World} {b B : Nat} {own : Nat → Nat} {k c : Nat} {T : List ByteArray} {S : List (Nat × ByteArray)} {I J : List Value} {L : List (List Int)} (h : Inv w0 w b B own k c T S I J L) (i : Nat) (v : Value)
    (hi : i ≠ 2 ∧ i ≠ 3 ∧ i ≠ 5 ∧ i ≠ 6) (hv : i = 7 ∨ i = 8 ∨ i = 9 → ∃ x, v = .int .i64 x ∧ (Lit.int .i64 x).wf = true) : Inv w0 (w.setCell ⟨b, i, none⟩ v) b B own k c T S I J L := by
  have hc : Chg own 1 w (w.setCell ⟨b, i, none⟩ v) := (Chg.refl own 1 w).set b i v (.inl h.ob)
  have cell : ∀ j, j ≠ i → (w.setCell ⟨b, i, none⟩ v).cell? ⟨b, j, none⟩ = w.cell? ⟨b, j, none⟩ := fun j hj => cs_other (addr_ne (Ne.symm hj))
  refine ⟨h.ob, h.low, fun j hj => h.new j (by rw [World.size_setCell] at hj; exact hj), fun j hj => ?_, fun j => ?_, ?_, ?_, ?_, ?_, fun j hj => ?_, h.li, fun j l hl => ?_, fun j p hp => ?_, h.bt, h.zt, h.zs, h.zl, h.bel.setCell h.ge v⟩
  · obtain ⟨u, hu⟩ := h.cells j hj
    by_cases e : j = i
    · subst e; exact ⟨v, cs_same hu⟩
    · exact ⟨u, (cell j e).trans hu⟩
  · rw [World.frozen?_setCell]; exact h.fz j
  · obtain ⟨u, hu, hr⟩ := h.vt; exact ⟨u, (cell 3 (by omega)).trans hu, hr.kept hc (by omega)⟩
  · obtain ⟨u, hu, hr⟩ := h.vs; exact ⟨u, (cell 2 (by omega)).trans hu, hr.kept hc (by omega)⟩
  · obtain ⟨u, hu, hr⟩ := h.vi; exact ⟨u, (cell 5 (by omega)).trans hu, hr.kept hc (by omega)⟩
  · obtain ⟨u, hu, hr⟩ := h.vj; exact ⟨u, (cell 6 (by omega)).trans hu, hr.kept hc (by omega)⟩
  · by_cases e : j = i
    · subst e
      obtain ⟨x, rfl, hw⟩ := hv hj
      obtain ⟨u, hu⟩ := h.cells j (by omega)
      exact ⟨x, cs_same hu, hw⟩
    · obtain ⟨x, hx, hw⟩ := h.nb j hj
      exact ⟨x, (cell j e).trans hx, hw⟩
  · obtain ⟨u, v', h1, h2, h3, h4⟩ := h.ll j l hl; exact ⟨u, v', h1, h2, h3.kept hc (by omega), h4.kept hc (by omega)⟩
  · obtain ⟨h1, LL, RR, hr⟩ := h.ss j p hp; exact ⟨h1, LL, RR, hr.of_cells (hc.block p.1 hr.lt (by rw [h1]; omega))⟩
end Go.Proofs.YtipdjbkkpjlamaaGreat
