import Derived.Test.YtipdjbkkpjlamaaGreatSE
import Derived.WalkKit
import Derived.WalkSpells
import Derived.WalkLawsBesides
import Derived.Deep.AppendLies
import Derived.Laws.CopyOwn
import Derived.Laws.MakeOwn
namespace Go.Proofs.YtipdjbkkpjlamaaGreat
open Go.RowKit
theorem Tryz.sizeInt : (Tryz.prog.info? 3).map (·.size) = some 1 := by kernel_rfl
/-- the world behind 'c := make([]int, n); copy(c, a)' -/
structure Made (w W : World) (n : Nat) (l : List Int) : Prop where
  row : W.heap[w.heap.size]? = some (.cells (nums l).toArray 3)
  size : W.heap.size = w.heap.size + 1
  old : ∀ i, i < w.heap.size → W.heap[i]? = w.heap[i]?
  os : W.os = w.os
  tape : W.tape = w.tape
  output : W.output = w.output
theorem made_copy (w : World) (n : Nat) (l : List Int) (hn : n = l.length) :
    Made w ((w.alloc (.cells (madeCells #[.int .i64 0] n) 3)).setRow w.heap.size (((madeCells #[.int .i64 0] n).toList.take 0 ++ (nums l ++ (madeCells #[.int .i64 0] n).toList.drop (0 + (nums l).length))).toArray)) n l := by
  have e : ((madeCells #[.int .i64 0] n).toList.take 0 ++ (nums l ++ (madeCells #[.int .i64 0] n).toList.drop (0 + (nums l).length))).toArray = (nums l).toArray := by
    rw [List.take_zero, List.nil_append, List.drop_of_length_le (by rw [made_list]; simp [nums, hn]), List.append_nil]
  rw [e]
  refine ⟨setRow_heap _ _ (madeCells #[.int .i64 0] n) _ 3 (0, 0) (heap_alloc_new w _), by rw [setRow_size]; simp, fun i hi => ?_, rfl, rfl, rfl⟩
  rw [setRow_other _ _ _ _ (by omega), Below.heap_alloc _ _ _ hi]
theorem Made.owns {w W : World} {n : Nat} {l : List Int} (h : Made w W n l) (hn : n = l.length) (hl : n ≤ 1048576) (B : Nat) (hB : B ≤ w.heap.size) : W.ownsRow B 3 1 (.slice (some ⟨w.heap.size, 0, none⟩) n n) n (nums l) := by
  refine ⟨by simp [nums, hn], .inr ⟨w.heap.size, n, _, rfl, hB, h.row, Nat.le_refl _, by unfold maxLen; omega, by simp [nums, hn], ?_⟩⟩
  rw [List.take_of_length_le (by simp [nums, hn])]
theorem Made.below {w W : World} {n : Nat} {l : List Int} (h : Made w W n l) : Below w.heap.size w W := ⟨h.os, h.tape, h.output, by rw [h.size]; omega, h.old⟩
/-- both lists are laid in: 'ints' and 'iw' -/
theorem keep_final {w0 w W1 w2 w3 : World} {b B : Nat} {own : Nat → Nat} {k c : Nat} {T : List ByteArray} {S : List (Nat × ByteArray)} {I J : List Value} {L : List (List Int)} (h : Inv w0 w b B own k c T S I J L)
    {n : Nat} {l : List Int} (hM : Made w W1 n l) (hn : n = l.length) (hl : n ≤ 1048576) {u : Value} (hu : w.ownsRow B 3 1 u n (nums l)) (hun : ∀ g, u.ownBlock = some g → own g = 0)
    {vi vj : Value} (hri : Row W1 B own 4 24 1 vi I.length I) (hrj : Row W1 B own 5 24 1 vj J.length J) {g1 cap1 g2 cap2 : Nat} {o1 o2 : Obj}
    (ho1 : w2.ownsRow B 24 1 (.slice (some ⟨g1, 0, none⟩) (I.length + 1) cap1) (I.length + 1) (I ++ [u])) (hg1 : (W1.alloc o1).grownBy w2 vi.ownBlock) (hat1 : vi.ownBlock = some g1 ∨ g1 = W1.heap.size + 1) (hlt1 : g1 < w2.heap.size)
    (ho2 : w3.ownsRow B 24 1 (.slice (some ⟨g2, 0, none⟩) (J.length + 1) cap2) (J.length + 1) (J ++ [.slice (some ⟨w.heap.size, 0, none⟩) n n]))
    (hg2 : ((w2.setCell ⟨b, 5, none⟩ (.slice (some ⟨g1, 0, none⟩) (I.length + 1) cap1)).alloc o2).grownBy w3 vj.ownBlock) (hat2 : vj.ownBlock = some g2 ∨ g2 = w2.heap.size + 1) (hlt2 : g2 < w3.heap.size) :
    ∃ own', Inv w0 (w3.setCell ⟨b, 6, none⟩ (.slice (some ⟨g2, 0, none⟩) (J.length + 1) cap2)) b B own' (k + 1) c T S (I ++ [u]) (J ++ [.slice (some ⟨w.heap.size, 0, none⟩) n n]) (L ++ [l]) := by
  have hob := h.ob
  have hblt := h.lt
  have hbB := h.ge
  have hs1 := hM.size
  have hs2 : W1.heap.size + 1 ≤ w2.heap.size := by have := hg1.size; simp at this; omega
  have hs3 : w2.heap.size + 1 ≤ w3.heap.size := by have := hg2.size; simp at this; omega
  have hnewH : own w.heap.size = 0 := h.new _ (Nat.le_refl _)
  have hviT : ∀ j, vi.ownBlock = some j → own j = 4 ∧ j < W1.heap.size := fun j hj => ⟨hri.tag j hj, (ownsRow_lt hri.row j hj).1⟩
  have hvjT : ∀ j, vj.ownBlock = some j → own j = 5 ∧ j < W1.heap.size := fun j hj => ⟨hrj.tag j hj, (ownsRow_lt hrj.row j hj).1⟩
  -- block by block
  have q2 : ∀ j, j < W1.heap.size → own j ≠ 4 → w2.heap[j]? = W1.heap[j]? := fun j hj h4 => (hg1.block j (by simp; omega) (fun e => h4 (hviT j e.symm).1)).trans (Below.heap_alloc _ _ _ hj)
  have q3 : ∀ j, j < w2.heap.size → j ≠ b → some j ≠ vj.ownBlock → w3.heap[j]? = w2.heap[j]? := fun j hj hjb hne => (hg2.block j (by simp; omega) hne).trans ((Below.heap_alloc _ _ _ (by simp; omega)).trans (Below.heap_setCell _ _ _ _ hjb))
  have q4 : ∀ j, j ≠ b → (w3.setCell ⟨b, 6, none⟩ (.slice (some ⟨g2, 0, none⟩) (J.length + 1) cap2)).heap[j]? = w3.heap[j]? := fun j hj => Below.heap_setCell _ _ _ _ hj
  have chain : ∀ j, j < W1.heap.size → own j ≠ 1 → own j ≠ 4 → own j ≠ 5 → (w3.setCell ⟨b, 6, none⟩ (.slice (some ⟨g2, 0, none⟩) (J.length + 1) cap2)).heap[j]? = W1.heap[j]? := fun j hj h1 h4 h5 =>
    (q4 j (fun e => h1 (by rw [e]; exact hob))).trans ((q3 j (by omega) (fun e => h1 (by rw [e]; exact hob)) (fun e => h5 (hvjT j e.symm).1)).trans (q2 j hj h4))
  have chainw : ∀ j, j < w.heap.size → own j ≠ 1 → own j ≠ 4 → own j ≠ 5 → (w3.setCell ⟨b, 6, none⟩ (.slice (some ⟨g2, 0, none⟩) (J.length + 1) cap2)).heap[j]? = w.heap[j]? := fun j hj h1 h4 h5 => (chain j (by omega) h1 h4 h5).trans (hM.old j hj)
  -- the world's own block
  have hbI : some b ≠ vi.ownBlock := fun e => by have := (hviT b e.symm).1; omega
  have hbJ : some b ≠ vj.ownBlock := fun e => by have := (hvjT b e.symm).1; omega
  have b2 : w2.heap[b]? = w.heap[b]? := (q2 b (by omega) (by omega)).trans (hM.old b hblt)
  have b3 : w3.heap[b]? = (w2.setCell ⟨b, 5, none⟩ (.slice (some ⟨g1, 0, none⟩) (I.length + 1) cap1)).heap[b]? := (hg2.block b (by simp; omega) hbJ).trans (Below.heap_alloc _ _ _ (by simp; omega))
  have cell3 : ∀ i, w3.cell? ⟨b, i, none⟩ = (w2.setCell ⟨b, 5, none⟩ (.slice (some ⟨g1, 0, none⟩) (I.length + 1) cap1)).cell? ⟨b, i, none⟩ := fun i => World.cell?_of_block (a := ⟨b, i, none⟩) b3
  have cell2 : ∀ i, w2.cell? ⟨b, i, none⟩ = w.cell? ⟨b, i, none⟩ := fun i => World.cell?_of_block (a := ⟨b, i, none⟩) b2
  have g1b : g1 ≠ b := fun e => by
    rcases hat1 with h1 | h1
    · rw [e] at h1; exact hbI h1.symm
    · omega
  have g2b : g2 ≠ b := fun e => by
    rcases hat2 with h1 | h1
    · rw [e] at h1; exact hbJ h1.symm
    · omega
  have g1J : some g1 ≠ vj.ownBlock := fun e => by
    have h5 := hvjT g1 e.symm
    rcases hat1 with h1 | h1
    · have := (hviT g1 h1).1; omega
    · omega
  have g12 : g1 ≠ g2 := fun e => by
    rcases hat2 with h1 | h1
    · rw [← e] at h1; exact g1J h1.symm
    · omega
  have ug : ∀ g, u.ownBlock = some g → g < w.heap.size ∧ B ≤ g ∧ own g = 0 := fun g hg => ⟨(ownsRow_lt hu g hg).1, (ownsRow_lt hu g hg).2, hun g hg⟩
  have t1 : own g1 = 4 ∨ own g1 = 0 := by
    rcases hat1 with h1 | h1
    · exact .inl (hviT g1 h1).1
    · exact .inr (h.new _ (by omega))
  have t2 : own g2 = 5 ∨ own g2 = 0 := by
    rcases hat2 with h1 | h1
    · exact .inl (hvjT g2 h1).1
    · exact .inr (h.new _ (by omega))
  have Hg1 : w.heap.size ≠ g1 := fun e => by
    rcases hat1 with h1 | h1
    · have := (hviT g1 h1).1; rw [← e] at this; omega
    · omega
  have Hg2 : w.heap.size ≠ g2 := fun e => by
    rcases hat2 with h1 | h1
    · have := (hvjT g2 h1).1; rw [← e] at this; omega
    · omega
  -- the tags
  obtain ⟨own0, hown0⟩ : ∃ own0, own0 = updO (updO (updO own w.heap.size (7 + 3 * L.length)) g1 4) g2 5 := ⟨_, rfl⟩
  obtain ⟨own', ho', hou, hoe⟩ : ∃ own' : Nat → Nat, (∀ i, u.ownBlock ≠ some i → own' i = own0 i) ∧ (∀ g, u.ownBlock = some g → own' g = 6 + 3 * L.length) ∧ True := by
    cases hub : u.ownBlock with
    | none => exact ⟨own0, fun _ _ => rfl, fun g hg => (by cases hg), trivial⟩
    | some g =>
      refine ⟨updO own0 g (6 + 3 * L.length), fun i hi => updO_other _ _ _ _ (fun e => hi (by rw [e])), fun g' hg' => ?_, trivial⟩
      cases hg'; exact updO_same _ _ _
  have ugne : ∀ g, u.ownBlock = some g → g ≠ w.heap.size ∧ g ≠ g1 ∧ g ≠ g2 := fun g hg => by
    have hg0 := ug g hg
    refine ⟨by omega, fun e => ?_, fun e => ?_⟩
    · rcases hat1 with h1 | h1
      · have := (hviT g1 h1).1; rw [← e] at this; omega
      · omega
    · rcases hat2 with h1 | h1
      · have := (hvjT g2 h1).1; rw [← e] at this; omega
      · omega
  have oH : own' w.heap.size = 7 + 3 * L.length := by
    rw [ho' _ (fun e => (ugne _ e).1 rfl), hown0, updO_other _ _ _ _ Hg2, updO_other _ _ _ _ Hg1, updO_same]
  have o1' : own' g1 = 4 := by rw [ho' _ (fun e => (ugne _ e).2.1 rfl), hown0, updO_other _ _ _ _ g12, updO_same]
  have o2' : own' g2 = 5 := by rw [ho' _ (fun e => (ugne _ e).2.2 rfl), hown0, updO_same]
  have oo : ∀ i, u.ownBlock ≠ some i → i ≠ w.heap.size → i ≠ g1 → i ≠ g2 → own' i = own i := fun i h0 h1 h2 h3 => by
    rw [ho' i h0, hown0, updO_other _ _ _ _ h3, updO_other _ _ _ _ h2, updO_other _ _ _ _ h1]
  refine ⟨own', h.keep u (.slice (some ⟨w.heap.size, 0, none⟩) n n) l own' (by omega) ⟨?_, hou⟩ ⟨?_, fun g hg => ?_⟩ ⟨.slice (some ⟨g1, 0, none⟩) (I.length + 1) cap1, ?_, ?_, fun g hg => ?_⟩ ⟨.slice (some ⟨g2, 0, none⟩) (J.length + 1) cap2, ?_, ?_, fun g hg => ?_⟩
    (fun i hi h1 h4 h5 _ => chainw i hi h1 h4 h5) (fun i hi => ?_) (fun i hi => ?_) (fun i hi => ?_) (fun i h5 h6 => ?_) (fun i => ?_) ?_⟩
  · rw [← hn]; exact ownsRow_same hu (fun g hg => chainw g (ug g hg).1 (by rw [(ug g hg).2.2]; omega) (by rw [(ug g hg).2.2]; omega) (by rw [(ug g hg).2.2]; omega))
  · rw [← hn]; exact ownsRow_same (hM.owns hn hl B (by omega)) (fun g hg => by
      simp [Value.ownBlock] at hg; subst hg
      exact chain _ (by omega) (by omega) (by omega) (by omega))
  · simp [Value.ownBlock] at hg; subst hg; exact oH
  · rw [cs_other (addr_ne (by omega)), cell3 5]
    obtain ⟨x, hx⟩ := h.cells 5 (by omega)
    exact cs_same ((cell2 5).trans hx)
  · rw [show (I ++ [u]).length = I.length + 1 by simp]
    exact ownsRow_same ho1 (fun g hg => by
      simp [Value.ownBlock] at hg; subst hg
      exact (q4 g1 g1b).trans (q3 g1 hlt1 g1b g1J))
  · simp [Value.ownBlock] at hg; subst hg; exact o1'
  · obtain ⟨x, hx⟩ := h.cells 6 (by omega)
    exact cs_same ((cell3 6).trans ((cs_other (addr_ne (by omega))).trans ((cell2 6).trans hx)))
  · rw [show (J ++ [Value.slice (some ⟨w.heap.size, 0, none⟩) n n]).length = J.length + 1 by simp]
    exact ownsRow_same ho2 (fun g hg => by
      simp [Value.ownBlock] at hg; subst hg
      exact q4 g2 g2b)
  · simp [Value.ownBlock] at hg; subst hg; exact o2'
  · by_cases e1 : i = g1
    · subst e1; rw [o1']; rcases t1 with h1 | h1 <;> omega
    · by_cases e2 : i = g2
      · subst e2; rw [o2']; rcases t2 with h1 | h1 <;> omega
      · exact oo i (fun e => hi (ug i e).2.2) (fun e => hi (by rw [e]; exact hnewH)) e1 e2
  · have a1 := (ownsRow_lt ho1 g1 rfl).2
    have a2 := (ownsRow_lt ho2 g2 rfl).2
    rw [oo i (fun e => by have := (ug i e).2.1; omega) (by omega) (by omega) (by omega)]
    exact h.low i hi
  · rw [World.size_setCell] at hi
    rw [oo i (fun e => by have := (ug i e).1; omega) (by omega) (by omega) (by omega)]
    exact h.new i (by omega)
  · rw [cs_other (addr_ne (by omega)), cell3 i, cs_other (addr_ne (by omega)), cell2 i]
  · rw [World.frozen?_setCell, World.frozen?_of_block (a := ⟨b, i, none⟩) b3, World.frozen?_setCell, World.frozen?_of_block (a := ⟨b, i, none⟩) b2]
    exact h.fz i
  · refine h.bel.trans ⟨?_, ?_, ?_, ?_, fun i hi => ?_⟩
    · exact hg2.os.trans (hg1.os.trans hM.os)
    · exact hg2.tape.trans (hg1.tape.trans hM.tape)
    · exact hg2.output.trans (hg1.output.trans hM.output)
    · rw [World.size_setCell]; omega
    · exact chainw i (by omega) (by rw [h.low i hi]; omega) (by rw [h.low i hi]; omega) (by rw [h.low i hi]; omega)
set_option maxRecDepth 100000 in
set_option maxHeartbeats 2000000 in
theorem keep_some {w0 w : World} {b B : Nat} {own : Nat → Nat} {k c : Nat} {T : List ByteArray} {S : List (Nat × ByteArray)} {I J : List Value} {L : List (List Int)} (h : Inv w0 w b B own k c T S I J L) (hk : k ≤ 1048576)
    (g n cu : Nat) (l : List Int) (hn : n = l.length) (hl : n ≤ 1048576) (hu : w.ownsRow B 3 1 (.slice (some ⟨g, 0, none⟩) n cu) n (nums l)) (hun : own g = 0) :
    Calls Tryz.prog 20 #[.pointer (some ⟨b, 0, none⟩), .slice (some ⟨g, 0, none⟩) n cu] w fun e w' => e = .returned (.tuple #[]) ∧ ∃ own' v, Inv w0 w' b B own' (k + 1) c T S (I ++ [.slice (some ⟨g, 0, none⟩) n cu]) (J ++ [v]) (L ++ [l]) := by
  have HI : Hid (Inv w0 w b B own k c T S I J L) := h
  have HU : Hid (w.ownsRow B 3 1 (.slice (some ⟨g, 0, none⟩) n cu) n (nums l)) := hu
  have hblt := h.lt
  have hglt := (ownsRow_lt hu g rfl).1
  have hmk := mk_ints n hl
  have HN : Hid (n = l.length) := hn
  have hLn : (nums l).length = n := by simp [nums, hn]
  have HLN : Hid ((nums l).length = n) := hLn
  obtain ⟨W1, hcp, hM⟩ : ∃ W1, (Builtin.copy_ #[24, 24] 3 #[.slice (some ⟨w.heap.size, 0, none⟩) n n, .slice (some ⟨g, 0, none⟩) n cu]).run Tryz.prog (w.alloc (.cells (madeCells #[.int .i64 0] n) 3)) = .ok (.int .i64 (n : Int)) W1 ∧ Made w W1 n l := by
    have hc := run_copy_row (P := Tryz.prog) (w.alloc (.cells (madeCells #[.int .i64 0] n) 3)) 24 24 3 3 w.heap.size 0 n n ⟨g, 0, none⟩ n cu (madeCells #[.int .i64 0] n) 3 (nums l) Tryz.underlying24 Tryz.sizeInt (heap_alloc_new w _) (by rw [hLn]; exact (Nat.min_self n).symm) ((hu.alloc _).cells rfl) (by rw [size_madeCells, hLn, Nat.zero_add]; exact Nat.le_refl n) (nums_one l)
    refine ⟨_, ?_, made_copy w n l hn⟩
    rw [hc]
    simp [goInt, hLn]
  have HMD : Hid (Made w W1 n l) := hM
  have hI1 := h.later hM.below
  obtain ⟨vi, h5, hri⟩ := hI1.vi
  obtain ⟨vj, h6, hrj⟩ := hI1.vj
  have f5 := hI1.fz 5
  have f6 := hI1.fz 6
  have HRI : Hid (Row W1 B own 4 24 1 vi I.length I) := hri
  have HRJ : Hid (Row W1 B own 5 24 1 vj J.length J) := hrj
  have HI1 : Hid (Inv w0 W1 b B own k c T S I J L) := hI1
  clear h hu hn hLn hri hrj hM hI1
  go_enter Tryz.func20, Tryz.ntmps20
  obtain ⟨i0, hi0, hz0, hz1, hz2⟩ := info_parts Tryz.infoInts
  have hIk : I.length ≤ 1048576 := by have h1 := HI.out.li.1; have h2 := HI.out.bt.2.2; omega
  have hJk : J.length ≤ 1048576 := by have h1 := HI.out.li.2; have h2 := HI.out.bt.2.2; omega
  have hB1 : B ≤ W1.heap.size := Nat.le_of_lt (Nat.lt_of_le_of_lt HI1.out.ge HI1.out.lt)
  have hbI : some b ≠ vi.ownBlock := fun e => by have h1 := HRI.out.tag b e.symm; have h2 := HI.out.ob; omega
  have hbJ : some b ≠ vj.ownBlock := fun e => by have h1 := HRJ.out.tag b e.symm; have h2 := HI.out.ob; omega
  have hb1 := HI1.out.lt
  go_wp2_with (at_builtin; refine wpList_append_lies _ rfl (.tmp 16) (.tmp 18) 35 rfl B 24 i0 (.slice none 0 0) 1 24 Tryz.underlying35 hi0 hz0 hz1 hz2 rfl (by decide) vi I.length I rfl (HRI.out.row.alloc _) ⟨W1.heap.size, 0, none⟩ 1 1 [.slice (some ⟨g, 0, none⟩) n cu] rfl rfl (cell_one_new _ _ _) (by intro v hv; simp at hv; subst hv; rfl) (by decide) (by unfold maxLen; omega) (by omega) (by simp; omega) (W1.heap.size + 1) (by simp) ?_)
  intro g1 cap1 w2 hown1 hgrow1 hat1 hlt1
  have far1 : ∀ j, j < W1.heap.size → some j ≠ vi.ownBlock → w2.heap[j]? = W1.heap[j]? := fun j hj hne => (hgrow1.block j (by simp; omega) hne).trans (Below.heap_alloc _ _ _ hj)
  have c5 : w2.cell? ⟨b, 5, none⟩ = some vi := (World.cell?_of_block (w := W1) (a := ⟨b, 5, none⟩) (far1 b hb1 hbI)).trans h5
  have c6 : w2.cell? ⟨b, 6, none⟩ = some vj := (World.cell?_of_block (w := W1) (a := ⟨b, 6, none⟩) (far1 b hb1 hbI)).trans h6
  have e5 : w2.frozen? ⟨b, 5, none⟩ = false := (World.frozen?_of_block (w := W1) (a := ⟨b, 5, none⟩) (far1 b hb1 hbI)).trans f5
  have e6 : w2.frozen? ⟨b, 6, none⟩ = false := (World.frozen?_of_block (w := W1) (a := ⟨b, 6, none⟩) (far1 b hb1 hbI)).trans f6
  have HRJ2 : Hid (w2.ownsRow B 24 1 vj J.length J) := ownsRow_same HRJ.out.row (fun q hq => far1 q (ownsRow_lt HRJ.out.row q hq).1 (fun e => by have h1 := HRI.out.tag q e.symm; have h2 := HRJ.out.tag q hq; omega))
  have hsz2 : W1.heap.size + 1 ≤ w2.heap.size := by have := hgrow1.size; simp at this; omega
  have HO1 : Hid (w2.ownsRow B 24 1 (.slice (some ⟨g1, 0, none⟩) (I.length + 1) cap1) (I.length + 1) (I ++ [.slice (some ⟨g, 0, none⟩) n cu])) := hown1
  have HG1 : Hid ((W1.alloc (.cells #[.slice (some ⟨g, 0, none⟩) n cu] 24)).grownBy w2 vi.ownBlock) := hgrow1
  have HAT1 : Hid (vi.ownBlock = some g1 ∨ g1 = W1.heap.size + 1) := hat1
  have HF1 : Hid (∀ j, j < W1.heap.size → some j ≠ vi.ownBlock → w2.heap[j]? = W1.heap[j]?) := far1
  have hb2 : b < w2.heap.size := by omega
  have hB2 : B ≤ w2.heap.size := by omega
  have hg1b : g1 ≠ b := fun e => by
    rcases hat1 with h1 | h1
    · rw [e] at h1; exact hbI h1.symm
    · omega
  clear hown1 hgrow1 hat1 far1 h5 h6 f5 f6 hcp hmk
  have HRJ3 : Hid ((w2.setCell ⟨b, 5, none⟩ (.slice (some ⟨g1, 0, none⟩) (I.length + 1) cap1)).ownsRow B 24 1 vj J.length J) := ownsRow_same HRJ2.out (fun q hq => Below.heap_setCell _ _ _ _ (fun e => by dsimp only at e; subst e; exact hbJ hq.symm))
  go_wp2_with (at_builtin; refine wpList_append_lies _ rfl (.tmp 27) (.tmp 29) 35 rfl B 24 i0 (.slice none 0 0) 1 24 Tryz.underlying35 hi0 hz0 hz1 hz2 rfl (by decide) vj J.length J rfl (HRJ3.out.alloc _) ⟨w2.heap.size, 0, none⟩ 1 1 [.slice (some ⟨w.heap.size, 0, none⟩) n n] rfl rfl ?n1 (by intro v hv; simp at hv; subst hv; rfl) (by decide) (by unfold maxLen; omega) (by omega) (by simp; omega) (w2.heap.size + 1) (by simp) ?_)
  case n1 =>
    intro j x hj
    have hx := cell_one_new (w2.setCell ⟨b, 5, none⟩ (.slice (some ⟨g1, 0, none⟩) (I.length + 1) cap1)) (.slice (some ⟨w.heap.size, 0, none⟩) n n) 24 j x hj
    rwa [World.size_setCell] at hx
  · intro g2 cap2 w3 hown2 hgrow2 hat2 hlt2
    have HF : Hid (∃ own', Inv w0 (w3.setCell ⟨b, 6, none⟩ (.slice (some ⟨g2, 0, none⟩) (J.length + 1) cap2)) b B own' (k + 1) c T S (I ++ [.slice (some ⟨g, 0, none⟩) n cu]) (J ++ [.slice (some ⟨w.heap.size, 0, none⟩) n n]) (L ++ [l])) :=
      keep_final HI.out HMD.out HN.out hl HU.out (fun q hq => by simp [Value.ownBlock] at hq; subst hq; exact hun) HRI.out HRJ.out HO1.out HG1.out HAT1.out hlt1 hown2 hgrow2 hat2 hlt2
    have d6 : w3.cell? ⟨b, 6, none⟩ = some vj := by
      rw [hgrow2.cell_far ⟨b, 6, none⟩ (by simp; omega) hbJ, World.cell?_alloc_past _ _ _ (by simp; omega), cs_other (addr_ne (by omega))]; exact c6
    have k6 : w3.frozen? ⟨b, 6, none⟩ = false := by
      rw [hgrow2.frozen_far ⟨b, 6, none⟩ (by simp; omega) hbJ, World.frozen?_alloc_past _ _ _ (by simp; omega), World.frozen?_setCell]; exact e6
    clear hown2 hgrow2 hat2 c5 c6 e5 e6
    go_wp2
    go_end0
    obtain ⟨own', hh⟩ := HF.out
    exact ⟨rfl, own', _, hh⟩
set_option maxRecDepth 100000 in
set_option maxHeartbeats 2000000 in
theorem keep_nil {w0 w : World} {b B : Nat} {own : Nat → Nat} {k c : Nat} {T : List ByteArray} {S : List (Nat × ByteArray)} {I J : List Value} {L : List (List Int)} (h : Inv w0 w b B own k c T S I J L) (hk : k ≤ 1048576) :
    Calls Tryz.prog 20 #[.pointer (some ⟨b, 0, none⟩), .slice none 0 0] w fun e w' => e = .returned (.tuple #[]) ∧ ∃ own' v, Inv w0 w' b B own' (k + 1) c T S (I ++ [.slice none 0 0]) (J ++ [v]) (L ++ [[]]) := by
  have HI : Hid (Inv w0 w b B own k c T S I J L) := h
  have hblt := h.lt
  have hmk : ∀ wz : World, (Instr.makeSlice 24 (.int .i64 0) (.int .i64 0)).run Tryz.prog wz = .ok (.slice (some ⟨wz.heap.size, 0, none⟩) 0 0) (wz.alloc (.cells (madeCells #[.int .i64 0] 0) 3)) := mk_ints 0 (by omega)
  obtain ⟨W1, hcp, hM⟩ : ∃ W1, (Builtin.copy_ #[24, 24] 3 #[.slice (some ⟨w.heap.size, 0, none⟩) 0 0, .slice none 0 0]).run Tryz.prog (w.alloc (.cells (madeCells #[.int .i64 0] 0) 3)) = .ok (.int .i64 0) W1 ∧ Made w W1 0 [] :=
    ⟨_, run_copy_none (P := Tryz.prog) (w.alloc (.cells (madeCells #[.int .i64 0] 0) 3)) 24 24 3 3 (some ⟨w.heap.size, 0, none⟩) none 0 0 0 0 Tryz.underlying24 Tryz.sizeInt rfl,
      ⟨(by have e : madeCells #[Value.int .i64 0] 0 = (nums []).toArray := (by simp [madeCells, nums]); rw [← e]; exact heap_alloc_new w _), by simp, fun i hi => Below.heap_alloc _ _ _ hi, rfl, rfl, rfl⟩⟩
  have HMD : Hid (Made w W1 0 []) := hM
  have hI1 := h.later hM.below
  obtain ⟨vi, h5, hri⟩ := hI1.vi
  obtain ⟨vj, h6, hrj⟩ := hI1.vj
  have f5 := hI1.fz 5
  have f6 := hI1.fz 6
  have HRI : Hid (Row W1 B own 4 24 1 vi I.length I) := hri
  have HRJ : Hid (Row W1 B own 5 24 1 vj J.length J) := hrj
  have HI1 : Hid (Inv w0 W1 b B own k c T S I J L) := hI1
  clear h hri hrj hM hI1
  go_enter Tryz.func20, Tryz.ntmps20
  obtain ⟨i0, hi0, hz0, hz1, hz2⟩ := info_parts Tryz.infoInts
  have hIk : I.length ≤ 1048576 := by have h1 := HI.out.li.1; have h2 := HI.out.bt.2.2; omega
  have hJk : J.length ≤ 1048576 := by have h1 := HI.out.li.2; have h2 := HI.out.bt.2.2; omega
  have hB1 : B ≤ W1.heap.size := Nat.le_of_lt (Nat.lt_of_le_of_lt HI1.out.ge HI1.out.lt)
  have hbI : some b ≠ vi.ownBlock := fun e => by have h1 := HRI.out.tag b e.symm; have h2 := HI.out.ob; omega
  have hbJ : some b ≠ vj.ownBlock := fun e => by have h1 := HRJ.out.tag b e.symm; have h2 := HI.out.ob; omega
  have hb1 := HI1.out.lt
  go_wp2_with (at_builtin; refine wpList_append_lies _ rfl (.tmp 16) (.tmp 18) 35 rfl B 24 i0 (.slice none 0 0) 1 24 Tryz.underlying35 hi0 hz0 hz1 hz2 rfl (by decide) vi I.length I rfl (HRI.out.row.alloc _) ⟨W1.heap.size, 0, none⟩ 1 1 [.slice none 0 0] rfl rfl (cell_one_new _ _ _) (by intro v hv; simp at hv; subst hv; rfl) (by decide) (by unfold maxLen; omega) (by omega) (by simp; omega) (W1.heap.size + 1) (by simp) ?_)
  intro g1 cap1 w2 hown1 hgrow1 hat1 hlt1
  have far1 : ∀ j, j < W1.heap.size → some j ≠ vi.ownBlock → w2.heap[j]? = W1.heap[j]? := fun j hj hne => (hgrow1.block j (by simp; omega) hne).trans (Below.heap_alloc _ _ _ hj)
  have c5 : w2.cell? ⟨b, 5, none⟩ = some vi := (World.cell?_of_block (w := W1) (a := ⟨b, 5, none⟩) (far1 b hb1 hbI)).trans h5
  have c6 : w2.cell? ⟨b, 6, none⟩ = some vj := (World.cell?_of_block (w := W1) (a := ⟨b, 6, none⟩) (far1 b hb1 hbI)).trans h6
  have e5 : w2.frozen? ⟨b, 5, none⟩ = false := (World.frozen?_of_block (w := W1) (a := ⟨b, 5, none⟩) (far1 b hb1 hbI)).trans f5
  have e6 : w2.frozen? ⟨b, 6, none⟩ = false := (World.frozen?_of_block (w := W1) (a := ⟨b, 6, none⟩) (far1 b hb1 hbI)).trans f6
  have HRJ2 : Hid (w2.ownsRow B 24 1 vj J.length J) := ownsRow_same HRJ.out.row (fun q hq => far1 q (ownsRow_lt HRJ.out.row q hq).1 (fun e => by have h1 := HRI.out.tag q e.symm; have h2 := HRJ.out.tag q hq; omega))
  have hsz2 : W1.heap.size + 1 ≤ w2.heap.size := by have := hgrow1.size; simp at this; omega
  have HO1 : Hid (w2.ownsRow B 24 1 (.slice (some ⟨g1, 0, none⟩) (I.length + 1) cap1) (I.length + 1) (I ++ [.slice none 0 0])) := hown1
  have HG1 : Hid ((W1.alloc (.cells #[.slice none 0 0] 24)).grownBy w2 vi.ownBlock) := hgrow1
  have HAT1 : Hid (vi.ownBlock = some g1 ∨ g1 = W1.heap.size + 1) := hat1
  have HF1 : Hid (∀ j, j < W1.heap.size → some j ≠ vi.ownBlock → w2.heap[j]? = W1.heap[j]?) := far1
  have hb2 : b < w2.heap.size := by omega
  have hB2 : B ≤ w2.heap.size := by omega
  have hg1b : g1 ≠ b := fun e => by
    rcases hat1 with h1 | h1
    · rw [e] at h1; exact hbI h1.symm
    · omega
  clear hown1 hgrow1 hat1 far1 h5 h6 f5 f6 hcp hmk
  have HRJ3 : Hid ((w2.setCell ⟨b, 5, none⟩ (.slice (some ⟨g1, 0, none⟩) (I.length + 1) cap1)).ownsRow B 24 1 vj J.length J) := ownsRow_same HRJ2.out (fun q hq => Below.heap_setCell _ _ _ _ (fun e => by dsimp only at e; subst e; exact hbJ hq.symm))
  go_wp2_with (at_builtin; refine wpList_append_lies _ rfl (.tmp 27) (.tmp 29) 35 rfl B 24 i0 (.slice none 0 0) 1 24 Tryz.underlying35 hi0 hz0 hz1 hz2 rfl (by decide) vj J.length J rfl (HRJ3.out.alloc _) ⟨w2.heap.size, 0, none⟩ 1 1 [.slice (some ⟨w.heap.size, 0, none⟩) 0 0] rfl rfl ?n1 (by intro v hv; simp at hv; subst hv; rfl) (by decide) (by unfold maxLen; omega) (by omega) (by simp; omega) (w2.heap.size + 1) (by simp) ?_)
  case n1 =>
    intro j x hj
    have hx := cell_one_new (w2.setCell ⟨b, 5, none⟩ (.slice (some ⟨g1, 0, none⟩) (I.length + 1) cap1)) (.slice (some ⟨w.heap.size, 0, none⟩) 0 0) 24 j x hj
    rwa [World.size_setCell] at hx
  · intro g2 cap2 w3 hown2 hgrow2 hat2 hlt2
    have HF : Hid (∃ own', Inv w0 (w3.setCell ⟨b, 6, none⟩ (.slice (some ⟨g2, 0, none⟩) (J.length + 1) cap2)) b B own' (k + 1) c T S (I ++ [.slice none 0 0]) (J ++ [.slice (some ⟨w.heap.size, 0, none⟩) 0 0]) (L ++ [[]])) :=
      keep_final HI.out HMD.out rfl (by omega) (World.ownsRow_nil _ _ _ _) (fun q hq => by simp [Value.ownBlock] at hq) HRI.out HRJ.out HO1.out HG1.out HAT1.out hlt1 hown2 hgrow2 hat2 hlt2
    have d6 : w3.cell? ⟨b, 6, none⟩ = some vj := by
      rw [hgrow2.cell_far ⟨b, 6, none⟩ (by simp; omega) hbJ, World.cell?_alloc_past _ _ _ (by simp; omega), cs_other (addr_ne (by omega))]; exact c6
    have k6 : w3.frozen? ⟨b, 6, none⟩ = false := by
      rw [hgrow2.frozen_far ⟨b, 6, none⟩ (by simp; omega) hbJ, World.frozen?_alloc_past _ _ _ (by simp; omega), World.frozen?_setCell]; exact e6
    clear hown2 hgrow2 hat2 c5 c6 e5 e6
    go_wp2
    go_end0
    obtain ⟨own', hh⟩ := HF.out
    exact ⟨rfl, own', _, hh⟩
end Go.Proofs.YtipdjbkkpjlamaaGreat
