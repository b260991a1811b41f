import Derived.Test.YtkfilgfcgmohlaaJ25
import Derived.WalkKit
import Derived.WalkSpells
import Derived.WalkLawsBesides
namespace Go.Proofs.Ytkfilgfcgmohlaa
open Go.RowKit
/-- w' is w but for the blocks of X, and new blocks -/
structure UpdS (X : Nat → Prop) (w w' : World) : Prop where
  os : w'.os = w.os
  tape : w'.tape = w.tape
  output : w'.output = w.output
  size : w.heap.size ≤ w'.heap.size
  block : ∀ k, k < w.heap.size → ¬ X k → w'.heap[k]? = w.heap[k]?
theorem UpdS.refl (X : Nat → Prop) (w : World) : UpdS X w w := ⟨rfl, rfl, rfl, Nat.le_refl _, fun _ _ _ => rfl⟩
theorem UpdS.trans {X Y : Nat → Prop} {w w1 w2 : World} (h : UpdS X w w1) (k : UpdS Y w1 w2) (hx : ∀ i, i < w.heap.size → Y i → X i) : UpdS X w w2 :=
  ⟨k.os.trans h.os, k.tape.trans h.tape, k.output.trans h.output, Nat.le_trans h.size k.size, fun i h1 h2 => (k.block i (Nat.lt_of_lt_of_le h1 h.size) (fun e => h2 (hx i h1 e))).trans (h.block i h1 h2)⟩
theorem UpdS.same {X : Nat → Prop} {w w1 w2 : World} (h : UpdS X w w1) (k : UpdS X w1 w2) : UpdS X w w2 := h.trans k (fun _ _ e => e)
theorem UpdS.sub {X Y : Nat → Prop} {w w' : World} (h : UpdS X w w') (hx : ∀ i, i < w.heap.size → X i → Y i) : UpdS Y w w' :=
  ⟨h.os, h.tape, h.output, h.size, fun i h1 h2 => h.block i h1 (fun e => h2 (hx i h1 e))⟩
theorem Upd.updS {b : Nat} {w w' : World} (h : Upd b w w') {X : Nat → Prop} (hx : X b) : UpdS X w w' := ⟨h.os, h.tape, h.output, h.size, fun k h1 h2 => h.block k h1 (fun e => h2 (e ▸ hx))⟩
theorem Upd2.updS {b : Nat} {o : Option Nat} {w w' : World} (h : Upd2 b o w w') {X : Nat → Prop} (hx : X b) (ho : ∀ k, o = some k → X k) : UpdS X w w' :=
  ⟨h.os, h.tape, h.output, h.size, fun k h1 h2 => h.block k h1 (fun e => h2 (e ▸ hx)) (fun e => h2 (ho k e.symm))⟩
theorem below_updS {w w' : World} (h : Below w.heap.size w w') (X : Nat → Prop) : UpdS X w w' := ⟨h.os, h.tape, h.output, h.size, fun k h1 _ => h.block k h1⟩
theorem sm_updS {w w' : World} (h : Sm w w') (X : Nat → Prop) : UpdS X w w' := ⟨h.os, h.tape, h.output, by rw [h.heap]; exact Nat.le_refl _, fun k _ _ => by rw [h.heap]⟩
theorem UpdS.setCell {X : Nat → Prop} {w w1 : World} (h : UpdS X w w1) (p : Addr) (v : Value) (hp : p.block < w.heap.size → X p.block) : UpdS X w (w1.setCell p v) :=
  ⟨h.os, h.tape, h.output, by rw [World.size_setCell]; exact h.size, fun i h1 h2 => (Below.heap_setCell _ _ _ _ (fun e => h2 (by rw [e]; exact hp (by rw [← e]; exact h1)))).trans (h.block i h1 h2)⟩
theorem UpdS.alloc {X : Nat → Prop} {w w1 : World} (h : UpdS X w w1) (o : Obj) : UpdS X w (w1.alloc o) :=
  ⟨h.os, h.tape, h.output, by rw [World.size_alloc]; exact Nat.le_trans h.size (Nat.le_succ _), fun i h1 h2 => (Below.heap_alloc _ _ _ (Nat.lt_of_lt_of_le h1 h.size)).trans (h.block i h1 h2)⟩
theorem grown_updS {w w' : World} {o : Option Nat} (h : w.grownBy w' o) {X : Nat → Prop} (ho : ∀ k, o = some k → X k) : UpdS X w w' :=
  ⟨h.os, h.tape, h.output, h.size, fun k h1 h2 => h.block k h1 (fun e => h2 (ho k e.symm))⟩
/-- a table by which codes can be told -/
structure GoodTb (t : Nat) (T : Tb) : Prop where
  sz : T.size = 2 ^ T.log
  lg : T.log ≤ 9
  code : ∀ x, x < T.size → CodeOk t (T.F x)
  bit : ∀ x, x < T.size → T.B x ≤ 9
  low : ∀ x, x < T.size → T.L x + 2 ^ T.B x ≤ T.size
theorem codeOk_top {t c : Nat} (ht : t < 3) (h : c ≤ topN t) : CodeOk t c := by
  unfold CodeOk; unfold topN at h
  rcases Nat.lt_or_ge t 1 with h1 | h1
  · rw [if_pos (by omega)] at h; omega
  · rw [if_neg (by omega)] at h
    rcases Nat.lt_or_ge t 2 with h2 | h2
    · rw [if_pos (by omega)] at h; omega
    · rw [if_neg (by omega)] at h; omega
theorem good_of {t : Nat} {o : List Int} {log : Nat} (ht : t < 3) (hsz : isSize (2 ^ log)) (hl : log ≤ 9) (h : Dist (topN t) o (2 ^ log)) : GoodTb t (ofT o log) := by
  refine ⟨rfl, hl, fun x hx => ?_, fun x hx => ?_, fun x hx => ?_⟩
  · have := (sym_ok o hsz h x hx).1
    have := h.len
    exact codeOk_top ht (by show symT o (2 ^ log) x ≤ _; omega)
  · exact Nat.le_trans (low_ok o hsz h x hx).1 hl
  · exact (low_ok o hsz h x hx).2.2
theorem good_lone {t c : Nat} (ht : t < 3) (hc : c ≤ topN t) : GoodTb t (loneT c) :=
  ⟨rfl, by show 0 ≤ 9; omega, fun _ _ => codeOk_top ht hc, fun _ _ => by show 0 ≤ 9; omega, fun _ _ => by show 0 + 2 ^ 0 ≤ 1; omega⟩
theorem logU_le (t : Nat) : logU t ≤ 9 := by unfold logU; split <;> omega
theorem good_tableS {t mode : Nat} {s : ByteArray} {has : Bool} {T : Tb} {n : Nat} (ht : t < 3) (h : tableS t mode s has = .set T n) : GoodTb t T := by
  unfold tableS at h
  split at h
  · cases h; exact good_of ht (usual_size t) (logU_le t) (usual_dist t ht)
  · split at h
    · split at h
      · cases h
      · rename_i h1
        cases h
        exact good_lone ht (by omega)
    · split at h
      · cases hH : headR s (accN t) (topN t) with
        | none => rw [hH] at h; cases h
        | some y =>
          obtain ⟨o, log, nb⟩ := y
          rw [hH] at h
          cases h
          obtain ⟨hl5, hl6, hnb, hd⟩ := headR_ok hH
          have hlo9 : log ≤ 9 := Nat.le_trans hl6 (acc_small t)
          exact good_of ht (pow_size hl5 hlo9) hlo9 hd
      · split at h <;> cases h
/-- the tables that are kept, outside of X -/
def TabOk (w : World) (C : Nat → Value) (X : Nat → Prop) (t : Nat) : Prop :=
  C (7 + t) = .pointer none ∨ ∃ tb lo hi T, C (7 + t) = .pointer (some ⟨tb, 0, none⟩) ∧ TbAt w lo hi tb T ∧ hi ≤ w.heap.size ∧ (∀ k, lo ≤ k → k < hi → ¬ X k) ∧ GoodTb t T
theorem TabOk.upd {w w' : World} {C C' : Nat → Value} {X X' : Nat → Prop} {t : Nat} (h : TabOk w C X t) (hu : UpdS X w w') (hc : C' (7 + t) = C (7 + t)) (hx : ∀ k, k < w.heap.size → X' k → X k) : TabOk w' C' X' t := by
  rcases h with h | ⟨tb, lo, hi, T, h1, h2, h3, h4, h5⟩
  · exact .inl (hc.trans h)
  · exact .inr ⟨tb, lo, hi, T, hc.trans h1, h2.keep (fun k k1 k2 => hu.block k (by omega) (h4 k k1 k2)), Nat.le_trans h3 hu.size, fun k k1 k2 e => h4 k k1 k2 (hx k (by omega) e), h5⟩
/-- the tree that is kept, outside of X -/
def TreeOk (w : World) (C : Nat → Value) (X : Nat → Prop) : Prop :=
  C 14 = .bool false ∨ (C 14 = .bool true ∧ ∃ gc cap all log, C 13 = .slice (some ⟨gc, 0, none⟩) all.length cap ∧ CodeSt w gc cap all log ∧ ¬ X gc)
theorem CodeSt.keep {w w' : World} {gc cap : Nat} {all : List Nat} {log : Nat} (h : CodeSt w gc cap all log) (hk : w'.heap[gc]? = w.heap[gc]?) : CodeSt w' gc cap all log :=
  ⟨⟨fun j hj => (World.cell?_of_block (w := w) (a := ⟨gc, j * 2, none⟩) hk).trans (h.cd.b j hj), fun j hj => (World.cell?_of_block (w := w) (a := ⟨gc, j * 2 + 1, none⟩) hk).trans (h.cd.v j hj)⟩, h.whole, h.pos, h.small⟩
theorem CodeSt.lt {w : World} {gc cap : Nat} {all : List Nat} {log : Nat} (h : CodeSt w gc cap all log) : gc < w.heap.size := block_lt_of_cell (h.cd.b 0 h.pos)
theorem TreeOk.upd {w w' : World} {C C' : Nat → Value} {X X' : Nat → Prop} (h : TreeOk w C X) (hu : UpdS X w w') (h13 : C' 13 = C 13) (h14 : C' 14 = C 14) (hx : ∀ k, k < w.heap.size → X' k → X k) : TreeOk w' C' X' := by
  rcases h with h | ⟨h1, gc, cap, all, log, h2, h3, h4⟩
  · exact .inl (h14.trans h)
  · exact .inr ⟨h14.trans h1, gc, cap, all, log, h13.trans h2, h3.keep (hu.block gc h3.lt h4), fun e => h4 (hx gc h3.lt e)⟩
/-- blocks that may turn while a compressed block is read: the world's, that of what came out, and those of Y -/
def Xs (b : Nat) (vo : Value) (Y : Nat → Prop) : Nat → Prop := fun j => j = b ∨ vo.ownBlock = some j ∨ Y j
/-- the reference's world within a frame -/
structure CSt (w : World) (b : Nat) (Y : Nat → Prop) (s : ByteArray) (limit : Int) (a : Nat) (C : Nat → Value) : Prop where
  wc : Wc w b C
  c0 : C 0 = .string s
  c2 : C 2 = .int .i64 limit
  c6 : C 6 = .int .i64 (a : Int)
  out : ∃ out, OutAt w (C 3) out ∧ a ≤ out.length ∧ out.length ≤ a + 131072
  fr : ∃ fr : Nat, C 5 = .int .i64 (fr : Int) ∧ fr ≤ a
  ob : ∀ j, (C 3).ownBlock = some j → j ≠ b ∧ ¬ Y j
  nb : ¬ Y b
  yb : ∀ j, Y j → j < w.heap.size
  tabs : ∀ t, t < 3 → TabOk w C (Xs b (C 3) Y) t
  tree : TreeOk w C (Xs b (C 3) Y)
  reps : ∃ R0 R1 R2 : Int, C 10 = .int .i64 R0 ∧ C 11 = .int .i64 R1 ∧ C 12 = .int .i64 R2 ∧ (0 ≤ R0 ∧ R0 ≤ 1099511627776) ∧ (0 ≤ R1 ∧ R1 ≤ 1099511627776) ∧ (0 ≤ R2 ∧ R2 ≤ 1099511627776)
  err : ∃ e : Int, C 15 = .int .i64 e
/-- what a step within a compressed block leaves -/
structure CStep (w w' : World) (b : Nat) (Y : Nat → Prop) (C C' : Nat → Value) : Prop where
  upd : UpdS (Xs b (C 3) Y) w w'
  moved : Moved w (C 3) (C' 3)
  c1 : C' 1 = C 1
  c4 : C' 4 = C 4
  c5 : C' 5 = C 5
theorem Xs_moved {w : World} {b : Nat} {vo vo' : Value} {Y : Nat → Prop} (h : Moved w vo vo') : ∀ k, k < w.heap.size → Xs b vo' Y k → Xs b vo Y k := by
  intro k hk hx
  rcases hx with e | e | e
  · exact .inl e
  · rcases h with h | ⟨j, h, hj⟩
    · exact .inr (.inl (by rw [← h]; exact e))
    · rw [h] at e; injection e with e; omega
  · exact .inr (.inr e)
/-- no other block -/
def Z0 : Nat → Prop := fun _ => False
theorem CStep.wide {w w' : World} {b : Nat} {Z : Nat → Prop} {C C' : Nat → Value} (h : CStep w w' b Z0 C C') : CStep w w' b Z C C' :=
  ⟨h.upd.sub (fun i _ hi => by rcases hi with e | e | e; exact .inl e; exact .inr (.inl e); exact e.elim), h.moved, h.c1, h.c4, h.c5⟩
theorem CStep.refl (w : World) (b : Nat) (Y : Nat → Prop) (C : Nat → Value) : CStep w w b Y C C := ⟨UpdS.refl _ _, .inl rfl, rfl, rfl, rfl⟩
theorem Moved.trans {w w1 : World} {a b c : Value} (h : Moved w a b) (k : Moved w1 b c) (hs : w.heap.size ≤ w1.heap.size) : Moved w a c := by
  rcases k with k | ⟨j, k, hj⟩
  · rcases h with h | ⟨i, h, hi⟩
    · exact .inl (k.trans h)
    · exact .inr ⟨i, k.trans h, hi⟩
  · exact .inr ⟨j, k, Nat.le_trans hs hj⟩
theorem CStep.trans {w w1 w2 : World} {b : Nat} {Y : Nat → Prop} {C C1 C2 : Nat → Value} (h : CStep w w1 b Y C C1) (k : CStep w1 w2 b Y C1 C2) : CStep w w2 b Y C C2 :=
  ⟨h.upd.trans k.upd (fun i hi hx => Xs_moved h.moved i hi hx), h.moved.trans k.moved h.upd.size, k.c1.trans h.c1, k.c4.trans h.c4, k.c5.trans h.c5⟩
/-- the world goes on where only blocks of X turn, its own cells as before -/
theorem CSt.upd {w w' : World} {b : Nat} {Y : Nat → Prop} {s : ByteArray} {limit : Int} {a : Nat} {C : Nat → Value} (h : CSt w b Y s limit a C) (hu : UpdS Y w w') : CSt w' b Y s limit a C := by
  have hX : UpdS (Xs b (C 3) Y) w w' := hu.sub (fun i _ hi => .inr (.inr hi))
  refine ⟨h.wc.keep (hu.block b h.wc.lt h.nb), h.c0, h.c2, h.c6, ?_, h.fr, h.ob, h.nb, fun j hj => Nat.lt_of_lt_of_le (h.yb j hj) hu.size, fun t ht => (h.tabs t ht).upd hX rfl (fun _ _ e => e), h.tree.upd hX rfl rfl (fun _ _ e => e), h.reps, h.err⟩
  obtain ⟨out, h1, h2⟩ := h.out
  exact ⟨out, ⟨row_same h1.row (fun g hg => hu.block g (row_lt h1.row g hg).2 (h.ob g hg).2)⟩, h2⟩
/-- an error is noted -/
theorem CSt.bad {w w' : World} {b : Nat} {Y : Nat → Prop} {s : ByteArray} {limit : Int} {a : Nat} {C : Nat → Value} {e : Int} (h : CSt w b Y s limit a C) (hW : Wc w' b (upV C 15 (.int .i64 e))) (hU : Upd b w w') : CSt w' b Y s limit a (upV C 15 (.int .i64 e)) ∧ CStep w w' b Z0 C (upV C 15 (.int .i64 e)) := by
  have hX : UpdS (Xs b (C 3) Y) w w' := hU.updS (.inl rfl)
  have e3 : upV C 15 (.int .i64 e) 3 = C 3 := upV_other _ _ _ _ (by omega)
  have key : ∀ i, i ≠ 15 → upV C 15 (.int .i64 e) i = C i := fun i hi => upV_other _ _ _ _ hi
  refine ⟨⟨hW, (key 0 (by omega)).trans h.c0, (key 2 (by omega)).trans h.c2, (key 6 (by omega)).trans h.c6, ?_, ?_, ?_, h.nb, fun j hj => Nat.lt_of_lt_of_le (h.yb j hj) hU.size, fun t ht => ?_, ?_, ?_, ⟨e, upV_same _ _ _⟩⟩, ⟨hU.updS (.inl rfl), .inl (by rw [e3]), key 1 (by omega), key 4 (by omega), key 5 (by omega)⟩⟩
  · obtain ⟨out, h1, h2⟩ := h.out
    rw [e3]
    exact ⟨out, ⟨row_same h1.row (fun g hg => hU.block g (row_lt h1.row g hg).2 (h.ob g hg).1)⟩, h2⟩
  · rw [key 5 (by omega)]; exact h.fr
  · rw [e3]; exact h.ob
  · rw [e3]; exact (h.tabs t ht).upd hX (key _ (by omega)) (fun _ _ e => e)
  · rw [e3]; exact h.tree.upd hX (key _ (by omega)) (key _ (by omega)) (fun _ _ e => e)
  · rw [key 10 (by omega), key 11 (by omega), key 12 (by omega)]; exact h.reps
/-- other blocks are to be spared -/
theorem CSt.re {w w' : World} {b : Nat} {Y Y2 : Nat → Prop} {s : ByteArray} {limit : Int} {a : Nat} {C : Nat → Value} (h : CSt w b Y s limit a C) (hu : UpdS Y w w') (hY : ∀ j, Y2 j → Y j ∨ w.heap.size ≤ j) (hb : ∀ j, Y2 j → j < w'.heap.size) : CSt w' b Y2 s limit a C := by
  have hX : UpdS (Xs b (C 3) Y) w w' := hu.sub (fun i _ hi => .inr (.inr hi))
  obtain ⟨out, h1, h2⟩ := h.out
  have hx : ∀ k, k < w.heap.size → Xs b (C 3) Y2 k → Xs b (C 3) Y k := by
    intro k hk hx
    rcases hx with e | e | e
    · exact .inl e
    · exact .inr (.inl e)
    · rcases hY k e with e | e
      · exact .inr (.inr e)
      · omega
  have hbl := h.wc.lt
  refine ⟨h.wc.keep (hu.block b hbl h.nb), h.c0, h.c2, h.c6, ⟨out, ⟨row_same h1.row (fun g hg => hu.block g (row_lt h1.row g hg).2 (h.ob g hg).2)⟩, h2⟩, h.fr, fun j hj => ⟨(h.ob j hj).1, fun e => ?_⟩, fun e => ?_, hb, fun t ht => (h.tabs t ht).upd hX rfl hx, h.tree.upd hX rfl rfl hx, h.reps, h.err⟩
  · have := (row_lt h1.row j hj).2
    rcases hY j e with e | e
    · exact (h.ob j hj).2 e
    · omega
  · rcases hY b e with e | e
    · exact h.nb e
    · omega
theorem CSt.less {w : World} {b : Nat} {Y Y2 : Nat → Prop} {s : ByteArray} {limit : Int} {a : Nat} {C : Nat → Value} (h : CSt w b Y s limit a C) (hY : ∀ j, Y2 j → Y j) : CSt w b Y2 s limit a C := h.re (UpdS.refl _ _) (fun j e => .inl (hY j e)) (fun j e => h.yb j (hY j e))
/-- more came out -/
theorem CSt.grow {w w' : World} {b : Nat} {Y : Nat → Prop} {s : ByteArray} {limit : Int} {a : Nat} {C : Nat → Value} {v' : Value} {out' : List Nat} (h : CSt w b Y s limit a C) (hW : Wc w' b (upV C 3 v')) (hO : OutAt w' v' out') (h1 : a ≤ out'.length) (h2 : out'.length ≤ a + 131072) (hM : Moved w (C 3) v') (hU : UpdS (fun q => q = b ∨ (C 3).ownBlock = some q) w w') : CSt w' b Y s limit a (upV C 3 v') ∧ CStep w w' b Z0 C (upV C 3 v') := by
  have hX : UpdS (Xs b (C 3) Y) w w' := hU.sub (fun i _ hi => by rcases hi with e | e; exact .inl e; exact .inr (.inl e))
  have key : ∀ i, i ≠ 3 → upV C 3 v' i = C i := fun i hi => upV_other _ _ _ _ hi
  have e3 : upV C 3 v' 3 = v' := upV_same _ _ _
  have hx : ∀ k, k < w.heap.size → Xs b (upV C 3 v' 3) Y k → Xs b (C 3) Y k := by rw [e3]; exact Xs_moved hM
  refine ⟨⟨hW, (key 0 (by omega)).trans h.c0, (key 2 (by omega)).trans h.c2, (key 6 (by omega)).trans h.c6, ⟨out', by rw [e3]; exact hO, h1, h2⟩, ?_, ?_, h.nb, fun j hj => Nat.lt_of_lt_of_le (h.yb j hj) hU.size, fun t ht => (h.tabs t ht).upd hX (key _ (by omega)) hx, h.tree.upd hX (key _ (by omega)) (key _ (by omega)) hx, ?_, ?_⟩, ⟨hU.sub (fun i _ hi => by rcases hi with e | e; exact .inl e; exact .inr (.inl e)), by rw [e3]; exact hM, key 1 (by omega), key 4 (by omega), key 5 (by omega)⟩⟩
  · rw [key 5 (by omega)]; exact h.fr
  · intro j hj
    rw [e3] at hj
    rcases hM with e | ⟨q, e, hq⟩
    · exact h.ob j (by rw [← e]; exact hj)
    · rw [e] at hj
      injection hj with hj
      have := h.wc.lt
      exact ⟨by omega, fun hy => by have := h.yb j hy; omega⟩
  · rw [key 10 (by omega), key 11 (by omega), key 12 (by omega)]; exact h.reps
  · rw [key 15 (by omega)]; exact h.err
end Go.Proofs.Ytkfilgfcgmohlaa
namespace Go.Proofs.Ytkfilgfcgmohlaa
open Go.RowKit
theorem syms_len {a : Nat → Nat} {n log : Nat} {s : ByteArray} {cnt : Nat} {l : List Nat} {ok : Bool} (h : SymsR a n log s cnt l ok) : l.length ≤ cnt := by
  rcases h with ⟨_, rfl, _⟩ | ⟨z, pos, _, _, h, _⟩
  · simp
  · exact h
/-- what 'coded' leaves, whatever was said -/
def CodedW (b k : Nat) (X : Nat → Prop) (C D : Nat → Value) (w : World) (x : Ending) (w' : World) : Prop :=
  ∃ C' D' l, x = .returned (.tuple #[]) ∧ Wc w' b C' ∧ (∀ i, i ≠ 13 → i ≠ 14 → i ≠ 15 → C' i = C i) ∧ (∃ e' : Int, C' 15 = .int .i64 e') ∧ TreeOk w' C' X ∧ Bc w' k D' ∧ (∀ i, i ≠ 5 → D' i = D i) ∧ w'.ownsRow w.heap.size 5 1 (D' 5) l.length (bvs l) ∧ l.length ≤ 4194304 ∧ Upd2 b (some k) w w'
theorem coded_w31 (b k : Nat) (X : Nat → Prop) (C D : Nat → Value) (s : ByteArray) (cnt : Nat) (e0 : Int) (w : World) (hW : Wc w b C) (hB : Bc w k D) (hbk : b ≠ k) (hXb : X b) (hXk : X k) (hT : TreeOk w C X) (h14 : C 14 = .bool true) (h15 : C 15 = .int .i64 e0) (d3 : D 3 = .int .i64 3) (d4 : D 4 = .int .i64 1) (hs : s.size ≤ 1048576) (hcnt : cnt ≤ 1048576) :
    Calls Try.prog 67 #[.pointer (some ⟨b, 0, none⟩), .string s, .int .i64 (cnt : Int), .pointer (some ⟨k, 0, none⟩)] w fun x w' => CodedW b k X C D w x w' := by
  rcases id hT with h | ⟨_, gc, cap, all, log, h13, hS, hx⟩
  · rw [h14] at h; cases h
  · refine (coded_31 b k gc cap C D all log s cnt e0 w hW hB hbk h13 h14 h15 d3 d4 hS hs hcnt).mono ?_
    rintro x w' ⟨v, l, ok, rfl, hR, hW', hB', hrow, hU⟩
    refine ⟨_, _, l, rfl, hW', fun i _ _ h => upV_other _ _ _ _ h, ⟨_, upV_same _ _ _⟩, ?_, hB', fun i h => upV_other _ _ _ _ h, by rw [upV_same]; exact hrow, Nat.le_trans (syms_len hR) (by omega), hU⟩
    exact hT.upd (hU.updS hXb (fun j e => by injection e with e; exact e ▸ hXk)) (upV_other _ _ _ _ (by omega)) (upV_other _ _ _ _ (by omega)) (fun _ _ e => e)
theorem coded_w3n (b k : Nat) (X : Nat → Prop) (C D : Nat → Value) (s : ByteArray) (cnt : Nat) (e0 : Int) (w : World) (hW : Wc w b C) (hB : Bc w k D) (hbk : b ≠ k) (h14 : C 14 = .bool false) (h15 : C 15 = .int .i64 e0) (d3 : D 3 = .int .i64 3) (d5 : D 5 = .slice none 0 0) :
    Calls Try.prog 67 #[.pointer (some ⟨b, 0, none⟩), .string s, .int .i64 (cnt : Int), .pointer (some ⟨k, 0, none⟩)] w fun x w' => CodedW b k X C D w x w' := by
  refine (coded_3n b k C D s cnt e0 w hW hB hbk h14 h15 d3).mono ?_
  rintro x w' ⟨rfl, hW', hB', hU⟩
  exact ⟨_, _, [], rfl, hW', fun i _ _ h => upV_other _ _ _ _ h, ⟨_, upV_same _ _ _⟩, .inl (by rw [upV_other _ _ _ _ (by omega)]; exact h14), hB', fun _ _ => rfl, by rw [d5]; exact World.ownsRow_nil _ _ _ _, by simp, hU.upd2 _⟩
theorem coded_w21 (b k : Nat) (X : Nat → Prop) (C D : Nat → Value) (s : ByteArray) (cnt : Nat) (e0 : Int) (w : World) (hW : Wc w b C) (hB : Bc w k D) (hbk : b ≠ k) (hX : ∀ j, X j → j < w.heap.size) (h15 : C 15 = .int .i64 e0) (d3 : D 3 = .int .i64 2) (d4 : D 4 = .int .i64 1) (d5 : D 5 = .slice none 0 0) (hs : s.size ≤ 1048576) (hcnt : cnt ≤ 1048576) :
    Calls Try.prog 67 #[.pointer (some ⟨b, 0, none⟩), .string s, .int .i64 (cnt : Int), .pointer (some ⟨k, 0, none⟩)] w fun x w' => CodedW b k X C D w x w' := by
  refine (coded_21 b k C D s cnt e0 w hW hB hbk h15 d3 d4 hs hcnt).mono ?_
  rintro x w' ⟨r, hr, hq⟩
  cases r with
  | none =>
    obtain ⟨rfl, hW', hB', hU⟩ := hq
    refine ⟨_, _, [], rfl, hW', fun i h1 h2 h => by rw [upV_other _ _ _ _ h, upV_other _ _ _ _ h2, upV_other _ _ _ _ h1], ⟨_, upV_same _ _ _⟩, .inl ?_, hB', fun _ _ => rfl, by rw [d5]; exact World.ownsRow_nil _ _ _ _, by simp, hU⟩
    rw [upV_other _ _ _ _ (by omega), upV_same]
  | some y =>
    obtain ⟨all, log⟩ := y
    obtain ⟨htk, gc, cap, v, l, ok, rfl, hR, hW', hB', hrow, hU, hS, hgc, hgl⟩ := hq
    refine ⟨_, _, l, rfl, hW', fun i h1 h2 h => by rw [upV_other _ _ _ _ h, upV_other _ _ _ _ h2, upV_other _ _ _ _ h1], ⟨_, upV_same _ _ _⟩, .inr ⟨?_, gc, cap, all, log, ?_, hS, fun e => by have := hX gc e; omega⟩, hB', fun i h => upV_other _ _ _ _ h, by rw [upV_same]; exact hrow, Nat.le_trans (syms_len hR) (by omega), hU⟩
    · rw [upV_other _ _ _ _ (by omega), upV_same]
    · rw [upV_other _ _ _ _ (by omega), upV_other _ _ _ _ (by omega), upV_same]
end Go.Proofs.Ytkfilgfcgmohlaa
