import Derived.Test.YtkfilgfcgmohlaaJ01
import Derived.Test.YtkfilgfcgmohlaaJ16
import Derived.WalkKit
import Derived.WalkSpells
import Derived.WalkLawsBesides
import Derived.Deep.AppendSrc
import Derived.Deep.QuietTactic
import Derived.BigQuiet
import Derived.Laws.BitsAllLaws
namespace Go.Proofs.Ytkfilgfcgmohlaa
/-- bytes as a row -/
def baOf (l : List Nat) : ByteArray := ⟨(l.map UInt8.ofNat).toArray⟩
theorem baOf_size (l : List Nat) : (baOf l).size = l.length := by show ((l.map UInt8.ofNat).toArray).size = _; simp
def cutL (s : ByteArray) (p n : Nat) : List Nat := (List.range n).map (fun i => gOf s (p + i))
theorem cutL_len (s : ByteArray) (p n : Nat) : (cutL s p n).length = n := by simp [cutL]
theorem cutL_lt (s : ByteArray) (p n : Nat) : ∀ x ∈ cutL s p n, x < 256 := by
  intro x hx
  obtain ⟨i, _, rfl⟩ := List.mem_map.1 hx
  exact gOf_lt _ _
/-- what the bytes say: a compressed block is met; an error; or so far, and on -/
abbrev Res := Option (Sum Int (Nat × List Nat × Bool))
abbrev Res.met : Res := none
abbrev Res.bad (e : Int) : Res := some (.inl e)
abbrev Res.go (p : Nat) (out : List Nat) (last : Bool) : Res := some (.inr (p, out, last))
theorem Res.elim {motive : Res → Prop} (met : motive Res.met) (bad : ∀ e, motive (Res.bad e)) (go : ∀ p out last, motive (Res.go p out last)) (r : Res) : motive r := by
  rcases r with _ | (e | ⟨p, out, last⟩)
  · exact met
  · exact bad e
  · exact go p out last
theorem Res.go_inj {p p' : Nat} {out out' : List Nat} {l l' : Bool} (h : Res.go p out l = Res.go p' out' l') : p = p' ∧ out = out' ∧ l = l' := by
  cases h; exact ⟨rfl, rfl, rfl⟩
/-- a block from place p on -/
def blkL (s : ByteArray) (p h : Nat) : List Nat := if h / 2 % 4 = 0 then cutL s (p + 3) (h / 8) else List.replicate (h / 8) (gOf s (p + 3))
def blkW (h : Nat) : Nat := if h / 2 % 4 = 1 then 1 else h / 8
def blkH (s : ByteArray) (p : Nat) : Nat := numN (gOf s) p 3
def blkS (s : ByteArray) (limit M : Int) (p : Nat) (out : List Nat) : Res :=
  if s.size < p + 3 then .bad 2
  else if blkH s p / 2 % 4 = 3 ∨ M < (blkH s p / 8 : Nat) then .bad 7
  else if s.size < p + 3 + blkW (blkH s p) then .bad 2
  else if blkH s p / 2 % 4 = 2 then .met
  else if limit < (out.length : Int) + (blkH s p / 8 : Nat) then .bad 14
  else .go (p + 3 + blkW (blkH s p)) (out ++ blkL s p (blkH s p)) (decide (blkH s p % 2 = 1))
theorem blkL_len (s : ByteArray) (p h : Nat) : (blkL s p h).length = h / 8 := by
  unfold blkL; split
  · exact cutL_len _ _ _
  · exact List.length_replicate
theorem blkL_lt (s : ByteArray) (p h : Nat) : ∀ x ∈ blkL s p h, x < 256 := by
  unfold blkL; split
  · exact cutL_lt _ _ _
  · intro x hx; rw [(List.mem_replicate.1 hx).2]; exact gOf_lt _ _
theorem blkS_go {s : ByteArray} {limit M : Int} {p : Nat} {out : List Nat} {p' : Nat} {out' : List Nat} {last : Bool} (h : blkS s limit M p out = .go p' out' last) : p + 3 ≤ p' ∧ p' ≤ s.size ∧ out' = out ++ blkL s p (blkH s p) ∧ (out'.length : Int) ≤ limit := by
  unfold blkS at h
  split at h
  · cases h
  · split at h
    · cases h
    · split at h
      · cases h
      · split at h
        · cases h
        · split at h
          · cases h
          · obtain ⟨h1, h2, h3⟩ := Res.go_inj h
            refine ⟨by omega, by omega, h2.symm, ?_⟩
            rw [← h2, List.length_append, blkL_len]; omega
/-- blocks from place p on, up to the last one; n: at most so many -/
def blocksF (s : ByteArray) (limit M : Int) : Nat → Nat → List Nat → Res
  | 0, _, _ => .bad 2
  | n + 1, p, out => match blkS s limit M p out with
    | none => .met
    | some (.inl e) => .bad e
    | some (.inr (p', out', l)) => if l = true then .go p' out' true else blocksF s limit M n p' out'
def blocksS (s : ByteArray) (limit M : Int) (p : Nat) (out : List Nat) : Res := blocksF s limit M (s.size + 1 - p) p out
theorem blkS_far {s : ByteArray} {limit M : Int} {p : Nat} {out : List Nat} (h : s.size < p + 3) : blkS s limit M p out = .bad 2 := by unfold blkS; rw [if_pos h]
theorem blocksF_any {s : ByteArray} {limit M : Int} : ∀ (n m p : Nat) (out : List Nat), s.size + 1 - p ≤ n → s.size + 1 - p ≤ m → blocksF s limit M n p out = blocksF s limit M m p out := by
  intro n
  induction n with
  | zero =>
    intro m p out h1 _
    cases m with
    | zero => rfl
    | succ m => rw [blocksF, blocksF, blkS_far (by omega)]
  | succ n ih =>
    intro m p out h1 h2
    cases m with
    | zero => rw [blocksF, blocksF, blkS_far (by omega)]
    | succ m =>
      rw [blocksF, blocksF]
      cases hb : blkS s limit M p out using Res.elim with
      | met => rfl
      | bad e => rfl
      | go q o l =>
        have hq := blkS_go hb
        cases l with
        | true => rfl
        | false =>
          show blocksF s limit M n q o = blocksF s limit M m q o
          exact ih m q o (by omega) (by omega)
theorem blocksS_met {s : ByteArray} {limit M : Int} {p : Nat} {out : List Nat} (h : blkS s limit M p out = .met) : blocksS s limit M p out = .met := by
  unfold blocksS
  rw [blocksF_any _ (s.size + 1 - p + 1) p out (Nat.le_refl _) (by omega), blocksF, h]
theorem blocksS_bad {s : ByteArray} {limit M : Int} {p : Nat} {out : List Nat} {e : Int} (h : blkS s limit M p out = .bad e) : blocksS s limit M p out = .bad e := by
  unfold blocksS
  rw [blocksF_any _ (s.size + 1 - p + 1) p out (Nat.le_refl _) (by omega), blocksF, h]
theorem blocksS_last {s : ByteArray} {limit M : Int} {p : Nat} {out : List Nat} {p' : Nat} {out' : List Nat} (h : blkS s limit M p out = .go p' out' true) : blocksS s limit M p out = .go p' out' true := by
  unfold blocksS
  rw [blocksF_any _ (s.size + 1 - p + 1) p out (Nat.le_refl _) (by omega), blocksF, h]
  rfl
theorem blocksS_on {s : ByteArray} {limit M : Int} {p : Nat} {out : List Nat} {p' : Nat} {out' : List Nat} (h : blkS s limit M p out = .go p' out' false) : blocksS s limit M p out = blocksS s limit M p' out' := by
  have hq := blkS_go h
  unfold blocksS
  rw [blocksF_any _ (s.size + 1 - p + 1) p out (Nat.le_refl _) (by omega), blocksF, h]
  show blocksF s limit M (s.size + 1 - p) p' out' = _
  exact blocksF_any _ _ p' out' (by omega) (by omega)
theorem blocksS_go {s : ByteArray} {limit M : Int} : ∀ (n p : Nat) (out : List Nat) {p' : Nat} {out' : List Nat} {last : Bool}, s.size - p ≤ n → blocksS s limit M p out = .go p' out' last → p + 3 ≤ p' ∧ p' ≤ s.size ∧ last = true := by
  intro n
  induction n with
  | zero =>
    intro p out p' out' last hn h
    cases hb : blkS s limit M p out using Res.elim with
    | met => rw [blocksS_met hb] at h; cases h
    | bad e => rw [blocksS_bad hb] at h; cases h
    | go q o l => have := blkS_go hb; omega
  | succ n ih =>
    intro p out p' out' last hn h
    cases hb : blkS s limit M p out using Res.elim with
    | met => rw [blocksS_met hb] at h; cases h
    | bad e => rw [blocksS_bad hb] at h; cases h
    | go q o l =>
      have hq := blkS_go hb
      cases l with
      | true => rw [blocksS_last hb] at h; cases h; exact ⟨hq.1, hq.2.1, rfl⟩
      | false =>
        rw [blocksS_on hb] at h
        have := ih q o (by omega) h
        exact ⟨by omega, this.2⟩
theorem blocksS_len {s : ByteArray} {limit M : Int} : ∀ (n p : Nat) (out : List Nat) {p' : Nat} {out' : List Nat} {last : Bool}, s.size - p ≤ n → blocksS s limit M p out = .go p' out' last → out.length ≤ out'.length := by
  intro n
  induction n with
  | zero =>
    intro p out p' out' last hn h
    cases hb : blkS s limit M p out using Res.elim with
    | met => rw [blocksS_met hb] at h; cases h
    | bad e => rw [blocksS_bad hb] at h; cases h
    | go q o l => have := blkS_go hb; omega
  | succ n ih =>
    intro p out p' out' last hn h
    cases hb : blkS s limit M p out using Res.elim with
    | met => rw [blocksS_met hb] at h; cases h
    | bad e => rw [blocksS_bad hb] at h; cases h
    | go q o l =>
      have hq := blkS_go hb
      have hl : out.length ≤ o.length := by rw [hq.2.2.1, List.length_append]; omega
      cases l with
      | true => rw [blocksS_last hb] at h; cases h; exact hl
      | false =>
        rw [blocksS_on hb] at h
        exact Nat.le_trans hl (ih q o (by omega) h)
/-- the lowest 32 bits -/
def low32 (n : Nat) : Nat := n % 4294967296
/-- a frame's end: told: its size; ck: a checksum; a: where the frame began in what came out -/
def endS (s : ByteArray) (told ck : Bool) (size a : Nat) (p : Nat) (out : List Nat) : Res :=
  if told = true ∧ size ≠ out.length - a then .bad 15
  else if ck = true then
    if s.size < p + 4 then .bad 2
    else if numN (gOf s) p 4 ≠ low32 (xsumN (baOf (out.drop a))) then .bad 16
    else .go (p + 4) out true
  else .go p out true
def hdM (s : ByteArray) (p : Nat) : Int := ((mostP (hWin (gOf s p) (hdV s p) (hdZ s p)) : Nat) : Int)
/-- behind a frame's blocks -/
def afterS (s : ByteArray) (told ck : Bool) (size a : Nat) : Res → Res
  | none => .met
  | some (.inl e) => .bad e
  | some (.inr (p, out, _)) => endS s told ck size a p out
/-- a frame from place p on, behind its first four bytes -/
def frameS (s : ByteArray) (limit : Int) (p : Nat) (out : List Nat) : Res :=
  if hdE s p ≠ 0 then .bad (hdE s p)
  else afterS s (decide (0 < sizeW (gOf s p))) (decide (gOf s p / 4 % 2 = 1)) (hSize (gOf s p) (hdZ s p)) out.length (blocksS s limit (hdM s p) (hdEnd s p) out)
theorem num_small (s : ByteArray) (p n : Nat) (h : n ≤ 4) : numN (gOf s) p n < 4294967296 := by
  have h1 := numN_lt (gOf s) (gOf_lt s) n p
  have h2 : 256 ^ n ≤ 256 ^ 4 := Nat.pow_le_pow_right (by omega) h
  omega
theorem num_eight (s : ByteArray) (p n : Nat) (h : n ≤ 8) : numN (gOf s) p n < 18446744073709551616 := by
  have h1 := numN_lt (gOf s) (gOf_lt s) n p
  have h2 : 256 ^ n ≤ 256 ^ 8 := Nat.pow_le_pow_right (by omega) h
  omega
theorem hSize_lt (s : ByteArray) (p : Nat) : hSize (gOf s p) (hdZ s p) < 18446744073709551616 := by
  unfold hSize hdZ
  split
  · rename_i h
    rw [h]
    have := num_small s (p + 1 + winW (gOf s p) + dictW (gOf s p)) 2 (by omega)
    omega
  · exact num_eight _ _ _ (sizeW_le _ (gOf_lt s p))
theorem endS_go {s : ByteArray} {told ck : Bool} {size a p : Nat} {out : List Nat} {p' : Nat} {out' : List Nat} {last : Bool} (h : endS s told ck size a p out = .go p' out' last) : p ≤ p' ∧ out' = out := by
  unfold endS at h
  split at h
  · cases h
  · split at h
    · split at h
      · cases h
      · split at h
        · cases h
        · cases h; exact ⟨by omega, rfl⟩
    · cases h; exact ⟨by omega, rfl⟩
theorem hdEnd_gt (s : ByteArray) (p : Nat) : p < hdEnd s p := by unfold hdEnd; omega
theorem frameS_go {s : ByteArray} {limit : Int} {p : Nat} {out : List Nat} {p' : Nat} {out' : List Nat} {last : Bool} (h : frameS s limit p out = .go p' out' last) : p < p' := by
  unfold frameS at h
  split at h
  · cases h
  · unfold afterS at h
    split at h
    · cases h
    · cases h
    · rename_i hb
      have h1 := blocksS_go _ _ _ (Nat.le_refl _) hb
      have h2 := endS_go h
      have h3 := hdEnd_gt s p
      omega
/-- what stands at place p: a frame, or bytes that are passed over -/
def nextS (s : ByteArray) (limit : Int) (p : Nat) (out : List Nat) : Res :=
  if s.size < p + 4 then .bad 2
  else if numN (gOf s) p 4 = 4247762216 then frameS s limit (p + 4) out
  else if 407710288 ≤ numN (gOf s) p 4 ∧ numN (gOf s) p 4 ≤ 407710303 then
    if passE s (p + 4) ≠ 0 then .bad (passE s (p + 4)) else .go (p + 4 + 4 + numN (gOf s) (p + 4) 4) out true
  else .bad 3
theorem nextS_go {s : ByteArray} {limit : Int} {p : Nat} {out : List Nat} {p' : Nat} {out' : List Nat} {last : Bool} (h : nextS s limit p out = .go p' out' last) : p < p' := by
  unfold nextS at h
  split at h
  · cases h
  · split at h
    · have := frameS_go h; omega
    · split at h
      · split at h
        · cases h
        · cases h; omega
      · cases h
/-- all that the bytes say from place p on; n: at most so many frames -/
def readF (s : ByteArray) (limit : Int) : Nat → Nat → List Nat → Res
  | 0, p, out => .go p out true
  | n + 1, p, out => if p < s.size then
      match nextS s limit p out with
      | none => .met
      | some (.inl e) => .bad e
      | some (.inr (p', out', _)) => readF s limit n p' out'
    else .go p out true
def readS (s : ByteArray) (limit : Int) (p : Nat) (out : List Nat) : Res := readF s limit (s.size - p) p out
theorem readF_any {s : ByteArray} {limit : Int} : ∀ (n m p : Nat) (out : List Nat), s.size - p ≤ n → s.size - p ≤ m → readF s limit n p out = readF s limit m p out := by
  intro n
  induction n with
  | zero =>
    intro m p out h1 _
    cases m with
    | zero => rfl
    | succ m => rw [readF, readF, if_neg (by omega)]
  | succ n ih =>
    intro m p out h1 h2
    cases m with
    | zero => rw [readF, readF, if_neg (by omega)]
    | succ m =>
      rw [readF, readF]
      by_cases hp : p < s.size
      · rw [if_pos hp, if_pos hp]
        cases hb : nextS s limit p out using Res.elim with
        | met => rfl
        | bad e => rfl
        | go q o l =>
          have hq := nextS_go hb
          show readF s limit n q o = readF s limit m q o
          exact ih m q o (by omega) (by omega)
      · rw [if_neg hp, if_neg hp]
theorem readS_end {s : ByteArray} {limit : Int} {p : Nat} {out : List Nat} (h : ¬ p < s.size) : readS s limit p out = .go p out true := by
  unfold readS
  rw [show s.size - p = 0 by omega, readF]
theorem readS_met {s : ByteArray} {limit : Int} {p : Nat} {out : List Nat} (h0 : p < s.size) (h : nextS s limit p out = .met) : readS s limit p out = .met := by
  unfold readS
  rw [readF_any _ (s.size - p + 1) p out (Nat.le_refl _) (by omega), readF, if_pos h0, h]
theorem readS_bad {s : ByteArray} {limit : Int} {p : Nat} {out : List Nat} {e : Int} (h0 : p < s.size) (h : nextS s limit p out = .bad e) : readS s limit p out = .bad e := by
  unfold readS
  rw [readF_any _ (s.size - p + 1) p out (Nat.le_refl _) (by omega), readF, if_pos h0, h]
theorem readS_on {s : ByteArray} {limit : Int} {p : Nat} {out : List Nat} {p' : Nat} {out' : List Nat} {last : Bool} (h0 : p < s.size) (h : nextS s limit p out = .go p' out' last) : readS s limit p out = readS s limit p' out' := by
  have hq := nextS_go h
  unfold readS
  rw [readF_any _ (s.size - p + 1) p out (Nat.le_refl _) (by omega), readF, if_pos h0, h]
  show readF s limit (s.size - p) p' out' = _
  exact readF_any _ _ p' out' (by omega) (by omega)
/-- an error is one -/
theorem blkS_bad {s : ByteArray} {limit M : Int} {p : Nat} {out : List Nat} {e : Int} (h : blkS s limit M p out = .bad e) : e ≠ 0 := by
  unfold blkS at h
  split at h
  · cases h; decide
  · split at h
    · cases h; decide
    · split at h
      · cases h; decide
      · split at h
        · cases h
        · split at h
          · cases h; decide
          · cases h
theorem blocksS_bad0 {s : ByteArray} {limit M : Int} : ∀ (n p : Nat) (out : List Nat) {e : Int}, s.size - p ≤ n → blocksS s limit M p out = .bad e → e ≠ 0 := by
  intro n
  induction n with
  | zero =>
    intro p out e hn h
    cases hb : blkS s limit M p out using Res.elim with
    | met => rw [blocksS_met hb] at h; cases h
    | bad e => rw [blocksS_bad hb] at h; cases h; exact blkS_bad hb
    | go q o l => have := blkS_go hb; omega
  | succ n ih =>
    intro p out e hn h
    cases hb : blkS s limit M p out using Res.elim with
    | met => rw [blocksS_met hb] at h; cases h
    | bad e => rw [blocksS_bad hb] at h; cases h; exact blkS_bad hb
    | go q o l =>
      have hq := blkS_go hb
      cases l with
      | true => rw [blocksS_last hb] at h; cases h
      | false => rw [blocksS_on hb] at h; exact ih q o (by omega) h
theorem endS_bad {s : ByteArray} {told ck : Bool} {size a p : Nat} {out : List Nat} {e : Int} (h : endS s told ck size a p out = .bad e) : e ≠ 0 := by
  unfold endS at h
  split at h
  · cases h; decide
  · split at h
    · split at h
      · cases h; decide
      · split at h
        · cases h; decide
        · cases h
    · cases h
theorem frameS_bad {s : ByteArray} {limit : Int} {p : Nat} {out : List Nat} {e : Int} (h : frameS s limit p out = .bad e) : e ≠ 0 := by
  unfold frameS at h
  split at h
  · rename_i h0; cases h; exact h0
  · unfold afterS at h
    split at h
    · cases h
    · rename_i hb; cases h; exact blocksS_bad0 _ _ _ (Nat.le_refl _) hb
    · exact endS_bad h
theorem nextS_bad {s : ByteArray} {limit : Int} {p : Nat} {out : List Nat} {e : Int} (h : nextS s limit p out = .bad e) : e ≠ 0 := by
  unfold nextS at h
  split at h
  · cases h; decide
  · split at h
    · exact frameS_bad h
    · split at h
      · split at h
        · rename_i h0; cases h; exact h0
        · cases h
      · cases h; decide
end Go.Proofs.Ytkfilgfcgmohlaa
namespace Go.Proofs.Ytkfilgfcgmohlaa
open Go.RowKit
theorem pInfo {P : Program} {t : TypeId} {z : Value} {a b : Nat} (h : (P.info? t).map (fun i => (i.zero, i.size, i.bytes)) = some (some z, a, b)) : ∃ i, P.info? t = some i ∧ i.zero = some z ∧ i.size = a ∧ i.bytes = b := by
  cases hi : P.info? t with
  | none => rw [hi] at h; cases h
  | some i => rw [hi] at h; simp at h; exact ⟨i, rfl, h.1, h.2.1, h.2.2⟩
theorem pByte : (Try.prog.info? 5).map (fun i => (i.zero, i.size, i.bytes)) = some (some (.int .u8 0), 1, 1) := by kernel_rfl
/-- one call's work: at block d; what came out lies at block g -/
structure DSt (w : World) (d g : Nat) (s : ByteArray) (limit k : Nat) (out : List Nat) : Prop where
  rest : ∃ r, w.cell? ⟨d, 0, none⟩ = some (.string r) ∧ RestAt s k r
  c1 : w.cell? ⟨d, 1, none⟩ = some (.int .i64 (limit : Int))
  c2 : w.cell? ⟨d, 2, none⟩ = some (.slice (some ⟨g, 0, none⟩) out.length limit)
  fz : ∀ i, w.frozen? ⟨d, i, none⟩ = false
  fg : ∀ i, w.frozen? ⟨g, i, none⟩ = false
  cg : ∀ i, i < limit → (w.cell? ⟨g, i, none⟩).isSome = true
  og : ∀ i, i < out.length → w.cell? ⟨g, i, none⟩ = some (.int .u8 (out.getD i 0 : Int))
  ol : out.length ≤ limit
  ne : d ≠ g
  gl : g < w.heap.size
  lm : limit ≤ 131072
  lt : ∀ x ∈ out, x < 256
theorem DSt.dl {w : World} {d g : Nat} {s : ByteArray} {limit k : Nat} {out : List Nat} (h : DSt w d g s limit k out) : d < w.heap.size := block_lt_of_cell h.c1
/-- w' is w but for d, g, and new blocks -/
def Upg (d g : Nat) (w w' : World) : Prop := w'.os = w.os ∧ w'.tape = w.tape ∧ w'.output = w.output ∧ w.heap.size ≤ w'.heap.size ∧ ∀ k, k < w.heap.size → k ≠ d → k ≠ g → w'.heap[k]? = w.heap[k]?
theorem Upg.refl (d g : Nat) (w : World) : Upg d g w w := ⟨rfl, rfl, rfl, Nat.le_refl _, fun _ _ _ _ => rfl⟩
theorem Upg.trans {d g : Nat} {w w1 w2 : World} (h : Upg d g w w1) (k : Upg d g w1 w2) : Upg d g w w2 :=
  ⟨k.1.trans h.1, k.2.1.trans h.2.1, k.2.2.1.trans h.2.2.1, Nat.le_trans h.2.2.2.1 k.2.2.2.1, fun i h1 h2 h3 => (k.2.2.2.2 i (Nat.lt_of_lt_of_le h1 h.2.2.2.1) h2 h3).trans (h.2.2.2.2 i h1 h2 h3)⟩
theorem Upd.upg {d g : Nat} {w w' : World} (h : Upd d w w') : Upg d g w w' := ⟨h.os, h.tape, h.output, h.size, fun k h1 h2 _ => h.block k h1 h2⟩
theorem Upd.upg' {d g : Nat} {w w' : World} (h : Upd g w w') : Upg d g w w' := ⟨h.os, h.tape, h.output, h.size, fun k h1 _ h2 => h.block k h1 h2⟩
theorem Upg.drew {d g : Nat} {w w1 : World} (h : Upg d g w w1) : Upg d g w w1.drew := ⟨h.1, h.2.1, h.2.2.1, h.2.2.2.1, h.2.2.2.2⟩
theorem DSt.drew {w : World} {d g : Nat} {s : ByteArray} {limit k : Nat} {out : List Nat} (h : DSt w d g s limit k out) : DSt w.drew d g s limit k out := ⟨h.rest, h.c1, h.c2, h.fz, h.fg, h.cg, h.og, h.ol, h.ne, h.gl, h.lm, h.lt⟩
theorem DSt.same {w w' : World} {d g : Nat} {s : ByteArray} {limit k : Nat} {out : List Nat} (h : DSt w d g s limit k out) (he : w'.heap = w.heap) : DSt w' d g s limit k out := by
  have hc : ∀ p, w'.cell? p = w.cell? p := fun p => World.cell?_of_block (by rw [he])
  have hf : ∀ p, w'.frozen? p = w.frozen? p := fun p => World.frozen?_of_block (by rw [he])
  exact ⟨by simp only [hc]; exact h.rest, by rw [hc]; exact h.c1, by rw [hc]; exact h.c2, fun i => by rw [hf]; exact h.fz i, fun i => by rw [hf]; exact h.fg i, fun i hi => by rw [hc]; exact h.cg i hi, fun i hi => by rw [hc]; exact h.og i hi, h.ol, h.ne, by rw [he]; exact h.gl, h.lm, h.lt⟩
/-- the place turns -/
theorem DSt.upd {w w' : World} {d g : Nat} {s : ByteArray} {limit k k' : Nat} {out : List Nat} {r : ByteArray} (h : DSt w d g s limit k out) (hU : Upd d w w') (c0 : w'.cell? ⟨d, 0, none⟩ = some (.string r)) (hr : RestAt s k' r) (c1 : w'.cell? ⟨d, 1, none⟩ = w.cell? ⟨d, 1, none⟩) (c2 : w'.cell? ⟨d, 2, none⟩ = w.cell? ⟨d, 2, none⟩) (fz : ∀ i, w'.frozen? ⟨d, i, none⟩ = false) : DSt w' d g s limit k' out := by
  have hb : w'.heap[g]? = w.heap[g]? := hU.block g h.gl (fun e => h.ne e.symm)
  exact ⟨⟨r, c0, hr⟩, c1.trans h.c1, c2.trans h.c2, fz, fun i => (World.frozen?_of_block (w := w) (a := ⟨g, i, none⟩) hb).trans (h.fg i), fun i hi => by rw [World.cell?_of_block (w := w) (a := ⟨g, i, none⟩) hb]; exact h.cg i hi, fun i hi => (World.cell?_of_block (w := w) (a := ⟨g, i, none⟩) hb).trans (h.og i hi), h.ol, h.ne, Nat.lt_of_lt_of_le h.gl hU.size, h.lm, h.lt⟩
theorem DSt.set0 {w : World} {d g : Nat} {s : ByteArray} {limit k k' : Nat} {out : List Nat} {r : ByteArray} (h : DSt w d g s limit k out) (hr : RestAt s k' r) : DSt (w.setCell ⟨d, 0, none⟩ (.string r)) d g s limit k' out := by
  obtain ⟨r0, hr0, _⟩ := h.rest
  exact h.upd ((Upd.refl d w).setCell 0 _) (cs_same hr0) hr (cs_other (addr_ne (by omega))) (cs_other (addr_ne (by omega))) (fun i => by rw [World.frozen?_setCell]; exact h.fz i)
def bytesP (s : ByteArray) : List Nat := cutL s 0 s.size
theorem bytesP_len (s : ByteArray) : (bytesP s).length = s.size := cutL_len _ _ _
theorem bytesP_at (s : ByteArray) (i : Nat) (h : i < s.size) : (bytesP s).getD i 0 = gOf s i := by simp [bytesP, cutL, List.getD, h]
theorem byteCells_at (s : ByteArray) (j : Nat) (h : j < (byteCells s).length) : (byteCells s)[j] = .int .u8 ((gOf s j : Nat) : Int) := by
  have hj : j < s.data.toList.length := by rw [byteCells_length] at h; simpa using h
  have he : (byteCells s)[j]? = some (.int .u8 ((gOf s j : Nat) : Int)) := by
    show (s.data.toList.map fun b => Value.int .u8 b.toNat)[j]? = _
    rw [List.getElem?_map, List.getElem?_eq_getElem hj]
    simp only [gOf, List.getD, List.getElem?_eq_getElem hj, Option.getD_some, Option.map_some]
  rw [List.getElem?_eq_getElem h] at he
  exact Option.some.inj he
theorem setCells_upd (b : Nat) : ∀ (vs : List Value) (o : Nat) (w : World), Upd b w (w.setCells b o vs) := fun vs o w => Upd.setCells vs o (Upd.refl b w)
/-- bytes come out -/
theorem DSt.grow {w : World} {d g : Nat} {s : ByteArray} {limit k : Nat} {out : List Nat} (h : DSt w d g s limit k out) (t : ByteArray) (hl : out.length + t.size ≤ limit) : DSt ((w.setCells g (out.length) (byteCells t)).setCell ⟨d, 2, none⟩ (.slice (some ⟨g, 0, none⟩) (out.length + t.size) limit)) d g s limit k (out ++ bytesP t) ∧ Upg d g w ((w.setCells g (out.length) (byteCells t)).setCell ⟨d, 2, none⟩ (.slice (some ⟨g, 0, none⟩) (out.length + t.size) limit)) := by
  have hU : Upd g w (w.setCells g (out.length) (byteCells t)) := setCells_upd _ _ _ _
  have hd : (w.setCells g (out.length) (byteCells t)).heap[d]? = w.heap[d]? := hU.block d h.dl h.ne
  obtain ⟨r, hr, hra⟩ := h.rest
  have hle := byteCells_length t
  refine ⟨⟨⟨r, ?_, hra⟩, ?_, ?_, ?_, ?_, ?_, ?_, ?_, h.ne, ?_, h.lm, fun x hx => (List.mem_append.1 hx).elim (h.lt x) (cutL_lt _ _ _ x)⟩, (hU.upg').trans (Upd.upg ((Upd.refl d _).setCell 2 _))⟩
  · rw [cs_other (addr_ne (by omega))]; exact (World.cell?_of_block (w := w) (a := ⟨d, 0, none⟩) hd).trans hr
  · rw [cs_other (addr_ne (by omega))]; exact (World.cell?_of_block (w := w) (a := ⟨d, 1, none⟩) hd).trans h.c1
  · rw [List.length_append, bytesP_len]; exact cs_same ((World.cell?_of_block (w := w) (a := ⟨d, 2, none⟩) hd).trans h.c2)
  · intro i; rw [World.frozen?_setCell, World.frozen?_setCells]; exact h.fz i
  · intro i; rw [World.frozen?_setCell, World.frozen?_setCells]; exact h.fg i
  · intro i hi
    rw [cs_other (fun e => h.ne (by injection e))]
    by_cases h1 : out.length ≤ i ∧ i < out.length + t.size
    · have := World.cell?_setCells_in g (byteCells t) (out.length) w (fun j hj => h.cg _ (by omega)) (i - out.length) (by omega)
      rw [show out.length + (i - out.length) = i by omega] at this
      rw [this]; rfl
    · rw [World.cell?_setCells_out _ _ _ _ _ (fun _ _ => by dsimp only; omega)]; exact h.cg i hi
  · intro i hi
    rw [List.length_append, bytesP_len] at hi
    rw [cs_other (fun e => h.ne (by injection e))]
    by_cases h1 : out.length ≤ i
    · have := World.cell?_setCells_in g (byteCells t) (out.length) w (fun j hj => h.cg _ (by omega)) (i - out.length) (by omega)
      rw [show out.length + (i - out.length) = i by omega] at this
      rw [this, byteCells_at]
      have hw : (out ++ bytesP t).getD i 0 = gOf t (i - out.length) := by
        rw [← bytesP_at t _ (by omega)]
        simp [List.getD, List.getElem?_append_right h1]
      rw [hw]
    · rw [World.cell?_setCells_out _ _ _ _ _ (fun _ _ => by dsimp only; omega), h.og i (by omega)]
      have hw : (out ++ bytesP t).getD i 0 = out.getD i 0 := by
        simp [List.getD, List.getElem?_append_left (show i < out.length by omega)]
      rw [hw]
  · rw [List.length_append, bytesP_len]; exact hl
  · rw [World.size_setCell]; exact Nat.lt_of_lt_of_le h.gl hU.size
/-- 'append(out, string...)', at a plain region's list -/
theorem str_list {W : World} {g L cap : Nat} {t : ByteArray} {ops : Array Oper} {rest : List Oper} {o : Oper} {a : Act} {Q : Exit → Act → World → Prop} (hgd : o.guard = none) (s x : Operand)
    (ho : o.op = .call { callee := .builtin .append, args := #[s, x], argTypes := #[33, 9] }) (hs : a.eval s = .slice (some ⟨g, 0, none⟩) L cap) (hx : a.eval x = .string t)
    (hl : L + t.size ≤ cap) (hc : ∀ i, i < cap → (W.cell? ⟨g, i, none⟩).isSome = true) (hf : ∀ i, W.frozen? ⟨g, i, none⟩ = false)
    (hK : ∀ w2, Hid (w2 = W.setCells g L (byteCells t)) → wpList Try.prog ops Q rest (a.put o.dst (.slice (some ⟨g, 0, none⟩) (L + t.size) cap)) w2) :
    wpList Try.prog ops Q (o :: rest) a W := by
  refine wpList_plain hgd fun _ hKK => ?_
  obtain ⟨i0, hi0, hz0, hz1, hz2⟩ := pInfo pByte
  have hr := run_append_room_src (P := Try.prog) (w := W) 33 9 o.type 5 i0 Try.underlying33 hi0 g 0 L cap (.string t) t.size (byteCells t) (by rw [hz1]; exact Src.ofString _ Try.underlying9 t) hl (fun j hj => by rw [byteCells_length] at hj; exact hc _ (by rw [hz1]; omega)) (fun j _ => hf _)
  rw [hz1, show 0 + L * 1 = L by omega] at hr
  unfold Oper.wp execOp
  simp only [ho, resolve, invoke, builtin, Sem.run_bind, Sem.run_pure, Result.andThen_ok, List.map_toArray, List.map_cons, List.map_nil, hs, hx, hr]
  exact hKK _ _ (hK _ rfl)
def repL (l : List Nat) : Nat → List Nat
  | 0 => []
  | n + 1 => repL l n ++ l
theorem repL_len (l : List Nat) : ∀ n, (repL l n).length = n * l.length
  | 0 => by simp [repL]
  | n + 1 => by rw [repL, List.length_append, repL_len l n, Nat.add_mul, Nat.one_mul]
/-- what comeOut answers -/
def OutP (d g : Nat) (s : ByteArray) (limit k : Nat) (out : List Nat) (t : ByteArray) (times : Nat) (w : World) (x : Ending) (w' : World) : Prop :=
  (limit < out.length + times * t.size ∧ x = .returned (.int .i64 14) ∧ Upg d g w w') ∨ (out.length + times * t.size ≤ limit ∧ x = .returned (.int .i64 0) ∧ DSt w' d g s limit k (out ++ repL (bytesP t) times) ∧ Upg d g w w')
set_option maxRecDepth 100000 in
set_option maxHeartbeats 2000000 in
theorem pComeOut (d g : Nat) (s : ByteArray) (limit k : Nat) (out : List Nat) (t : ByteArray) (times : Nat) (w : World) (h : DSt w d g s limit k out) (ht : t.size ≤ 1048576) (hn : times ≤ 16777216) :
    Calls Try.prog 92 #[.pointer (some ⟨d, 0, none⟩), .string t, .int .i64 (times : Int)] w fun x w' => OutP d g s limit k out t times w x w' := by
  have c1 := h.c1
  have c2 := h.c2
  have hol := h.ol
  have hlm := h.lm
  have HD : Hid (DSt w d g s limit k out) := h
  obtain ⟨m, hm⟩ : ∃ m, m = times * t.size := ⟨_, rfl⟩
  have hmb : m ≤ 17592186044416 := by
    rw [hm]; exact Nat.mul_le_mul hn ht
  have hmI : (t.size : Int) * (times : Int) = (m : Int) := by rw [hm]; push_cast; exact Int.mul_comm _ _
  have HM : Hid (m = times * t.size) := hm
  clear h hm
  by_cases hb : limit < out.length + m
  · have hd : decide ((limit : Int) - (out.length : Int) < (m : Int)) = true := decide_eq_true (by omega)
    go_enter Try.func92, Try.ntmps92
    go_wp2_with fail
    go_quiet (fail)
    go_wp2_with fail
    go_ret
    exact .inl ⟨by rw [← HM.out]; exact hb, rfl, by repeat (first | exact Upg.refl _ _ _ | refine Upg.drew ?_)⟩
  · have hd : decide ((limit : Int) - (out.length : Int) < (m : Int)) = false := decide_eq_false (by omega)
    go_enter Try.func92, Try.ntmps92
    go_wp2_with fail
    go_quiet (fail)
    go_wp2_with fail
    go_loopw [7] (fun iv wr => ∃ j : Nat, j ≤ times ∧ iv = .int .i64 (j : Int) ∧ DSt wr d g s limit k (out ++ repL (bytesP t) j) ∧ Upg d g w wr) (fun iv _ => (times - intOf iv).toNat)
    case atStart => exact ⟨0, by omega, rfl, by rw [repL, List.append_nil]; exact HD.out.same rfl, Upg.refl _ _ _⟩
    case round =>
      obtain ⟨j, hj, rfl, hs, hu⟩ := hrel
      by_cases hlt : j < times
      · have hltI : (j : Int) < (times : Int) := by omega
        have k2 := hs.c2
        have kf := hs.fz 2
        have kg := hs.cg
        have kh := hs.fg
        have HS : Hid (DSt wr d g s limit k (out ++ repL (bytesP t) j) ∧ Upg d g w wr) := ⟨hs, hu⟩
        have HL : Hid ((out ++ repL (bytesP t) j).length + t.size ≤ limit) := by
          show _ ≤ _
          rw [List.length_append, repL_len, bytesP_len]
          have : (j + 1) * t.size ≤ times * t.size := Nat.mul_le_mul_right _ (by omega)
          rw [Nat.add_mul, Nat.one_mul] at this
          rw [← HM.out] at this
          omega
        obtain ⟨L, hL⟩ : ∃ L, L = (out ++ repL (bytesP t) j).length := ⟨_, rfl⟩
        rw [← hL] at k2 HL
        have HLe : Hid (L = (out ++ repL (bytesP t) j).length) := hL
        have hne : g ≠ d := fun e => hs.ne e.symm
        clear hs hu hL
        go_wp2_with (at_builtin; refine str_list (by rfl) (.tmp 32) (.tmp 33) (by rfl) (by first | rfl | simp) (by first | rfl | simp [Act.eval]) HL.out kg kh ?_; intro w2 hw2; have d2 : w2.cell? ⟨d, 2, none⟩ = some (.slice (some ⟨g, 0, none⟩) L limit) := (by rw [hw2.out, World.cell?_setCells_out _ _ _ _ _ (fun e => absurd (Eq.symm e) hne)]; exact k2); have e2 : w2.frozen? ⟨d, 2, none⟩ = false := (by rw [hw2.out, World.frozen?_setCells]; exact kf))
        have hg := HS.out.1.grow t (by rw [← HLe.out]; exact HL.out)
        rw [← HLe.out, ← hw2.out] at hg
        refine ⟨⟨j + 1, by omega, rfl, ?_, HS.out.2.trans hg.2⟩, by simp [intOf]; omega⟩
        rw [repL, ← List.append_assoc]
        exact hg.1
      · obtain rfl : j = times := by omega
        have HS : Hid (DSt wr d g s limit k (out ++ repL (bytesP t) j) ∧ Upg d g w wr) := ⟨hs, hu⟩
        clear hs hu
        have hd2 : decide ((j : Int) < (j : Int)) = false := decide_eq_false (by omega)
        go_wp2_with fail
        go_ret
        exact .inr ⟨by rw [← HM.out]; omega, rfl, HS.out.1, HS.out.2⟩
end Go.Proofs.Ytkfilgfcgmohlaa
namespace Go.Proofs.Ytkfilgfcgmohlaa
open Go.RowKit
/-- what a step of the program answers, by what the bytes say -/
def StepP (d g : Nat) (s : ByteArray) (limit : Nat) (r : Res) (w : World) (x : Ending) (w' : World) : Prop :=
  Upg d g w w' ∧ match r with
  | none => ∃ e : Int, e ≠ 0 ∧ x = .returned (.int .i64 e)
  | some (.inl e) => x = .returned (.int .i64 e)
  | some (.inr (p', out', _)) => x = .returned (.int .i64 0) ∧ DSt w' d g s limit p' out'
theorem blk_lt (s : ByteArray) (p : Nat) : blkH s p < 16777216 := by
  have := numN_lt (gOf s) (gOf_lt s) 3 p
  unfold blkH
  omega
theorem rep_one (l : List Nat) : repL l 1 = l := by simp [repL]
theorem rep_same (x : Nat) : ∀ n, repL [x] n = List.replicate n x
  | 0 => rfl
  | n + 1 => by rw [repL, rep_same x n, List.replicate_succ']
theorem bytesP_cut {s t : ByteArray} {p : Nat} {n : Nat} (hn : t.size = n) (h : ∀ i, i < n → gOf t i = gOf s (p + i)) : bytesP t = cutL s p n := by
  unfold bytesP cutL
  rw [hn]
  refine List.map_congr_left (fun i hi => ?_)
  rw [Nat.zero_add]
  exact h i (List.mem_range.1 hi)
set_option maxRecDepth 100000 in
set_option maxHeartbeats 2000000 in
theorem pBlock (d g : Nat) (s : ByteArray) (limit p : Nat) (out : List Nat) (M : Nat) (w : World) (h : DSt w d g s limit (p + 3) out) (hp : p + 3 ≤ s.size) (hM : M ≤ 131072) :
    Calls Try.prog 75 #[.pointer (some ⟨d, 0, none⟩), .int .i64 ((blkH s p / 2 % 4 : Nat) : Int), .int .i64 ((blkH s p / 8 : Nat) : Int), .int .i64 (M : Int)] w fun x w' => StepP d g s limit (blkS s (limit : Int) (M : Int) p out) w x w' := by
  have hh := blk_lt s p
  obtain ⟨kd, hkd⟩ : ∃ kd, kd = blkH s p / 2 % 4 := ⟨_, rfl⟩
  obtain ⟨n, hn⟩ : ∃ n, n = blkH s p / 8 := ⟨_, rfl⟩
  rw [← hkd, ← hn]
  have hk4 : kd < 4 := by omega
  have hnl : n < 2097152 := by omega
  obtain ⟨wd, hwd⟩ : ∃ wd, wd = if kd = 1 then 1 else n := ⟨_, rfl⟩
  obtain ⟨r, hr, hra⟩ := h.rest
  have hz := h.fz 0
  have HD : Hid (DSt w d g s limit (p + 3) out) := h
  have HB : Hid (blkS s (limit : Int) (M : Int) p out = if kd = 3 ∨ (M : Int) < (n : Int) then .bad 7 else if s.size < p + 3 + wd then .bad 2 else if kd = 2 then .met else if (limit : Int) < (out.length : Int) + (n : Int) then .bad 14 else .go (p + 3 + wd) (out ++ blkL s p (blkH s p)) (decide (blkH s p % 2 = 1))) := by
    show _ = _
    unfold blkS
    rw [if_neg (by omega), ← hkd, ← hn, show blkW (blkH s p) = wd by rw [hwd, hkd, hn]; rfl]
  have HL : Hid (blkL s p (blkH s p) = if kd = 0 then cutL s (p + 3) n else List.replicate n (gOf s (p + 3))) := by
    show _ = _
    unfold blkL
    rw [← hkd, ← hn]
  have hwdb : wd ≤ 2097152 := by rw [hwd]; split <;> omega
  have HW : Hid (wd = if kd = 1 then 1 else n) := hwd
  clear h hkd hn hwd hh
  by_cases h3 : kd = 3
  · rw [if_pos (Or.inl h3)] at HB
    have hb3 : ((kd : Int) == 3) = true := by rw [beq_iff_eq]; omega
    go_enter Try.func75, Try.ntmps75
    go_wp2_with fail
    go_ret
    rw [HB.out]; exact ⟨by repeat (first | exact Upg.refl _ _ _ | refine Upg.drew ?_), rfl⟩
  have hb3 : ((kd : Int) == 3) = false := by rw [beq_eq_false_iff_ne]; omega
  by_cases hbig : (M : Int) < (n : Int)
  · rw [if_pos (Or.inr hbig)] at HB
    have hbb : decide ((M : Int) < (n : Int)) = true := decide_eq_true hbig
    go_enter Try.func75, Try.ntmps75
    go_wp2_with fail
    go_ret
    rw [HB.out]; exact ⟨by repeat (first | exact Upg.refl _ _ _ | refine Upg.drew ?_), rfl⟩
  have hbb : decide ((M : Int) < (n : Int)) = false := decide_eq_false hbig
  rw [if_neg (by omega)] at HB
  by_cases h1 : kd = 1
  · have hb1 : ((kd : Int) == 1) = true := by rw [beq_iff_eq]; omega
    have hb0 : ((kd : Int) == 0) = false := by rw [beq_eq_false_iff_ne]; omega
    rw [if_pos h1] at HW
    rw [if_neg (show ¬ kd = 2 by omega)] at HB
    rw [if_neg (by omega)] at HL
    rw [HW.out] at HB
    go_enter Try.func75, Try.ntmps75
    go_wp2_with fail
    by_cases hc : s.size < p + 3 + 1
    · rw [if_pos hc] at HB
      refine (show Calls _ _ #[.pointer (some ⟨d, 0, none⟩), .int .i64 ((1 : Nat) : Int)] _ _ from takeR_no d s r (p + 3) 1 _ hra hr hc).mono ?_
      rintro x w1 ⟨rfl, hw1⟩
      rw [hw1]
      clear hw1
      go_wp2_with fail
      go_ret
      rw [HB.out]; exact ⟨by repeat (first | exact Upg.refl _ _ _ | refine Upg.drew ?_), rfl⟩
    · rw [if_neg hc] at HB
      refine (show Calls _ _ #[.pointer (some ⟨d, 0, none⟩), .int .i64 ((1 : Nat) : Int)] _ _ from takeR_ok d s r (p + 3) 1 _ hra hr hz (by omega)).mono ?_
      rintro x w1 ⟨part, r1, rfl, hps, hpb, hw1, hr1⟩
      have HP : Hid (part.size = 1 ∧ ∀ i, i < 1 → gOf part i = gOf s (p + 3 + i)) := ⟨hps, hpb⟩
      have HD1 : Hid (DSt w1 d g s limit (p + 3 + 1) out ∧ Upg d g w w1) := by rw [hw1]; exact ⟨HD.out.set0 hr1, Upd.upg ((Upd.refl d w).setCell 0 _)⟩
      clear hps hpb hw1 hr1 hr hra hz
      go_wp2_with fail
      refine (pComeOut d g s limit (p + 3 + 1) out part n _ HD1.out.1 (by rw [HP.out.1]; omega) (by omega)).mono ?_
      intro x w2 hq
      have hm : n * part.size = n := by rw [HP.out.1, Nat.mul_one]
      have hbp : bytesP part = [gOf s (p + 3)] := by rw [bytesP_cut HP.out.1 HP.out.2]; rfl
      rcases hq with ⟨hq1, rfl, hq4⟩ | ⟨hq1, rfl, hq2, hq3⟩
      · have HQ : Hid (limit < out.length + n ∧ Upg d g w w2) := by rw [hm] at hq1; exact ⟨hq1, HD1.out.2.trans hq4⟩
        clear hq1 hq4 hm hbp
        go_wp2_with fail
        go_ret
        rw [HB.out, if_pos (by have := HQ.out.1; omega)]; exact ⟨HQ.out.2, rfl⟩
      · have HQ : Hid (out.length + n ≤ limit ∧ DSt w2 d g s limit (p + 3 + 1) (out ++ List.replicate n (gOf s (p + 3))) ∧ Upg d g w w2) := by
          rw [hm] at hq1
          rw [hbp, rep_same] at hq2
          exact ⟨hq1, hq2, HD1.out.2.trans hq3⟩
        clear hq1 hq2 hq3 hm hbp
        go_wp2_with fail
        go_ret
        rw [HB.out, if_neg (by have := HQ.out.1; omega), HL.out]
        exact ⟨HQ.out.2.2, rfl, HQ.out.2.1⟩
  · have hb1 : ((kd : Int) == 1) = false := by rw [beq_eq_false_iff_ne]; omega
    rw [if_neg h1] at HW
    rw [HW.out] at HB
    go_enter Try.func75, Try.ntmps75
    go_wp2_with fail
    by_cases hc : s.size < p + 3 + n
    · rw [if_pos hc] at HB
      refine (takeR_no d s r (p + 3) n _ hra hr hc).mono ?_
      rintro x w1 ⟨rfl, hw1⟩
      rw [hw1]
      clear hw1
      go_wp2_with fail
      go_ret
      rw [HB.out]; exact ⟨by repeat (first | exact Upg.refl _ _ _ | refine Upg.drew ?_), rfl⟩
    · rw [if_neg hc] at HB
      refine (takeR_ok d s r (p + 3) n _ hra hr hz (by omega)).mono ?_
      rintro x w1 ⟨part, r1, rfl, hps, hpb, hw1, hr1⟩
      have HP : Hid (part.size = n ∧ ∀ i, i < n → gOf part i = gOf s (p + 3 + i)) := ⟨hps, hpb⟩
      have HD1 : Hid (DSt w1 d g s limit (p + 3 + n) out ∧ Upg d g w w1) := by rw [hw1]; exact ⟨HD.out.set0 hr1, Upd.upg ((Upd.refl d w).setCell 0 _)⟩
      clear hps hpb hw1 hr1 hr hra hz
      by_cases h0 : kd = 0
      · have hb0 : ((kd : Int) == 0) = true := by rw [beq_iff_eq]; omega
        rw [if_neg (by omega)] at HB
        rw [if_pos h0] at HL
        go_wp2_with fail
        refine (show Calls _ _ #[.pointer (some ⟨d, 0, none⟩), .string part, .int .i64 ((1 : Nat) : Int)] _ _ from pComeOut d g s limit (p + 3 + n) out part 1 _ HD1.out.1 (by rw [HP.out.1]; omega) (by omega)).mono ?_
        intro x w2 hq
        have hm : 1 * part.size = n := by rw [HP.out.1, Nat.one_mul]
        have hbp : bytesP part = cutL s (p + 3) n := bytesP_cut HP.out.1 HP.out.2
        rcases hq with ⟨hq1, rfl, hq4⟩ | ⟨hq1, rfl, hq2, hq3⟩
        · have HQ : Hid (limit < out.length + n ∧ Upg d g w w2) := by rw [hm] at hq1; exact ⟨hq1, HD1.out.2.trans hq4⟩
          clear hq1 hq4 hm hbp
          go_wp2_with fail
          go_ret
          rw [HB.out, if_pos (by have := HQ.out.1; omega)]; exact ⟨HQ.out.2, rfl⟩
        · have HQ : Hid (out.length + n ≤ limit ∧ DSt w2 d g s limit (p + 3 + n) (out ++ cutL s (p + 3) n) ∧ Upg d g w w2) := by
            rw [hm] at hq1
            rw [hbp, rep_one] at hq2
            exact ⟨hq1, hq2, HD1.out.2.trans hq3⟩
          clear hq1 hq2 hq3 hm hbp
          go_wp2_with fail
          go_ret
          rw [HB.out, if_neg (by have := HQ.out.1; omega), HL.out]
          exact ⟨HQ.out.2.2, rfl, HQ.out.2.1⟩
      · have hb0 : ((kd : Int) == 0) = false := by rw [beq_eq_false_iff_ne]; omega
        rw [if_pos (by omega)] at HB
        go_wp2_with fail
        go_ret
        rw [HB.out]; exact ⟨HD1.out.2, 7, by decide, rfl⟩
end Go.Proofs.Ytkfilgfcgmohlaa
namespace Go.Proofs.Ytkfilgfcgmohlaa
open Go.RowKit
theorem u64_and3 (x : Nat) (h : x < 4294967296) : bits .and .u64 (x : Int) 3 = ((x % 4 : Nat) : Int) := by
  rw [show (3 : Int) = ((3 : Nat) : Int) from rfl, u64_and_nat x 3 (by omega) (by omega)]
  rw [show (3 : Nat) = 2 ^ 2 - 1 from rfl, Nat.and_two_pow_sub_one_eq_mod]
theorem u64_and1 (x : Nat) (h : x < 4294967296) : bits .and .u64 (x : Int) 1 = ((x % 2 : Nat) : Int) := by
  rw [show (1 : Int) = ((1 : Nat) : Int) from rfl, u64_and_nat x 1 (by omega) (by omega)]
  rw [show (1 : Nat) = 2 ^ 1 - 1 from rfl, Nat.and_two_pow_sub_one_eq_mod]
/-- how much is left -/
def restLen (w : World) (d : Nat) : Nat := match w.cell? ⟨d, 0, none⟩ with | some (.string r) => r.size | _ => 0
theorem DSt.left {w : World} {d g : Nat} {s : ByteArray} {limit k : Nat} {out : List Nat} (h : DSt w d g s limit k out) : restLen w d = s.size - k ∧ k ≤ s.size := by
  obtain ⟨r, h1, h2⟩ := h.rest
  unfold restLen
  rw [h1]
  exact ⟨h2.size, h2.le⟩
set_option maxRecDepth 100000 in
set_option maxHeartbeats 2000000 in
theorem pBlocks (d g : Nat) (s : ByteArray) (limit k : Nat) (out : List Nat) (M : Nat) (w : World) (h : DSt w d g s limit k out) (hM : M ≤ 131072) :
    Calls Try.prog 64 #[.pointer (some ⟨d, 0, none⟩), .int .i64 (M : Int)] w fun x w' => StepP d g s limit (blocksS s (limit : Int) (M : Int) k out) w x w' := by
  have HD : Hid (DSt w d g s limit k out) := h
  clear h
  go_enter Try.func64, Try.ntmps64
  go_wp2_with fail
  go_loopw [5] (fun lv wr => ∃ (b : Bool) (k' : Nat) (out' : List Nat), lv = .bool b ∧ DSt wr d g s limit k' out' ∧ Upg d g w wr ∧ (if b = true then blocksS s (limit : Int) (M : Int) k out = .go k' out' true else blocksS s (limit : Int) (M : Int) k out = blocksS s (limit : Int) (M : Int) k' out')) (fun _ wr => restLen wr d)
  case atStart => exact ⟨false, k, out, rfl, HD.out, Upg.refl _ _ _, by rw [if_neg (by decide)]⟩
  case round =>
    obtain ⟨b, k', out', rfl, hs, hu, hb⟩ := hrel
    cases b with
    | true =>
      rw [if_pos rfl] at hb
      have HS : Hid (DSt wr d g s limit k' out' ∧ Upg d g w wr ∧ blocksS s (limit : Int) (M : Int) k out = .go k' out' true) := ⟨hs, hu, hb⟩
      clear hs hu hb
      go_wp2_with fail
      go_ret
      rw [HS.out.2.2]
      exact ⟨HS.out.2.1, rfl, HS.out.1⟩
    | false =>
      rw [if_neg (by decide)] at hb
      obtain ⟨r, hr, hra⟩ := hs.rest
      have hz := hs.fz 0
      have HS : Hid (DSt wr d g s limit k' out' ∧ Upg d g w wr ∧ blocksS s (limit : Int) (M : Int) k out = blocksS s (limit : Int) (M : Int) k' out') := ⟨hs, hu, hb⟩
      clear hs hu hb
      go_wp2_with fail
      by_cases hc : s.size < k' + 3
      · refine (show Calls _ _ #[.pointer (some ⟨d, 0, none⟩), .int .i64 ((3 : Nat) : Int)] _ _ from numR_no d s r k' 3 _ hra hr hc).mono ?_
        rintro x w1 ⟨rfl, hw1⟩
        rw [hw1]
        clear hw1
        go_wp2_with fail
        go_ret
        have hbk : blkS s (limit : Int) (M : Int) k' out' = .bad 2 := by unfold blkS; rw [if_pos hc]
        rw [HS.out.2.2, blocksS_bad hbk]
        exact ⟨HS.out.2.1, rfl⟩
      · refine (show Calls _ _ #[.pointer (some ⟨d, 0, none⟩), .int .i64 ((3 : Nat) : Int)] _ _ from numR_ok d s r k' 3 _ hra hr hz (by omega) (by omega)).mono ?_
        rintro x w1 ⟨rfl, r1, hw1, hr1⟩
        have HD1 : Hid (DSt w1 d g s limit (k' + 3) out' ∧ Upg d g wr w1) := by rw [hw1]; exact ⟨HS.out.1.set0 hr1, Upd.upg ((Upd.refl d wr).setCell 0 _)⟩
        have hh := blk_lt s k'
        rw [show numN (gOf s) k' 3 = blkH s k' from rfl]
        obtain ⟨H, hH⟩ : ∃ H, H = blkH s k' := ⟨_, rfl⟩
        rw [← hH] at hh ⊢
        have HH : Hid (H = blkH s k') := hH
        have h3 : bits .and .u64 ((H : Int) / 2) 3 = ((H / 2 % 4 : Nat) : Int) := by
          have := u64_and3 (H / 2) (by omega)
          rw [← this]; rfl
        have h1 : bits .and .u64 (H : Int) 1 = ((H % 2 : Nat) : Int) := u64_and1 H (by omega)
        have hw3 : IntKind.i64.wrap ((H / 2 % 4 : Nat) : Int) = ((H / 2 % 4 : Nat) : Int) := i64_id _ (by omega) (by omega)
        have hw8 : IntKind.i64.wrap ((H : Int) / 8) = ((H / 8 : Nat) : Int) := by rw [i64_id _ (by omega) (by omega)]; omega
        clear hw1 hr1 hr hra hz hH
        go_wp2_with fail
        have HC : Hid (Calls Try.prog 75 #[.pointer (some ⟨d, 0, none⟩), .int .i64 ((H : Int) / 2 % 4), .int .i64 ((H : Int) / 8), .int .i64 (M : Int)] w1 fun x w' => StepP d g s limit (blkS s (limit : Int) (M : Int) k' out') w1 x w') := by
          have := pBlock d g s limit k' out' M w1 HD1.out.1 (by omega) hM
          rw [← HH.out] at this
          exact this
        refine HC.out.mono ?_
        intro x w2 hq
        have HB2 : Hid (∀ p2 o2 l, blkS s (limit : Int) (M : Int) k' out' = .go p2 o2 l → l = decide (H % 2 = 1)) := by
          intro p2 o2 l he
          unfold blkS at he
          rw [← HH.out] at he
          split at he
          · cases he
          · split at he
            · cases he
            · split at he
              · cases he
              · split at he
                · cases he
                · split at he
                  · cases he
                  · exact (Res.go_inj he).2.2.symm
        cases hbk : blkS s (limit : Int) (M : Int) k' out' using Res.elim with
        | met =>
          rw [hbk] at hq
          obtain ⟨hq0, e, he, rfl⟩ := hq
          have HE : Hid (blocksS s (limit : Int) (M : Int) k out = .met ∧ e ≠ 0 ∧ Upg d g w w2) := ⟨by rw [HS.out.2.2, blocksS_met hbk], he, (HS.out.2.1.trans HD1.out.2).trans hq0⟩
          have heb : (e != 0) = true := by simp [he]
          clear hbk he hq0
          go_wp2_with fail
          go_ret
          rw [HE.out.1]
          exact ⟨HE.out.2.2, e, HE.out.2.1, rfl⟩
        | bad e =>
          rw [hbk] at hq
          obtain ⟨hq0, hq⟩ := hq
          obtain rfl : x = _ := hq
          have HU0 : Hid (Upg d g w w2) := (HS.out.2.1.trans HD1.out.2).trans hq0
          clear hq0
          have he := blkS_bad hbk
          have HE : Hid (blocksS s (limit : Int) (M : Int) k out = .bad e) := by show _ = _; rw [HS.out.2.2, blocksS_bad hbk]
          have heb : (e != 0) = true := by simp [he]
          clear hbk he
          go_wp2_with fail
          go_ret
          rw [HE.out]
          exact ⟨HU0.out, rfl⟩
        | go p2 o2 l =>
          rw [hbk] at hq
          obtain ⟨hq2, rfl, hq1⟩ := hq
          have hl := HB2.out p2 o2 l hbk
          have hgo := blkS_go hbk
          have HE : Hid (blkS s (limit : Int) (M : Int) k' out' = .go p2 o2 l ∧ DSt w2 d g s limit p2 o2 ∧ Upg d g w1 w2 ∧ k' + 3 ≤ p2 ∧ p2 ≤ s.size) := ⟨hbk, hq1, hq2, hgo.1, hgo.2.1⟩
          have hlb : (((H % 2 : Nat) : Int) != 0) = l := by
            rw [hl]
            by_cases h : H % 2 = 1
            · rw [h]; rfl
            · rw [show H % 2 = 0 by omega]; rfl
          have hlb2 : ((H : Int) % 2 != 0) = l := hlb
          have hl3 : (bits .and .u64 (H : Int) 1 != 0) = l := by rw [h1]; exact hlb
          clear hbk hq1 hq2 hgo hl h1 h3 hlb hlb2
          go_wp2_with fail
          refine ⟨⟨l, p2, o2, by first | rfl | rw [hl3], HE.out.2.1, (HS.out.2.1.trans HD1.out.2).trans HE.out.2.2.1, ?_⟩, ?_⟩
          · cases l with
            | true => rw [if_pos rfl, HS.out.2.2, blocksS_last HE.out.1]
            | false => rw [if_neg (by decide), HS.out.2.2, blocksS_on HE.out.1]
          · rw [HE.out.2.1.left.1, HS.out.1.left.1]
            have := HE.out.2.2.2
            omega
end Go.Proofs.Ytkfilgfcgmohlaa
namespace Go.Proofs.Ytkfilgfcgmohlaa
open Go.RowKit
set_option maxHeartbeats 400000 in
theorem turn_any (x : Int) (k : Int) (w : World) (hk : 1 ≤ k) (hk2 : k ≤ 63) :
    Calls Try.prog 51 #[.int .u64 x, .int .u64 k] w fun e w' => e = .returned (.int .u64 (Xi.rol x k.toNat)) ∧ w' = w := by
  obtain ⟨k, rfl⟩ := Int.eq_ofNat_of_zero_le (show 0 ≤ k by omega)
  rw [Int.toNat_natCast]
  go_enter Try.func51, Try.ntmps51
  go_wp2
  go_ret
  exact ⟨rfl, rfl⟩
set_option maxHeartbeats 400000 in
theorem lap_any (v x : Int) (w : World) :
    Calls Try.prog 52 #[.int .u64 v, .int .u64 x] w fun e w' => e = .returned (.int .u64 (Xi.lap v x)) ∧ w' = w := by
  go_enter Try.func52, Try.ntmps52
  go_wp2_with fail
  refine (turn_any _ 31 _ (by omega) (by omega)).mono ?_
  rintro e w' ⟨rfl, rfl⟩
  go_wp2
  go_ret
  exact ⟨rfl, rfl⟩
set_option maxHeartbeats 400000 in
theorem finish_any (h : Int) (w : World) :
    Calls Try.prog 34 #[.int .u64 h] w fun e w' => e = .returned (.int .u64 (Xi.fin h)) ∧ w' = w := by
  go_enter Try.func34, Try.ntmps34
  go_wp2
  go_ret
  exact ⟨rfl, rfl⟩
set_option maxHeartbeats 400000 in
theorem first_any (w : World) :
    Calls Try.prog 54 #[] w fun e w' => e = .returned (.agg lanes0) ∧ w' = w.alloc (.cells lanes0 62) := by
  go_enter Try.func54, Try.ntmps54
  go_wp2
  exact bodyPost_ret (v := .agg lanes0) (by simp [results, Try.results54, go_sem, lanes0]) rfl ⟨rfl, rfl⟩
set_option maxHeartbeats 400000 in
theorem number_any (b : Nat) (L R : Nat → Int) (c : Int) (at0 n : Int) (w : World) (hs : SumAt w b L R c) (h0 : 0 ≤ at0) (h1 : 0 ≤ n) (h2 : at0 + n ≤ 32) :
    Calls Try.prog 53 #[.pointer (some ⟨b, 0, none⟩), .int .i64 at0, .int .i64 n] w fun e w' => e = .returned (.int .u64 (Xi.num R at0.toNat n.toNat)) ∧ w' = w := by
  obtain ⟨p, rfl⟩ := Int.eq_ofNat_of_zero_le h0
  obtain ⟨n, rfl⟩ := Int.eq_ofNat_of_zero_le h1
  rw [Int.toNat_natCast, Int.toNat_natCast]
  have hr := hs.rest
  have hb := hs.small
  clear hs
  go_enter Try.func53, Try.ntmps53
  go_wp2
  go_loop [7, 8] (fun x i => ∃ k : Nat, k ≤ n ∧ i = .int .i64 ((k : Int) - 1) ∧ x = .int .u64 (Xi.numTo R p n (n - k))) (fun _ i => (intOf i + 1).toNat)
  case atStart => exact ⟨n, Nat.le_refl _, rfl, by simp [Xi.numTo]⟩
  case round =>
    obtain ⟨k, hk, rfl, rfl⟩ := hrel
    cases k with
    | succ k =>
      have e1 : ((k + 1 : Nat) : Int) - 1 = (k : Int) := by omega
      have hc : w.cell? ⟨b, 4 + (p + k) % 32, none⟩ = some (.int .u8 (R (p + k))) := by rw [Nat.mod_eq_of_lt (by omega)]; exact hr (p + k) (by omega)
      have hb0 := (hb (p + k)).1
      have hb1 := (hb (p + k)).2
      clear hr hb
      rw [e1]
      clear e1
      go_wp2
      go_round
      case rel =>
        refine ⟨k, by omega, rfl, ?_⟩
        rw [Xi.numTo_step R p n k hk]
      case measure => simp [intOf]
    | zero =>
      clear hr hb
      go_wp2
      go_ret
      exact ⟨rfl, rfl⟩
set_option maxHeartbeats 1000000 in
theorem joined_any (b : Nat) (L R : Nat → Int) (c : Int) (w : World) (hs : SumAt w b L R c) :
    Calls Try.prog 32 #[.pointer (some ⟨b, 0, none⟩)] w fun e w' => e = .returned (.int .u64 (Xi.joined L)) ∧ w' = w := by
  have hl := hs.lane
  have h0 := hl 0 (by omega)
  have h1 := hl 1 (by omega)
  have h2 := hl 2 (by omega)
  have h3 := hl 3 (by omega)
  clear hl hs
  go_enter Try.func32, Try.ntmps32
  go_wp2_with (go_at_call 51; refine (turn_any _ _ _ (by omega) (by omega)).mono ?_; rintro e w' ⟨rfl, rfl⟩)
  go_loop [3, 4] (fun h i => ∃ k : Nat, k ≤ 4 ∧ i = .int .i64 k ∧ h = .int .u64 (Xi.mixTo L (Xi.join0 (L 0) (L 1) (L 2) (L 3)) k)) (fun _ i => (4 - intOf i).toNat)
  case atStart => exact ⟨0, by omega, rfl, rfl⟩
  case round =>
    obtain ⟨k, hk, rfl, rfl⟩ := hrel
    by_cases hlt : k < 4
    · have hc : w'.cell? ⟨b, k, none⟩ = some (.int .u64 (L k)) := by
        match k, hlt with
        | 0, _ => exact h0
        | 1, _ => exact h1
        | 2, _ => exact h2
        | 3, _ => exact h3
      clear h0 h1 h2 h3
      go_wp2_with (go_at_call 52; refine (lap_any _ _ _).mono ?_; rintro e w' ⟨rfl, rfl⟩)
      go_round
      case rel => exact ⟨k + 1, by omega, by go_num, rfl⟩
      case measure => simp [intOf]; omega
    · obtain rfl : k = 4 := by omega
      go_wp2
      go_ret
      exact ⟨rfl, rfl⟩
set_option maxRecDepth 100000 in
set_option maxHeartbeats 1000000 in
theorem withRest_any (b : Nat) (L R : Nat → Int) (c : Nat) (h : Int) (w : World) (hs : SumAt w b L R c) (hc1 : c ≤ 1099511627776) :
    Calls Try.prog 33 #[.pointer (some ⟨b, 0, none⟩), .int .u64 h] w fun e w' => e = .returned (.int .u64 (Xi.rest R 0 (c % 32) h)) ∧ w' = w := by
  have hc := hs.count
  have HS : Hid (SumAt w b L R c) := hs
  clear hs
  go_enter Try.func33, Try.ntmps33
  go_wp2
  clear hc1
  go_loop [1, 6] (fun x i => ∃ j : Nat, 8 * j ≤ c % 32 ∧ i = .int .i64 ((8 * j : Nat) : Int) ∧ x = .int .u64 (Xi.eights R 0 h j)) (fun _ i => (32 - intOf i).toNat)
  case atStart => exact ⟨0, by omega, rfl, rfl⟩
  case round =>
    obtain ⟨j, hj, rfl, rfl⟩ := hrel
    by_cases hlt : 8 * j + 8 ≤ c % 32
    · go_wp2_with (first
        | (go_at_call 53; refine (number_any b L R c _ _ _ HS.out (by omega) (by omega) (by omega)).mono ?_; rintro e w' ⟨rfl, rfl⟩)
        | (go_at_call 52; refine (lap_any _ _ _).mono ?_; rintro e w' ⟨rfl, rfl⟩)
        | (go_at_call 51; refine (turn_any _ _ _ (by omega) (by omega)).mono ?_; rintro e w' ⟨rfl, rfl⟩))
      go_round
      case rel =>
        refine ⟨j + 1, by omega, by go_num, ?_⟩
        simp only [Xi.eights, Xi.step8, Nat.zero_add]
      case measure => simp [intOf]; omega
    · have e8 : Hid (j = c % 32 / 8) := (by omega : j = c % 32 / 8)
      have hd8 : decide (8 * (j : Int) + 8 ≤ (c : Int) % 32) = false := by simp; omega
      by_cases h4 : 8 * j + 4 ≤ c % 32
      · go_wp2_with (first
          | (go_at_call 53; refine (number_any b L R c _ _ _ HS.out (by omega) (by omega) (by omega)).mono ?_; rintro e w' ⟨rfl, rfl⟩)
          | (go_at_call 51; refine (turn_any _ _ _ (by omega) (by omega)).mono ?_; rintro e w' ⟨rfl, rfl⟩))
        go_loop [1, 6] (fun x i => ∃ m : Nat, 8 * j + 4 + m ≤ c % 32 ∧ i = .int .i64 ((8 * j + 4 + m : Nat) : Int) ∧ x = .int .u64 (Xi.ones R (8 * j + 4) (Xi.step4 (Xi.eights R 0 h j) (Xi.num R (8 * j) 4)) m)) (fun _ i => (32 - intOf i).toNat)
        case atStart => exact ⟨0, by omega, by go_num, rfl⟩
        case round =>
          obtain ⟨m, hm, rfl, rfl⟩ := hrel
          by_cases hl2 : 8 * j + 4 + m < c % 32
          · go_wp2_with (first
              | (go_at_call 53; refine (number_any b L R c _ _ _ HS.out (by omega) (by omega) (by omega)).mono ?_; rintro e w' ⟨rfl, rfl⟩)
              | (go_at_call 51; refine (turn_any _ _ _ (by omega) (by omega)).mono ?_; rintro e w' ⟨rfl, rfl⟩))
            go_round
            case rel =>
              exact ⟨m + 1, by omega, by go_num, rfl⟩
            case measure => simp [intOf]; omega
          · go_wp2
            go_ret
            exact ⟨ret_int (Xi.rest_four R (c % 32) j m h e8.out h4 hl2 hm), rfl⟩
      · have hd4 : decide (8 * (j : Int) + 4 ≤ (c : Int) % 32) = false := by simp; omega
        go_wp2
        go_loop [1, 6] (fun x i => ∃ m : Nat, 8 * j + m ≤ c % 32 ∧ i = .int .i64 ((8 * j + m : Nat) : Int) ∧ x = .int .u64 (Xi.ones R (8 * j) (Xi.eights R 0 h j) m)) (fun _ i => (32 - intOf i).toNat)
        case atStart => exact ⟨0, by omega, by go_num, rfl⟩
        case round =>
          obtain ⟨m, hm, rfl, rfl⟩ := hrel
          by_cases hl2 : 8 * j + m < c % 32
          · go_wp2_with (first
              | (go_at_call 53; refine (number_any b L R c _ _ _ HS.out (by omega) (by omega) (by omega)).mono ?_; rintro e w' ⟨rfl, rfl⟩)
              | (go_at_call 51; refine (turn_any _ _ _ (by omega) (by omega)).mono ?_; rintro e w' ⟨rfl, rfl⟩))
            go_round
            case rel =>
              exact ⟨m + 1, by omega, by go_num, rfl⟩
            case measure => simp [intOf]; omega
          · go_wp2
            go_ret
            exact ⟨ret_int (Xi.rest_none R (c % 32) j m h e8.out h4 hl2 hm), rfl⟩
end Go.Proofs.Ytkfilgfcgmohlaa
