import Derived.Test.YtbdndhiamihloaaWDk
import Derived.WalkSpells
import Derived.WalkLawsBesides
namespace Go.Proofs.Ytbdndhiamihloaa
open Go.RowKit
def words : List ByteArray := [⟨#[116, 104, 101]⟩, ⟨#[113, 117, 105, 99, 107]⟩, ⟨#[98, 114, 111, 119, 110]⟩, ⟨#[102, 111, 120]⟩, ⟨#[106, 117, 109, 112, 115]⟩, ⟨#[111, 118, 101, 114]⟩, ⟨#[97]⟩, ⟨#[108, 97, 122, 121]⟩, ⟨#[100, 111, 103]⟩, ⟨#[97, 110, 100]⟩, ⟨#[116, 104, 101, 110]⟩, ⟨#[105, 116]⟩, ⟨#[115, 108, 101, 101, 112, 115]⟩, ⟨#[117, 110, 100, 101, 114]⟩, ⟨#[111, 108, 100]⟩, ⟨#[111, 97, 107]⟩, ⟨#[116, 114, 101, 101, 115]⟩]
def gaps : List ByteArray := [⟨#[]⟩, ⟨#[32]⟩, ⟨#[32]⟩, ⟨#[44, 32]⟩, ⟨#[46, 32]⟩]
def wordAt (i : Nat) : ByteArray := words.getD i ByteArray.empty
def gapAt (i : Nat) : ByteArray := gaps.getD i ByteArray.empty
def nextX (x : Nat) : Nat := (x * 77 + 12345) % 65536
def saidNext (q : Nat × ByteArray) : Nat × ByteArray :=
  (nextX (nextX q.1), q.2 ++ wordAt (nextX q.1 / 256 % 17) ++ gapAt (nextX (nextX q.1) / 512 % 5))
def saidAt : Nat → Nat × ByteArray
  | 0 => (7, ByteArray.empty)
  | k + 1 => saidNext (saidAt k)
theorem wordAt_pos : ∀ i, i < 17 → 0 < (wordAt i).size := by decide +kernel
theorem wordAt_le : ∀ i, i < 17 → (wordAt i).size ≤ 6 := by decide +kernel
theorem gapAt_le : ∀ i, i < 5 → (gapAt i).size ≤ 2 := by decide +kernel
theorem words_cell (i : Nat) (h : i < 17) : ((words.map Value.string).toArray)[i]? = some (.string (wordAt i)) := by
  have hl : words.length = 17 := rfl
  rw [List.getElem?_toArray, List.getElem?_map, List.getElem?_eq_getElem (by omega)]
  unfold wordAt
  rw [List.getD_eq_getElem?_getD, List.getElem?_eq_getElem (by omega)]
  rfl
theorem gaps_cell (i : Nat) (h : i < 5) : ((gaps.map Value.string).toArray)[i]? = some (.string (gapAt i)) := by
  have hl : gaps.length = 5 := rfl
  rw [List.getElem?_toArray, List.getElem?_map, List.getElem?_eq_getElem (by omega)]
  unfold gapAt
  rw [List.getD_eq_getElem?_getD, List.getElem?_eq_getElem (by omega)]
  rfl
theorem saidAt_x (k : Nat) : (saidAt k).1 < 65536 := by
  cases k with
  | zero => decide
  | succ k => show nextX _ < 65536; unfold nextX; omega
theorem saidAt_size (k : Nat) : (saidAt k).2.size < (saidAt (k + 1)).2.size := by
  have := wordAt_pos (nextX (saidAt k).1 / 256 % 17) (by omega)
  show _ < (_ ++ _ ++ _ : ByteArray).size
  rw [ByteArray.size_append, ByteArray.size_append]; omega
theorem said_short : ∀ k, k < 21 → (saidAt k).2.size < 100 := by decide +kernel
theorem said_long : 100 ≤ (saidAt 21).2.size := by decide +kernel
theorem said_end (k : Nat) (h1 : 100 ≤ (saidAt k).2.size) (h2 : ∀ j, j < k → (saidAt j).2.size < 100) : k = 21 := by
  rcases Nat.lt_trichotomy k 21 with h | h | h
  · have := said_short k h; omega
  · exact h
  · have := h2 21 h; have := said_long; omega
def saidT : ByteArray := (saidAt 21).2.extract 0 100
theorem saidT_size : saidT.size = 100 := by
  unfold saidT; rw [ByteArray.size_extract]; have := said_long; omega
set_option maxRecDepth 100000 in
set_option maxHeartbeats 1000000 in
theorem said_any (w : World) :
    Calls Try.prog 10 #[.int .i64 100, .int .i64 77] w fun e w' => e = .returned (.string saidT) ∧ Below w.heap.size w w' := by
  go_enter Try.func10, Try.ntmps10
  go_wp2
  obtain ⟨w2, hw2⟩ : ∃ w2, w2 = (w.alloc (.cells (words.map Value.string).toArray 9)).alloc (.cells (gaps.map Value.string).toArray 9) := ⟨_, rfl⟩
  have hb : Below w.heap.size w w2 := by rw [hw2]; exact ((Below.refl _ _).alloc (Nat.le_refl _) _).alloc (by simp) _
  have hwc : ∀ i, i < 17 → w2.cell? ⟨w.heap.size, i, none⟩ = some (.string (wordAt i)) := fun i hi => by
    rw [hw2, World.cell?_alloc_past _ _ _ (by simp), World.cell?_alloc_new, words_cell i hi]
  have hgc : ∀ i, i < 5 → w2.cell? ⟨w.heap.size + 1, i, none⟩ = some (.string (gapAt i)) := fun i hi => by
    rw [hw2, World.cell?_alloc_at _ _ _ _ (by simp), gaps_cell i hi]
  have e2 : (w.alloc (.cells #[.string ⟨#[116, 104, 101]⟩, .string ⟨#[113, 117, 105, 99, 107]⟩, .string ⟨#[98, 114, 111, 119, 110]⟩, .string ⟨#[102, 111, 120]⟩, .string ⟨#[106, 117, 109, 112, 115]⟩, .string ⟨#[111, 118, 101, 114]⟩, .string ⟨#[97]⟩, .string ⟨#[108, 97, 122, 121]⟩, .string ⟨#[100, 111, 103]⟩, .string ⟨#[97, 110, 100]⟩, .string ⟨#[116, 104, 101, 110]⟩, .string ⟨#[105, 116]⟩, .string ⟨#[115, 108, 101, 101, 112, 115]⟩, .string ⟨#[117, 110, 100, 101, 114]⟩, .string ⟨#[111, 108, 100]⟩, .string ⟨#[111, 97, 107]⟩, .string ⟨#[116, 114, 101, 101, 115]⟩] 9)).alloc (.cells #[.string ⟨#[]⟩, .string ⟨#[32]⟩, .string ⟨#[32]⟩, .string ⟨#[44, 32]⟩, .string ⟨#[46, 32]⟩] 9) = w2 := by rw [hw2]; rfl
  clear hw2
  rw [e2]
  clear e2
  go_loop [7, 8] (fun x s => ∃ k : Nat, x = .int .i64 (saidAt k).1 ∧ s = .string (saidAt k).2 ∧ ∀ j, j < k → (saidAt j).2.size < 100) (fun _ s => 100 - (match s with | .string z => z.size | _ => 0))
  case atStart => exact ⟨0, rfl, rfl, fun j hj => by omega⟩
  case round =>
    obtain ⟨k, rfl, rfl, hk⟩ := hrel
    have hx := saidAt_x k
    obtain ⟨q, hq⟩ : ∃ q, q = saidAt k := ⟨_, rfl⟩
    have HK : Hid (∀ j, j < k → (saidAt j).2.size < 100) := hk
    have HS := saidAt_size k
    rw [← hq] at hx HS
    have HQ : Hid (q = saidAt k) := hq
    have HZ : Hid (q.2.size < (saidAt (k + 1)).2.size) := HS
    rw [← hq]
    clear hk hq HS
    obtain ⟨x, s⟩ := q
    by_cases hlt : s.size < 100
    · have c1 := hwc ((x * 77 + 12345) % 65536 / 256 % 17) (by omega)
      have c2 := hgc (((x * 77 + 12345) % 65536 * 77 + 12345) % 65536 / 512 % 5) (by omega)
      have b1 := wordAt_le ((x * 77 + 12345) % 65536 / 256 % 17) (by omega)
      have b2 := gapAt_le (((x * 77 + 12345) % 65536 * 77 + 12345) % 65536 / 512 % 5) (by omega)
      have H1 : Hid (saidAt (k + 1) = (((x * 77 + 12345) % 65536 * 77 + 12345) % 65536, s ++ wordAt ((x * 77 + 12345) % 65536 / 256 % 17) ++ gapAt (((x * 77 + 12345) % 65536 * 77 + 12345) % 65536 / 512 % 5))) := by
        show saidNext (saidAt k) = _
        rw [← HQ.out]; rfl
      clear hwc hgc hb
      dsimp only at hx ⊢
      go_wp2
      refine ⟨⟨k + 1, ?_, ?_, ?_⟩, ?_⟩
      · rw [H1.out]; go_num
      · rw [H1.out]
      · intro j hj
        by_cases e : j = k
        · subst e; rw [← HQ.out]; exact hlt
        · exact HK.out j (by omega)
      · have := HZ.out
        rw [H1.out] at this
        dsimp only at this ⊢
        omega
    · have e21 : Hid (k = 21) := said_end k (by rw [← HQ.out]; dsimp only; omega) HK.out
      dsimp only at hx ⊢
      clear hwc hgc
      go_wp2
      go_ret
      have e := HQ.out
      rw [e21.out] at e
      refine ⟨?_, hb⟩
      unfold saidT
      rw [← e]
      rfl
end Go.Proofs.Ytbdndhiamihloaa
