import Derived.Test.YtkfilgfcgmohlaaJ41
import Derived.WalkKit
import Derived.WalkSpells
import Derived.WalkLawsBesides
namespace Go.Proofs.Ytkfilgfcgmohlaa
open Go.RowKit
theorem ans_one {s : ByteArray} {limit slack : Int} (h : argBad s limit slack = true ∨ readS s limit 0 [] ≠ .met) {t u : ByteArray} {e f : Int} (h1 : if argBad s limit slack then t = ByteArray.empty ∧ e = 1 else ansS (readS s limit 0 []) t e) (h2 : if argBad s limit slack then u = ByteArray.empty ∧ f = 1 else ansS (readS s limit 0 []) u f) : u = t ∧ f = e := by
  by_cases ha : argBad s limit slack = true
  · rw [if_pos ha] at h1 h2
    exact ⟨h2.1.trans h1.1.symm, h2.2.trans h1.2.symm⟩
  · rw [if_neg ha] at h1 h2
    cases hr : readS s limit 0 [] using Res.elim with
    | met => rcases h with h | h
             · exact absurd h ha
             · exact absurd hr h
    | bad e2 =>
      rw [hr] at h1 h2
      exact ⟨h2.1.trans h1.1.symm, h2.2.trans h1.2.symm⟩
    | go p o l =>
      rw [hr] at h1 h2
      exact ⟨h2.1.trans h1.1.symm, h2.2.trans h1.2.symm⟩
set_option maxRecDepth 100000 in
set_option maxHeartbeats 2000000 in
theorem method_w (d : Value) (s : ByteArray) (limit slack : Int) (w : World) :
    Calls Try.prog 13 #[d, .string s, .int .i64 limit, .int .i64 slack] w fun x w' => DecP s limit slack w x w' := by
  have HP : Hid (Calls Try.prog 24 #[.string s, .int .i64 limit, .int .i64 slack] w fun x w' => DecP s limit slack w x w') := pDecode s limit slack w
  go_enter Try.func13, Try.ntmps13
  go_wp2_with fail
  refine HP.out.mono ?_
  rintro x w1 ⟨hB, t, e, rfl, hA⟩
  have HQ : Hid (DecP s limit slack w (.returned (.tuple #[.string t, .int .i64 e])) w1) := ⟨hB, t, e, rfl, hA⟩
  clear hB hA
  go_wp2_with fail
  go_ret2
  exact HQ.out
theorem new_w (w : World) :
    Calls Try.prog 8 #[] w fun x w' => ∃ d, x = .returned d ∧ d.oneCell' = true ∧ Below w.heap.size w w' := by
  go_enter Try.func8, Try.ntmps8
  go_wp2_with fail
  go_ret
  exact ⟨_, rfl, rfl, (Below.refl _ _).alloc (Nat.le_refl _) _⟩
set_option maxRecDepth 100000 in
set_option maxHeartbeats 2000000 in
theorem decoded_w (d : Value) (s : ByteArray) (limit slack : Int) (w : World) (h : argBad s limit slack = true ∨ readS s limit 0 [] ≠ .met) :
    Calls Try.prog 9 #[d, .string s, .int .i64 limit, .int .i64 slack] w fun x w' => ∃ t, x = .returned (.tuple #[.string t, .bool true]) ∧ Below w.heap.size w w' := by
  have HP : Hid (Calls Try.prog 13 #[d, .string s, .int .i64 limit, .int .i64 slack] w fun x w' => DecP s limit slack w x w') := method_w d s limit slack w
  have HRF : Hid (∀ w', Calls Try.prog 14 #[.string s, .int .i64 limit, .int .i64 slack] w' fun x w'' => DecP s limit slack w' x w'') := fun w' => rDecode s limit slack w'
  have HH : Hid (argBad s limit slack = true ∨ readS s limit 0 [] ≠ .met) := h
  clear h
  go_enter Try.func9, Try.ntmps9
  go_wp2_with fail
  refine HP.out.mono ?_
  rintro x w1 ⟨hB, t, e, rfl, hA⟩
  have H1 : Hid (Below w.heap.size w w1 ∧ (if argBad s limit slack then t = ByteArray.empty ∧ e = 1 else ansS (readS s limit 0 []) t e)) := ⟨hB, hA⟩
  clear hB hA HP
  go_wp2_with fail
  refine (HRF.out w1).mono ?_
  rintro x w2 ⟨hB, u, f, rfl, hA⟩
  obtain ⟨hu, hf⟩ := ans_one HH.out H1.out.2 hA
  rw [hu, hf]
  have H2 : Hid (Below w.heap.size w w2) := H1.out.1.trans (hB.mono H1.out.1.size)
  clear hB hA HRF H1 HH hu hf
  go_wp2_with fail
  go_ret2
  exact ⟨t, rfl, H2.out⟩
set_option maxRecDepth 100000 in
set_option maxHeartbeats 2000000 in
theorem plain_any (s : ByteArray) (limit slack : Int) (w : World) :
    Calls Try.prog 3 #[.string s, .int .i64 limit, .int .i64 slack] w fun x w' => x = .returned (.bool true) ∧ Below w.heap.size w w' := by
  by_cases hbig : 1048576 < s.size
  · have b1 : decide ((1048576 : Int) < (s.size : Int)) = true := decide_eq_true (by omega)
    clear hbig
    go_enter Try.func3, Try.ntmps3
    go_wp2_with fail
    go_ret
    exact ⟨rfl, Below.refl _ _⟩
  · have b1 : decide ((1048576 : Int) < (s.size : Int)) = false := decide_eq_false (by omega)
    have HM : Hid (Calls Try.prog 7 #[.string s, .int .i64 limit, .bool false] w fun x w' => MeetQ s limit w x w') := meets_w s limit w
    have HNW : Hid (∀ w', Calls Try.prog 8 #[] w' fun x w'' => ∃ d, x = .returned d ∧ d.oneCell' = true ∧ Below w'.heap.size w' w'') := new_w
    clear hbig
    go_enter Try.func3, Try.ntmps3
    go_wp2_with fail
    refine HM.out.mono ?_
    rintro x w1 ⟨m, rfl, hB, hm⟩
    have HB1 : Hid (Below w.heap.size w w1) := hB
    cases m with
    | true =>
      clear hB hm HM HNW
      go_wp2_with fail
      go_ret
      exact ⟨rfl, HB1.out⟩
    | false =>
      have HH : Hid (argBad s limit slack = true ∨ readS s limit 0 [] ≠ .met) := by
        rcases hm rfl with h | h
        · exact .inl (decide_eq_true (.inl h))
        · exact .inr h
      clear hB hm HM
      go_wp2_with fail
      refine (HNW.out w1).mono ?_
      rintro x w2 ⟨d, rfl, hd, hB2⟩
      have HB2 : Hid (Below w.heap.size w w2) := HB1.out.trans (hB2.mono HB1.out.size)
      have HDC : Hid (Calls Try.prog 9 #[d, .string s, .int .i64 limit, .int .i64 slack] w2 fun x w' => ∃ t, x = .returned (.tuple #[.string t, .bool true]) ∧ Below w2.heap.size w2 w') := decoded_w d s limit slack w2 HH.out
      clear hB2 HNW
      go_wp2_with fail
      refine HDC.out.mono ?_
      rintro x w3 ⟨t, rfl, hB3⟩
      have HB3 : Hid (Below w.heap.size w w3) := HB2.out.trans (hB3.mono HB2.out.size)
      clear hB3 HDC
      go_wp2_with fail
      go_ret
      exact ⟨rfl, HB3.out⟩
end Go.Proofs.Ytkfilgfcgmohlaa
