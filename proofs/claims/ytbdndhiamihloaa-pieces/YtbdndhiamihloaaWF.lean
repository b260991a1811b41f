import Derived.Test.YtbdndhiamihloaaWE
import Derived.WalkSpells
import Derived.WalkLawsBesides
namespace Go.Proofs.Ytbdndhiamihloaa
open Go.RowKit
theorem ba_len (s : ByteArray) : s.data.toList.length = s.size := by rw [Array.length_toList]; rfl
theorem upd_bytes (b : Nat) (W : World) (e : TypeId) (s : ByteArray) : Upd b W (Lib.bytesWorld W e s) :=
  ⟨rfl, rfl, rfl, by rw [Lib.bytesWorld_size]; omega, fun k hk _ => Lib.bytesWorld_at_old W e s k hk⟩
theorem fsAdd_str (b cap : Nat) (L R : Nat → Int) (l : List UInt8) (s : ByteArray) (n : Nat) (W : World) (hp : Rep W b l L R) (hn : n = s.size) (hc1 : l.length + n ≤ 1099511627776) :
    Calls Try.prog 8 #[.pointer (some ⟨b, 0, none⟩), .slice (some ⟨W.heap.size, 0, none⟩) n cap] (Lib.bytesWorld W 5 s) fun e w' =>
      e = .returned (.tuple #[]) ∧ Upd b W w' ∧ ∃ L' R', Rep w' b (l ++ s.data.toList) L' R' := by
  subst hn
  have hlt := hp.lt
  refine (fsAdd_any b W.heap.size 0 cap L R l s.data.toList s.size _ _ (hp.of_cells (Lib.bytesWorld_at_old W _ s b hlt)) (by omega) (by rw [Lib.bytesWorld_size]; omega) (ba_len s).symm (fun _ => rfl) (fun i hi => ?_) (by rw [ba_len]; exact hc1)).mono ?_
  · rw [Nat.zero_add, Lib.bytesWorld_cell W _ s i (by rw [← ba_len]; exact hi)]; rfl
  · rintro e w' ⟨he, hu, hr⟩
    exact ⟨he, (upd_bytes b W _ s).trans hu, hr⟩
/-- a constant's row -/
def row (m : List UInt8) : Array Value := (m.map fun x => Value.int .u8 x.toNat).toArray
theorem fsAdd_const (b cap : Nat) (L R : Nat → Int) (l m : List UInt8) (n : Nat) (fr : Nat × Nat) (C : Array Value) (W : World) (hp : Rep W b l L R) (hn : n = m.length) (hC : C = row m) (hc1 : l.length + n ≤ 1099511627776) :
    Calls Try.prog 8 #[.pointer (some ⟨b, 0, none⟩), .slice (some ⟨W.heap.size, 0, none⟩) n cap] (W.alloc (.cells C 5 fr)) fun e w' =>
      e = .returned (.tuple #[]) ∧ Upd b W w' ∧ ∃ L' R', Rep w' b (l ++ m) L' R' := by
  subst hn hC
  have hlt := hp.lt
  refine (fsAdd_any b W.heap.size 0 cap L R l m m.length _ _ (hp.alloc _) (by omega) (by simp) rfl (fun _ => rfl) (fun i hi => ?_) hc1).mono ?_
  · rw [Nat.zero_add, World.cell?_alloc_mark]
    unfold row Xi.byte
    rw [List.getElem?_toArray, List.getElem?_map, List.getElem?_eq_getElem hi, List.getD_eq_getElem?_getD, List.getElem?_eq_getElem hi]
    rfl
  · rintro e w' ⟨he, hu, hr⟩
    exact ⟨he, ((Upd.refl b W).alloc _).trans hu, hr⟩
theorem split_list (s : ByteArray) (k : Nat) (hk : k ≤ s.size) : (s.extract 0 k).data.toList ++ (s.extract k s.size).data.toList = s.data.toList := by
  have h : s.data.toList.length = s.size := ba_len s
  rw [ByteArray.data_extract, ByteArray.data_extract, Array.toList_extract, Array.toList_extract, List.extract_eq_take_drop, List.extract_eq_take_drop, List.drop_zero, Nat.sub_zero]
  rw [List.take_of_length_le (l := s.data.toList.drop k) (by rw [List.length_drop]; omega), List.take_append_drop]
theorem kn0 : wrap64 (Xi.sum []) = -1205034819632174695 := by decide +kernel
theorem kn1 : wrap64 (Xi.sum [97]) = -3292477735350538661 := by decide +kernel
theorem kn3 : wrap64 (Xi.sum [97, 98, 99]) = 4952883123889572249 := by decide +kernel
theorem kn100 : wrap64 (Xi.sum saidT.data.toList) = 2551814896044698161 := by decide +kernel
theorem kn31 : wrap64 (Xi.sum (saidT.extract 0 31).data.toList) = -1020174630410282226 := by decide +kernel
set_option maxRecDepth 100000 in
set_option maxHeartbeats 2000000 in
theorem sums_any (s : ByteArray) (a : Int) (w : World) (hs : s.size ≤ 4096) (ha : (Lit.int .i64 a).wf = true) :
    Calls Try.prog 5 #[.string s, .int .i64 a] w fun e w' => e = .returned (.bool true) ∧ Below w.heap.size w w' := by
  have HA : Hid ((Lit.int .i64 a).wf = true) := ha
  clear ha
  have kc := fun (w : World) (s : ByteArray) => Lib.run_convert_string_bytes (P := Try.prog) w 9 28 5 s Try.underlying9 Try.underlying28 Try.underlying5
  have kb := fun (w : World) (C : Array Value) (n c : Nat) => Lib.run_convert_bytes_const (P := Try.prog) w 28 5 C n c Try.underlying28 Try.underlying5
  go_enter Try.func5, Try.ntmps5
  go_wp2_with fail
  refine (newSum_any _).mono ?_
  rintro e W ⟨rfl, hW⟩
  have hb : w.heap.size < W.heap.size := by rw [hW]; simp
  have HB : Hid (Below w.heap.size w W) := by rw [hW]; exact (Below.refl _ _).alloc (Nat.le_refl _) _
  have HP : Hid (Rep W w.heap.size [] (fun _ => 0) (fun _ => 0)) := by rw [hW]; exact Rep.new _ _
  clear hW
  generalize hbb : w.heap.size = b at hb
  have HBB : Hid (w.heap.size = b) := hbb
  rw [hbb] at HB HP
  clear hbb
  go_wp2_with fail
  refine (fsValue_any b _ _ [] _ HP.out (by simp)).mono ?_
  rintro e w' ⟨rfl, rfl⟩
  rw [kn0]
  go_wp2_with fail
  refine (fsAdd_const b _ _ _ [] [97] 1 _ _ _ HP.out rfl rfl (by simp)).mono ?_
  rintro e W1 ⟨rfl, hu, L1, R1, hr⟩
  have hb1 : b < W1.heap.size := by have := hu.size; omega
  have HB1 : Hid (Below b w W1) := HB.out.trans (hu.below (Nat.le_refl _) (by omega))
  have HP1 : Hid (Rep W1 b ([97]) L1 R1) := hr
  clear hu hr HB HP hb
  go_wp2_with fail
  refine (fsValue_any b _ _ ([97]) _ HP1.out (by simp)).mono ?_
  rintro e V1 ⟨rfl, hV⟩
  subst hV
  rw [kn1]
  go_wp2_with fail
  refine (fsAdd_const b _ _ _ [97] [98, 99] 2 _ _ _ HP1.out rfl rfl (by simp)).mono ?_
  rintro e W2 ⟨rfl, hu, L2, R2, hr⟩
  have hb2 : b < W2.heap.size := by have := hu.size; omega
  have HB2 : Hid (Below b w W2) := HB1.out.trans (hu.below (Nat.le_refl _) (by omega))
  have HP2 : Hid (Rep W2 b ([97, 98, 99]) L2 R2) := hr
  clear hu hr HB1 HP1 hb1
  go_wp2_with fail
  refine (fsValue_any b _ _ ([97, 98, 99]) _ HP2.out (by simp)).mono ?_
  rintro e V2 ⟨rfl, hV⟩
  subst hV
  rw [kn3]
  go_wp2_with fail
  refine (fsStart_any b _ _ _ _ HP2.out).mono ?_
  rintro e W3 ⟨rfl, hu, hr⟩
  have hb3 : b < W3.heap.size := by have := hu.size; omega
  have HB3 : Hid (Below b w W3) := HB2.out.trans (hu.below (Nat.le_refl _) (by omega))
  have HP3 : Hid (Rep W3 b [] (fun _ => 0) (fun _ => 0)) := hr
  clear hu hr HB2 HP2 hb2
  go_wp2_with fail
  refine (said_any _).mono ?_
  rintro e W4 ⟨rfl, hbel⟩
  have hb4 : b < W4.heap.size := by have := hbel.size; omega
  have HB4 : Hid (Below b w W4) := HB3.out.trans (hbel.mono (by omega))
  have HP4 : Hid (Rep W4 b [] (fun _ => 0) (fun _ => 0)) := HP3.out.of_cells (hbel.block b hb3)
  clear hbel HB3 HP3 hb3
  have h31 : 31 ≤ saidT.size := by rw [saidT_size]; omega
  go_wp2_with fail
  refine (fsAdd_str b _ _ _ [] saidT _ _ HP4.out rfl (by rw [saidT_size]; simp)).mono ?_
  rintro e W5 ⟨rfl, hu, L5, R5, hr⟩
  have hb5 : b < W5.heap.size := by have := hu.size; omega
  have HB5 : Hid (Below b w W5) := HB4.out.trans (hu.below (Nat.le_refl _) (by omega))
  have HP5 : Hid (Rep W5 b (saidT.data.toList) L5 R5) := hr
  clear hu hr HB4 HP4 hb4
  go_wp2_with fail
  refine (fsValue_any b _ _ (saidT.data.toList) _ HP5.out (by rw [ba_len, saidT_size]; omega)).mono ?_
  rintro e V5 ⟨rfl, hV⟩
  subst hV
  rw [kn100]
  go_wp2_with fail
  refine (fsStart_any b _ _ _ _ HP5.out).mono ?_
  rintro e W6 ⟨rfl, hu, hr⟩
  have hb6 : b < W6.heap.size := by have := hu.size; omega
  have HB6 : Hid (Below b w W6) := HB5.out.trans (hu.below (Nat.le_refl _) (by omega))
  have HP6 : Hid (Rep W6 b [] (fun _ => 0) (fun _ => 0)) := hr
  clear hu hr HB5 HP5 hb5
  go_wp2_with fail
  refine (fsAdd_str b _ _ _ [] (saidT.extract 0 31) 31 _ HP6.out (by rw [ByteArray.size_extract]; omega) (by simp)).mono ?_
  rintro e W7 ⟨rfl, hu, L7, R7, hr⟩
  have hb7 : b < W7.heap.size := by have := hu.size; omega
  have HB7 : Hid (Below b w W7) := HB6.out.trans (hu.below (Nat.le_refl _) (by omega))
  have HP7 : Hid (Rep W7 b ((saidT.extract 0 31).data.toList) L7 R7) := hr
  clear hu hr HB6 HP6 hb6
  go_wp2_with fail
  refine (fsValue_any b _ _ ((saidT.extract 0 31).data.toList) _ HP7.out (by rw [ba_len, ByteArray.size_extract]; omega)).mono ?_
  rintro e V7 ⟨rfl, hV⟩
  subst hV
  rw [kn31]
  go_wp2_with fail
  refine (fsStart_any b _ _ _ _ HP7.out).mono ?_
  rintro e W8 ⟨rfl, hu, hr⟩
  have hb8 : b < W8.heap.size := by have := hu.size; omega
  have HB8 : Hid (Below b w W8) := HB7.out.trans (hu.below (Nat.le_refl _) (by omega))
  have HP8 : Hid (Rep W8 b [] (fun _ => 0) (fun _ => 0)) := hr
  clear hu hr HB7 HP7 hb7
  go_wp2_with fail
  refine (fsAdd_str b _ _ _ [] s _ _ HP8.out rfl (by simp; omega)).mono ?_
  rintro e W9 ⟨rfl, hu, L9, R9, hr⟩
  have hb9 : b < W9.heap.size := by have := hu.size; omega
  have HB9 : Hid (Below b w W9) := HB8.out.trans (hu.below (Nat.le_refl _) (by omega))
  have HP9 : Hid (Rep W9 b (s.data.toList) L9 R9) := hr
  clear hu hr HB8 HP8 hb8
  go_wp2_with fail
  refine (fsValue_any b _ _ (s.data.toList) _ HP9.out (by rw [ba_len]; omega)).mono ?_
  rintro e V9 ⟨rfl, hV⟩
  subst hV
  generalize hall : wrap64 (Xi.sum s.data.toList) = all
  have HALL : Hid (wrap64 (Xi.sum s.data.toList) = all) := hall
  clear hall
  go_wp2_with fail
  refine (pick_any a _ _ HA.out (by omega) (by omega)).mono ?_
  rintro e X ⟨k, rfl, hk0, hX⟩
  subst hX
  have hk : k ≤ s.size := by omega
  clear hk0
  go_wp2_with fail
  refine (fsStart_any b _ _ _ _ HP9.out).mono ?_
  rintro e W10 ⟨rfl, hu, hr⟩
  have hb10 : b < W10.heap.size := by have := hu.size; omega
  have HB10 : Hid (Below b w W10) := HB9.out.trans (hu.below (Nat.le_refl _) (by omega))
  have HP10 : Hid (Rep W10 b [] (fun _ => 0) (fun _ => 0)) := hr
  clear hu hr HB9 HP9 hb9
  go_wp2_with fail
  refine (fsAdd_str b _ _ _ [] (s.extract 0 k) k _ HP10.out (by rw [ByteArray.size_extract]; omega) (by simp; omega)).mono ?_
  rintro e W11 ⟨rfl, hu, L11, R11, hr⟩
  have hb11 : b < W11.heap.size := by have := hu.size; omega
  have HB11 : Hid (Below b w W11) := HB10.out.trans (hu.below (Nat.le_refl _) (by omega))
  have HP11 : Hid (Rep W11 b ((s.extract 0 k).data.toList) L11 R11) := hr
  clear hu hr HB10 HP10 hb10
  go_wp2_with fail
  refine (fsValue_any b _ _ ((s.extract 0 k).data.toList) _ HP11.out (by rw [ba_len, ByteArray.size_extract]; omega)).mono ?_
  rintro e V11 ⟨rfl, hV⟩
  subst hV
  generalize wrap64 (Xi.sum (s.extract 0 k).data.toList) = part
  go_wp2_with fail
  refine (fsAdd_str b _ _ _ _ (s.extract k s.size) (s.size - k) _ HP11.out (by rw [ByteArray.size_extract]; omega) (by rw [ba_len, ByteArray.size_extract]; omega)).mono ?_
  rintro e W12 ⟨rfl, hu, L12, R12, hr⟩
  have hb12 : b < W12.heap.size := by have := hu.size; omega
  have HB12 : Hid (Below b w W12) := HB11.out.trans (hu.below (Nat.le_refl _) (by omega))
  have HP12 : Hid (Rep W12 b ((s.extract 0 k).data.toList ++ (s.extract k s.size).data.toList) L12 R12) := hr
  clear hu hr HB11 HP11 hb11
  go_wp2_with fail
  refine (fsValue_any b _ _ ((s.extract 0 k).data.toList ++ (s.extract k s.size).data.toList) _ HP12.out (by rw [split_list s k hk, ba_len]; omega)).mono ?_
  rintro e V12 ⟨rfl, hV⟩
  subst hV
  rw [split_list s k hk, HALL.out]
  go_wp2
  go_ret
  exact ⟨rfl, by rw [HBB.out]; exact HB12.out⟩
set_option maxRecDepth 100000 in
set_option maxHeartbeats 1000000 in
theorem pieces_any (s : ByteArray) (a : Int) (w : World) (hs : s.size ≤ maxLen) (ha : (Lit.int .i64 a).wf = true) :
    Calls Try.prog 3 #[.string s, .int .i64 a] w fun e w' => e = .returned (.bool true) ∧ Below w.heap.size w w' := by
  have HA : Hid ((Lit.int .i64 a).wf = true) := ha
  have HZ : Hid (s.size ≤ maxLen) := hs
  clear ha hs
  go_enter Try.func3, Try.ntmps3
  go_wp2_with fail
  refine (clipped_any s _ HZ.out).mono ?_
  rintro e W ⟨t, rfl, ht, hW⟩
  subst hW
  have HT : Hid (t.size ≤ 4096) := ht
  clear ht
  go_wp2_with fail
  refine (sums_any t a _ HT.out HA.out).mono ?_
  rintro e W ⟨rfl, hb⟩
  go_wp2
  go_ret
  exact ⟨rfl, hb⟩
end Go.Proofs.Ytbdndhiamihloaa
