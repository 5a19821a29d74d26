/-
  The walk of the statement LeafNames: from every start it returns true and changes no block that was there before.
-/
import Derived.Test.YtinojpcjbjjlbaaJ45
import Derived.Test.YtinojpcjbjjlbaaJ9
import Derived.Test.YtinojpcjbjjlbaaJ26
import Derived.Deep.CutRange
namespace Go.Proofs.Ytinojpcjbjjlbaa
open Go.RowKit
open Go.Lib hiding intOf
set_option linter.unusedVariables false
set_option linter.unusedSimpArgs false
attribute [local go_sem ↓] Go.wp_at_zero Go.wp_at_succ

theorem row8_may : mayP8 128 7 9 row8L = true := by decide +kernel
def len8 : List It := [⟨⟨#[97]⟩, ⟨#[118]⟩, false, 1, 0⟩]
def big8 : List It := [⟨⟨#[97]⟩, ⟨#[]⟩, true, 4097, 9⟩]
def val8 (L : ByteArray) : List It := [⟨⟨#[97]⟩, L, false, 0, 0⟩]
theorem near_val8 {L : ByteArray} (h : L.size ≤ 1000) : NearI (val8 L) := fun b hb => by
  simp [val8] at hb
  subst hb
  exact ⟨by show (⟨#[97]⟩ : ByteArray).size ≤ _; decide, by show L.size ≤ _; omega⟩
theorem row8_bad : readI 4 2 7 0 9 (⟨#[2]⟩ ++ (itemBody 128 row8L).extract 1 104) = none := by
  have h : (readI 4 2 7 0 9 (⟨#[2]⟩ ++ (itemBody 128 row8L).extract 1 104)).isNone = true := by decide +kernel
  simpa using h
theorem row8_16 : ((itemBody 128 row8L).extract 0 16) = ⟨#[0, 1, 97, 1, 118, 1, 1, 98, 44, 1, 0, 0, 9, 0, 0, 0]⟩ := by decide +kernel

set_option maxRecDepth 100000 in
set_option maxHeartbeats 25600000 in
theorem lfnames_walk (w : World) :
    Calls Try.prog 3 #[] w fun e w' => e = .returned (.bool true) ∧ Below w.heap.size w w' := by
  obtain ⟨B, hB⟩ : ∃ B, B = itemBody 128 row8L := ⟨_, rfl⟩
  have hBs : B.size = 104 := by rw [hB, itemBody_size 128 row8L (by decide)]
  obtain ⟨L1, hL1⟩ : ∃ L, L = reps ⟨#[118]⟩ 101 := ⟨_, rfl⟩
  have hLs1 : L1.size = 101 := by rw [hL1]; decide +kernel
  obtain ⟨L2, hL2⟩ : ∃ L, L = reps ⟨#[118]⟩ 100 := ⟨_, rfl⟩
  have hLs2 : L2.size = 100 := by rw [hL2]; decide +kernel
  obtain ⟨L3, hL3⟩ : ∃ L, L = reps ⟨#[118]⟩ 256 := ⟨_, rfl⟩
  have hLs3 : L3.size = 256 := by rw [hL3]; decide +kernel
  obtain ⟨K, hK⟩ : ∃ K, K = itemBody 128 (val8 L2) := ⟨_, rfl⟩
  have hmk : mayP8 128 7 9 (val8 L2) = true := by rw [hL2]; decide +kernel
  have HP1 : ∀ (A : Option Addr) (c : Nat) (w' : World), Reads w' w'.heap.size 5 A 2 (itc row8L) → Calls Try.prog 9 #[.int .i64 128, .int .u32 7, .int .u64 9, .slice A 2 c] w' fun e w'' => e = .returned (.tuple #[.agg #[.int .i64 4, .int .i64 2, .int .u32 7, .int .u32 0, .int .u64 9, .string B], .int .i64 0]) ∧ Below w'.heap.size w' w'' := fun A c w hr => by rw [hB]; exact lpage8_yes 128 7 9 A 2 c row8L w hr (by decide) row8_may
  have HP2 : ∀ (A : Option Addr) (c : Nat) (w' : World), Reads w' w'.heap.size 5 A 0 (itc []) → Calls Try.prog 9 #[.int .i64 128, .int .u32 7, .int .u64 9, .slice A 0 c] w' fun e w'' => e = .returned (.tuple #[.agg #[.int .i64 0, .int .i64 0, .int .u32 0, .int .u32 0, .int .u64 0, .string ByteArray.empty], .int .i64 2]) ∧ Below w'.heap.size w' w'' := fun A c w hr => lpage8_no 128 7 9 A 0 c [] w hr (by decide) (fun b hb => by cases hb) (by decide +kernel)
  have HP3 : ∀ (A : Option Addr) (c : Nat) (w' : World), Reads w' w'.heap.size 5 A 1 (itc len8) → Calls Try.prog 9 #[.int .i64 128, .int .u32 7, .int .u64 9, .slice A 1 c] w' fun e w'' => e = .returned (.tuple #[.agg #[.int .i64 0, .int .i64 0, .int .u32 0, .int .u32 0, .int .u64 0, .string ByteArray.empty], .int .i64 2]) ∧ Below w'.heap.size w' w'' := fun A c w hr => lpage8_no 128 7 9 A 1 c len8 w hr (by decide) (fun b hb => by simp [len8] at hb; subst hb; exact ⟨by decide, by decide⟩) (by decide +kernel)
  have HP4 : ∀ (A : Option Addr) (c : Nat) (w' : World), Reads w' w'.heap.size 5 A 1 (itc big8) → Calls Try.prog 9 #[.int .i64 128, .int .u32 7, .int .u64 9, .slice A 1 c] w' fun e w'' => e = .returned (.tuple #[.agg #[.int .i64 0, .int .i64 0, .int .u32 0, .int .u32 0, .int .u64 0, .string ByteArray.empty], .int .i64 2]) ∧ Below w'.heap.size w' w'' := fun A c w hr => lpage8_no 128 7 9 A 1 c big8 w hr (by decide) (fun b hb => by simp [big8] at hb; subst hb; exact ⟨by decide, by decide⟩) (by decide +kernel)
  have HP5 : ∀ (A : Option Addr) (c : Nat) (w' : World), Reads w' w'.heap.size 5 A 1 (itc (val8 L1)) → Calls Try.prog 9 #[.int .i64 128, .int .u32 7, .int .u64 9, .slice A 1 c] w' fun e w'' => e = .returned (.tuple #[.agg #[.int .i64 0, .int .i64 0, .int .u32 0, .int .u32 0, .int .u64 0, .string ByteArray.empty], .int .i64 2]) ∧ Below w'.heap.size w' w'' := fun A c w hr => lpage8_no 128 7 9 A 1 c (val8 L1) w hr (by decide) (near_val8 (by omega)) (by rw [hL1]; decide +kernel)
  have HP6 : ∀ (A : Option Addr) (c : Nat) (w' : World), Reads w' w'.heap.size 5 A 1 (itc (val8 L2)) → Calls Try.prog 9 #[.int .i64 128, .int .u32 7, .int .u64 9, .slice A 1 c] w' fun e w'' => e = .returned (.tuple #[.agg #[.int .i64 4, .int .i64 1, .int .u32 7, .int .u32 0, .int .u64 9, .string K], .int .i64 0]) ∧ Below w'.heap.size w' w'' := fun A c w hr => by rw [hK]; exact lpage8_yes 128 7 9 A 1 c (val8 L2) w hr (by decide) hmk
  have HP7 : ∀ (A : Option Addr) (c : Nat) (w' : World), Reads w' w'.heap.size 5 A 1 (itc (val8 L3)) → Calls Try.prog 9 #[.int .i64 512, .int .u32 7, .int .u64 9, .slice A 1 c] w' fun e w'' => e = .returned (.tuple #[.agg #[.int .i64 0, .int .i64 0, .int .u32 0, .int .u32 0, .int .u64 0, .string ByteArray.empty], .int .i64 2]) ∧ Below w'.heap.size w' w'' := fun A c w hr => lpage8_no 512 7 9 A 1 c (val8 L3) w hr (by decide) (near_val8 (by omega)) (by rw [hL3]; decide +kernel)
  have HO0 := fun w : World => lof8_any 4 2 7 0 9 B w (by omega)
  have hrd : readI 4 2 7 0 9 B = some row8L := by rw [hB]; exact readI_page (l := row8L) row8_may
  rw [hrd] at HO0
  have HO1 : ∀ w : World, Calls Try.prog 11 #[.agg #[.int .i64 4, .int .i64 2, .int .u32 7, .int .u32 0, .int .u64 9, .string (⟨#[2]⟩ ++ B.extract 1 104)]] w fun e w' => e = .returned (.tuple #[.slice none 0 0, .int .i64 4]) ∧ Below w.heap.size w w' := fun w => by
    have h := lof8_any 4 2 7 0 9 (⟨#[2]⟩ ++ B.extract 1 104) w (by rw [ByteArray.size_append, ByteArray.size_extract]; show 1 + _ ≤ _; omega)
    rw [hB, row8_bad, ← hB] at h
    exact h
  have HT1 : ∀ w : World, Calls Try.prog 12 #[.string ⟨#[118]⟩, .int .i64 101] w fun e w' => e = .returned (.string L1) ∧ w = w' := fun w => by
    rw [hL1]
    exact times_any ⟨#[118]⟩ 101 w (by decide) (by decide)
  have HT2 : ∀ w : World, Calls Try.prog 12 #[.string ⟨#[118]⟩, .int .i64 100] w fun e w' => e = .returned (.string L2) ∧ w = w' := fun w => by
    rw [hL2]
    exact times_any ⟨#[118]⟩ 100 w (by decide) (by decide)
  have HT3 : ∀ w : World, Calls Try.prog 12 #[.string ⟨#[118]⟩, .int .i64 256] w fun e w' => e = .returned (.string L3) ∧ w = w' := fun w => by
    rw [hL3]
    exact times_any ⟨#[118]⟩ 256 w (by decide) (by decide)
  have HSz : ∀ (A : Option Addr) (c : Nat) (w : World), Reads w w.heap.size 5 A 2 (itc row8L) → Calls Try.prog 15 #[.slice A 2 c] w fun e w' => e = .returned (.int .i64 16) ∧ Below w.heap.size w w' := fun A c w hr => by
    have h := lsize_any A 2 c row8L w hr (by decide) (allOkI_near (mayP8_parts row8_may).1) (by decide)
    rw [show sizeI row8L = 16 by decide +kernel] at h
    exact h
  have HF1 : ∀ (A : Option Addr) (c : Nat) (w : World), Reads w w.heap.size 5 A 2 (itc row8L) → Calls Try.prog 13 #[.slice A 2 c, .string ⟨#[97, 97]⟩] w fun e w' => e = .returned (.tuple #[.int .i64 1, .bool false]) ∧ Below w.heap.size w w' := fun A c w hr => by
    have h := lfind_any A 2 c row8L ⟨#[97, 97]⟩ w hr (by decide)
    rw [show findN row8L ⟨#[97, 97]⟩ = 1 by decide +kernel, show findB row8L ⟨#[97, 97]⟩ = false by decide +kernel] at h
    exact h
  have HF2 : ∀ (A : Option Addr) (c : Nat) (w : World), Reads w w.heap.size 5 A 2 (itc row8L) → Calls Try.prog 13 #[.slice A 2 c, .string ⟨#[98]⟩] w fun e w' => e = .returned (.tuple #[.int .i64 1, .bool true]) ∧ Below w.heap.size w w' := fun A c w hr => by
    have h := lfind_any A 2 c row8L ⟨#[98]⟩ w hr (by decide)
    rw [show findN row8L ⟨#[98]⟩ = 1 by decide +kernel, show findB row8L ⟨#[98]⟩ = true by decide +kernel] at h
    exact h
  have HI1 : ∀ w : World, Calls Try.prog 16 #[.int .i64 128, .int .i64 0] w fun e w' => e = .returned (.bool true) ∧ Below w.heap.size w w' := fun w => lin_any 128 0 w (by decide)
  have HI2 : ∀ w : World, Calls Try.prog 16 #[.int .i64 128, .int .i64 (-1)] w fun e w' => e = .returned (.bool false) ∧ Below w.heap.size w w' := fun w => lin_any 128 (-1) w (by decide)
  have hq16 : ((B.extract 0 16).toList == [0, 1, 97, 1, 118, 1, 1, 98, 44, 1, 0, 0, 9, 0, 0, 0]) = true := by rw [hB, row8_16]; simp
  obtain ⟨hzp, hi⟩ := zero_of_info infoPg
  have HIp := Lib.hid hi
  have HBS := Lib.hid hBs
  clear hi hB hL1 hL2 hL3 hK hBs hrd hmk
  have HB := Lib.hid (Below.refl w.heap.size w)
  go_enter Try.func3, Try.ntmps3
  go_wp2_with fail
  refine (lives8_any _).mono ?_
  rintro e w101 ⟨rfl, hb⟩
  replace HB := Lib.hid (HB.out.trans (hb.mono HB.out.size))
  clear hb
  go_wp2_with fail
  refine (row8_is _).mono ?_
  rintro e wr ⟨A1, c1, rfl, hr, _, _, hb⟩
  replace HB := Lib.hid (HB.out.trans (hb.mono HB.out.size))
  have R1 := Lib.hid hr
  clear hb hr
  go_wp2_with fail
  refine (HP1 A1 c1 _ R1.out).mono ?_
  rintro e w102 ⟨rfl, hb⟩
  replace HB := Lib.hid (HB.out.trans (hb.mono HB.out.size))
  clear hb
  clear R1 HP1
  obtain ⟨w103, hw103⟩ : ∃ x, x = w102.alloc (.cells #[.int .i64 4, .int .i64 2, .int .u32 7, .int .u32 0, .int .u64 9, .string B] 26) := ⟨_, rfl⟩
  have saw103 : w102.heap.size = w102.heap.size := by first | rfl | omega
  have ge_Pp := Lib.hid (show w.heap.size ≤ w102.heap.size from saw103 ▸ HB.out.size)
  replace HB := Lib.hid (show Below w.heap.size w w103 by rw [hw103]; exact HB.out.alloc HB.out.size _)
  have Pp := Lib.hid (show Blk w103 w102.heap.size 26 #[.int .i64 4, .int .i64 2, .int .u32 7, .int .u32 0, .int .u64 9, .string B] by rw [hw103, ← saw103]; exact Blk.new _ _ _)
  have szw103 : w103.heap.size = w102.heap.size + 1 := by rw [hw103]; simp
  clear saw103 szw103
  go_upto_region 4 with fail
  rw [← hw103]
  clear hw103
  generalize w102.heap.size = gPp at *
  have aPp_0 := Pp.out.cell 0
  have aPp_1 := Pp.out.cell 1
  have aPp_2 := Pp.out.cell 2
  have aPp_3 := Pp.out.cell 3
  have aPp_4 := Pp.out.cell 4
  have aPp_5 := Pp.out.cell 5
  simp at aPp_0 aPp_1 aPp_2 aPp_3 aPp_4 aPp_5
  go_wp2_with fail
  refine (HO0 _).mono ?_
  intro e w6 hpost
  obtain ⟨A6, n6, c6, rfl, hr6, hc6, hm6, hb⟩ := hpost
  obtain rfl : 2 = n6 := it_len hr6
  have R6 := Lib.hid hr6
  replace HB := Lib.hid (HB.out.trans (hb.mono HB.out.size))
  replace Pp := Lib.hid (Pp.out.below hb Pp.out.lt)
  clear hb hr6 HO0 aPp_0 aPp_1 aPp_2 aPp_3 aPp_4 aPp_5
  go_wp2_with fail
  refine (HP2 none 0 _ Reads.none_).mono ?_
  rintro e w104 ⟨rfl, hb⟩
  replace HB := Lib.hid (HB.out.trans (hb.mono HB.out.size))
  replace Pp := Lib.hid (Pp.out.below hb Pp.out.lt)
  replace R6 := Lib.hid ((R6.out.below hb).more hb.size)
  clear hb
  clear HP2
  obtain ⟨v106, hv106⟩ : ∃ x, x = w104.alloc (.cells #[.int .i64 0, .int .i64 0, .int .u32 0, .int .u32 0, .int .u64 0, .string ByteArray.empty] 26) := ⟨_, rfl⟩
  have sav106 : w104.heap.size = w104.heap.size := by first | rfl | omega
  have lt_Pp_D1 := Lib.hid (show gPp < w104.heap.size from sav106 ▸ Pp.out.lt)
  replace Pp := Lib.hid (show Blk v106 gPp 26 #[.int .i64 4, .int .i64 2, .int .u32 7, .int .u32 0, .int .u64 9, .string B] by rw [hv106]; exact Pp.out.alloc _)
  have ge_D1 := Lib.hid (show w.heap.size ≤ w104.heap.size from sav106 ▸ HB.out.size)
  replace HB := Lib.hid (show Below w.heap.size w v106 by rw [hv106]; exact HB.out.alloc HB.out.size _)
  replace R6 := Lib.hid (show Reads v106 v106.heap.size _ _ _ _ by rw [hv106]; exact (R6.out.alloc (Nat.le_refl _) _).more (by simp))
  have D1 := Lib.hid (show Blk v106 w104.heap.size 26 #[.int .i64 0, .int .i64 0, .int .u32 0, .int .u32 0, .int .u64 0, .string ByteArray.empty] by rw [hv106, ← sav106]; exact Blk.new _ _ _)
  have szv106 : v106.heap.size = w104.heap.size + 1 := by rw [hv106]; simp
  obtain ⟨w105, hw105⟩ : ∃ x, x = v106.alloc (.cells #[.string ⟨#[97]⟩, .string ⟨#[118]⟩, .bool false, .int .i64 1, .int .u32 0] 35) := ⟨_, rfl⟩
  have saw105 : v106.heap.size = (w104.heap.size + 1) := by first | rfl | omega
  have lt_Pp_L1b := Lib.hid (show gPp < (w104.heap.size + 1) from saw105 ▸ Pp.out.lt)
  replace Pp := Lib.hid (show Blk w105 gPp 26 #[.int .i64 4, .int .i64 2, .int .u32 7, .int .u32 0, .int .u64 9, .string B] by rw [hw105]; exact Pp.out.alloc _)
  have lt_D1_L1b := Lib.hid (show w104.heap.size < (w104.heap.size + 1) from saw105 ▸ D1.out.lt)
  replace D1 := Lib.hid (show Blk w105 w104.heap.size 26 #[.int .i64 0, .int .i64 0, .int .u32 0, .int .u32 0, .int .u64 0, .string ByteArray.empty] by rw [hw105]; exact D1.out.alloc _)
  have ge_L1b := Lib.hid (show w.heap.size ≤ (w104.heap.size + 1) from saw105 ▸ HB.out.size)
  replace HB := Lib.hid (show Below w.heap.size w w105 by rw [hw105]; exact HB.out.alloc HB.out.size _)
  replace R6 := Lib.hid (show Reads w105 w105.heap.size _ _ _ _ by rw [hw105]; exact (R6.out.alloc (Nat.le_refl _) _).more (by simp))
  have L1b := Lib.hid (show Blk w105 (w104.heap.size + 1) 35 #[.string ⟨#[97]⟩, .string ⟨#[118]⟩, .bool false, .int .i64 1, .int .u32 0] by rw [hw105, ← saw105]; exact Blk.new _ _ _)
  have szw105 : w105.heap.size = v106.heap.size + 1 := by rw [hw105]; simp
  clear sav106 szv106 saw105 szw105
  go_wp2_with fail
  rw [← hv106, ← hw105]
  clear hv106 hw105
  generalize (w104.heap.size + 1) = gL1b at *
  generalize w104.heap.size = gD1 at *
  clear D1
  refine (HP3 _ 1 _ (show Reads _ _ 5 _ 1 (itc len8) from ((reads_own (n := 1) L1b.out rfl).more L1b.out.lt))).mono ?_
  rintro e w107 ⟨rfl, hb⟩
  replace HB := Lib.hid (HB.out.trans (hb.mono HB.out.size))
  replace Pp := Lib.hid (Pp.out.below hb Pp.out.lt)
  replace L1b := Lib.hid (L1b.out.below hb L1b.out.lt)
  replace R6 := Lib.hid ((R6.out.below hb).more hb.size)
  clear hb
  clear HP3
  clear L1b
  obtain ⟨v109, hv109⟩ : ∃ x, x = w107.alloc (.cells #[.int .i64 0, .int .i64 0, .int .u32 0, .int .u32 0, .int .u64 0, .string ByteArray.empty] 26) := ⟨_, rfl⟩
  have sav109 : w107.heap.size = w107.heap.size := by first | rfl | omega
  have lt_Pp_D2 := Lib.hid (show gPp < w107.heap.size from sav109 ▸ Pp.out.lt)
  replace Pp := Lib.hid (show Blk v109 gPp 26 #[.int .i64 4, .int .i64 2, .int .u32 7, .int .u32 0, .int .u64 9, .string B] by rw [hv109]; exact Pp.out.alloc _)
  have ge_D2 := Lib.hid (show w.heap.size ≤ w107.heap.size from sav109 ▸ HB.out.size)
  replace HB := Lib.hid (show Below w.heap.size w v109 by rw [hv109]; exact HB.out.alloc HB.out.size _)
  replace R6 := Lib.hid (show Reads v109 v109.heap.size _ _ _ _ by rw [hv109]; exact (R6.out.alloc (Nat.le_refl _) _).more (by simp))
  have D2 := Lib.hid (show Blk v109 w107.heap.size 26 #[.int .i64 0, .int .i64 0, .int .u32 0, .int .u32 0, .int .u64 0, .string ByteArray.empty] by rw [hv109, ← sav109]; exact Blk.new _ _ _)
  have szv109 : v109.heap.size = w107.heap.size + 1 := by rw [hv109]; simp
  obtain ⟨w108, hw108⟩ : ∃ x, x = v109.alloc (.cells #[.string ⟨#[97]⟩, .string ⟨#[]⟩, .bool true, .int .i64 4097, .int .u32 9] 35) := ⟨_, rfl⟩
  have saw108 : v109.heap.size = (w107.heap.size + 1) := by first | rfl | omega
  have lt_Pp_L2b := Lib.hid (show gPp < (w107.heap.size + 1) from saw108 ▸ Pp.out.lt)
  replace Pp := Lib.hid (show Blk w108 gPp 26 #[.int .i64 4, .int .i64 2, .int .u32 7, .int .u32 0, .int .u64 9, .string B] by rw [hw108]; exact Pp.out.alloc _)
  have lt_D2_L2b := Lib.hid (show w107.heap.size < (w107.heap.size + 1) from saw108 ▸ D2.out.lt)
  replace D2 := Lib.hid (show Blk w108 w107.heap.size 26 #[.int .i64 0, .int .i64 0, .int .u32 0, .int .u32 0, .int .u64 0, .string ByteArray.empty] by rw [hw108]; exact D2.out.alloc _)
  have ge_L2b := Lib.hid (show w.heap.size ≤ (w107.heap.size + 1) from saw108 ▸ HB.out.size)
  replace HB := Lib.hid (show Below w.heap.size w w108 by rw [hw108]; exact HB.out.alloc HB.out.size _)
  replace R6 := Lib.hid (show Reads w108 w108.heap.size _ _ _ _ by rw [hw108]; exact (R6.out.alloc (Nat.le_refl _) _).more (by simp))
  have L2b := Lib.hid (show Blk w108 (w107.heap.size + 1) 35 #[.string ⟨#[97]⟩, .string ⟨#[]⟩, .bool true, .int .i64 4097, .int .u32 9] by rw [hw108, ← saw108]; exact Blk.new _ _ _)
  have szw108 : w108.heap.size = v109.heap.size + 1 := by rw [hw108]; simp
  clear sav109 szv109 saw108 szw108
  go_wp2_with fail
  rw [← hv109, ← hw108]
  clear hv109 hw108
  generalize (w107.heap.size + 1) = gL2b at *
  generalize w107.heap.size = gD2 at *
  clear D2
  refine (HP4 _ 1 _ (show Reads _ _ 5 _ 1 (itc big8) from ((reads_own (n := 1) L2b.out rfl).more L2b.out.lt))).mono ?_
  rintro e w110 ⟨rfl, hb⟩
  replace HB := Lib.hid (HB.out.trans (hb.mono HB.out.size))
  replace Pp := Lib.hid (Pp.out.below hb Pp.out.lt)
  replace L2b := Lib.hid (L2b.out.below hb L2b.out.lt)
  replace R6 := Lib.hid ((R6.out.below hb).more hb.size)
  clear hb
  clear HP4
  clear L2b
  obtain ⟨w111, hw111⟩ : ∃ x, x = w110.alloc (.cells #[.int .i64 0, .int .i64 0, .int .u32 0, .int .u32 0, .int .u64 0, .string ByteArray.empty] 26) := ⟨_, rfl⟩
  have saw111 : w110.heap.size = w110.heap.size := by first | rfl | omega
  have lt_Pp_D3 := Lib.hid (show gPp < w110.heap.size from saw111 ▸ Pp.out.lt)
  replace Pp := Lib.hid (show Blk w111 gPp 26 #[.int .i64 4, .int .i64 2, .int .u32 7, .int .u32 0, .int .u64 9, .string B] by rw [hw111]; exact Pp.out.alloc _)
  have ge_D3 := Lib.hid (show w.heap.size ≤ w110.heap.size from saw111 ▸ HB.out.size)
  replace HB := Lib.hid (show Below w.heap.size w w111 by rw [hw111]; exact HB.out.alloc HB.out.size _)
  replace R6 := Lib.hid (show Reads w111 w111.heap.size _ _ _ _ by rw [hw111]; exact (R6.out.alloc (Nat.le_refl _) _).more (by simp))
  have D3 := Lib.hid (show Blk w111 w110.heap.size 26 #[.int .i64 0, .int .i64 0, .int .u32 0, .int .u32 0, .int .u64 0, .string ByteArray.empty] by rw [hw111, ← saw111]; exact Blk.new _ _ _)
  have szw111 : w111.heap.size = w110.heap.size + 1 := by rw [hw111]; simp
  clear saw111 szw111
  go_wp2_with fail
  rw [← hw111]
  clear hw111
  generalize w110.heap.size = gD3 at *
  clear D3
  refine (HT1 _).mono ?_
  rintro e w112 ⟨rfl, rfl⟩
  clear HT1
  obtain ⟨w113, hw113⟩ : ∃ x, x = w111.alloc (.cells #[.string ⟨#[97]⟩, .string L1, .bool false, .int .i64 0, .int .u32 0] 35) := ⟨_, rfl⟩
  have saw113 : w111.heap.size = w111.heap.size := by first | rfl | omega
  have lt_Pp_M1 := Lib.hid (show gPp < w111.heap.size from saw113 ▸ Pp.out.lt)
  replace Pp := Lib.hid (show Blk w113 gPp 26 #[.int .i64 4, .int .i64 2, .int .u32 7, .int .u32 0, .int .u64 9, .string B] by rw [hw113]; exact Pp.out.alloc _)
  have ge_M1 := Lib.hid (show w.heap.size ≤ w111.heap.size from saw113 ▸ HB.out.size)
  replace HB := Lib.hid (show Below w.heap.size w w113 by rw [hw113]; exact HB.out.alloc HB.out.size _)
  replace R6 := Lib.hid (show Reads w113 w113.heap.size _ _ _ _ by rw [hw113]; exact (R6.out.alloc (Nat.le_refl _) _).more (by simp))
  have M1 := Lib.hid (show Blk w113 w111.heap.size 35 #[.string ⟨#[97]⟩, .string L1, .bool false, .int .i64 0, .int .u32 0] by rw [hw113, ← saw113]; exact Blk.new _ _ _)
  have szw113 : w113.heap.size = w111.heap.size + 1 := by rw [hw113]; simp
  clear saw113 szw113
  go_wp2_with fail
  rw [← hw113]
  clear hw113
  generalize w111.heap.size = gM1 at *
  refine (HP5 _ 1 _ (show Reads _ _ 5 _ 1 (itc (val8 L1)) from ((reads_own (n := 1) M1.out rfl).more M1.out.lt))).mono ?_
  rintro e w114 ⟨rfl, hb⟩
  replace HB := Lib.hid (HB.out.trans (hb.mono HB.out.size))
  replace Pp := Lib.hid (Pp.out.below hb Pp.out.lt)
  replace M1 := Lib.hid (M1.out.below hb M1.out.lt)
  replace R6 := Lib.hid ((R6.out.below hb).more hb.size)
  clear hb
  clear HP5
  clear M1
  obtain ⟨w115, hw115⟩ : ∃ x, x = w114.alloc (.cells #[.int .i64 0, .int .i64 0, .int .u32 0, .int .u32 0, .int .u64 0, .string ByteArray.empty] 26) := ⟨_, rfl⟩
  have saw115 : w114.heap.size = w114.heap.size := by first | rfl | omega
  have lt_Pp_E1 := Lib.hid (show gPp < w114.heap.size from saw115 ▸ Pp.out.lt)
  replace Pp := Lib.hid (show Blk w115 gPp 26 #[.int .i64 4, .int .i64 2, .int .u32 7, .int .u32 0, .int .u64 9, .string B] by rw [hw115]; exact Pp.out.alloc _)
  have ge_E1 := Lib.hid (show w.heap.size ≤ w114.heap.size from saw115 ▸ HB.out.size)
  replace HB := Lib.hid (show Below w.heap.size w w115 by rw [hw115]; exact HB.out.alloc HB.out.size _)
  replace R6 := Lib.hid (show Reads w115 w115.heap.size _ _ _ _ by rw [hw115]; exact (R6.out.alloc (Nat.le_refl _) _).more (by simp))
  have E1 := Lib.hid (show Blk w115 w114.heap.size 26 #[.int .i64 0, .int .i64 0, .int .u32 0, .int .u32 0, .int .u64 0, .string ByteArray.empty] by rw [hw115, ← saw115]; exact Blk.new _ _ _)
  have szw115 : w115.heap.size = w114.heap.size + 1 := by rw [hw115]; simp
  clear saw115 szw115
  go_wp2_with fail
  rw [← hw115]
  clear hw115
  generalize w114.heap.size = gE1 at *
  clear E1
  refine (HT2 _).mono ?_
  rintro e w116 ⟨rfl, rfl⟩
  clear HT2
  obtain ⟨w117, hw117⟩ : ∃ x, x = w115.alloc (.cells #[.string ⟨#[97]⟩, .string L2, .bool false, .int .i64 0, .int .u32 0] 35) := ⟨_, rfl⟩
  have saw117 : w115.heap.size = w115.heap.size := by first | rfl | omega
  have lt_Pp_M2 := Lib.hid (show gPp < w115.heap.size from saw117 ▸ Pp.out.lt)
  replace Pp := Lib.hid (show Blk w117 gPp 26 #[.int .i64 4, .int .i64 2, .int .u32 7, .int .u32 0, .int .u64 9, .string B] by rw [hw117]; exact Pp.out.alloc _)
  have ge_M2 := Lib.hid (show w.heap.size ≤ w115.heap.size from saw117 ▸ HB.out.size)
  replace HB := Lib.hid (show Below w.heap.size w w117 by rw [hw117]; exact HB.out.alloc HB.out.size _)
  replace R6 := Lib.hid (show Reads w117 w117.heap.size _ _ _ _ by rw [hw117]; exact (R6.out.alloc (Nat.le_refl _) _).more (by simp))
  have M2 := Lib.hid (show Blk w117 w115.heap.size 35 #[.string ⟨#[97]⟩, .string L2, .bool false, .int .i64 0, .int .u32 0] by rw [hw117, ← saw117]; exact Blk.new _ _ _)
  have szw117 : w117.heap.size = w115.heap.size + 1 := by rw [hw117]; simp
  clear saw117 szw117
  go_wp2_with fail
  rw [← hw117]
  clear hw117
  generalize w115.heap.size = gM2 at *
  refine (HP6 _ 1 _ (show Reads _ _ 5 _ 1 (itc (val8 L2)) from ((reads_own (n := 1) M2.out rfl).more M2.out.lt))).mono ?_
  rintro e w118 ⟨rfl, hb⟩
  replace HB := Lib.hid (HB.out.trans (hb.mono HB.out.size))
  replace Pp := Lib.hid (Pp.out.below hb Pp.out.lt)
  replace M2 := Lib.hid (M2.out.below hb M2.out.lt)
  replace R6 := Lib.hid ((R6.out.below hb).more hb.size)
  clear hb
  clear HP6
  clear M2
  obtain ⟨w119, hw119⟩ : ∃ x, x = w118.alloc (.cells #[.int .i64 4, .int .i64 1, .int .u32 7, .int .u32 0, .int .u64 9, .string K] 26) := ⟨_, rfl⟩
  have saw119 : w118.heap.size = w118.heap.size := by first | rfl | omega
  have lt_Pp_E2 := Lib.hid (show gPp < w118.heap.size from saw119 ▸ Pp.out.lt)
  replace Pp := Lib.hid (show Blk w119 gPp 26 #[.int .i64 4, .int .i64 2, .int .u32 7, .int .u32 0, .int .u64 9, .string B] by rw [hw119]; exact Pp.out.alloc _)
  have ge_E2 := Lib.hid (show w.heap.size ≤ w118.heap.size from saw119 ▸ HB.out.size)
  replace HB := Lib.hid (show Below w.heap.size w w119 by rw [hw119]; exact HB.out.alloc HB.out.size _)
  replace R6 := Lib.hid (show Reads w119 w119.heap.size _ _ _ _ by rw [hw119]; exact (R6.out.alloc (Nat.le_refl _) _).more (by simp))
  have E2 := Lib.hid (show Blk w119 w118.heap.size 26 #[.int .i64 4, .int .i64 1, .int .u32 7, .int .u32 0, .int .u64 9, .string K] by rw [hw119, ← saw119]; exact Blk.new _ _ _)
  have szw119 : w119.heap.size = w118.heap.size + 1 := by rw [hw119]; simp
  clear saw119 szw119
  go_wp2_with fail
  rw [← hw119]
  clear hw119
  generalize w118.heap.size = gE2 at *
  clear E2
  refine (HT3 _).mono ?_
  rintro e w120 ⟨rfl, rfl⟩
  clear HT3
  obtain ⟨w121, hw121⟩ : ∃ x, x = w119.alloc (.cells #[.string ⟨#[97]⟩, .string L3, .bool false, .int .i64 0, .int .u32 0] 35) := ⟨_, rfl⟩
  have saw121 : w119.heap.size = w119.heap.size := by first | rfl | omega
  have lt_Pp_M3 := Lib.hid (show gPp < w119.heap.size from saw121 ▸ Pp.out.lt)
  replace Pp := Lib.hid (show Blk w121 gPp 26 #[.int .i64 4, .int .i64 2, .int .u32 7, .int .u32 0, .int .u64 9, .string B] by rw [hw121]; exact Pp.out.alloc _)
  have ge_M3 := Lib.hid (show w.heap.size ≤ w119.heap.size from saw121 ▸ HB.out.size)
  replace HB := Lib.hid (show Below w.heap.size w w121 by rw [hw121]; exact HB.out.alloc HB.out.size _)
  replace R6 := Lib.hid (show Reads w121 w121.heap.size _ _ _ _ by rw [hw121]; exact (R6.out.alloc (Nat.le_refl _) _).more (by simp))
  have M3 := Lib.hid (show Blk w121 w119.heap.size 35 #[.string ⟨#[97]⟩, .string L3, .bool false, .int .i64 0, .int .u32 0] by rw [hw121, ← saw121]; exact Blk.new _ _ _)
  have szw121 : w121.heap.size = w119.heap.size + 1 := by rw [hw121]; simp
  clear saw121 szw121
  go_wp2_with fail
  rw [← hw121]
  clear hw121
  generalize w119.heap.size = gM3 at *
  refine (HP7 _ 1 _ (show Reads _ _ 5 _ 1 (itc (val8 L3)) from ((reads_own (n := 1) M3.out rfl).more M3.out.lt))).mono ?_
  rintro e w122 ⟨rfl, hb⟩
  replace HB := Lib.hid (HB.out.trans (hb.mono HB.out.size))
  replace Pp := Lib.hid (Pp.out.below hb Pp.out.lt)
  replace M3 := Lib.hid (M3.out.below hb M3.out.lt)
  replace R6 := Lib.hid ((R6.out.below hb).more hb.size)
  clear hb
  clear HP7
  clear M3
  have R6f := Lib.hid (show Reads w122 w122.heap.size 5 A6 2 (itc row8L) from R6.out)
  clear R6
  have hBs := HBS.out
  have lzPp := Pp.out.lt
  have dPp_0 := Pp.out.cell 0
  have dPp_1 := Pp.out.cell 1
  have dPp_2 := Pp.out.cell 2
  have dPp_3 := Pp.out.cell 3
  have dPp_4 := Pp.out.cell 4
  have dPp_5 := Pp.out.cell 5
  simp at dPp_0 dPp_1 dPp_2 dPp_3 dPp_4 dPp_5
  obtain ⟨v124, hv124⟩ : ∃ x, x = w122.alloc (.cells #[.int .i64 0, .int .i64 0, .int .u32 0, .int .u32 0, .int .u64 0, .string ByteArray.empty] 26) := ⟨_, rfl⟩
  have sav124 : w122.heap.size = w122.heap.size := by first | rfl | omega
  have lt_Pp_D5 := Lib.hid (show gPp < w122.heap.size from sav124 ▸ Pp.out.lt)
  replace Pp := Lib.hid (show Blk v124 gPp 26 #[.int .i64 4, .int .i64 2, .int .u32 7, .int .u32 0, .int .u64 9, .string B] by rw [hv124]; exact Pp.out.alloc _)
  have ge_D5 := Lib.hid (show w.heap.size ≤ w122.heap.size from sav124 ▸ HB.out.size)
  replace HB := Lib.hid (show Below w.heap.size w v124 by rw [hv124]; exact HB.out.alloc HB.out.size _)
  have D5 := Lib.hid (show Blk v124 w122.heap.size 26 #[.int .i64 0, .int .i64 0, .int .u32 0, .int .u32 0, .int .u64 0, .string ByteArray.empty] by rw [hv124, ← sav124]; exact Blk.new _ _ _)
  have szv124 : v124.heap.size = w122.heap.size + 1 := by rw [hv124]; simp
  obtain ⟨w123, hw123⟩ : ∃ x, x = v124.alloc (.cells #[.int .i64 4, .int .i64 2, .int .u32 7, .int .u32 0, .int .u64 9, .string B] 26) := ⟨_, rfl⟩
  have saw123 : v124.heap.size = (w122.heap.size + 1) := by first | rfl | omega
  have lt_Pp_Qq := Lib.hid (show gPp < (w122.heap.size + 1) from saw123 ▸ Pp.out.lt)
  replace Pp := Lib.hid (show Blk w123 gPp 26 #[.int .i64 4, .int .i64 2, .int .u32 7, .int .u32 0, .int .u64 9, .string B] by rw [hw123]; exact Pp.out.alloc _)
  have lt_D5_Qq := Lib.hid (show w122.heap.size < (w122.heap.size + 1) from saw123 ▸ D5.out.lt)
  replace D5 := Lib.hid (show Blk w123 w122.heap.size 26 #[.int .i64 0, .int .i64 0, .int .u32 0, .int .u32 0, .int .u64 0, .string ByteArray.empty] by rw [hw123]; exact D5.out.alloc _)
  have ge_Qq := Lib.hid (show w.heap.size ≤ (w122.heap.size + 1) from saw123 ▸ HB.out.size)
  replace HB := Lib.hid (show Below w.heap.size w w123 by rw [hw123]; exact HB.out.alloc HB.out.size _)
  have Qq := Lib.hid (show Blk w123 (w122.heap.size + 1) 26 #[.int .i64 4, .int .i64 2, .int .u32 7, .int .u32 0, .int .u64 9, .string B] by rw [hw123, ← saw123]; exact Blk.new _ _ _)
  have szw123 : w123.heap.size = v124.heap.size + 1 := by rw [hw123]; simp
  replace R6f := Lib.hid (show Reads w123 w122.heap.size 5 A6 2 (itc row8L) by rw [hw123, hv124]; exact (R6f.out.alloc (Nat.le_refl _) _).alloc (by simp) _)
  clear sav124 szv124 saw123 szw123
  have cPp_0 := Pp.out.cell 0
  have cPp_1 := Pp.out.cell 1
  have cPp_2 := Pp.out.cell 2
  have cPp_3 := Pp.out.cell 3
  have cPp_4 := Pp.out.cell 4
  have cPp_5 := Pp.out.cell 5
  rw [hw123, hv124] at cPp_0 cPp_1 cPp_2 cPp_3 cPp_4 cPp_5
  simp at cPp_0 cPp_1 cPp_2 cPp_3 cPp_4 cPp_5
  go_upto_region 14 with fail
  rw [← hv124, ← hw123]
  clear hv124 hw123 lzPp dPp_0 dPp_1 dPp_2 dPp_3 dPp_4 dPp_5 cPp_0 cPp_1 cPp_2 cPp_3 cPp_4 cPp_5
  generalize (w122.heap.size + 1) = gQq at *
  generalize w122.heap.size = gD5 at *
  clear D5
  have yPp_0 := Pp.out.cell 0
  have yPp_1 := Pp.out.cell 1
  have yPp_2 := Pp.out.cell 2
  have yPp_3 := Pp.out.cell 3
  have yPp_4 := Pp.out.cell 4
  have yPp_5 := Pp.out.cell 5
  simp at yPp_0 yPp_1 yPp_2 yPp_3 yPp_4 yPp_5
  have fzQq_5 := Qq.out.frozen 5
  have lzQq := Qq.out.lt
  have dQq_0 := Qq.out.cell 0
  have dQq_1 := Qq.out.cell 1
  have dQq_2 := Qq.out.cell 2
  have dQq_3 := Qq.out.cell 3
  have dQq_4 := Qq.out.cell 4
  have dQq_5 := Qq.out.cell 5
  simp at dQq_0 dQq_1 dQq_2 dQq_3 dQq_4 dQq_5
  obtain ⟨w125, hw125⟩ : ∃ x, x = w123.setCell ⟨gQq, 5, none⟩ (.string (⟨#[2]⟩ ++ B.extract 1 104)) := ⟨_, rfl⟩
  replace Pp := Lib.hid (show Blk w125 gPp 26 #[.int .i64 4, .int .i64 2, .int .u32 7, .int .u32 0, .int .u64 9, .string B] by rw [hw125]; exact Pp.out.far (p := ⟨gQq, 5, none⟩) (Nat.ne_of_lt lt_Pp_Qq.out) (.string (⟨#[2]⟩ ++ B.extract 1 104)))
  replace Qq := Lib.hid (show Blk w125 gQq 26 #[.int .i64 4, .int .i64 2, .int .u32 7, .int .u32 0, .int .u64 9, .string (⟨#[2]⟩ ++ B.extract 1 104)] by rw [hw125]; exact Qq.out.set_ 5 (.string (⟨#[2]⟩ ++ B.extract 1 104)))
  replace HB := Lib.hid (show Below w.heap.size w w125 by rw [hw125]; exact HB.out.setCell (p := ⟨gQq, 5, none⟩) ge_Qq.out (.string (⟨#[2]⟩ ++ B.extract 1 104)))
  have szw125 : w125.heap.size = w123.heap.size := by rw [hw125]; simp [World.setCell]
  replace R6f := Lib.hid (show Reads w125 gD5 5 A6 2 (itc row8L) by rw [hw125]; exact R6f.out.setCell (p := ⟨gQq, 5, none⟩) (Nat.le_of_lt lt_D5_Qq.out) _)
  clear szw125
  have cQq_0 := Qq.out.cell 0
  have cQq_1 := Qq.out.cell 1
  have cQq_2 := Qq.out.cell 2
  have cQq_3 := Qq.out.cell 3
  have cQq_4 := Qq.out.cell 4
  have cQq_5 := Qq.out.cell 5
  rw [hw125] at cQq_0 cQq_1 cQq_2 cQq_3 cQq_4 cQq_5
  simp at cQq_0 cQq_1 cQq_2 cQq_3 cQq_4 cQq_5
  go_wp2_with fail
  rw [← hw125]
  clear hw125 fzQq_5 lzQq dQq_0 dQq_1 dQq_2 dQq_3 dQq_4 dQq_5 cQq_0 cQq_1 cQq_2 cQq_3 cQq_4 cQq_5
  clear yPp_0 yPp_1 yPp_2 yPp_3 yPp_4 yPp_5
  have R6 := Lib.hid (R6f.out.more (Nat.le_of_lt (Nat.lt_trans lt_D5_Qq.out Qq.out.lt)))
  clear R6f
  refine (HO1 _).mono ?_
  rintro e w126 ⟨rfl, hb⟩
  replace HB := Lib.hid (HB.out.trans (hb.mono HB.out.size))
  replace Pp := Lib.hid (Pp.out.below hb Pp.out.lt)
  replace Qq := Lib.hid (Qq.out.below hb Qq.out.lt)
  replace R6 := Lib.hid ((R6.out.below hb).more hb.size)
  clear hb
  clear HO1
  clear Qq
  have zPp_0 := Pp.out.cell 0
  have zPp_1 := Pp.out.cell 1
  have zPp_2 := Pp.out.cell 2
  have zPp_3 := Pp.out.cell 3
  have zPp_4 := Pp.out.cell 4
  have zPp_5 := Pp.out.cell 5
  simp at zPp_0 zPp_1 zPp_2 zPp_3 zPp_4 zPp_5
  go_wp2_with fail
  refine (row8_is _).mono ?_
  rintro e wq1 ⟨B1, d1, rfl, hr, _, _, hb⟩
  replace HB := Lib.hid (HB.out.trans (hb.mono HB.out.size))
  replace Pp := Lib.hid (Pp.out.below hb Pp.out.lt)
  replace R6 := Lib.hid ((R6.out.below hb).more hb.size)
  have T1 := Lib.hid hr
  clear hb hr
  clear zPp_0 zPp_1 zPp_2 zPp_3 zPp_4 zPp_5
  have zPp_0 := Pp.out.cell 0
  have zPp_1 := Pp.out.cell 1
  have zPp_2 := Pp.out.cell 2
  have zPp_3 := Pp.out.cell 3
  have zPp_4 := Pp.out.cell 4
  have zPp_5 := Pp.out.cell 5
  simp at zPp_0 zPp_1 zPp_2 zPp_3 zPp_4 zPp_5
  go_wp2_with fail
  refine (HF1 B1 d1 _ T1.out).mono ?_
  rintro e wf1 ⟨rfl, hb⟩
  replace HB := Lib.hid (HB.out.trans (hb.mono HB.out.size))
  replace Pp := Lib.hid (Pp.out.below hb Pp.out.lt)
  replace R6 := Lib.hid ((R6.out.below hb).more hb.size)
  clear hb T1 HF1
  clear zPp_0 zPp_1 zPp_2 zPp_3 zPp_4 zPp_5
  have zPp_0 := Pp.out.cell 0
  have zPp_1 := Pp.out.cell 1
  have zPp_2 := Pp.out.cell 2
  have zPp_3 := Pp.out.cell 3
  have zPp_4 := Pp.out.cell 4
  have zPp_5 := Pp.out.cell 5
  simp at zPp_0 zPp_1 zPp_2 zPp_3 zPp_4 zPp_5
  go_wp2_with fail
  refine (row8_is _).mono ?_
  rintro e wq2 ⟨B2, d2, rfl, hr, _, _, hb⟩
  replace HB := Lib.hid (HB.out.trans (hb.mono HB.out.size))
  replace Pp := Lib.hid (Pp.out.below hb Pp.out.lt)
  replace R6 := Lib.hid ((R6.out.below hb).more hb.size)
  have T2 := Lib.hid hr
  clear hb hr
  clear zPp_0 zPp_1 zPp_2 zPp_3 zPp_4 zPp_5
  have zPp_0 := Pp.out.cell 0
  have zPp_1 := Pp.out.cell 1
  have zPp_2 := Pp.out.cell 2
  have zPp_3 := Pp.out.cell 3
  have zPp_4 := Pp.out.cell 4
  have zPp_5 := Pp.out.cell 5
  simp at zPp_0 zPp_1 zPp_2 zPp_3 zPp_4 zPp_5
  go_wp2_with fail
  refine (HF2 B2 d2 _ T2.out).mono ?_
  rintro e wf2 ⟨rfl, hb⟩
  replace HB := Lib.hid (HB.out.trans (hb.mono HB.out.size))
  replace Pp := Lib.hid (Pp.out.below hb Pp.out.lt)
  replace R6 := Lib.hid ((R6.out.below hb).more hb.size)
  clear hb T2 HF2
  clear zPp_0 zPp_1 zPp_2 zPp_3 zPp_4 zPp_5
  have zPp_0 := Pp.out.cell 0
  have zPp_1 := Pp.out.cell 1
  have zPp_2 := Pp.out.cell 2
  have zPp_3 := Pp.out.cell 3
  have zPp_4 := Pp.out.cell 4
  have zPp_5 := Pp.out.cell 5
  simp at zPp_0 zPp_1 zPp_2 zPp_3 zPp_4 zPp_5
  go_wp2_with fail
  refine (row8_is _).mono ?_
  rintro e wq3 ⟨B3, d3, rfl, hr, _, _, hb⟩
  replace HB := Lib.hid (HB.out.trans (hb.mono HB.out.size))
  replace Pp := Lib.hid (Pp.out.below hb Pp.out.lt)
  replace R6 := Lib.hid ((R6.out.below hb).more hb.size)
  have T3 := Lib.hid hr
  clear hb hr
  clear zPp_0 zPp_1 zPp_2 zPp_3 zPp_4 zPp_5
  have zPp_0 := Pp.out.cell 0
  have zPp_1 := Pp.out.cell 1
  have zPp_2 := Pp.out.cell 2
  have zPp_3 := Pp.out.cell 3
  have zPp_4 := Pp.out.cell 4
  have zPp_5 := Pp.out.cell 5
  simp at zPp_0 zPp_1 zPp_2 zPp_3 zPp_4 zPp_5
  go_wp2_with fail
  refine (same8_yes A6 2 c6 B3 d3 row8L _ R6.out T3.out (by decide)).mono ?_
  rintro e wq31 ⟨rfl, q, hq⟩
  have hb : Below wq3.heap.size wq3 wq31 := by rw [hq]; exact below_drewN (Below.refl _ _) q
  replace HB := Lib.hid (HB.out.trans (hb.mono HB.out.size))
  replace Pp := Lib.hid (Pp.out.below hb Pp.out.lt)
  clear hb hq T3 R6
  clear zPp_0 zPp_1 zPp_2 zPp_3 zPp_4 zPp_5
  have zPp_0 := Pp.out.cell 0
  have zPp_1 := Pp.out.cell 1
  have zPp_2 := Pp.out.cell 2
  have zPp_3 := Pp.out.cell 3
  have zPp_4 := Pp.out.cell 4
  have zPp_5 := Pp.out.cell 5
  simp at zPp_0 zPp_1 zPp_2 zPp_3 zPp_4 zPp_5
  go_wp2_with fail
  refine (row8_is _).mono ?_
  rintro e wq4 ⟨B4, d4, rfl, hr, _, _, hb⟩
  replace HB := Lib.hid (HB.out.trans (hb.mono HB.out.size))
  replace Pp := Lib.hid (Pp.out.below hb Pp.out.lt)
  have T4 := Lib.hid hr
  clear hb hr
  clear zPp_0 zPp_1 zPp_2 zPp_3 zPp_4 zPp_5
  have zPp_0 := Pp.out.cell 0
  have zPp_1 := Pp.out.cell 1
  have zPp_2 := Pp.out.cell 2
  have zPp_3 := Pp.out.cell 3
  have zPp_4 := Pp.out.cell 4
  have zPp_5 := Pp.out.cell 5
  simp at zPp_0 zPp_1 zPp_2 zPp_3 zPp_4 zPp_5
  go_wp2_with fail
  refine (HSz B4 d4 _ T4.out).mono ?_
  rintro e wq59 ⟨rfl, hb⟩
  replace HB := Lib.hid (HB.out.trans (hb.mono HB.out.size))
  replace Pp := Lib.hid (Pp.out.below hb Pp.out.lt)
  clear hb T4
  clear zPp_0 zPp_1 zPp_2 zPp_3 zPp_4 zPp_5
  have zPp_0 := Pp.out.cell 0
  have zPp_1 := Pp.out.cell 1
  have zPp_2 := Pp.out.cell 2
  have zPp_3 := Pp.out.cell 3
  have zPp_4 := Pp.out.cell 4
  have zPp_5 := Pp.out.cell 5
  simp at zPp_0 zPp_1 zPp_2 zPp_3 zPp_4 zPp_5
  go_wp2_with fail
  refine (HI1 _).mono ?_
  rintro e wq63 ⟨rfl, hb⟩
  replace HB := Lib.hid (HB.out.trans (hb.mono HB.out.size))
  replace Pp := Lib.hid (Pp.out.below hb Pp.out.lt)
  clear hb HI1
  clear zPp_0 zPp_1 zPp_2 zPp_3 zPp_4 zPp_5
  have zPp_0 := Pp.out.cell 0
  have zPp_1 := Pp.out.cell 1
  have zPp_2 := Pp.out.cell 2
  have zPp_3 := Pp.out.cell 3
  have zPp_4 := Pp.out.cell 4
  have zPp_5 := Pp.out.cell 5
  simp at zPp_0 zPp_1 zPp_2 zPp_3 zPp_4 zPp_5
  go_wp2_with fail
  refine (HI2 _).mono ?_
  rintro e wq64 ⟨rfl, hb⟩
  replace HB := Lib.hid (HB.out.trans (hb.mono HB.out.size))
  replace Pp := Lib.hid (Pp.out.below hb Pp.out.lt)
  clear hb HI2
  go_wp2_with fail
  go_ret
  exact ⟨rfl, HB.out⟩
end Go.Proofs.Ytinojpcjbjjlbaa
