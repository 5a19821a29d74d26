/-
  The walk of the statement BranchNames: from every start it returns true and changes no block that was there before.
-/
import Derived.Test.YtddnfmdplkmmdaaFkLaw
import Derived.Test.YtddnfmdplkmmdaaKitLaw
import Derived.Test.YtddnfmdplkmmdaaOrder
import Derived.Test.YtddnfmdplkmmdaaPgWords
import Derived.Deep.CutRange
import Derived.Deep.RegionHeld3
namespace Go.Proofs.Ytddnfmdplkmmdaa
open Go.RowKit
open Go.Lib hiding intOf
set_option linter.unusedVariables false
set_option linter.unusedSimpArgs false
attribute [local go_sem ↓] Go.wp_at_zero Go.wp_at_succ

theorem six_cells7 {w : World} {g : Nat} {t : TypeId} {a0 a1 a2 a3 a4 a5 : Value} (h : Blk w g t #[a0, a1, a2, a3, a4, a5]) : w.cell? ⟨g, 0, none⟩ = some a0 ∧ w.cell? ⟨g, 1, none⟩ = some a1 ∧ w.cell? ⟨g, 2, none⟩ = some a2 ∧ w.cell? ⟨g, 3, none⟩ = some a3 ∧ w.cell? ⟨g, 4, none⟩ = some a4 ∧ w.cell? ⟨g, 5, none⟩ = some a5 := ⟨h.cell 0, h.cell 1, h.cell 2, h.cell 3, h.cell 4, h.cell 5⟩
theorem row7_may : mayP7 128 7 9 row7L = true := by decide +kernel
def two7 : List Fk := [⟨⟨#[98]⟩, 2⟩, ⟨⟨#[97]⟩, 3⟩]
def one7 : List Fk := [⟨⟨#[98]⟩, 1⟩]
def full7 (L : ByteArray) : List Fk := [⟨(⟨#[97]⟩ : ByteArray) ++ L, 2⟩, ⟨(⟨#[98]⟩ : ByteArray) ++ L, 2⟩, ⟨(⟨#[99]⟩ : ByteArray) ++ L, 2⟩]
def long7 (L : ByteArray) : List Fk := [⟨(⟨#[97]⟩ : ByteArray) ++ L ++ ⟨#[120]⟩, 2⟩]
theorem row7_bad : readF 3 2 7 0 9 (forkBody 128 row7L) = none := by
  have h : (readF 3 2 7 0 9 (forkBody 128 row7L)).isNone = true := by decide +kernel
  simpa using h
theorem row7_11 : ((forkBody 128 row7L).extract 0 11) = ⟨#[0, 5, 0, 0, 0, 1, 98, 6, 0, 0, 0]⟩ := by decide +kernel

set_option maxRecDepth 100000 in
set_option maxHeartbeats 25600000 in
theorem brnames_walk (w : World) :
    Calls Try.prog 3 #[] w fun e w' => e = .returned (.bool true) ∧ Below w.heap.size w w' := by
  obtain ⟨B, hB⟩ : ∃ B, B = forkBody 128 row7L := ⟨_, rfl⟩
  have hBs : B.size = 104 := by rw [hB, forkBody_size 128 row7L (by decide)]
  obtain ⟨L, hL⟩ : ∃ L, L = reps ⟨#[107]⟩ 39 := ⟨_, rfl⟩
  have hLs : L.size = 39 := by rw [hL]; decide +kernel
  have HP1 : ∀ (A : Option Addr) (c : Nat) (w' : World), Reads w' w'.heap.size 2 A 3 (fkc row7L) → Calls Try.prog 9 #[.int .i64 128, .int .u32 7, .int .u64 9, .slice A 3 c] w' fun e w'' => e = .returned (.tuple #[.agg #[.int .i64 3, .int .i64 3, .int .u32 7, .int .u32 0, .int .u64 9, .string B], .int .i64 0]) ∧ Below w'.heap.size w' w'' := fun A c w hr => by rw [hB]; exact bpage7_yes 128 7 9 A 3 c row7L w hr (by decide) row7_may
  have HP2 : ∀ (A : Option Addr) (c : Nat) (w' : World), Reads w' w'.heap.size 2 A 0 (fkc []) → Calls Try.prog 9 #[.int .i64 128, .int .u32 7, .int .u64 9, .slice A 0 c] w' fun e w'' => e = .returned (.tuple #[.agg #[.int .i64 0, .int .i64 0, .int .u32 0, .int .u32 0, .int .u64 0, .string ByteArray.empty], .int .i64 2]) ∧ Below w'.heap.size w' w'' := fun A c w hr => bpage7_no 128 7 9 A 0 c [] w hr (by decide) (by decide +kernel)
  have HP3 : ∀ (A : Option Addr) (c : Nat) (w' : World), Reads w' w'.heap.size 2 A 2 (fkc two7) → Calls Try.prog 9 #[.int .i64 128, .int .u32 7, .int .u64 9, .slice A 2 c] w' fun e w'' => e = .returned (.tuple #[.agg #[.int .i64 0, .int .i64 0, .int .u32 0, .int .u32 0, .int .u64 0, .string ByteArray.empty], .int .i64 2]) ∧ Below w'.heap.size w' w'' := fun A c w hr => bpage7_no 128 7 9 A 2 c two7 w hr (by decide) (by decide +kernel)
  have HP4 : ∀ (A : Option Addr) (c : Nat) (w' : World), Reads w' w'.heap.size 2 A 1 (fkc one7) → Calls Try.prog 9 #[.int .i64 128, .int .u32 7, .int .u64 9, .slice A 1 c] w' fun e w'' => e = .returned (.tuple #[.agg #[.int .i64 0, .int .i64 0, .int .u32 0, .int .u32 0, .int .u64 0, .string ByteArray.empty], .int .i64 2]) ∧ Below w'.heap.size w' w'' := fun A c w hr => bpage7_no 128 7 9 A 1 c one7 w hr (by decide) (by decide +kernel)
  have HP5 : ∀ (A : Option Addr) (c : Nat) (w' : World), Reads w' w'.heap.size 2 A 3 (fkc (full7 L)) → Calls Try.prog 9 #[.int .i64 128, .int .u32 7, .int .u64 9, .slice A 3 c] w' fun e w'' => e = .returned (.tuple #[.agg #[.int .i64 0, .int .i64 0, .int .u32 0, .int .u32 0, .int .u64 0, .string ByteArray.empty], .int .i64 2]) ∧ Below w'.heap.size w' w'' := fun A c w hr => bpage7_no 128 7 9 A 3 c (full7 L) w hr (by decide) (by rw [hL]; decide +kernel)
  have HP6 : ∀ (A : Option Addr) (c : Nat) (w' : World), Reads w' w'.heap.size 2 A 1 (fkc (long7 L)) → Calls Try.prog 9 #[.int .i64 128, .int .u32 7, .int .u64 9, .slice A 1 c] w' fun e w'' => e = .returned (.tuple #[.agg #[.int .i64 0, .int .i64 0, .int .u32 0, .int .u32 0, .int .u64 0, .string ByteArray.empty], .int .i64 2]) ∧ Below w'.heap.size w' w'' := fun A c w hr => bpage7_no 128 7 9 A 1 c (long7 L) w hr (by decide) (by rw [hL]; decide +kernel)
  have HO0 := fun w : World => bof7_any 3 3 7 0 9 B w (by omega)
  have hrd : readF 3 3 7 0 9 B = some row7L := by rw [hB]; exact readF_page (l := row7L) row7_may
  rw [hrd] at HO0
  have HO1 : ∀ w : World, Calls Try.prog 11 #[.agg #[.int .i64 3, .int .i64 2, .int .u32 7, .int .u32 0, .int .u64 9, .string B]] w fun e w' => e = .returned (.tuple #[.slice none 0 0, .int .i64 4]) ∧ Below w.heap.size w w' := fun w => by
    have h := bof7_any 3 2 7 0 9 B w (by omega)
    rw [hB, row7_bad, ← hB] at h
    exact h
  have HT : ∀ w : World, Calls Try.prog 12 #[.string ⟨#[107]⟩, .int .i64 39] w fun e w' => e = .returned (.string L) ∧ w = w' := fun w => by
    rw [hL]
    exact times_any ⟨#[107]⟩ 39 w (by decide) (by decide)
  have HSz : ∀ (A : Option Addr) (c : Nat) (w : World), Reads w w.heap.size 2 A 3 (fkc row7L) → Calls Try.prog 14 #[.slice A 3 c] w fun e w' => e = .returned (.int .i64 17) ∧ Below w.heap.size w w' := fun A c w hr => by
    have h := bsize_any A 3 c row7L w hr (by decide) (by decide)
    rw [show sizeF row7L = 17 by decide +kernel] at h
    exact h
  have HPk : ∀ w : World, Calls Try.prog 15 #[.slice none 0 0, .string ⟨#[120]⟩] w fun e w' => e = .returned (.int .i64 0) ∧ Below w.heap.size w w' := fun w => by
    have h := bpick_any none 0 0 [] ⟨#[120]⟩ w Reads.none_ (by decide)
    rw [show pickF [] ⟨#[120]⟩ = 0 by decide +kernel] at h
    exact h
  have HK1 : ∀ w : World, Calls Try.prog 16 #[.string ⟨#[]⟩] w fun e w' => e = .returned (.bool true) ∧ w' = w := fun w => by
    have h := bkey_any ⟨#[]⟩ w
    rw [show keyF ⟨#[]⟩ = true by decide +kernel] at h
    exact h
  have HK2 : ∀ w : World, Calls Try.prog 16 #[.string (L ++ ⟨#[120, 120]⟩)] w fun e w' => e = .returned (.bool false) ∧ w' = w := fun w => by
    have h := bkey_any (L ++ ⟨#[120, 120]⟩) w
    rw [show keyF (L ++ ⟨#[120, 120]⟩) = false by rw [hL]; decide +kernel] at h
    exact h
  have hq11 : ((B.extract 0 11).toList == [0, 5, 0, 0, 0, 1, 98, 6, 0, 0, 0]) = true := by rw [hB, row7_11]; simp
  have hcat1 : ¬ (9223372036854775807 < 1 + L.size) := by omega
  have hcat2 : ¬ (9223372036854775807 < 1 + L.size + 1) := by omega
  have hcat3 : ¬ (9223372036854775807 < L.size + 2) := by omega
  obtain ⟨hzp, hi⟩ := zero_of_info infoPg
  have HIp := Lib.hid hi
  have HBS := Lib.hid hBs
  have HLS := Lib.hid hLs
  clear hi hB hL hBs hrd
  have HB := Lib.hid (Below.refl w.heap.size w)
  go_enter Try.func3, Try.ntmps3
  go_wp2_with fail
  refine (lives7_any _).mono ?_
  rintro e w101 ⟨rfl, hb⟩
  replace HB := Lib.hid (HB.out.trans (hb.mono HB.out.size))
  clear hb
  go_wp2_with fail
  refine (row7_is _).mono ?_
  rintro e wr ⟨A1, c1, rfl, hr, _, _, hb⟩
  replace HB := Lib.hid (HB.out.trans (hb.mono HB.out.size))
  have R1 := Lib.hid hr
  clear hb hr
  go_wp2_with fail
  refine (HP1 A1 c1 _ R1.out).mono ?_
  rintro e w102 ⟨rfl, hb⟩
  replace HB := Lib.hid (HB.out.trans (hb.mono HB.out.size))
  clear hb
  clear R1 HP1
  obtain ⟨w103, hw103⟩ : ∃ x, x = w102.alloc (.cells #[.int .i64 3, .int .i64 3, .int .u32 7, .int .u32 0, .int .u64 9, .string B] 26) := ⟨_, rfl⟩
  have saw103 : w102.heap.size = w102.heap.size := by first | rfl | omega
  have ge_Pp := Lib.hid (show w.heap.size ≤ w102.heap.size from saw103 ▸ HB.out.size)
  replace HB := Lib.hid (show Below w.heap.size w w103 by rw [hw103]; exact HB.out.alloc HB.out.size _)
  have Pp := Lib.hid (show Blk w103 w102.heap.size 26 #[.int .i64 3, .int .i64 3, .int .u32 7, .int .u32 0, .int .u64 9, .string B] by rw [hw103, ← saw103]; exact Blk.new _ _ _)
  have szw103 : w103.heap.size = w102.heap.size + 1 := by rw [hw103]; simp
  clear saw103 szw103
  go_upto_region 4 with fail
  rw [← hw103]
  clear hw103
  generalize w102.heap.size = gPp at *
  have aPp_0 := Pp.out.cell 0
  have aPp_1 := Pp.out.cell 1
  have aPp_2 := Pp.out.cell 2
  have aPp_3 := Pp.out.cell 3
  have aPp_4 := Pp.out.cell 4
  have aPp_5 := Pp.out.cell 5
  simp at aPp_0 aPp_1 aPp_2 aPp_3 aPp_4 aPp_5
  go_wp2_with fail
  refine (HO0 _).mono ?_
  intro e w6 hpost
  obtain ⟨A6, n6, c6, rfl, hr6, hc6, hm6, hb⟩ := hpost
  obtain rfl : 3 = n6 := fk_len hr6
  have R6 := Lib.hid hr6
  replace HB := Lib.hid (HB.out.trans (hb.mono HB.out.size))
  replace Pp := Lib.hid (Pp.out.below hb Pp.out.lt)
  clear hb hr6 HO0 aPp_0 aPp_1 aPp_2 aPp_3 aPp_4 aPp_5
  go_wp2_with fail
  refine (HP2 none 0 _ Reads.none_).mono ?_
  rintro e w104 ⟨rfl, hb⟩
  replace HB := Lib.hid (HB.out.trans (hb.mono HB.out.size))
  replace Pp := Lib.hid (Pp.out.below hb Pp.out.lt)
  replace R6 := Lib.hid ((R6.out.below hb).more hb.size)
  clear hb
  clear HP2
  obtain ⟨v106, hv106⟩ : ∃ x, x = w104.alloc (.cells #[.int .i64 0, .int .i64 0, .int .u32 0, .int .u32 0, .int .u64 0, .string ByteArray.empty] 26) := ⟨_, rfl⟩
  have sav106 : w104.heap.size = w104.heap.size := by first | rfl | omega
  have lt_Pp_D1 := Lib.hid (show gPp < w104.heap.size from sav106 ▸ Pp.out.lt)
  replace Pp := Lib.hid (show Blk v106 gPp 26 #[.int .i64 3, .int .i64 3, .int .u32 7, .int .u32 0, .int .u64 9, .string B] by rw [hv106]; exact Pp.out.alloc _)
  have ge_D1 := Lib.hid (show w.heap.size ≤ w104.heap.size from sav106 ▸ HB.out.size)
  replace HB := Lib.hid (show Below w.heap.size w v106 by rw [hv106]; exact HB.out.alloc HB.out.size _)
  replace R6 := Lib.hid (show Reads v106 v106.heap.size _ _ _ _ by rw [hv106]; exact (R6.out.alloc (Nat.le_refl _) _).more (by simp))
  have D1 := Lib.hid (show Blk v106 w104.heap.size 26 #[.int .i64 0, .int .i64 0, .int .u32 0, .int .u32 0, .int .u64 0, .string ByteArray.empty] by rw [hv106, ← sav106]; exact Blk.new _ _ _)
  have szv106 : v106.heap.size = w104.heap.size + 1 := by rw [hv106]; simp
  obtain ⟨w105, hw105⟩ : ∃ x, x = v106.alloc (.cells #[.string ⟨#[98]⟩, .int .u32 2, .string ⟨#[97]⟩, .int .u32 3] 35) := ⟨_, rfl⟩
  have saw105 : v106.heap.size = (w104.heap.size + 1) := by first | rfl | omega
  have lt_Pp_L1 := Lib.hid (show gPp < (w104.heap.size + 1) from saw105 ▸ Pp.out.lt)
  replace Pp := Lib.hid (show Blk w105 gPp 26 #[.int .i64 3, .int .i64 3, .int .u32 7, .int .u32 0, .int .u64 9, .string B] by rw [hw105]; exact Pp.out.alloc _)
  have lt_D1_L1 := Lib.hid (show w104.heap.size < (w104.heap.size + 1) from saw105 ▸ D1.out.lt)
  replace D1 := Lib.hid (show Blk w105 w104.heap.size 26 #[.int .i64 0, .int .i64 0, .int .u32 0, .int .u32 0, .int .u64 0, .string ByteArray.empty] by rw [hw105]; exact D1.out.alloc _)
  have ge_L1 := Lib.hid (show w.heap.size ≤ (w104.heap.size + 1) from saw105 ▸ HB.out.size)
  replace HB := Lib.hid (show Below w.heap.size w w105 by rw [hw105]; exact HB.out.alloc HB.out.size _)
  replace R6 := Lib.hid (show Reads w105 w105.heap.size _ _ _ _ by rw [hw105]; exact (R6.out.alloc (Nat.le_refl _) _).more (by simp))
  have L1 := Lib.hid (show Blk w105 (w104.heap.size + 1) 35 #[.string ⟨#[98]⟩, .int .u32 2, .string ⟨#[97]⟩, .int .u32 3] by rw [hw105, ← saw105]; exact Blk.new _ _ _)
  have szw105 : w105.heap.size = v106.heap.size + 1 := by rw [hw105]; simp
  clear sav106 szv106 saw105 szw105
  go_wp2_with fail
  rw [← hv106, ← hw105]
  clear hv106 hw105
  generalize (w104.heap.size + 1) = gL1 at *
  generalize w104.heap.size = gD1 at *
  clear D1
  refine (HP3 _ 2 _ (show Reads _ _ 2 _ 2 (fkc two7) from ((reads_own (n := 2) L1.out rfl).more L1.out.lt))).mono ?_
  rintro e w107 ⟨rfl, hb⟩
  replace HB := Lib.hid (HB.out.trans (hb.mono HB.out.size))
  replace Pp := Lib.hid (Pp.out.below hb Pp.out.lt)
  replace L1 := Lib.hid (L1.out.below hb L1.out.lt)
  replace R6 := Lib.hid ((R6.out.below hb).more hb.size)
  clear hb
  clear HP3
  clear L1
  obtain ⟨v109, hv109⟩ : ∃ x, x = w107.alloc (.cells #[.int .i64 0, .int .i64 0, .int .u32 0, .int .u32 0, .int .u64 0, .string ByteArray.empty] 26) := ⟨_, rfl⟩
  have sav109 : w107.heap.size = w107.heap.size := by first | rfl | omega
  have lt_Pp_D2 := Lib.hid (show gPp < w107.heap.size from sav109 ▸ Pp.out.lt)
  replace Pp := Lib.hid (show Blk v109 gPp 26 #[.int .i64 3, .int .i64 3, .int .u32 7, .int .u32 0, .int .u64 9, .string B] by rw [hv109]; exact Pp.out.alloc _)
  have ge_D2 := Lib.hid (show w.heap.size ≤ w107.heap.size from sav109 ▸ HB.out.size)
  replace HB := Lib.hid (show Below w.heap.size w v109 by rw [hv109]; exact HB.out.alloc HB.out.size _)
  replace R6 := Lib.hid (show Reads v109 v109.heap.size _ _ _ _ by rw [hv109]; exact (R6.out.alloc (Nat.le_refl _) _).more (by simp))
  have D2 := Lib.hid (show Blk v109 w107.heap.size 26 #[.int .i64 0, .int .i64 0, .int .u32 0, .int .u32 0, .int .u64 0, .string ByteArray.empty] by rw [hv109, ← sav109]; exact Blk.new _ _ _)
  have szv109 : v109.heap.size = w107.heap.size + 1 := by rw [hv109]; simp
  obtain ⟨w108, hw108⟩ : ∃ x, x = v109.alloc (.cells #[.string ⟨#[98]⟩, .int .u32 1] 35) := ⟨_, rfl⟩
  have saw108 : v109.heap.size = (w107.heap.size + 1) := by first | rfl | omega
  have lt_Pp_L2 := Lib.hid (show gPp < (w107.heap.size + 1) from saw108 ▸ Pp.out.lt)
  replace Pp := Lib.hid (show Blk w108 gPp 26 #[.int .i64 3, .int .i64 3, .int .u32 7, .int .u32 0, .int .u64 9, .string B] by rw [hw108]; exact Pp.out.alloc _)
  have lt_D2_L2 := Lib.hid (show w107.heap.size < (w107.heap.size + 1) from saw108 ▸ D2.out.lt)
  replace D2 := Lib.hid (show Blk w108 w107.heap.size 26 #[.int .i64 0, .int .i64 0, .int .u32 0, .int .u32 0, .int .u64 0, .string ByteArray.empty] by rw [hw108]; exact D2.out.alloc _)
  have ge_L2 := Lib.hid (show w.heap.size ≤ (w107.heap.size + 1) from saw108 ▸ HB.out.size)
  replace HB := Lib.hid (show Below w.heap.size w w108 by rw [hw108]; exact HB.out.alloc HB.out.size _)
  replace R6 := Lib.hid (show Reads w108 w108.heap.size _ _ _ _ by rw [hw108]; exact (R6.out.alloc (Nat.le_refl _) _).more (by simp))
  have L2 := Lib.hid (show Blk w108 (w107.heap.size + 1) 35 #[.string ⟨#[98]⟩, .int .u32 1] by rw [hw108, ← saw108]; exact Blk.new _ _ _)
  have szw108 : w108.heap.size = v109.heap.size + 1 := by rw [hw108]; simp
  clear sav109 szv109 saw108 szw108
  go_wp2_with fail
  rw [← hv109, ← hw108]
  clear hv109 hw108
  generalize (w107.heap.size + 1) = gL2 at *
  generalize w107.heap.size = gD2 at *
  clear D2
  refine (HP4 _ 1 _ (show Reads _ _ 2 _ 1 (fkc one7) from ((reads_own (n := 1) L2.out rfl).more L2.out.lt))).mono ?_
  rintro e w110 ⟨rfl, hb⟩
  replace HB := Lib.hid (HB.out.trans (hb.mono HB.out.size))
  replace Pp := Lib.hid (Pp.out.below hb Pp.out.lt)
  replace L2 := Lib.hid (L2.out.below hb L2.out.lt)
  replace R6 := Lib.hid ((R6.out.below hb).more hb.size)
  clear hb
  clear HP4
  clear L2
  obtain ⟨w111, hw111⟩ : ∃ x, x = w110.alloc (.cells #[.int .i64 0, .int .i64 0, .int .u32 0, .int .u32 0, .int .u64 0, .string ByteArray.empty] 26) := ⟨_, rfl⟩
  have saw111 : w110.heap.size = w110.heap.size := by first | rfl | omega
  have lt_Pp_D3 := Lib.hid (show gPp < w110.heap.size from saw111 ▸ Pp.out.lt)
  replace Pp := Lib.hid (show Blk w111 gPp 26 #[.int .i64 3, .int .i64 3, .int .u32 7, .int .u32 0, .int .u64 9, .string B] by rw [hw111]; exact Pp.out.alloc _)
  have ge_D3 := Lib.hid (show w.heap.size ≤ w110.heap.size from saw111 ▸ HB.out.size)
  replace HB := Lib.hid (show Below w.heap.size w w111 by rw [hw111]; exact HB.out.alloc HB.out.size _)
  replace R6 := Lib.hid (show Reads w111 w111.heap.size _ _ _ _ by rw [hw111]; exact (R6.out.alloc (Nat.le_refl _) _).more (by simp))
  have D3 := Lib.hid (show Blk w111 w110.heap.size 26 #[.int .i64 0, .int .i64 0, .int .u32 0, .int .u32 0, .int .u64 0, .string ByteArray.empty] by rw [hw111, ← saw111]; exact Blk.new _ _ _)
  have szw111 : w111.heap.size = w110.heap.size + 1 := by rw [hw111]; simp
  clear saw111 szw111
  go_wp2_with fail
  rw [← hw111]
  clear hw111
  generalize w110.heap.size = gD3 at *
  clear D3
  refine (HT _).mono ?_
  rintro e w112 ⟨rfl, rfl⟩
  clear HT
  obtain ⟨w113, hw113⟩ : ∃ x, x = w111.alloc (.cells #[.string ((⟨#[97]⟩ : ByteArray) ++ L), .int .u32 2, .string ((⟨#[98]⟩ : ByteArray) ++ L), .int .u32 2, .string ((⟨#[99]⟩ : ByteArray) ++ L), .int .u32 2] 35) := ⟨_, rfl⟩
  have saw113 : w111.heap.size = w111.heap.size := by first | rfl | omega
  have lt_Pp_Fu := Lib.hid (show gPp < w111.heap.size from saw113 ▸ Pp.out.lt)
  replace Pp := Lib.hid (show Blk w113 gPp 26 #[.int .i64 3, .int .i64 3, .int .u32 7, .int .u32 0, .int .u64 9, .string B] by rw [hw113]; exact Pp.out.alloc _)
  have ge_Fu := Lib.hid (show w.heap.size ≤ w111.heap.size from saw113 ▸ HB.out.size)
  replace HB := Lib.hid (show Below w.heap.size w w113 by rw [hw113]; exact HB.out.alloc HB.out.size _)
  replace R6 := Lib.hid (show Reads w113 w113.heap.size _ _ _ _ by rw [hw113]; exact (R6.out.alloc (Nat.le_refl _) _).more (by simp))
  have Fu := Lib.hid (show Blk w113 w111.heap.size 35 #[.string ((⟨#[97]⟩ : ByteArray) ++ L), .int .u32 2, .string ((⟨#[98]⟩ : ByteArray) ++ L), .int .u32 2, .string ((⟨#[99]⟩ : ByteArray) ++ L), .int .u32 2] by rw [hw113, ← saw113]; exact Blk.new _ _ _)
  have szw113 : w113.heap.size = w111.heap.size + 1 := by rw [hw113]; simp
  clear saw113 szw113
  go_wp2_with fail
  rw [← hw113]
  clear hw113
  generalize w111.heap.size = gFu at *
  refine (HP5 _ 3 _ (show Reads _ _ 2 _ 3 (fkc (full7 L)) from ((reads_own (n := 3) Fu.out rfl).more Fu.out.lt))).mono ?_
  rintro e w114 ⟨rfl, hb⟩
  replace HB := Lib.hid (HB.out.trans (hb.mono HB.out.size))
  replace Pp := Lib.hid (Pp.out.below hb Pp.out.lt)
  replace Fu := Lib.hid (Fu.out.below hb Fu.out.lt)
  replace R6 := Lib.hid ((R6.out.below hb).more hb.size)
  clear hb
  clear HP5
  clear Fu
  obtain ⟨v116, hv116⟩ : ∃ x, x = w114.alloc (.cells #[.int .i64 0, .int .i64 0, .int .u32 0, .int .u32 0, .int .u64 0, .string ByteArray.empty] 26) := ⟨_, rfl⟩
  have sav116 : w114.heap.size = w114.heap.size := by first | rfl | omega
  have lt_Pp_D4 := Lib.hid (show gPp < w114.heap.size from sav116 ▸ Pp.out.lt)
  replace Pp := Lib.hid (show Blk v116 gPp 26 #[.int .i64 3, .int .i64 3, .int .u32 7, .int .u32 0, .int .u64 9, .string B] by rw [hv116]; exact Pp.out.alloc _)
  have ge_D4 := Lib.hid (show w.heap.size ≤ w114.heap.size from sav116 ▸ HB.out.size)
  replace HB := Lib.hid (show Below w.heap.size w v116 by rw [hv116]; exact HB.out.alloc HB.out.size _)
  replace R6 := Lib.hid (show Reads v116 v116.heap.size _ _ _ _ by rw [hv116]; exact (R6.out.alloc (Nat.le_refl _) _).more (by simp))
  have D4 := Lib.hid (show Blk v116 w114.heap.size 26 #[.int .i64 0, .int .i64 0, .int .u32 0, .int .u32 0, .int .u64 0, .string ByteArray.empty] by rw [hv116, ← sav116]; exact Blk.new _ _ _)
  have szv116 : v116.heap.size = w114.heap.size + 1 := by rw [hv116]; simp
  obtain ⟨w115, hw115⟩ : ∃ x, x = v116.alloc (.cells #[.string (((⟨#[97]⟩ : ByteArray) ++ L) ++ (⟨#[120]⟩ : ByteArray)), .int .u32 2] 35) := ⟨_, rfl⟩
  have saw115 : v116.heap.size = (w114.heap.size + 1) := by first | rfl | omega
  have lt_Pp_Lo := Lib.hid (show gPp < (w114.heap.size + 1) from saw115 ▸ Pp.out.lt)
  replace Pp := Lib.hid (show Blk w115 gPp 26 #[.int .i64 3, .int .i64 3, .int .u32 7, .int .u32 0, .int .u64 9, .string B] by rw [hw115]; exact Pp.out.alloc _)
  have lt_D4_Lo := Lib.hid (show w114.heap.size < (w114.heap.size + 1) from saw115 ▸ D4.out.lt)
  replace D4 := Lib.hid (show Blk w115 w114.heap.size 26 #[.int .i64 0, .int .i64 0, .int .u32 0, .int .u32 0, .int .u64 0, .string ByteArray.empty] by rw [hw115]; exact D4.out.alloc _)
  have ge_Lo := Lib.hid (show w.heap.size ≤ (w114.heap.size + 1) from saw115 ▸ HB.out.size)
  replace HB := Lib.hid (show Below w.heap.size w w115 by rw [hw115]; exact HB.out.alloc HB.out.size _)
  replace R6 := Lib.hid (show Reads w115 w115.heap.size _ _ _ _ by rw [hw115]; exact (R6.out.alloc (Nat.le_refl _) _).more (by simp))
  have Lo := Lib.hid (show Blk w115 (w114.heap.size + 1) 35 #[.string (((⟨#[97]⟩ : ByteArray) ++ L) ++ (⟨#[120]⟩ : ByteArray)), .int .u32 2] by rw [hw115, ← saw115]; exact Blk.new _ _ _)
  have szw115 : w115.heap.size = v116.heap.size + 1 := by rw [hw115]; simp
  clear sav116 szv116 saw115 szw115
  go_wp2_with fail
  rw [← hv116, ← hw115]
  clear hv116 hw115
  generalize (w114.heap.size + 1) = gLo at *
  generalize w114.heap.size = gD4 at *
  clear D4
  refine (HP6 _ 1 _ (show Reads _ _ 2 _ 1 (fkc (long7 L)) from ((reads_own (n := 1) Lo.out rfl).more Lo.out.lt))).mono ?_
  rintro e w117 ⟨rfl, hb⟩
  replace HB := Lib.hid (HB.out.trans (hb.mono HB.out.size))
  replace Pp := Lib.hid (Pp.out.below hb Pp.out.lt)
  replace Lo := Lib.hid (Lo.out.below hb Lo.out.lt)
  replace R6 := Lib.hid ((R6.out.below hb).more hb.size)
  clear hb
  clear HP6
  clear Lo
  have R6f := Lib.hid (show Reads w117 w117.heap.size 2 A6 3 (fkc row7L) from R6.out)
  clear R6
  have lzPp := Pp.out.lt
  have dPp_0 := Pp.out.cell 0
  have dPp_1 := Pp.out.cell 1
  have dPp_2 := Pp.out.cell 2
  have dPp_3 := Pp.out.cell 3
  have dPp_4 := Pp.out.cell 4
  have dPp_5 := Pp.out.cell 5
  simp at dPp_0 dPp_1 dPp_2 dPp_3 dPp_4 dPp_5
  obtain ⟨v119, hv119⟩ : ∃ x, x = w117.alloc (.cells #[.int .i64 0, .int .i64 0, .int .u32 0, .int .u32 0, .int .u64 0, .string ByteArray.empty] 26) := ⟨_, rfl⟩
  have sav119 : w117.heap.size = w117.heap.size := by first | rfl | omega
  have lt_Pp_D5 := Lib.hid (show gPp < w117.heap.size from sav119 ▸ Pp.out.lt)
  replace Pp := Lib.hid (show Blk v119 gPp 26 #[.int .i64 3, .int .i64 3, .int .u32 7, .int .u32 0, .int .u64 9, .string B] by rw [hv119]; exact Pp.out.alloc _)
  have ge_D5 := Lib.hid (show w.heap.size ≤ w117.heap.size from sav119 ▸ HB.out.size)
  replace HB := Lib.hid (show Below w.heap.size w v119 by rw [hv119]; exact HB.out.alloc HB.out.size _)
  have D5 := Lib.hid (show Blk v119 w117.heap.size 26 #[.int .i64 0, .int .i64 0, .int .u32 0, .int .u32 0, .int .u64 0, .string ByteArray.empty] by rw [hv119, ← sav119]; exact Blk.new _ _ _)
  have szv119 : v119.heap.size = w117.heap.size + 1 := by rw [hv119]; simp
  obtain ⟨w118, hw118⟩ : ∃ x, x = v119.alloc (.cells #[.int .i64 3, .int .i64 3, .int .u32 7, .int .u32 0, .int .u64 9, .string B] 26) := ⟨_, rfl⟩
  have saw118 : v119.heap.size = (w117.heap.size + 1) := by first | rfl | omega
  have lt_Pp_Qq := Lib.hid (show gPp < (w117.heap.size + 1) from saw118 ▸ Pp.out.lt)
  replace Pp := Lib.hid (show Blk w118 gPp 26 #[.int .i64 3, .int .i64 3, .int .u32 7, .int .u32 0, .int .u64 9, .string B] by rw [hw118]; exact Pp.out.alloc _)
  have lt_D5_Qq := Lib.hid (show w117.heap.size < (w117.heap.size + 1) from saw118 ▸ D5.out.lt)
  replace D5 := Lib.hid (show Blk w118 w117.heap.size 26 #[.int .i64 0, .int .i64 0, .int .u32 0, .int .u32 0, .int .u64 0, .string ByteArray.empty] by rw [hw118]; exact D5.out.alloc _)
  have ge_Qq := Lib.hid (show w.heap.size ≤ (w117.heap.size + 1) from saw118 ▸ HB.out.size)
  replace HB := Lib.hid (show Below w.heap.size w w118 by rw [hw118]; exact HB.out.alloc HB.out.size _)
  have Qq := Lib.hid (show Blk w118 (w117.heap.size + 1) 26 #[.int .i64 3, .int .i64 3, .int .u32 7, .int .u32 0, .int .u64 9, .string B] by rw [hw118, ← saw118]; exact Blk.new _ _ _)
  have szw118 : w118.heap.size = v119.heap.size + 1 := by rw [hw118]; simp
  replace R6f := Lib.hid (show Reads w118 w117.heap.size 2 A6 3 (fkc row7L) by rw [hw118, hv119]; exact (R6f.out.alloc (Nat.le_refl _) _).alloc (by simp) _)
  clear sav119 szv119 saw118 szw118
  have cPp_0 := Pp.out.cell 0
  have cPp_1 := Pp.out.cell 1
  have cPp_2 := Pp.out.cell 2
  have cPp_3 := Pp.out.cell 3
  have cPp_4 := Pp.out.cell 4
  have cPp_5 := Pp.out.cell 5
  rw [hw118, hv119] at cPp_0 cPp_1 cPp_2 cPp_3 cPp_4 cPp_5
  simp at cPp_0 cPp_1 cPp_2 cPp_3 cPp_4 cPp_5
  go_upto_region 12 with fail
  rw [← hv119, ← hw118]
  clear hv119 hw118 lzPp dPp_0 dPp_1 dPp_2 dPp_3 dPp_4 dPp_5 cPp_0 cPp_1 cPp_2 cPp_3 cPp_4 cPp_5
  generalize (w117.heap.size + 1) = gQq at *
  generalize w117.heap.size = gD5 at *
  clear D5
  have fzQq_1 := Qq.out.frozen 1
  have lzQq := Qq.out.lt
  have dQq_0 := Qq.out.cell 0
  have dQq_1 := Qq.out.cell 1
  have dQq_2 := Qq.out.cell 2
  have dQq_3 := Qq.out.cell 3
  have dQq_4 := Qq.out.cell 4
  have dQq_5 := Qq.out.cell 5
  simp at dQq_0 dQq_1 dQq_2 dQq_3 dQq_4 dQq_5
  obtain ⟨w120, hw120⟩ : ∃ x, x = w118.setCell ⟨gQq, 1, none⟩ (.int .i64 2) := ⟨_, rfl⟩
  replace Pp := Lib.hid (show Blk w120 gPp 26 #[.int .i64 3, .int .i64 3, .int .u32 7, .int .u32 0, .int .u64 9, .string B] by rw [hw120]; exact Pp.out.far (p := ⟨gQq, 1, none⟩) (Nat.ne_of_lt lt_Pp_Qq.out) (.int .i64 2))
  replace Qq := Lib.hid (show Blk w120 gQq 26 #[.int .i64 3, .int .i64 2, .int .u32 7, .int .u32 0, .int .u64 9, .string B] by rw [hw120]; exact Qq.out.set_ 1 (.int .i64 2))
  replace HB := Lib.hid (show Below w.heap.size w w120 by rw [hw120]; exact HB.out.setCell (p := ⟨gQq, 1, none⟩) ge_Qq.out (.int .i64 2))
  have szw120 : w120.heap.size = w118.heap.size := by rw [hw120]; simp [World.setCell]
  replace R6f := Lib.hid (show Reads w120 gD5 2 A6 3 (fkc row7L) by rw [hw120]; exact R6f.out.setCell (p := ⟨gQq, 1, none⟩) (Nat.le_of_lt lt_D5_Qq.out) _)
  clear szw120
  have cQq_0 := Qq.out.cell 0
  have cQq_1 := Qq.out.cell 1
  have cQq_2 := Qq.out.cell 2
  have cQq_3 := Qq.out.cell 3
  have cQq_4 := Qq.out.cell 4
  have cQq_5 := Qq.out.cell 5
  rw [hw120] at cQq_0 cQq_1 cQq_2 cQq_3 cQq_4 cQq_5
  simp at cQq_0 cQq_1 cQq_2 cQq_3 cQq_4 cQq_5
  go_wp2_with fail
  rw [← hw120]
  clear hw120 fzQq_1 lzQq dQq_0 dQq_1 dQq_2 dQq_3 dQq_4 dQq_5 cQq_0 cQq_1 cQq_2 cQq_3 cQq_4 cQq_5
  have R6 := Lib.hid (R6f.out.more (Nat.le_of_lt (Nat.lt_trans lt_D5_Qq.out Qq.out.lt)))
  clear R6f
  refine (HO1 _).mono ?_
  rintro e w121 ⟨rfl, hb⟩
  replace HB := Lib.hid (HB.out.trans (hb.mono HB.out.size))
  replace Pp := Lib.hid (Pp.out.below hb Pp.out.lt)
  replace Qq := Lib.hid (Qq.out.below hb Qq.out.lt)
  replace R6 := Lib.hid ((R6.out.below hb).more hb.size)
  clear hb
  clear HO1
  clear Qq
  have hBs := HBS.out
  have zPp_0 := Pp.out.cell 0
  have zPp_1 := Pp.out.cell 1
  have zPp_2 := Pp.out.cell 2
  have zPp_3 := Pp.out.cell 3
  have zPp_4 := Pp.out.cell 4
  have zPp_5 := Pp.out.cell 5
  simp at zPp_0 zPp_1 zPp_2 zPp_3 zPp_4 zPp_5
  go_wp2_with fail
  refine (row7_is _).mono ?_
  rintro e wq30 ⟨A9, c9, rfl, hr, _, _, hb⟩
  replace HB := Lib.hid (HB.out.trans (hb.mono HB.out.size))
  replace Pp := Lib.hid (Pp.out.below hb Pp.out.lt)
  replace R6 := Lib.hid ((R6.out.below hb).more hb.size)
  have RA := Lib.hid hr
  clear hb hr
  clear zPp_0 zPp_1 zPp_2 zPp_3 zPp_4 zPp_5
  have zPp_0 := Pp.out.cell 0
  have zPp_1 := Pp.out.cell 1
  have zPp_2 := Pp.out.cell 2
  have zPp_3 := Pp.out.cell 3
  have zPp_4 := Pp.out.cell 4
  have zPp_5 := Pp.out.cell 5
  simp at zPp_0 zPp_1 zPp_2 zPp_3 zPp_4 zPp_5
  go_wp2_with fail
  refine (same7_yes A6 3 c6 A9 c9 row7L _ R6.out RA.out (by decide)).mono ?_
  rintro e wq31 ⟨rfl, q, hq⟩
  have hb : Below wq30.heap.size wq30 wq31 := by rw [hq]; exact below_drewN (Below.refl _ _) q
  replace HB := Lib.hid (HB.out.trans (hb.mono HB.out.size))
  replace Pp := Lib.hid (Pp.out.below hb Pp.out.lt)
  clear hb hq RA R6
  clear zPp_0 zPp_1 zPp_2 zPp_3 zPp_4 zPp_5
  have zPp_0 := Pp.out.cell 0
  have zPp_1 := Pp.out.cell 1
  have zPp_2 := Pp.out.cell 2
  have zPp_3 := Pp.out.cell 3
  have zPp_4 := Pp.out.cell 4
  have zPp_5 := Pp.out.cell 5
  simp at zPp_0 zPp_1 zPp_2 zPp_3 zPp_4 zPp_5
  go_wp2_with fail
  refine (row7_is _).mono ?_
  rintro e wq58 ⟨A8, c8, rfl, hr, _, _, hb⟩
  replace HB := Lib.hid (HB.out.trans (hb.mono HB.out.size))
  replace Pp := Lib.hid (Pp.out.below hb Pp.out.lt)
  have RB := Lib.hid hr
  clear hb hr
  clear zPp_0 zPp_1 zPp_2 zPp_3 zPp_4 zPp_5
  have zPp_0 := Pp.out.cell 0
  have zPp_1 := Pp.out.cell 1
  have zPp_2 := Pp.out.cell 2
  have zPp_3 := Pp.out.cell 3
  have zPp_4 := Pp.out.cell 4
  have zPp_5 := Pp.out.cell 5
  simp at zPp_0 zPp_1 zPp_2 zPp_3 zPp_4 zPp_5
  go_wp2_with fail
  refine (HSz A8 c8 _ RB.out).mono ?_
  rintro e wq59 ⟨rfl, hb⟩
  replace HB := Lib.hid (HB.out.trans (hb.mono HB.out.size))
  replace Pp := Lib.hid (Pp.out.below hb Pp.out.lt)
  clear hb RB
  clear zPp_0 zPp_1 zPp_2 zPp_3 zPp_4 zPp_5
  have zPp_0 := Pp.out.cell 0
  have zPp_1 := Pp.out.cell 1
  have zPp_2 := Pp.out.cell 2
  have zPp_3 := Pp.out.cell 3
  have zPp_4 := Pp.out.cell 4
  have zPp_5 := Pp.out.cell 5
  simp at zPp_0 zPp_1 zPp_2 zPp_3 zPp_4 zPp_5
  go_wp2_with fail
  refine (HPk _).mono ?_
  rintro e wq63 ⟨rfl, hb⟩
  replace HB := Lib.hid (HB.out.trans (hb.mono HB.out.size))
  replace Pp := Lib.hid (Pp.out.below hb Pp.out.lt)
  clear hb
  clear zPp_0 zPp_1 zPp_2 zPp_3 zPp_4 zPp_5
  have zPp_0 := Pp.out.cell 0
  have zPp_1 := Pp.out.cell 1
  have zPp_2 := Pp.out.cell 2
  have zPp_3 := Pp.out.cell 3
  have zPp_4 := Pp.out.cell 4
  have zPp_5 := Pp.out.cell 5
  simp at zPp_0 zPp_1 zPp_2 zPp_3 zPp_4 zPp_5
  go_wp2_with fail
  refine (HK1 _).mono ?_
  rintro e wz ⟨rfl, rfl⟩
  go_wp2_with fail
  refine (HK2 _).mono ?_
  rintro e wz ⟨rfl, rfl⟩
  go_wp2_with fail
  go_ret
  exact ⟨rfl, HB.out⟩
end Go.Proofs.Ytddnfmdplkmmdaa
