/-
  The walk of the statement CatalogNames: from every start it returns true and changes no block that was there before.
-/
import Derived.Test.YtgljmcameeeaiaaCatLaw
import Derived.Test.YtgljmcameeeaiaaKitLaw
import Derived.Test.YtgljmcameeeaiaaOrder
import Derived.Deep.CutRange
import Derived.Deep.RegionHeld3
namespace Go.Proofs.Ytgljmcameeeaiaa
open Go.RowKit
open Go.Lib hiding intOf
set_option linter.unusedVariables false
set_option linter.unusedSimpArgs false
attribute [local go_sem ↓] Go.wp_at_zero Go.wp_at_succ

theorem row_blk (w : World) : Calls Try.prog 10 #[] w fun e w' => e = .returned (.slice (some ⟨w.heap.size, 0, none⟩) 2 2) ∧ Blk w' w.heap.size 33 #[.string ⟨#[97]⟩, .int .u32 5, .int .i64 3, .string ⟨#[99]⟩, .int .u32 0, .int .i64 0] ∧ Below w.heap.size w w' := by
  go_enter Try.func10, Try.ntmps10
  go_wp2
  go_ret
  exact ⟨rfl, Blk.new w _ _, (Below.refl _ _).alloc (Nat.le_refl _) _⟩
theorem own6_own (A : Option Addr) (n c : Nat) (l : List Bk) (w : World) (hr : Reads w w.heap.size 3 A n (bkc l)) (hn : n ≤ 1000000) :
    Calls Try.prog 12 #[.slice A n c] w fun e w' => ∃ v, e = .returned v ∧ w'.ownsRow w.heap.size 33 3 v n (bkc l) ∧ Below w.heap.size w w' := by
  obtain ⟨i0, hi0, hz0, hz1, hz2⟩ := info_parts infoBk
  have HO := Lib.hid (World.ownsRow_made (e := 33) (size := 3) w #[] 0 (Nat.le_refl w.heap.size) (by simp [maxLen]) rfl)
  have HB := Lib.hid ((Below.refl w.heap.size w).alloc (Nat.le_refl _) (.cells #[] 33))
  go_enter Try.func12, Try.ntmps12
  go_wp2_with (at_builtin; refine wpList_append_any _ rfl (.tmp 3) (.tmp 4) _ rfl w.heap.size 33 i0 _ 3 32 Try.underlying30 hi0 hz0 hz1 hz2 rfl (by omega) _ 0 [] rfl HO.out w.heap.size A n c _ rfl (hr.below HB.out) (bkc_one _) (by unfold maxLen; omega) (by omega) HB.out.size ?_; intro v2 w2 hown2 hg2 hat2)
  go_ret
  simp only [Nat.zero_add, List.nil_append] at hown2
  exact ⟨v2, rfl, hown2, HB.out.grown hg2 HB.out.size (by rintro g ⟨⟩; exact Nat.le_refl _)⟩
theorem six_cells {w : World} {g : Nat} {t : TypeId} {a0 a1 a2 a3 a4 a5 : Value} (h : Blk w g t #[a0, a1, a2, a3, a4, a5]) : w.cell? ⟨g, 0, none⟩ = some a0 ∧ w.cell? ⟨g, 1, none⟩ = some a1 ∧ w.cell? ⟨g, 2, none⟩ = some a2 ∧ w.cell? ⟨g, 3, none⟩ = some a3 ∧ w.cell? ⟨g, 4, none⟩ = some a4 ∧ w.cell? ⟨g, 5, none⟩ = some a5 := ⟨h.cell 0, h.cell 1, h.cell 2, h.cell 3, h.cell 4, h.cell 5⟩
def setL : List Bk := [bkA, ⟨⟨#[98]⟩, 0, 0⟩, bkC]
theorem set_row : setB rowL ⟨⟨#[98]⟩, 0, 0⟩ = setL := by kernel_rfl
theorem del_row : delB rowL ⟨#[97]⟩ = [bkC] := by kernel_rfl
theorem del_row2 : delB rowL ⟨#[120]⟩ = rowL := by kernel_rfl
def oneL : List Bk := [⟨⟨#[97]⟩, 5, 0⟩]
def twoL : List Bk := [⟨⟨#[98]⟩, 0, 0⟩, ⟨⟨#[97]⟩, 0, 0⟩]
def fullL (L : ByteArray) : List Bk := [⟨(⟨#[97]⟩ : ByteArray) ++ L, 0, 0⟩, ⟨(⟨#[98]⟩ : ByteArray) ++ L, 0, 0⟩, ⟨(⟨#[99]⟩ : ByteArray) ++ L, 0, 0⟩]
def fullD (L nm : ByteArray) : List Bk := fullL L ++ [⟨nm, 0, 0⟩]
def long15 : ByteArray := ⟨#[110, 110, 110, 110, 110, 110, 110, 110, 110, 110, 110, 110, 110, 110, 110]⟩
theorem long15_is : reps ⟨#[110]⟩ 15 = long15 := by decide +kernel
theorem rowB_bad1 : readC 2 2 7 1 5 (catBody 128 rowL) = none := by
  have h : (readC 2 2 7 1 5 (catBody 128 rowL)).isNone = true := by decide +kernel
  simpa using h
theorem rowB_bad2 : readC 2 2 7 0 5 ((catBody 128 rowL).extract 0 103 ++ ⟨#[120]⟩) = none := by
  have h : (readC 2 2 7 0 5 ((catBody 128 rowL).extract 0 103 ++ ⟨#[120]⟩)).isNone = true := by decide +kernel
  simpa using h
theorem rowB_12 : ((catBody 128 rowL).extract 0 12) = ⟨#[1, 97, 5, 0, 0, 0, 3, 0, 0, 0, 1, 99]⟩ := by decide +kernel

set_option maxRecDepth 100000 in
set_option maxHeartbeats 25600000 in
theorem cnames_walk (w : World) :
    Calls Try.prog 3 #[] w fun e w' => e = .returned (.bool true) ∧ Below w.heap.size w w' := by
  obtain ⟨i0, hi0, hz0, hz1, hz2⟩ := info_parts infoBk
  obtain ⟨B, hB⟩ : ∃ B, B = catBody 128 rowL := ⟨_, rfl⟩
  have hBs : B.size = 104 := by rw [hB, catBody_size 128 rowL (by decide)]
  obtain ⟨L, hL⟩ : ∃ L, L = long15 := ⟨_, rfl⟩
  have hLs : L.size = 15 := by rw [hL]; rfl
  obtain ⟨BF, hBF⟩ : ∃ B, B = catBody 128 (fullL L) := ⟨_, rfl⟩
  obtain ⟨BG, hBG⟩ : ∃ B, B = catBody 128 (fullD L ⟨#[108, 111, 115, 116, 43, 102, 111, 117, 110, 100]⟩) := ⟨_, rfl⟩
  have HP1 : ∀ (A : Option Addr) (c : Nat) (w' : World), Reads w' w'.heap.size 3 A 2 (bkc rowL) → Calls Try.prog 9 #[.int .i64 128, .int .u32 7, .int .u64 5, .slice A 2 c] w' fun e w'' => e = .returned (.tuple #[.agg #[.int .i64 2, .int .i64 2, .int .u32 7, .int .u32 0, .int .u64 5, .string B], .int .i64 0]) ∧ Below w'.heap.size w' w'' := fun A c w hr => by rw [hB]; exact cpage6_yes 128 7 5 A 2 c rowL w hr (by decide) row_may
  have HP2 : ∀ (A : Option Addr) (c : Nat) (w' : World), Reads w' w'.heap.size 3 A 2 (bkc rowL) → Calls Try.prog 9 #[.int .i64 128, .int .u32 1, .int .u64 5, .slice A 2 c] w' fun e w'' => e = .returned (.tuple #[.agg #[.int .i64 0, .int .i64 0, .int .u32 0, .int .u32 0, .int .u64 0, .string ByteArray.empty], .int .i64 2]) ∧ Below w'.heap.size w' w'' := fun A c w hr => cpage6_no 128 1 5 A 2 c rowL w hr (by decide) (by decide +kernel)
  have HP3 : ∀ (A : Option Addr) (c : Nat) (w' : World), Reads w' w'.heap.size 3 A 1 (bkc (oneL)) → Calls Try.prog 9 #[.int .i64 128, .int .u32 7, .int .u64 5, .slice A 1 c] w' fun e w'' => e = .returned (.tuple #[.agg #[.int .i64 0, .int .i64 0, .int .u32 0, .int .u32 0, .int .u64 0, .string ByteArray.empty], .int .i64 2]) ∧ Below w'.heap.size w' w'' := fun A c w hr => cpage6_no 128 7 5 A 1 c oneL w hr (by decide) (by decide +kernel)
  have HP4 : ∀ (A : Option Addr) (c : Nat) (w' : World), Reads w' w'.heap.size 3 A 2 (bkc (twoL)) → Calls Try.prog 9 #[.int .i64 128, .int .u32 7, .int .u64 5, .slice A 2 c] w' fun e w'' => e = .returned (.tuple #[.agg #[.int .i64 0, .int .i64 0, .int .u32 0, .int .u32 0, .int .u64 0, .string ByteArray.empty], .int .i64 2]) ∧ Below w'.heap.size w' w'' := fun A c w hr => cpage6_no 128 7 5 A 2 c twoL w hr (by decide) (by decide +kernel)
  have HP5 : ∀ (A : Option Addr) (c : Nat) (w' : World), Reads w' w'.heap.size 3 A 3 (bkc (fullL L)) → Calls Try.prog 9 #[.int .i64 128, .int .u32 7, .int .u64 5, .slice A 3 c] w' fun e w'' => e = .returned (.tuple #[.agg #[.int .i64 2, .int .i64 3, .int .u32 7, .int .u32 0, .int .u64 5, .string BF], .int .i64 0]) ∧ Below w'.heap.size w' w'' := fun A c w hr => by rw [hBF]; exact cpage6_yes 128 7 5 A 3 c (fullL L) w hr (by decide) (by rw [hL]; decide +kernel)
  have HP6 : ∀ (A : Option Addr) (c : Nat) (w' : World), Reads w' w'.heap.size 3 A 4 (bkc (fullD L ⟨#[100, 100]⟩)) → Calls Try.prog 9 #[.int .i64 128, .int .u32 7, .int .u64 5, .slice A 4 c] w' fun e w'' => e = .returned (.tuple #[.agg #[.int .i64 0, .int .i64 0, .int .u32 0, .int .u32 0, .int .u64 0, .string ByteArray.empty], .int .i64 2]) ∧ Below w'.heap.size w' w'' := fun A c w hr => cpage6_no 128 7 5 A 4 c (fullD L ⟨#[100, 100]⟩) w hr (by decide) (by rw [hL]; decide +kernel)
  have HP7 : ∀ (A : Option Addr) (c : Nat) (w' : World), Reads w' w'.heap.size 3 A 4 (bkc (fullD L ⟨#[108, 111, 115, 116, 43, 102, 111, 117, 110, 100]⟩)) → Calls Try.prog 9 #[.int .i64 128, .int .u32 7, .int .u64 5, .slice A 4 c] w' fun e w'' => e = .returned (.tuple #[.agg #[.int .i64 2, .int .i64 4, .int .u32 7, .int .u32 0, .int .u64 5, .string BG], .int .i64 0]) ∧ Below w'.heap.size w' w'' := fun A c w hr => by rw [hBG]; exact cpage6_yes 128 7 5 A 4 c (fullD L ⟨#[108, 111, 115, 116, 43, 102, 111, 117, 110, 100]⟩) w hr (by decide) (by rw [hL]; decide +kernel)
  have HO1 : ∀ w : World, Calls Try.prog 13 #[.agg #[.int .i64 2, .int .i64 2, .int .u32 7, .int .u32 1, .int .u64 5, .string B]] w fun e w' => e = .returned (.tuple #[.slice none 0 0, .int .i64 4]) ∧ Below w.heap.size w w' := fun w => by
    have h := cof6_any 2 2 7 1 5 B w (by omega)
    rw [hB, rowB_bad1, ← hB] at h
    exact h
  obtain ⟨B2, hB2⟩ : ∃ X, X = B.extract 0 103 ++ ⟨#[120]⟩ := ⟨_, rfl⟩
  have HO2 : ∀ w : World, Calls Try.prog 13 #[.agg #[.int .i64 2, .int .i64 2, .int .u32 7, .int .u32 0, .int .u64 5, .string B2]] w fun e w' => e = .returned (.tuple #[.slice none 0 0, .int .i64 4]) ∧ Below w.heap.size w w' := fun w => by
    have h := cof6_any 2 2 7 0 5 B2 w (by have hx1 : (⟨#[120]⟩ : ByteArray).size = 1 := rfl; rw [hB2, ByteArray.size_append, hx1, ByteArray.size_extract]; omega)
    rw [hB2, hB, rowB_bad2, ← hB, ← hB2] at h
    exact h
  have HT15 : ∀ w : World, Calls Try.prog 11 #[.string ⟨#[110]⟩, .int .i64 15] w fun e w' => e = .returned (.string L) ∧ w = w' := fun w => by
    rw [hL, ← long15_is]
    exact times_any ⟨#[110]⟩ 15 w (by decide) (by decide)
  obtain ⟨L17, hL17⟩ : ∃ X, X = reps ⟨#[110]⟩ 17 := ⟨_, rfl⟩
  have HT17 : ∀ w : World, Calls Try.prog 11 #[.string ⟨#[110]⟩, .int .i64 17] w fun e w' => e = .returned (.string L17) ∧ w' = w := fun w => by
    rw [hL17]
    exact (times_any ⟨#[110]⟩ 17 w (by decide) (by decide)).mono fun _ _ ⟨h1, h2⟩ => ⟨h1, h2.symm⟩
  have HNm1 : ∀ w : World, Calls Try.prog 18 #[.string ⟨#[]⟩] w fun e w' => e = .returned (.bool false) ∧ w' = w := fun w => cname_any ⟨#[]⟩ w
  have HNm2 : ∀ w : World, Calls Try.prog 18 #[.string L17] w fun e w' => e = .returned (.bool false) ∧ w' = w := fun w => by
    have h := cname_any L17 w
    have e : nameB L17 = false := by rw [hL17]; decide +kernel
    rw [e] at h
    exact h
  have HNm3 : ∀ w : World, Calls Try.prog 18 #[.string L] w fun e w' => e = .returned (.bool true) ∧ w' = w := fun w => by
    have h := cname_any L w
    have e : nameB L = true := by rw [hL]; decide +kernel
    rw [e] at h
    exact h
  have hq12 : ((B.extract 0 12).toList == [1, 97, 5, 0, 0, 0, 3, 0, 0, 0, 1, 99]) = true := by rw [hB, rowB_12]; simp
  have hF1 : fI rowL ⟨#[98]⟩ = 1 ∧ isI rowL ⟨#[98]⟩ = false := by decide +kernel
  have hF2 : fI rowL ⟨#[99]⟩ = 1 ∧ isI rowL ⟨#[99]⟩ = true := by decide +kernel
  have HF1 : ∀ (A : Option Addr) (c : Nat) (w : World), Reads w w.heap.size 3 A 2 (bkc rowL) → Calls Try.prog 14 #[.slice A 2 c, .string ⟨#[98]⟩] w fun e w' => e = .returned (.tuple #[.int .i64 1, .bool false]) ∧ Below w.heap.size w w' := fun A c w hr => by
    have h := cfind_any A 2 c rowL ⟨#[98]⟩ w hr (by decide)
    rw [hF1.1, hF1.2] at h
    exact h
  have HF2 : ∀ (A : Option Addr) (c : Nat) (w : World), Reads w w.heap.size 3 A 2 (bkc rowL) → Calls Try.prog 14 #[.slice A 2 c, .string ⟨#[99]⟩] w fun e w' => e = .returned (.tuple #[.int .i64 1, .bool true]) ∧ Below w.heap.size w w' := fun A c w hr => by
    have h := cfind_any A 2 c rowL ⟨#[99]⟩ w hr (by decide)
    rw [hF2.1, hF2.2] at h
    exact h
  have hcat1 : ¬ (9223372036854775807 < 1 + L.size) := by omega
  obtain ⟨hzp, hi⟩ := zero_of_info infoPg
  have HIp := Lib.hid hi
  obtain ⟨hzb, hj⟩ := zero_of_info infoBkz
  have HIb := Lib.hid hj
  have HBS := Lib.hid hBs
  have HLS := Lib.hid hLs
  have HBt := Lib.hid hB2
  clear hi hj hB hL hBF hBG hL17 hF1 hF2 hBs hLs hB2
  have HB := Lib.hid (Below.refl w.heap.size w)
  go_enter Try.func3, Try.ntmps3
  go_wp2_with fail
  refine (lives6_any _).mono ?_
  rintro e w101 ⟨rfl, hb⟩
  replace HB := Lib.hid (HB.out.trans (hb.mono HB.out.size))
  clear hb
  go_wp2_with fail
  refine (row_is _).mono ?_
  rintro e wr1 ⟨A1, c1, rfl, hr, _, _, hb⟩
  replace HB := Lib.hid (HB.out.trans (hb.mono HB.out.size))
  have R1 := Lib.hid hr
  clear hb hr
  go_wp2_with fail
  refine (HP1 A1 c1 _ R1.out).mono ?_
  rintro e w102 ⟨rfl, hb⟩
  replace HB := Lib.hid (HB.out.trans (hb.mono HB.out.size))
  clear hb
  clear R1 HP1
  obtain ⟨w103, hw103⟩ : ∃ x, x = w102.alloc (.cells #[.int .i64 2, .int .i64 2, .int .u32 7, .int .u32 0, .int .u64 5, .string B] 26) := ⟨_, rfl⟩
  have saw103 : w102.heap.size = w102.heap.size := by first | rfl | omega
  have ge_Pp := Lib.hid (show w.heap.size ≤ w102.heap.size from saw103 ▸ HB.out.size)
  replace HB := Lib.hid (show Below w.heap.size w w103 by rw [hw103]; exact HB.out.alloc HB.out.size _)
  have Pp := Lib.hid (show Blk w103 w102.heap.size 26 #[.int .i64 2, .int .i64 2, .int .u32 7, .int .u32 0, .int .u64 5, .string B] by rw [hw103, ← saw103]; exact Blk.new _ _ _)
  have szw103 : w103.heap.size = w102.heap.size + 1 := by rw [hw103]; simp
  clear saw103 szw103
  go_wp2_with fail
  rw [← hw103]
  clear hw103
  generalize w102.heap.size = gPp at *
  refine (row_is _).mono ?_
  rintro e wr2 ⟨A2, c2, rfl, hr, _, _, hb⟩
  replace HB := Lib.hid (HB.out.trans (hb.mono HB.out.size))
  replace Pp := Lib.hid (Pp.out.below hb Pp.out.lt)
  have R2 := Lib.hid hr
  clear hb hr
  go_wp2_with fail
  refine (HP2 A2 c2 _ R2.out).mono ?_
  rintro e w104 ⟨rfl, hb⟩
  replace HB := Lib.hid (HB.out.trans (hb.mono HB.out.size))
  replace Pp := Lib.hid (Pp.out.below hb Pp.out.lt)
  clear hb
  clear R2 HP2
  obtain ⟨v106, hv106⟩ : ∃ x, x = w104.alloc (.cells #[.int .i64 0, .int .i64 0, .int .u32 0, .int .u32 0, .int .u64 0, .string ByteArray.empty] 26) := ⟨_, rfl⟩
  have sav106 : w104.heap.size = w104.heap.size := by first | rfl | omega
  have lt_Pp_D1 := Lib.hid (show gPp < w104.heap.size from sav106 ▸ Pp.out.lt)
  replace Pp := Lib.hid (show Blk v106 gPp 26 #[.int .i64 2, .int .i64 2, .int .u32 7, .int .u32 0, .int .u64 5, .string B] by rw [hv106]; exact Pp.out.alloc _)
  have ge_D1 := Lib.hid (show w.heap.size ≤ w104.heap.size from sav106 ▸ HB.out.size)
  replace HB := Lib.hid (show Below w.heap.size w v106 by rw [hv106]; exact HB.out.alloc HB.out.size _)
  have D1 := Lib.hid (show Blk v106 w104.heap.size 26 #[.int .i64 0, .int .i64 0, .int .u32 0, .int .u32 0, .int .u64 0, .string ByteArray.empty] by rw [hv106, ← sav106]; exact Blk.new _ _ _)
  have szv106 : v106.heap.size = w104.heap.size + 1 := by rw [hv106]; simp
  obtain ⟨w105, hw105⟩ : ∃ x, x = v106.alloc (.cells #[.string ⟨#[97]⟩, .int .u32 5, .int .i64 0] 33) := ⟨_, rfl⟩
  have saw105 : v106.heap.size = (w104.heap.size + 1) := by first | rfl | omega
  have lt_Pp_L1 := Lib.hid (show gPp < (w104.heap.size + 1) from saw105 ▸ Pp.out.lt)
  replace Pp := Lib.hid (show Blk w105 gPp 26 #[.int .i64 2, .int .i64 2, .int .u32 7, .int .u32 0, .int .u64 5, .string B] by rw [hw105]; exact Pp.out.alloc _)
  have lt_D1_L1 := Lib.hid (show w104.heap.size < (w104.heap.size + 1) from saw105 ▸ D1.out.lt)
  replace D1 := Lib.hid (show Blk w105 w104.heap.size 26 #[.int .i64 0, .int .i64 0, .int .u32 0, .int .u32 0, .int .u64 0, .string ByteArray.empty] by rw [hw105]; exact D1.out.alloc _)
  have ge_L1 := Lib.hid (show w.heap.size ≤ (w104.heap.size + 1) from saw105 ▸ HB.out.size)
  replace HB := Lib.hid (show Below w.heap.size w w105 by rw [hw105]; exact HB.out.alloc HB.out.size _)
  have L1 := Lib.hid (show Blk w105 (w104.heap.size + 1) 33 #[.string ⟨#[97]⟩, .int .u32 5, .int .i64 0] by rw [hw105, ← saw105]; exact Blk.new _ _ _)
  have szw105 : w105.heap.size = v106.heap.size + 1 := by rw [hw105]; simp
  clear sav106 szv106 saw105 szw105
  go_wp2_with fail
  rw [← hv106, ← hw105]
  clear hv106 hw105
  generalize (w104.heap.size + 1) = gL1 at *
  generalize w104.heap.size = gD1 at *
  clear D1
  refine (HP3 _ 1 _ (show Reads _ _ 3 _ 1 (bkc oneL) from ((reads_own (n := 1) L1.out rfl).more L1.out.lt))).mono ?_
  rintro e w107 ⟨rfl, hb⟩
  replace HB := Lib.hid (HB.out.trans (hb.mono HB.out.size))
  replace Pp := Lib.hid (Pp.out.below hb Pp.out.lt)
  replace L1 := Lib.hid (L1.out.below hb L1.out.lt)
  clear hb
  clear HP3
  clear L1
  obtain ⟨v109, hv109⟩ : ∃ x, x = w107.alloc (.cells #[.int .i64 0, .int .i64 0, .int .u32 0, .int .u32 0, .int .u64 0, .string ByteArray.empty] 26) := ⟨_, rfl⟩
  have sav109 : w107.heap.size = w107.heap.size := by first | rfl | omega
  have lt_Pp_D2 := Lib.hid (show gPp < w107.heap.size from sav109 ▸ Pp.out.lt)
  replace Pp := Lib.hid (show Blk v109 gPp 26 #[.int .i64 2, .int .i64 2, .int .u32 7, .int .u32 0, .int .u64 5, .string B] by rw [hv109]; exact Pp.out.alloc _)
  have ge_D2 := Lib.hid (show w.heap.size ≤ w107.heap.size from sav109 ▸ HB.out.size)
  replace HB := Lib.hid (show Below w.heap.size w v109 by rw [hv109]; exact HB.out.alloc HB.out.size _)
  have D2 := Lib.hid (show Blk v109 w107.heap.size 26 #[.int .i64 0, .int .i64 0, .int .u32 0, .int .u32 0, .int .u64 0, .string ByteArray.empty] by rw [hv109, ← sav109]; exact Blk.new _ _ _)
  have szv109 : v109.heap.size = w107.heap.size + 1 := by rw [hv109]; simp
  obtain ⟨w108, hw108⟩ : ∃ x, x = v109.alloc (.cells #[.string ⟨#[98]⟩, .int .u32 0, .int .i64 0, .string ⟨#[97]⟩, .int .u32 0, .int .i64 0] 33) := ⟨_, rfl⟩
  have saw108 : v109.heap.size = (w107.heap.size + 1) := by first | rfl | omega
  have lt_Pp_L2 := Lib.hid (show gPp < (w107.heap.size + 1) from saw108 ▸ Pp.out.lt)
  replace Pp := Lib.hid (show Blk w108 gPp 26 #[.int .i64 2, .int .i64 2, .int .u32 7, .int .u32 0, .int .u64 5, .string B] by rw [hw108]; exact Pp.out.alloc _)
  have lt_D2_L2 := Lib.hid (show w107.heap.size < (w107.heap.size + 1) from saw108 ▸ D2.out.lt)
  replace D2 := Lib.hid (show Blk w108 w107.heap.size 26 #[.int .i64 0, .int .i64 0, .int .u32 0, .int .u32 0, .int .u64 0, .string ByteArray.empty] by rw [hw108]; exact D2.out.alloc _)
  have ge_L2 := Lib.hid (show w.heap.size ≤ (w107.heap.size + 1) from saw108 ▸ HB.out.size)
  replace HB := Lib.hid (show Below w.heap.size w w108 by rw [hw108]; exact HB.out.alloc HB.out.size _)
  have L2 := Lib.hid (show Blk w108 (w107.heap.size + 1) 33 #[.string ⟨#[98]⟩, .int .u32 0, .int .i64 0, .string ⟨#[97]⟩, .int .u32 0, .int .i64 0] by rw [hw108, ← saw108]; exact Blk.new _ _ _)
  have szw108 : w108.heap.size = v109.heap.size + 1 := by rw [hw108]; simp
  clear sav109 szv109 saw108 szw108
  go_wp2_with fail
  rw [← hv109, ← hw108]
  clear hv109 hw108
  generalize (w107.heap.size + 1) = gL2 at *
  generalize w107.heap.size = gD2 at *
  clear D2
  refine (HP4 _ 2 _ (show Reads _ _ 3 _ 2 (bkc twoL) from ((reads_own (n := 2) L2.out rfl).more L2.out.lt))).mono ?_
  rintro e w110 ⟨rfl, hb⟩
  replace HB := Lib.hid (HB.out.trans (hb.mono HB.out.size))
  replace Pp := Lib.hid (Pp.out.below hb Pp.out.lt)
  replace L2 := Lib.hid (L2.out.below hb L2.out.lt)
  clear hb
  clear HP4
  clear L2
  obtain ⟨w111, hw111⟩ : ∃ x, x = w110.alloc (.cells #[.int .i64 0, .int .i64 0, .int .u32 0, .int .u32 0, .int .u64 0, .string ByteArray.empty] 26) := ⟨_, rfl⟩
  have saw111 : w110.heap.size = w110.heap.size := by first | rfl | omega
  have lt_Pp_D3 := Lib.hid (show gPp < w110.heap.size from saw111 ▸ Pp.out.lt)
  replace Pp := Lib.hid (show Blk w111 gPp 26 #[.int .i64 2, .int .i64 2, .int .u32 7, .int .u32 0, .int .u64 5, .string B] by rw [hw111]; exact Pp.out.alloc _)
  have ge_D3 := Lib.hid (show w.heap.size ≤ w110.heap.size from saw111 ▸ HB.out.size)
  replace HB := Lib.hid (show Below w.heap.size w w111 by rw [hw111]; exact HB.out.alloc HB.out.size _)
  have D3 := Lib.hid (show Blk w111 w110.heap.size 26 #[.int .i64 0, .int .i64 0, .int .u32 0, .int .u32 0, .int .u64 0, .string ByteArray.empty] by rw [hw111, ← saw111]; exact Blk.new _ _ _)
  have szw111 : w111.heap.size = w110.heap.size + 1 := by rw [hw111]; simp
  clear saw111 szw111
  go_wp2_with fail
  rw [← hw111]
  clear hw111
  generalize w110.heap.size = gD3 at *
  clear D3
  refine (HT15 _).mono ?_
  rintro e w112 ⟨rfl, rfl⟩
  clear HT15
  have hLs := HLS.out
  obtain ⟨w113, hw113⟩ : ∃ x, x = w111.alloc (.cells #[.string ((⟨#[97]⟩ : ByteArray) ++ L), .int .u32 0, .int .i64 0, .string ((⟨#[98]⟩ : ByteArray) ++ L), .int .u32 0, .int .i64 0, .string ((⟨#[99]⟩ : ByteArray) ++ L), .int .u32 0, .int .i64 0] 33) := ⟨_, rfl⟩
  have saw113 : w111.heap.size = w111.heap.size := by first | rfl | omega
  have lt_Pp_Fu := Lib.hid (show gPp < w111.heap.size from saw113 ▸ Pp.out.lt)
  replace Pp := Lib.hid (show Blk w113 gPp 26 #[.int .i64 2, .int .i64 2, .int .u32 7, .int .u32 0, .int .u64 5, .string B] by rw [hw113]; exact Pp.out.alloc _)
  have ge_Fu := Lib.hid (show w.heap.size ≤ w111.heap.size from saw113 ▸ HB.out.size)
  replace HB := Lib.hid (show Below w.heap.size w w113 by rw [hw113]; exact HB.out.alloc HB.out.size _)
  have Fu := Lib.hid (show Blk w113 w111.heap.size 33 #[.string ((⟨#[97]⟩ : ByteArray) ++ L), .int .u32 0, .int .i64 0, .string ((⟨#[98]⟩ : ByteArray) ++ L), .int .u32 0, .int .i64 0, .string ((⟨#[99]⟩ : ByteArray) ++ L), .int .u32 0, .int .i64 0] by rw [hw113, ← saw113]; exact Blk.new _ _ _)
  have szw113 : w113.heap.size = w111.heap.size + 1 := by rw [hw113]; simp
  clear saw113 szw113
  go_wp2_with fail
  rw [← hw113]
  clear hw113
  generalize w111.heap.size = gFu at *
  clear hLs hcat1
  refine (HP5 _ 3 _ (show Reads _ _ 3 _ 3 (bkc (fullL L)) from ((reads_own (n := 3) Fu.out rfl).more Fu.out.lt))).mono ?_
  rintro e w114 ⟨rfl, hb⟩
  replace HB := Lib.hid (HB.out.trans (hb.mono HB.out.size))
  replace Pp := Lib.hid (Pp.out.below hb Pp.out.lt)
  replace Fu := Lib.hid (Fu.out.below hb Fu.out.lt)
  clear hb
  clear HP5
  obtain ⟨w115, hw115⟩ : ∃ x, x = w114.alloc (.cells #[.int .i64 2, .int .i64 3, .int .u32 7, .int .u32 0, .int .u64 5, .string BF] 26) := ⟨_, rfl⟩
  have saw115 : w114.heap.size = w114.heap.size := by first | rfl | omega
  have lt_Pp_D4 := Lib.hid (show gPp < w114.heap.size from saw115 ▸ Pp.out.lt)
  replace Pp := Lib.hid (show Blk w115 gPp 26 #[.int .i64 2, .int .i64 2, .int .u32 7, .int .u32 0, .int .u64 5, .string B] by rw [hw115]; exact Pp.out.alloc _)
  have lt_Fu_D4 := Lib.hid (show gFu < w114.heap.size from saw115 ▸ Fu.out.lt)
  replace Fu := Lib.hid (show Blk w115 gFu 33 #[.string ((⟨#[97]⟩ : ByteArray) ++ L), .int .u32 0, .int .i64 0, .string ((⟨#[98]⟩ : ByteArray) ++ L), .int .u32 0, .int .i64 0, .string ((⟨#[99]⟩ : ByteArray) ++ L), .int .u32 0, .int .i64 0] by rw [hw115]; exact Fu.out.alloc _)
  have ge_D4 := Lib.hid (show w.heap.size ≤ w114.heap.size from saw115 ▸ HB.out.size)
  replace HB := Lib.hid (show Below w.heap.size w w115 by rw [hw115]; exact HB.out.alloc HB.out.size _)
  have D4 := Lib.hid (show Blk w115 w114.heap.size 26 #[.int .i64 2, .int .i64 3, .int .u32 7, .int .u32 0, .int .u64 5, .string BF] by rw [hw115, ← saw115]; exact Blk.new _ _ _)
  have szw115 : w115.heap.size = w114.heap.size + 1 := by rw [hw115]; simp
  clear saw115 szw115
  go_wp2_with fail
  rw [← hw115]
  clear hw115
  generalize w114.heap.size = gD4 at *
  clear D4
  refine (own6_own _ 3 3 (fullL L) _ (show Reads _ _ 3 _ 3 (bkc (fullL L)) from ((reads_own (n := 3) Fu.out rfl).more Fu.out.lt)) (by decide)).mono ?_
  rintro e wo0 ⟨v0, rfl, ho, hb⟩
  have lt0_Pp := Lib.hid Pp.out.lt
  have lt0_Fu := Lib.hid Fu.out.lt
  have hle := HB.out.size
  replace HB := Lib.hid (HB.out.trans (hb.mono HB.out.size))
  replace Pp := Lib.hid (Pp.out.below hb Pp.out.lt)
  replace Fu := Lib.hid (Fu.out.below hb Fu.out.lt)
  have HO := Lib.hid ho
  have hbs := hb.size
  clear hb ho
  replace HO := Lib.hid (HO.out.alloc (.cells #[.string ⟨#[100, 100]⟩, .int .u32 0, .int .i64 0] 33))
  have HBa := Lib.hid (HB.out.alloc HB.out.size (.cells #[.string ⟨#[100, 100]⟩, .int .u32 0, .int .i64 0] 33))
  replace Pp := Lib.hid (Pp.out.alloc (.cells #[.string ⟨#[100, 100]⟩, .int .u32 0, .int .i64 0] 33))
  replace Fu := Lib.hid (Fu.out.alloc (.cells #[.string ⟨#[100, 100]⟩, .int .u32 0, .int .i64 0] 33))
  have hbs2 : w115.heap.size ≤ (wo0.alloc (.cells #[.string ⟨#[100, 100]⟩, .int .u32 0, .int .i64 0] 33)).heap.size := by simp; omega
  go_wp2_with (at_builtin; refine wpList_append_any _ rfl (.tmp 70) (.tmp 72) _ rfl w115.heap.size 33 i0 _ 3 32 Try.underlying30 hi0 hz0 hz1 hz2 rfl (by omega) _ 3 _ rfl HO.out (wo0.heap.size + 1) (some ⟨wo0.heap.size, 0, none⟩) 1 1 (Bk.cells ⟨⟨#[100, 100]⟩, 0, 0⟩) rfl (reads_own (n := 1) (Blk.new _ _ _) rfl) (bk_one _) (by unfold maxLen; omega) (by omega) hbs2 ?_; intro u0 wa0 hown hg hat)
  clear hat
  have hown2 := hown
  replace Pp := Lib.hid (Pp.out.grown hg (own_ne HO.out (Nat.lt_of_lt_of_le lt0_Pp.out (Nat.le_refl _))))
  replace Fu := Lib.hid (Fu.out.grown hg (own_ne HO.out (Nat.lt_of_lt_of_le lt0_Fu.out (Nat.le_refl _))))
  replace HB := Lib.hid (HBa.out.grown hg HBa.out.size (fun g h => Nat.le_trans hle (HO.out.lt g h).1))
  rw [bkc_snoc] at hown
  obtain ⟨Au0, cu0, rfl, _, _, _⟩ := own_form hown
  have Ru := Lib.hid (Reads.of_own hown)
  clear hown hown2 hg HBa hbs hbs2 HO hle
  refine (HP6 Au0 cu0 _ Ru.out).mono ?_
  rintro e w116 ⟨rfl, hb⟩
  replace HB := Lib.hid (HB.out.trans (hb.mono HB.out.size))
  replace Pp := Lib.hid (Pp.out.below hb Pp.out.lt)
  replace Fu := Lib.hid (Fu.out.below hb Fu.out.lt)
  clear hb
  clear HP6 Ru
  obtain ⟨w117, hw117⟩ : ∃ x, x = w116.alloc (.cells #[.int .i64 0, .int .i64 0, .int .u32 0, .int .u32 0, .int .u64 0, .string ByteArray.empty] 26) := ⟨_, rfl⟩
  have saw117 : w116.heap.size = w116.heap.size := by first | rfl | omega
  have lt_Pp_D5 := Lib.hid (show gPp < w116.heap.size from saw117 ▸ Pp.out.lt)
  replace Pp := Lib.hid (show Blk w117 gPp 26 #[.int .i64 2, .int .i64 2, .int .u32 7, .int .u32 0, .int .u64 5, .string B] by rw [hw117]; exact Pp.out.alloc _)
  have lt_Fu_D5 := Lib.hid (show gFu < w116.heap.size from saw117 ▸ Fu.out.lt)
  replace Fu := Lib.hid (show Blk w117 gFu 33 #[.string ((⟨#[97]⟩ : ByteArray) ++ L), .int .u32 0, .int .i64 0, .string ((⟨#[98]⟩ : ByteArray) ++ L), .int .u32 0, .int .i64 0, .string ((⟨#[99]⟩ : ByteArray) ++ L), .int .u32 0, .int .i64 0] by rw [hw117]; exact Fu.out.alloc _)
  have ge_D5 := Lib.hid (show w.heap.size ≤ w116.heap.size from saw117 ▸ HB.out.size)
  replace HB := Lib.hid (show Below w.heap.size w w117 by rw [hw117]; exact HB.out.alloc HB.out.size _)
  have D5 := Lib.hid (show Blk w117 w116.heap.size 26 #[.int .i64 0, .int .i64 0, .int .u32 0, .int .u32 0, .int .u64 0, .string ByteArray.empty] by rw [hw117, ← saw117]; exact Blk.new _ _ _)
  have szw117 : w117.heap.size = w116.heap.size + 1 := by rw [hw117]; simp
  clear saw117 szw117
  go_wp2_with fail
  rw [← hw117]
  clear hw117
  generalize w116.heap.size = gD5 at *
  clear D5
  refine (own6_own _ 3 3 (fullL L) _ (show Reads _ _ 3 _ 3 (bkc (fullL L)) from ((reads_own (n := 3) Fu.out rfl).more Fu.out.lt)) (by decide)).mono ?_
  rintro e wo1 ⟨v1, rfl, ho, hb⟩
  have lt1_Pp := Lib.hid Pp.out.lt
  have lt1_Fu := Lib.hid Fu.out.lt
  have hle := HB.out.size
  replace HB := Lib.hid (HB.out.trans (hb.mono HB.out.size))
  replace Pp := Lib.hid (Pp.out.below hb Pp.out.lt)
  replace Fu := Lib.hid (Fu.out.below hb Fu.out.lt)
  have HO := Lib.hid ho
  have hbs := hb.size
  clear hb ho
  replace HO := Lib.hid (HO.out.alloc (.cells #[.string ⟨#[108, 111, 115, 116, 43, 102, 111, 117, 110, 100]⟩, .int .u32 0, .int .i64 0] 33))
  have HBa := Lib.hid (HB.out.alloc HB.out.size (.cells #[.string ⟨#[108, 111, 115, 116, 43, 102, 111, 117, 110, 100]⟩, .int .u32 0, .int .i64 0] 33))
  replace Pp := Lib.hid (Pp.out.alloc (.cells #[.string ⟨#[108, 111, 115, 116, 43, 102, 111, 117, 110, 100]⟩, .int .u32 0, .int .i64 0] 33))
  replace Fu := Lib.hid (Fu.out.alloc (.cells #[.string ⟨#[108, 111, 115, 116, 43, 102, 111, 117, 110, 100]⟩, .int .u32 0, .int .i64 0] 33))
  have hbs2 : w117.heap.size ≤ (wo1.alloc (.cells #[.string ⟨#[108, 111, 115, 116, 43, 102, 111, 117, 110, 100]⟩, .int .u32 0, .int .i64 0] 33)).heap.size := by simp; omega
  go_wp2_with (at_builtin; refine wpList_append_any _ rfl (.tmp 79) (.tmp 81) _ rfl w117.heap.size 33 i0 _ 3 32 Try.underlying30 hi0 hz0 hz1 hz2 rfl (by omega) _ 3 _ rfl HO.out (wo1.heap.size + 1) (some ⟨wo1.heap.size, 0, none⟩) 1 1 (Bk.cells ⟨⟨#[108, 111, 115, 116, 43, 102, 111, 117, 110, 100]⟩, 0, 0⟩) rfl (reads_own (n := 1) (Blk.new _ _ _) rfl) (bk_one _) (by unfold maxLen; omega) (by omega) hbs2 ?_; intro u1 wa1 hown hg hat)
  clear hat
  have hown2 := hown
  replace Pp := Lib.hid (Pp.out.grown hg (own_ne HO.out (Nat.lt_of_lt_of_le lt1_Pp.out (Nat.le_refl _))))
  replace Fu := Lib.hid (Fu.out.grown hg (own_ne HO.out (Nat.lt_of_lt_of_le lt1_Fu.out (Nat.le_refl _))))
  replace HB := Lib.hid (HBa.out.grown hg HBa.out.size (fun g h => Nat.le_trans hle (HO.out.lt g h).1))
  rw [bkc_snoc] at hown
  obtain ⟨Au1, cu1, rfl, _, _, _⟩ := own_form hown
  have Ru := Lib.hid (Reads.of_own hown)
  clear hown hown2 hg HBa hbs hbs2 HO hle
  refine (HP7 Au1 cu1 _ Ru.out).mono ?_
  rintro e w118 ⟨rfl, hb⟩
  replace HB := Lib.hid (HB.out.trans (hb.mono HB.out.size))
  replace Pp := Lib.hid (Pp.out.below hb Pp.out.lt)
  replace Fu := Lib.hid (Fu.out.below hb Fu.out.lt)
  clear hb
  clear HP7 Ru
  have lzPp := Pp.out.lt
  have dPp_0 := Pp.out.cell 0
  have dPp_1 := Pp.out.cell 1
  have dPp_2 := Pp.out.cell 2
  have dPp_3 := Pp.out.cell 3
  have dPp_4 := Pp.out.cell 4
  have dPp_5 := Pp.out.cell 5
  simp at dPp_0 dPp_1 dPp_2 dPp_3 dPp_4 dPp_5
  obtain ⟨v120, hv120⟩ : ∃ x, x = w118.alloc (.cells #[.int .i64 2, .int .i64 4, .int .u32 7, .int .u32 0, .int .u64 5, .string BG] 26) := ⟨_, rfl⟩
  have sav120 : w118.heap.size = w118.heap.size := by first | rfl | omega
  have lt_Pp_D6 := Lib.hid (show gPp < w118.heap.size from sav120 ▸ Pp.out.lt)
  replace Pp := Lib.hid (show Blk v120 gPp 26 #[.int .i64 2, .int .i64 2, .int .u32 7, .int .u32 0, .int .u64 5, .string B] by rw [hv120]; exact Pp.out.alloc _)
  have lt_Fu_D6 := Lib.hid (show gFu < w118.heap.size from sav120 ▸ Fu.out.lt)
  replace Fu := Lib.hid (show Blk v120 gFu 33 #[.string ((⟨#[97]⟩ : ByteArray) ++ L), .int .u32 0, .int .i64 0, .string ((⟨#[98]⟩ : ByteArray) ++ L), .int .u32 0, .int .i64 0, .string ((⟨#[99]⟩ : ByteArray) ++ L), .int .u32 0, .int .i64 0] by rw [hv120]; exact Fu.out.alloc _)
  have ge_D6 := Lib.hid (show w.heap.size ≤ w118.heap.size from sav120 ▸ HB.out.size)
  replace HB := Lib.hid (show Below w.heap.size w v120 by rw [hv120]; exact HB.out.alloc HB.out.size _)
  have D6 := Lib.hid (show Blk v120 w118.heap.size 26 #[.int .i64 2, .int .i64 4, .int .u32 7, .int .u32 0, .int .u64 5, .string BG] by rw [hv120, ← sav120]; exact Blk.new _ _ _)
  have szv120 : v120.heap.size = w118.heap.size + 1 := by rw [hv120]; simp
  obtain ⟨w119, hw119⟩ : ∃ x, x = v120.alloc (.cells #[.int .i64 2, .int .i64 2, .int .u32 7, .int .u32 0, .int .u64 5, .string B] 26) := ⟨_, rfl⟩
  have saw119 : v120.heap.size = (w118.heap.size + 1) := by first | rfl | omega
  have lt_Pp_Qq := Lib.hid (show gPp < (w118.heap.size + 1) from saw119 ▸ Pp.out.lt)
  replace Pp := Lib.hid (show Blk w119 gPp 26 #[.int .i64 2, .int .i64 2, .int .u32 7, .int .u32 0, .int .u64 5, .string B] by rw [hw119]; exact Pp.out.alloc _)
  have lt_Fu_Qq := Lib.hid (show gFu < (w118.heap.size + 1) from saw119 ▸ Fu.out.lt)
  replace Fu := Lib.hid (show Blk w119 gFu 33 #[.string ((⟨#[97]⟩ : ByteArray) ++ L), .int .u32 0, .int .i64 0, .string ((⟨#[98]⟩ : ByteArray) ++ L), .int .u32 0, .int .i64 0, .string ((⟨#[99]⟩ : ByteArray) ++ L), .int .u32 0, .int .i64 0] by rw [hw119]; exact Fu.out.alloc _)
  have lt_D6_Qq := Lib.hid (show w118.heap.size < (w118.heap.size + 1) from saw119 ▸ D6.out.lt)
  replace D6 := Lib.hid (show Blk w119 w118.heap.size 26 #[.int .i64 2, .int .i64 4, .int .u32 7, .int .u32 0, .int .u64 5, .string BG] by rw [hw119]; exact D6.out.alloc _)
  have ge_Qq := Lib.hid (show w.heap.size ≤ (w118.heap.size + 1) from saw119 ▸ HB.out.size)
  replace HB := Lib.hid (show Below w.heap.size w w119 by rw [hw119]; exact HB.out.alloc HB.out.size _)
  have Qq := Lib.hid (show Blk w119 (w118.heap.size + 1) 26 #[.int .i64 2, .int .i64 2, .int .u32 7, .int .u32 0, .int .u64 5, .string B] by rw [hw119, ← saw119]; exact Blk.new _ _ _)
  have szw119 : w119.heap.size = v120.heap.size + 1 := by rw [hw119]; simp
  clear sav120 szv120 saw119 szw119
  have cPp_0 := Pp.out.cell 0
  have cPp_1 := Pp.out.cell 1
  have cPp_2 := Pp.out.cell 2
  have cPp_3 := Pp.out.cell 3
  have cPp_4 := Pp.out.cell 4
  have cPp_5 := Pp.out.cell 5
  rw [hw119, hv120] at cPp_0 cPp_1 cPp_2 cPp_3 cPp_4 cPp_5
  simp at cPp_0 cPp_1 cPp_2 cPp_3 cPp_4 cPp_5
  go_upto_region 13 with fail
  rw [← hv120, ← hw119]
  clear hv120 hw119 lzPp dPp_0 dPp_1 dPp_2 dPp_3 dPp_4 dPp_5 cPp_0 cPp_1 cPp_2 cPp_3 cPp_4 cPp_5
  generalize (w118.heap.size + 1) = gQq at *
  generalize w118.heap.size = gD6 at *
  clear D6
  clear Fu
  have fzQq_3 := Qq.out.frozen 3
  have lzQq := Qq.out.lt
  have dQq_0 := Qq.out.cell 0
  have dQq_1 := Qq.out.cell 1
  have dQq_2 := Qq.out.cell 2
  have dQq_3 := Qq.out.cell 3
  have dQq_4 := Qq.out.cell 4
  have dQq_5 := Qq.out.cell 5
  simp at dQq_0 dQq_1 dQq_2 dQq_3 dQq_4 dQq_5
  obtain ⟨w121, hw121⟩ : ∃ x, x = w119.setCell ⟨gQq, 3, none⟩ (.int .u32 1) := ⟨_, rfl⟩
  replace Pp := Lib.hid (show Blk w121 gPp 26 #[.int .i64 2, .int .i64 2, .int .u32 7, .int .u32 0, .int .u64 5, .string B] by rw [hw121]; exact Pp.out.far (p := ⟨gQq, 3, none⟩) (Nat.ne_of_lt lt_Pp_Qq.out) (.int .u32 1))
  replace Qq := Lib.hid (show Blk w121 gQq 26 #[.int .i64 2, .int .i64 2, .int .u32 7, .int .u32 1, .int .u64 5, .string B] by rw [hw121]; exact Qq.out.set_ 3 (.int .u32 1))
  replace HB := Lib.hid (show Below w.heap.size w w121 by rw [hw121]; exact HB.out.setCell (p := ⟨gQq, 3, none⟩) ge_Qq.out (.int .u32 1))
  have szw121 : w121.heap.size = w119.heap.size := by rw [hw121]; simp [World.setCell]
  clear szw121
  have cQq_0 := Qq.out.cell 0
  have cQq_1 := Qq.out.cell 1
  have cQq_2 := Qq.out.cell 2
  have cQq_3 := Qq.out.cell 3
  have cQq_4 := Qq.out.cell 4
  have cQq_5 := Qq.out.cell 5
  rw [hw121] at cQq_0 cQq_1 cQq_2 cQq_3 cQq_4 cQq_5
  simp at cQq_0 cQq_1 cQq_2 cQq_3 cQq_4 cQq_5
  go_wp2_with fail
  rw [← hw121]
  clear hw121 fzQq_3 lzQq dQq_0 dQq_1 dQq_2 dQq_3 dQq_4 dQq_5 cQq_0 cQq_1 cQq_2 cQq_3 cQq_4 cQq_5
  refine (HO1 _).mono ?_
  rintro e w122 ⟨rfl, hb⟩
  replace HB := Lib.hid (HB.out.trans (hb.mono HB.out.size))
  replace Pp := Lib.hid (Pp.out.below hb Pp.out.lt)
  replace Qq := Lib.hid (Qq.out.below hb Qq.out.lt)
  clear hb
  clear HO1
  clear Qq
  have hBs := HBS.out
  have lzPp := Pp.out.lt
  have dPp_0 := Pp.out.cell 0
  have dPp_1 := Pp.out.cell 1
  have dPp_2 := Pp.out.cell 2
  have dPp_3 := Pp.out.cell 3
  have dPp_4 := Pp.out.cell 4
  have dPp_5 := Pp.out.cell 5
  simp at dPp_0 dPp_1 dPp_2 dPp_3 dPp_4 dPp_5
  obtain ⟨w123, hw123⟩ : ∃ x, x = w122.alloc (.cells #[.int .i64 2, .int .i64 2, .int .u32 7, .int .u32 0, .int .u64 5, .string B] 26) := ⟨_, rfl⟩
  have saw123 : w122.heap.size = w122.heap.size := by first | rfl | omega
  have lt_Pp_Rr := Lib.hid (show gPp < w122.heap.size from saw123 ▸ Pp.out.lt)
  replace Pp := Lib.hid (show Blk w123 gPp 26 #[.int .i64 2, .int .i64 2, .int .u32 7, .int .u32 0, .int .u64 5, .string B] by rw [hw123]; exact Pp.out.alloc _)
  have ge_Rr := Lib.hid (show w.heap.size ≤ w122.heap.size from saw123 ▸ HB.out.size)
  replace HB := Lib.hid (show Below w.heap.size w w123 by rw [hw123]; exact HB.out.alloc HB.out.size _)
  have Rr := Lib.hid (show Blk w123 w122.heap.size 26 #[.int .i64 2, .int .i64 2, .int .u32 7, .int .u32 0, .int .u64 5, .string B] by rw [hw123, ← saw123]; exact Blk.new _ _ _)
  have szw123 : w123.heap.size = w122.heap.size + 1 := by rw [hw123]; simp
  clear saw123 szw123
  have cPp_0 := Pp.out.cell 0
  have cPp_1 := Pp.out.cell 1
  have cPp_2 := Pp.out.cell 2
  have cPp_3 := Pp.out.cell 3
  have cPp_4 := Pp.out.cell 4
  have cPp_5 := Pp.out.cell 5
  rw [hw123] at cPp_0 cPp_1 cPp_2 cPp_3 cPp_4 cPp_5
  simp at cPp_0 cPp_1 cPp_2 cPp_3 cPp_4 cPp_5
  go_upto_region 18 with fail
  rw [← hw123]
  clear hw123 lzPp dPp_0 dPp_1 dPp_2 dPp_3 dPp_4 dPp_5 cPp_0 cPp_1 cPp_2 cPp_3 cPp_4 cPp_5
  generalize w122.heap.size = gRr at *
  have fzRr_5 := Rr.out.frozen 5
  have lzPp := Pp.out.lt
  have lzRr := Rr.out.lt
  have dPp_0 := Pp.out.cell 0
  have dPp_1 := Pp.out.cell 1
  have dPp_2 := Pp.out.cell 2
  have dPp_3 := Pp.out.cell 3
  have dPp_4 := Pp.out.cell 4
  have dPp_5 := Pp.out.cell 5
  have dRr_0 := Rr.out.cell 0
  have dRr_1 := Rr.out.cell 1
  have dRr_2 := Rr.out.cell 2
  have dRr_3 := Rr.out.cell 3
  have dRr_4 := Rr.out.cell 4
  have dRr_5 := Rr.out.cell 5
  simp at dPp_0 dPp_1 dPp_2 dPp_3 dPp_4 dPp_5 dRr_0 dRr_1 dRr_2 dRr_3 dRr_4 dRr_5
  obtain ⟨w124, hw124⟩ : ∃ x, x = w123.setCell ⟨gRr, 5, none⟩ (.string (B.extract 0 103 ++ (⟨#[120]⟩ : ByteArray))) := ⟨_, rfl⟩
  replace Pp := Lib.hid (show Blk w124 gPp 26 #[.int .i64 2, .int .i64 2, .int .u32 7, .int .u32 0, .int .u64 5, .string B] by rw [hw124]; exact Pp.out.far (p := ⟨gRr, 5, none⟩) (Nat.ne_of_lt lt_Pp_Rr.out) (.string (B.extract 0 103 ++ (⟨#[120]⟩ : ByteArray))))
  replace Rr := Lib.hid (show Blk w124 gRr 26 #[.int .i64 2, .int .i64 2, .int .u32 7, .int .u32 0, .int .u64 5, .string (B.extract 0 103 ++ (⟨#[120]⟩ : ByteArray))] by rw [hw124]; exact Rr.out.set_ 5 (.string (B.extract 0 103 ++ (⟨#[120]⟩ : ByteArray))))
  replace HB := Lib.hid (show Below w.heap.size w w124 by rw [hw124]; exact HB.out.setCell (p := ⟨gRr, 5, none⟩) ge_Rr.out (.string (B.extract 0 103 ++ (⟨#[120]⟩ : ByteArray))))
  have szw124 : w124.heap.size = w123.heap.size := by rw [hw124]; simp [World.setCell]
  clear szw124
  have cPp_0 := Pp.out.cell 0
  have cPp_1 := Pp.out.cell 1
  have cPp_2 := Pp.out.cell 2
  have cPp_3 := Pp.out.cell 3
  have cPp_4 := Pp.out.cell 4
  have cPp_5 := Pp.out.cell 5
  have cRr_0 := Rr.out.cell 0
  have cRr_1 := Rr.out.cell 1
  have cRr_2 := Rr.out.cell 2
  have cRr_3 := Rr.out.cell 3
  have cRr_4 := Rr.out.cell 4
  have cRr_5 := Rr.out.cell 5
  rw [hw124] at cPp_0 cPp_1 cPp_2 cPp_3 cPp_4 cPp_5 cRr_0 cRr_1 cRr_2 cRr_3 cRr_4 cRr_5
  simp at cPp_0 cPp_1 cPp_2 cPp_3 cPp_4 cPp_5 cRr_0 cRr_1 cRr_2 cRr_3 cRr_4 cRr_5
  go_wp2_with fail
  rw [← hw124]
  clear hw124 fzRr_5 lzPp lzRr dPp_0 dPp_1 dPp_2 dPp_3 dPp_4 dPp_5 dRr_0 dRr_1 dRr_2 dRr_3 dRr_4 dRr_5 cPp_0 cPp_1 cPp_2 cPp_3 cPp_4 cPp_5 cRr_0 cRr_1 cRr_2 cRr_3 cRr_4 cRr_5
  rw [← HBt.out]
  refine (HO2 _).mono ?_
  rintro e w125 ⟨rfl, hb⟩
  replace HB := Lib.hid (HB.out.trans (hb.mono HB.out.size))
  replace Pp := Lib.hid (Pp.out.below hb Pp.out.lt)
  replace Rr := Lib.hid (Rr.out.below hb Rr.out.lt)
  clear hb
  clear HO2
  clear Rr
  go_wp2_with fail
  refine (row_is _).mono ?_
  rintro e wr3 ⟨A3, c3, rfl, hr, _, _, hb⟩
  replace HB := Lib.hid (HB.out.trans (hb.mono HB.out.size))
  replace Pp := Lib.hid (Pp.out.below hb Pp.out.lt)
  have R3 := Lib.hid hr
  clear hb hr
  go_wp2_with fail
  refine (HF1 A3 c3 _ R3.out).mono ?_
  rintro e w126 ⟨rfl, hb⟩
  replace HB := Lib.hid (HB.out.trans (hb.mono HB.out.size))
  replace Pp := Lib.hid (Pp.out.below hb Pp.out.lt)
  clear hb
  clear R3 HF1
  go_wp2_with fail
  refine (row_is _).mono ?_
  rintro e wr4 ⟨A4, c4, rfl, hr, _, _, hb⟩
  replace HB := Lib.hid (HB.out.trans (hb.mono HB.out.size))
  replace Pp := Lib.hid (Pp.out.below hb Pp.out.lt)
  have R4 := Lib.hid hr
  clear hb hr
  go_wp2_with fail
  refine (HF2 A4 c4 _ R4.out).mono ?_
  rintro e w127 ⟨rfl, hb⟩
  replace HB := Lib.hid (HB.out.trans (hb.mono HB.out.size))
  replace Pp := Lib.hid (Pp.out.below hb Pp.out.lt)
  clear hb
  clear R4 HF2
  go_wp2_with fail
  replace Pp := Lib.hid Pp.out.drew
  replace HB := Lib.hid HB.out.drew
  try simp only [List.append_eq, List.cons_append, List.nil_append]
  refine wp_region_held_drew (S := (fun w' => (w'.cell? ⟨gPp, 0, none⟩ = some (.int .i64 2) ∧ w'.cell? ⟨gPp, 1, none⟩ = some (.int .i64 2) ∧ w'.cell? ⟨gPp, 2, none⟩ = some (.int .u32 7) ∧ w'.cell? ⟨gPp, 3, none⟩ = some (.int .u32 0) ∧ w'.cell? ⟨gPp, 4, none⟩ = some (.int .u64 5) ∧ w'.cell? ⟨gPp, 5, none⟩ = some (.string B)))) (by kernel_rfl) (six_cells Pp.out) (fun hHeld => ?_)
  generalize w127.drew = wd at *
  refine wpAnyH_takeL (i := 0) (v := ?_) rfl (by decide +kernel) (by decide +kernel) (by decide +kernel) (fun _ _ _ h => h) (Or.inl ⟨by rfl, ?_⟩) (by first | trivial | assumption) ?_
  rotate_left
  · intro wz hSz; (try dsimp only at hSz); go_simp; (try with_reducible rfl)
  try simp only [Act.put, List.setIfInBounds_toArray, List.set_cons_zero, List.set_cons_succ]
  refine wpAnyH_takeL (i := 1) (v := ?_) rfl (by decide +kernel) (by decide +kernel) (by decide +kernel) (fun _ _ _ h => h) (Or.inl ⟨by rfl, ?_⟩) (by first | trivial | assumption) ?_
  rotate_left
  · intro wz hSz; (try dsimp only at hSz); go_simp; (try with_reducible rfl)
  try simp only [Act.put, List.setIfInBounds_toArray, List.set_cons_zero, List.set_cons_succ]
  refine wpAnyH_takeL (i := 2) (v := ?_) rfl (by decide +kernel) (by decide +kernel) (by decide +kernel) (fun _ _ _ h => h) (Or.inl ⟨by rfl, ?_⟩) (by first | trivial | assumption) ?_
  rotate_left
  · intro wz hSz; (try dsimp only at hSz); go_simp; (try with_reducible rfl)
  try simp only [Act.put, List.setIfInBounds_toArray, List.set_cons_zero, List.set_cons_succ]
  refine wpAnyH_takeL (i := 3) (v := ?_) rfl (by decide +kernel) (by decide +kernel) (by decide +kernel) (fun _ _ _ h => h) (Or.inl ⟨by rfl, ?_⟩) (by first | trivial | assumption) ?_
  rotate_left
  · intro wz hSz; (try dsimp only at hSz); go_simp; (try with_reducible rfl)
  try simp only [Act.put, List.setIfInBounds_toArray, List.set_cons_zero, List.set_cons_succ]
  refine wpAnyH_takeL (i := 4) (v := ?_) rfl (by decide +kernel) (by decide +kernel) (by decide +kernel) (fun _ _ _ h => h) (Or.inl ⟨by rfl, ?_⟩) (by first | trivial | assumption) ?_
  rotate_left
  · intro wz hSz; (try dsimp only at hSz); go_simp; (try with_reducible rfl)
  try simp only [Act.put, List.setIfInBounds_toArray, List.set_cons_zero, List.set_cons_succ]
  refine wpAnyH_takeL (i := 5) (v := ?_) rfl (by decide +kernel) (by decide +kernel) (by decide +kernel) (fun _ _ _ h => h) (Or.inl ⟨by rfl, ?_⟩) (by first | trivial | assumption) ?_
  rotate_left
  · intro wz hSz; (try dsimp only at hSz); go_simp; (try with_reducible rfl)
  try simp only [Act.put, List.setIfInBounds_toArray, List.set_cons_zero, List.set_cons_succ]
  refine wpAnyH_takeL (i := 6) (v := ?_) rfl (by decide +kernel) (by decide +kernel) (by decide +kernel) (fun _ _ _ h => h) (Or.inl ⟨by rfl, ?_⟩) (by first | trivial | assumption) ?_
  rotate_left
  · intro wz hSz; (try dsimp only at hSz); go_simp; (try with_reducible rfl)
  try simp only [Act.put, List.setIfInBounds_toArray, List.set_cons_zero, List.set_cons_succ]
  refine wpAnyH_takeL (i := 7) (v := ?_) rfl (by decide +kernel) (by decide +kernel) (by decide +kernel) (fun _ _ _ h => h) (Or.inl ⟨by rfl, ?_⟩) (by first | trivial | assumption) ?_
  rotate_left
  · intro wz hSz; (try dsimp only at hSz); go_simp; (try with_reducible rfl)
  try simp only [Act.put, List.setIfInBounds_toArray, List.set_cons_zero, List.set_cons_succ]
  refine wpAnyH_takeL (i := 8) (v := ?_) rfl (by decide +kernel) (by decide +kernel) (by decide +kernel) (fun _ _ _ h => h) (Or.inl ⟨by rfl, ?_⟩) (by first | trivial | assumption) ?_
  rotate_left
  · intro wz hSz; (try dsimp only at hSz); go_simp; (try with_reducible rfl)
  try simp only [Act.put, List.setIfInBounds_toArray, List.set_cons_zero, List.set_cons_succ]
  refine wpAnyH_takeL (i := 9) (v := ?_) rfl (by decide +kernel) (by decide +kernel) (by decide +kernel) (fun _ _ _ h => h) (Or.inl ⟨by rfl, ?_⟩) (by first | trivial | assumption) ?_
  rotate_left
  · intro wz hSz; (try dsimp only at hSz); go_simp; (try with_reducible rfl)
  try simp only [Act.put, List.setIfInBounds_toArray, List.set_cons_zero, List.set_cons_succ]
  refine wpAnyH_takeL (i := 10) (v := ?_) rfl (by decide +kernel) (by decide +kernel) (by decide +kernel) (fun _ _ _ h => h) (Or.inl ⟨by rfl, ?_⟩) (by first | trivial | assumption) ?_
  rotate_left
  · intro wz hSz; (try dsimp only at hSz); go_simp; (try with_reducible rfl)
  try simp only [Act.put, List.setIfInBounds_toArray, List.set_cons_zero, List.set_cons_succ]
  refine wpAnyH_takeL (i := 11) (v := ?_) rfl (by decide +kernel) (by decide +kernel) (by decide +kernel) (fun _ _ _ h => h) (Or.inl ⟨by rfl, ?_⟩) (by first | trivial | assumption) ?_
  rotate_left
  · intro wz hSz; (try dsimp only at hSz); go_simp; (try with_reducible rfl)
  try simp only [Act.put, List.setIfInBounds_toArray, List.set_cons_zero, List.set_cons_succ]
  refine wpAnyH_takeL (i := 12) (v := ?_) rfl (by decide +kernel) (by decide +kernel) (by decide +kernel) (fun _ _ _ h => h) (Or.inl ⟨by rfl, ?_⟩) (by first | trivial | assumption) ?_
  rotate_left
  · intro wz hSz; (try dsimp only at hSz); go_simp; (try with_reducible rfl)
  try simp only [Act.put, List.setIfInBounds_toArray, List.set_cons_zero, List.set_cons_succ]
  refine wpAnyH_takeL (i := 13) (v := ?_) rfl (by decide +kernel) (by decide +kernel) (by decide +kernel) (fun _ _ _ h => h) (Or.inl ⟨by rfl, ?_⟩) (by first | trivial | assumption) ?_
  rotate_left
  · intro wz hSz; (try dsimp only at hSz); go_simp; (try with_reducible rfl)
  try simp only [Act.put, List.setIfInBounds_toArray, List.set_cons_zero, List.set_cons_succ]
  refine wpAnyH_takeL (i := 14) (v := ?_) rfl (by decide +kernel) (by decide +kernel) (by decide +kernel) (fun _ _ _ h => h) (Or.inl ⟨by rfl, ?_⟩) (by first | trivial | assumption) ?_
  rotate_left
  · intro wz hSz; (try dsimp only at hSz); go_simp; (try with_reducible rfl)
  try simp only [Act.put, List.setIfInBounds_toArray, List.set_cons_zero, List.set_cons_succ]
  refine wpAnyH_takeL (i := 15) (v := ?_) rfl (by decide +kernel) (by decide +kernel) (by decide +kernel) (fun _ _ _ h => h) (Or.inl ⟨by rfl, ?_⟩) (by first | trivial | assumption) ?_
  rotate_left
  · intro wz hSz; (try dsimp only at hSz); go_simp; (try with_reducible rfl)
  try simp only [Act.put, List.setIfInBounds_toArray, List.set_cons_zero, List.set_cons_succ]
  refine wpAnyH_takeL (i := 16) (v := ?_) rfl (by decide +kernel) (by decide +kernel) (by decide +kernel) (fun _ _ _ h => h) (Or.inl ⟨by rfl, ?_⟩) (by first | trivial | assumption) ?_
  rotate_left
  · intro wz hSz; (try dsimp only at hSz); go_simp; (try with_reducible rfl)
  try simp only [Act.put, List.setIfInBounds_toArray, List.set_cons_zero, List.set_cons_succ]
  refine wpAnyH_takeL (i := 17) (v := ?_) rfl (by decide +kernel) (by decide +kernel) (by decide +kernel) (fun _ _ _ h => h) (Or.inl ⟨by rfl, ?_⟩) (by first | trivial | assumption) ?_
  rotate_left
  · intro wz hSz; (try dsimp only at hSz); go_simp; (try with_reducible rfl)
  try simp only [Act.put, List.setIfInBounds_toArray, List.set_cons_zero, List.set_cons_succ]
  refine wpAnyH_takeL (i := 18) (v := ?_) rfl (by decide +kernel) (by decide +kernel) (by decide +kernel) (fun _ _ _ h => h) (Or.inl ⟨by rfl, ?_⟩) (by first | trivial | assumption) ?_
  rotate_left
  · intro wz hSz; (try dsimp only at hSz); go_simp; (try with_reducible rfl)
  try simp only [Act.put, List.setIfInBounds_toArray, List.set_cons_zero, List.set_cons_succ]
  refine wpAnyH_takeL (i := 19) (v := ?_) rfl (by decide +kernel) (by decide +kernel) (by decide +kernel) (fun _ _ _ h => h) (Or.inl ⟨by rfl, ?_⟩) (by first | trivial | assumption) ?_
  rotate_left
  · intro wz hSz; (try dsimp only at hSz); go_simp; (try with_reducible rfl)
  try simp only [Act.put, List.setIfInBounds_toArray, List.set_cons_zero, List.set_cons_succ]
  refine wpAnyH_takeL (i := 20) (v := ?_) rfl (by decide +kernel) (by decide +kernel) (by decide +kernel) (fun _ _ _ h => h) (Or.inl ⟨by rfl, ?_⟩) (by first | trivial | assumption) ?_
  rotate_left
  · intro wz hSz; (try dsimp only at hSz); go_simp; (try with_reducible rfl)
  try simp only [Act.put, List.setIfInBounds_toArray, List.set_cons_zero, List.set_cons_succ]
  refine wpAnyH_takeL (i := 21) (v := ?_) rfl (by decide +kernel) (by decide +kernel) (by decide +kernel) (fun _ _ _ h => h) (Or.inl ⟨by rfl, ?_⟩) (by first | trivial | assumption) ?_
  rotate_left
  · intro wz hSz; (try dsimp only at hSz); go_simp; (try with_reducible rfl)
  try simp only [Act.put, List.setIfInBounds_toArray, List.set_cons_zero, List.set_cons_succ]
  refine wpAnyH_takeL (i := 22) (v := ?_) rfl (by decide +kernel) (by decide +kernel) (by decide +kernel) (fun _ _ _ h => h) (Or.inl ⟨by rfl, ?_⟩) (by first | trivial | assumption) ?_
  rotate_left
  · intro wz hSz; (try dsimp only at hSz); go_simp; (try with_reducible rfl)
  try simp only [Act.put, List.setIfInBounds_toArray, List.set_cons_zero, List.set_cons_succ]
  refine wpAnyH_takeL (i := 23) (v := ?_) rfl (by decide +kernel) (by decide +kernel) (by decide +kernel) (fun _ _ _ h => h) (Or.inl ⟨by rfl, ?_⟩) (by first | trivial | assumption) ?_
  rotate_left
  · intro wz hSz; (try dsimp only at hSz); go_simp; (try with_reducible rfl)
  try simp only [Act.put, List.setIfInBounds_toArray, List.set_cons_zero, List.set_cons_succ]
  refine wpAnyH_takeL (i := 24) (v := ?_) rfl (by decide +kernel) (by decide +kernel) (by decide +kernel) (fun _ _ _ h => h) (Or.inl ⟨by rfl, ?_⟩) (by first | trivial | assumption) ?_
  rotate_left
  · intro wz hSz; (try dsimp only at hSz); go_simp; (try with_reducible rfl)
  try simp only [Act.put, List.setIfInBounds_toArray, List.set_cons_zero, List.set_cons_succ]
  refine wpAnyH_takeL (i := 25) (v := ?_) rfl (by decide +kernel) (by decide +kernel) (by decide +kernel) (fun _ _ _ h => h) (Or.inl ⟨by rfl, ?_⟩) (by first | trivial | assumption) ?_
  rotate_left
  · intro wz hSz; (try dsimp only at hSz); go_simp; (try with_reducible rfl)
  try simp only [Act.put, List.setIfInBounds_toArray, List.set_cons_zero, List.set_cons_succ]
  refine wpAnyH_takeL (i := 26) (v := ?_) rfl (by decide +kernel) (by decide +kernel) (by decide +kernel) (fun _ _ _ h => h) (Or.inl ⟨by rfl, ?_⟩) (by first | trivial | assumption) ?_
  rotate_left
  · intro wz hSz; (try dsimp only at hSz); go_simp; (try with_reducible rfl)
  try simp only [Act.put, List.setIfInBounds_toArray, List.set_cons_zero, List.set_cons_succ]
  refine wpAnyH_takeL (i := 27) (v := ?_) rfl (by decide +kernel) (by decide +kernel) (by decide +kernel) (fun _ _ _ h => h) (Or.inl ⟨by rfl, ?_⟩) (by first | trivial | assumption) ?_
  rotate_left
  · intro wz hSz; (try dsimp only at hSz); go_simp; (try with_reducible rfl)
  try simp only [Act.put, List.setIfInBounds_toArray, List.set_cons_zero, List.set_cons_succ]
  refine wpAnyH_takeL (i := 28) (v := ?_) rfl (by decide +kernel) (by decide +kernel) (by decide +kernel) (fun _ _ _ h => h) (Or.inl ⟨by rfl, ?_⟩) (by first | trivial | assumption) ?_
  rotate_left
  · intro wz hSz; (try dsimp only at hSz); go_simp; (try with_reducible rfl)
  try simp only [Act.put, List.setIfInBounds_toArray, List.set_cons_zero, List.set_cons_succ]
  refine wpAnyH_takeL (i := 29) (v := ?_) rfl (by decide +kernel) (by decide +kernel) (by decide +kernel) (fun _ _ _ h => h) (Or.inl ⟨by rfl, ?_⟩) (by first | trivial | assumption) ?_
  rotate_left
  · intro wz hSz; (try dsimp only at hSz); go_simp; (try with_reducible rfl)
  try simp only [Act.put, List.setIfInBounds_toArray, List.set_cons_zero, List.set_cons_succ]
  refine wpAnyH_takeL (i := 30) (v := ?_) rfl (by decide +kernel) (by decide +kernel) (by decide +kernel) (fun _ _ _ h => h) (Or.inl ⟨by rfl, ?_⟩) (by first | trivial | assumption) ?_
  rotate_left
  · intro wz hSz; (try dsimp only at hSz); go_simp; (try with_reducible rfl)
  try simp only [Act.put, List.setIfInBounds_toArray, List.set_cons_zero, List.set_cons_succ]
  refine wpAnyH_takeL (i := 31) (v := ?_) rfl (by decide +kernel) (by decide +kernel) (by decide +kernel) (fun _ _ _ h => h) (Or.inl ⟨by rfl, ?_⟩) (by first | trivial | assumption) ?_
  rotate_left
  · intro wz hSz; (try dsimp only at hSz); go_simp; (try with_reducible rfl)
  try simp only [Act.put, List.setIfInBounds_toArray, List.set_cons_zero, List.set_cons_succ]
  refine wpAnyH_takeL (i := 32) (v := ?_) rfl (by decide +kernel) (by decide +kernel) (by decide +kernel) (fun _ _ _ h => h) (Or.inl ⟨by rfl, ?_⟩) (by first | trivial | assumption) ?_
  rotate_left
  · intro wz hSz; (try dsimp only at hSz); go_simp; (try with_reducible rfl)
  try simp only [Act.put, List.setIfInBounds_toArray, List.set_cons_zero, List.set_cons_succ]
  refine wpAnyH_takeL (i := 33) (v := ?_) rfl (by decide +kernel) (by decide +kernel) (by decide +kernel) (fun _ _ _ h => h) (Or.inl ⟨by rfl, ?_⟩) (by first | trivial | assumption) ?_
  rotate_left
  · intro wz hSz; (try dsimp only at hSz); go_simp; (try with_reducible rfl)
  try simp only [Act.put, List.setIfInBounds_toArray, List.set_cons_zero, List.set_cons_succ]
  refine wpAnyH_takeL (i := 34) (v := ?_) rfl (by decide +kernel) (by decide +kernel) (by decide +kernel) (fun _ _ _ h => h) (Or.inl ⟨by rfl, ?_⟩) (by first | trivial | assumption) ?_
  rotate_left
  · intro wz hSz; (try dsimp only at hSz); go_simp; (try with_reducible rfl)
  try simp only [Act.put, List.setIfInBounds_toArray, List.set_cons_zero, List.set_cons_succ]
  refine wpAnyH_takeL (i := 35) (v := ?_) rfl (by decide +kernel) (by decide +kernel) (by decide +kernel) (fun _ _ _ h => h) (Or.inl ⟨by rfl, ?_⟩) (by first | trivial | assumption) ?_
  rotate_left
  · intro wz hSz; (try dsimp only at hSz); go_simp; (try with_reducible rfl)
  try simp only [Act.put, List.setIfInBounds_toArray, List.set_cons_zero, List.set_cons_succ]
  refine wpAnyH_takeL (i := 36) (v := ?_) rfl (by decide +kernel) (by decide +kernel) (by decide +kernel) (fun _ _ _ h => h) (Or.inl ⟨by rfl, ?_⟩) (by first | trivial | assumption) ?_
  rotate_left
  · intro wz hSz; (try dsimp only at hSz); go_simp; (try with_reducible rfl)
  try simp only [Act.put, List.setIfInBounds_toArray, List.set_cons_zero, List.set_cons_succ]
  refine wpAnyH_takeL (i := 37) (v := ?_) rfl (by decide +kernel) (by decide +kernel) (by decide +kernel) (fun _ _ _ h => h) (Or.inl ⟨by rfl, ?_⟩) (by first | trivial | assumption) ?_
  rotate_left
  · intro wz hSz; (try dsimp only at hSz); go_simp; (try with_reducible rfl)
  try simp only [Act.put, List.setIfInBounds_toArray, List.set_cons_zero, List.set_cons_succ]
  refine wpAnyH_takeL (i := 38) (v := ?_) rfl (by decide +kernel) (by decide +kernel) (by decide +kernel) (fun _ _ _ h => h) (Or.inl ⟨by rfl, ?_⟩) (by first | trivial | assumption) ?_
  rotate_left
  · intro wz hSz; (try dsimp only at hSz); go_simp; (try with_reducible rfl)
  try simp only [Act.put, List.setIfInBounds_toArray, List.set_cons_zero, List.set_cons_succ]
  refine wpAnyH_takeL (i := 39) (v := ?_) rfl (by decide +kernel) (by decide +kernel) (by decide +kernel) (fun _ _ _ h => h) (Or.inl ⟨by rfl, ?_⟩) (by first | trivial | assumption) ?_
  rotate_left
  · intro wz hSz; (try dsimp only at hSz); go_simp; (try with_reducible rfl)
  try simp only [Act.put, List.setIfInBounds_toArray, List.set_cons_zero, List.set_cons_succ]
  refine wpAnyH_takeL (i := 40) (v := ?_) rfl (by decide +kernel) (by decide +kernel) (by decide +kernel) (fun _ _ _ h => h) (Or.inl ⟨by rfl, ?_⟩) (by first | trivial | assumption) ?_
  rotate_left
  · intro wz hSz; (try dsimp only at hSz); go_simp; (try with_reducible rfl)
  try simp only [Act.put, List.setIfInBounds_toArray, List.set_cons_zero, List.set_cons_succ]
  refine wpAnyH_takeL (i := 41) (v := ?_) rfl (by decide +kernel) (by decide +kernel) (by decide +kernel) (fun _ _ _ h => h) (Or.inl ⟨by rfl, ?_⟩) (by first | trivial | assumption) ?_
  rotate_left
  · intro wz hSz; (try dsimp only at hSz); go_simp; (try with_reducible rfl)
  try simp only [Act.put, List.setIfInBounds_toArray, List.set_cons_zero, List.set_cons_succ]
  refine wpAnyH_takeL (i := 42) (v := ?_) rfl (by decide +kernel) (by decide +kernel) (by decide +kernel) (fun _ _ _ h => h) (Or.inl ⟨by rfl, ?_⟩) (by first | trivial | assumption) ?_
  rotate_left
  · intro wz hSz; (try dsimp only at hSz); go_simp; (try with_reducible rfl)
  try simp only [Act.put, List.setIfInBounds_toArray, List.set_cons_zero, List.set_cons_succ]
  refine wpAnyH_takeL (i := 43) (v := ?_) rfl (by decide +kernel) (by decide +kernel) (by decide +kernel) (fun _ _ _ h => h) (Or.inl ⟨by rfl, ?_⟩) (by first | trivial | assumption) ?_
  rotate_left
  · intro wz hSz; (try dsimp only at hSz); go_simp; (try with_reducible rfl)
  try simp only [Act.put, List.setIfInBounds_toArray, List.set_cons_zero, List.set_cons_succ]
  refine wpAnyH_takeL (i := 44) (v := ?_) rfl (by decide +kernel) (by decide +kernel) (by decide +kernel) (fun _ _ _ h => h) (Or.inl ⟨by rfl, ?_⟩) (by first | trivial | assumption) ?_
  rotate_left
  · intro wz hSz; (try dsimp only at hSz); go_simp; (try with_reducible rfl)
  try simp only [Act.put, List.setIfInBounds_toArray, List.set_cons_zero, List.set_cons_succ]
  refine wpAnyH_takeL (i := 45) (v := ?_) rfl (by decide +kernel) (by decide +kernel) (by decide +kernel) (fun _ _ _ h => h) (Or.inl ⟨by rfl, ?_⟩) (by first | trivial | assumption) ?_
  rotate_left
  · intro wz hSz; (try dsimp only at hSz); go_simp; (try with_reducible rfl)
  try simp only [Act.put, List.setIfInBounds_toArray, List.set_cons_zero, List.set_cons_succ]
  refine wpAnyH_takeL (i := 46) (v := ?_) rfl (by decide +kernel) (by decide +kernel) (by decide +kernel) (fun _ _ _ h => h) (Or.inl ⟨by rfl, ?_⟩) (by first | trivial | assumption) ?_
  rotate_left
  · intro wz hSz; (try dsimp only at hSz); go_simp; (try with_reducible rfl)
  try simp only [Act.put, List.setIfInBounds_toArray, List.set_cons_zero, List.set_cons_succ]
  refine wpAnyH_takeL (i := 47) (v := ?_) rfl (by decide +kernel) (by decide +kernel) (by decide +kernel) (fun _ _ _ h => h) (Or.inl ⟨by rfl, ?_⟩) (by first | trivial | assumption) ?_
  rotate_left
  · intro wz hSz; (try dsimp only at hSz); go_simp; (try with_reducible rfl)
  try simp only [Act.put, List.setIfInBounds_toArray, List.set_cons_zero, List.set_cons_succ]
  refine wpAnyH_takeL (i := 48) (v := ?_) rfl (by decide +kernel) (by decide +kernel) (by decide +kernel) (fun _ _ _ h => h) (Or.inl ⟨by rfl, ?_⟩) (by first | trivial | assumption) ?_
  rotate_left
  · intro wz hSz; (try dsimp only at hSz); go_simp; (try with_reducible rfl)
  try simp only [Act.put, List.setIfInBounds_toArray, List.set_cons_zero, List.set_cons_succ]
  refine wpAnyH_takeL (i := 49) (v := ?_) rfl (by decide +kernel) (by decide +kernel) (by decide +kernel) (fun _ _ _ h => h) (Or.inl ⟨by rfl, ?_⟩) (by first | trivial | assumption) ?_
  rotate_left
  · intro wz hSz; (try dsimp only at hSz); go_simp; (try with_reducible rfl)
  try simp only [Act.put, List.setIfInBounds_toArray, List.set_cons_zero, List.set_cons_succ]
  refine wpAnyH_takeL (i := 50) (v := ?_) rfl (by decide +kernel) (by decide +kernel) (by decide +kernel) (fun _ _ _ h => h) (Or.inl ⟨by rfl, ?_⟩) (by first | trivial | assumption) ?_
  rotate_left
  · intro wz hSz; (try dsimp only at hSz); go_simp; (try with_reducible rfl)
  try simp only [Act.put, List.setIfInBounds_toArray, List.set_cons_zero, List.set_cons_succ]
  refine wpAnyH_takeL (i := 51) (v := ?_) rfl (by decide +kernel) (by decide +kernel) (by decide +kernel) (fun _ _ _ h => h) (Or.inl ⟨by rfl, ?_⟩) (by first | trivial | assumption) ?_
  rotate_left
  · intro wz hSz; (try dsimp only at hSz); go_simp; (try with_reducible rfl)
  try simp only [Act.put, List.setIfInBounds_toArray, List.set_cons_zero, List.set_cons_succ]
  refine wpAnyH_takeL (i := 52) (v := ?_) rfl (by decide +kernel) (by decide +kernel) (by decide +kernel) (fun _ _ _ h => h) (Or.inl ⟨by rfl, ?_⟩) (by first | trivial | assumption) ?_
  rotate_left
  · intro wz hSz; (try dsimp only at hSz); go_simp; (try with_reducible rfl)
  try simp only [Act.put, List.setIfInBounds_toArray, List.set_cons_zero, List.set_cons_succ]
  refine wpAnyH_takeL (i := 53) (v := ?_) rfl (by decide +kernel) (by decide +kernel) (by decide +kernel) (fun _ _ _ h => h) (Or.inl ⟨by rfl, ?_⟩) (by first | trivial | assumption) ?_
  rotate_left
  · intro wz hSz; (try dsimp only at hSz); go_simp; (try with_reducible rfl)
  try simp only [Act.put, List.setIfInBounds_toArray, List.set_cons_zero, List.set_cons_succ]
  refine wpAnyH_takeL (i := 54) (v := ?_) rfl (by decide +kernel) (by decide +kernel) (by decide +kernel) (fun _ _ _ h => h) (Or.inl ⟨by rfl, ?_⟩) (by first | trivial | assumption) ?_
  rotate_left
  · intro wz hSz; (try dsimp only at hSz); go_simp; (try with_reducible rfl)
  try simp only [Act.put, List.setIfInBounds_toArray, List.set_cons_zero, List.set_cons_succ]
  refine wpAnyH_takeL (i := 55) (v := ?_) rfl (by decide +kernel) (by decide +kernel) (by decide +kernel) (fun _ _ _ h => h) (Or.inl ⟨by rfl, ?_⟩) (by first | trivial | assumption) ?_
  rotate_left
  · intro wz hSz; (try dsimp only at hSz); go_simp; (try with_reducible rfl)
  try simp only [Act.put, List.setIfInBounds_toArray, List.set_cons_zero, List.set_cons_succ]
  refine wpAnyH_takeL (i := 56) (v := ?_) rfl (by decide +kernel) (by decide +kernel) (by decide +kernel) (fun _ _ _ h => h) (Or.inl ⟨by rfl, ?_⟩) (by first | trivial | assumption) ?_
  rotate_left
  · intro wz hSz; (try dsimp only at hSz); go_simp; (try with_reducible rfl)
  try simp only [Act.put, List.setIfInBounds_toArray, List.set_cons_zero, List.set_cons_succ]
  refine wpAnyH_takeL (i := 57) (v := ?_) rfl (by decide +kernel) (by decide +kernel) (by decide +kernel) (fun _ _ _ h => h) (Or.inl ⟨by rfl, ?_⟩) (by first | trivial | assumption) ?_
  rotate_left
  · intro wz hSz; (try dsimp only at hSz); go_simp; (try with_reducible rfl)
  try simp only [Act.put, List.setIfInBounds_toArray, List.set_cons_zero, List.set_cons_succ]
  refine wpAnyH_takeL (i := 58) (v := ?_) rfl (by decide +kernel) (by decide +kernel) (by decide +kernel) (fun _ _ _ h => h) (Or.inl ⟨by rfl, ?_⟩) (by first | trivial | assumption) ?_
  rotate_left
  · intro wz hSz; (try dsimp only at hSz); go_simp; (try with_reducible rfl)
  try simp only [Act.put, List.setIfInBounds_toArray, List.set_cons_zero, List.set_cons_succ]
  refine wpAnyH_takeL (i := 59) (v := ?_) rfl (by decide +kernel) (by decide +kernel) (by decide +kernel) (fun _ _ _ h => h) (Or.inl ⟨by rfl, ?_⟩) (by first | trivial | assumption) ?_
  rotate_left
  · intro wz hSz; (try dsimp only at hSz); go_simp; (try with_reducible rfl)
  try simp only [Act.put, List.setIfInBounds_toArray, List.set_cons_zero, List.set_cons_succ]
  refine wpAnyH_takeL (i := 60) (v := ?_) rfl (by decide +kernel) (by decide +kernel) (by decide +kernel) (fun _ _ _ h => h) (Or.inl ⟨by rfl, ?_⟩) (by first | trivial | assumption) ?_
  rotate_left
  · intro wz hSz; (try dsimp only at hSz); go_simp; (try with_reducible rfl)
  try simp only [Act.put, List.setIfInBounds_toArray, List.set_cons_zero, List.set_cons_succ]
  refine wpAnyH_takeL (i := 61) (v := ?_) rfl (by decide +kernel) (by decide +kernel) (by decide +kernel) (fun _ _ _ h => h) (Or.inl ⟨by rfl, ?_⟩) (by first | trivial | assumption) ?_
  rotate_left
  · intro wz hSz; (try dsimp only at hSz); go_simp; (try with_reducible rfl)
  try simp only [Act.put, List.setIfInBounds_toArray, List.set_cons_zero, List.set_cons_succ]
  refine wpAnyH_takeL (i := 63) (v := ?_) rfl (by decide +kernel) (by decide +kernel) (by decide +kernel) (fun _ _ _ h => h) (Or.inl ⟨by rfl, ?_⟩) (by first | trivial | assumption) ?_
  rotate_left
  · intro wz hSz; (try dsimp only at hSz); go_simp; (try with_reducible rfl)
  try simp only [Act.put, List.setIfInBounds_toArray, List.set_cons_zero, List.set_cons_succ]
  refine wpAnyH_takeL (i := 68) (v := ?_) rfl (by decide +kernel) (by decide +kernel) (by decide +kernel) (fun _ _ _ h => h) (Or.inl ⟨by rfl, ?_⟩) (by first | trivial | assumption) ?_
  rotate_left
  · intro wz hSz; (try dsimp only at hSz); go_simp; (try with_reducible rfl)
  try simp only [Act.put, List.setIfInBounds_toArray, List.set_cons_zero, List.set_cons_succ]
  refine wpAnyH_ready (rs := [62]) (by decide +kernel) (by simp) ?_
  refine AllReadyH.consL rfl (fun K hK => ?_) AllReadyH.nil
  go_simp
  refine (row_blk _).mono ?_
  rintro e wq62 ⟨rfl, hblk, hb⟩
  replace HB := Lib.hid (HB.out.trans (hb.mono HB.out.size))
  replace Pp := Lib.hid (Pp.out.below hb Pp.out.lt)
  have RA := Lib.hid hblk
  clear hb hblk
  refine hK.out _ _ ((six_cells Pp.out)) (fun hHeld => ?_)
  clear hK K
  try simp only [Act.put, List.setIfInBounds_toArray, List.set_cons_zero, List.set_cons_succ]
  generalize wd.heap.size = gRA at *
  refine wpAnyH_ready (rs := [64]) (by decide +kernel) (by simp) ?_
  refine AllReadyH.consL rfl (fun K hK => ?_) AllReadyH.nil
  go_simp
  refine (cset_any (some ⟨gRA, 0, none⟩) 2 2 rowL ⟨⟨#[98]⟩, 0, 0⟩ _ (show Reads _ _ 3 _ 2 (bkc rowL) from ((reads_own (n := 2) RA.out rfl).more RA.out.lt)) (by decide) (by decide) (by decide)).mono ?_
  rintro e wq64 ⟨A9, n9, c9, rfl, hr, _, _, hb⟩
  rw [set_row] at hr
  obtain rfl : n9 = 3 := (bk_len hr).symm
  replace HB := Lib.hid (HB.out.trans (hb.mono HB.out.size))
  replace Pp := Lib.hid (Pp.out.below hb Pp.out.lt)
  replace RA := Lib.hid (RA.out.below hb RA.out.lt)
  have RS := Lib.hid hr
  clear hb hr
  refine hK.out _ _ ((six_cells Pp.out)) (fun hHeld => ?_)
  clear hK K
  try simp only [Act.put, List.setIfInBounds_toArray, List.set_cons_zero, List.set_cons_succ]
  clear RA
  refine wpAnyH_ready (rs := [65]) (by decide +kernel) (by simp) ?_
  refine AllReadyH.consL rfl (fun K hK => ?_) AllReadyH.nil
  go_simp
  refine (row_blk _).mono ?_
  rintro e wq65 ⟨rfl, hblk, hb⟩
  replace HB := Lib.hid (HB.out.trans (hb.mono HB.out.size))
  replace Pp := Lib.hid (Pp.out.below hb Pp.out.lt)
  replace RS := Lib.hid ((RS.out.below hb).more hb.size)
  have RB := Lib.hid hblk
  clear hb hblk
  refine hK.out _ _ ((six_cells Pp.out)) (fun hHeld => ?_)
  clear hK K
  try simp only [Act.put, List.setIfInBounds_toArray, List.set_cons_zero, List.set_cons_succ]
  generalize wq64.heap.size = gRB at *
  refine wpAnyH_mono (S' := fun w' => (w'.cell? ⟨gPp, 0, none⟩ = some (.int .i64 2) ∧ w'.cell? ⟨gPp, 1, none⟩ = some (.int .i64 2) ∧ w'.cell? ⟨gPp, 2, none⟩ = some (.int .u32 7) ∧ w'.cell? ⟨gPp, 3, none⟩ = some (.int .u32 0) ∧ w'.cell? ⟨gPp, 4, none⟩ = some (.int .u64 5) ∧ w'.cell? ⟨gPp, 5, none⟩ = some (.string B)) ∧ (w'.cell? ⟨gRB, 0, none⟩ = some (.string ⟨#[97]⟩) ∧ w'.cell? ⟨gRB, 1, none⟩ = some (.int .u32 5) ∧ w'.cell? ⟨gRB, 2, none⟩ = some (.int .i64 3))) (fun _ h => h.1) _ _ _ _ ?_
  replace hHeld : (fun w' => (w'.cell? ⟨gPp, 0, none⟩ = some (.int .i64 2) ∧ w'.cell? ⟨gPp, 1, none⟩ = some (.int .i64 2) ∧ w'.cell? ⟨gPp, 2, none⟩ = some (.int .u32 7) ∧ w'.cell? ⟨gPp, 3, none⟩ = some (.int .u32 0) ∧ w'.cell? ⟨gPp, 4, none⟩ = some (.int .u64 5) ∧ w'.cell? ⟨gPp, 5, none⟩ = some (.string B)) ∧ (w'.cell? ⟨gRB, 0, none⟩ = some (.string ⟨#[97]⟩) ∧ w'.cell? ⟨gRB, 1, none⟩ = some (.int .u32 5) ∧ w'.cell? ⟨gRB, 2, none⟩ = some (.int .i64 3))) wq65 := ⟨six_cells Pp.out, RB.out.cell 0, RB.out.cell 1, RB.out.cell 2⟩
  refine wpAnyH_takeL (i := 66) (v := ?_) rfl (by decide +kernel) (by decide +kernel) (by decide +kernel) (fun _ _ _ h => h) (Or.inl ⟨by rfl, ?_⟩) (by first | trivial | assumption) ?_
  rotate_left
  · intro wz hSz; (try dsimp only at hSz); go_simp; (try with_reducible rfl)
  try simp only [Act.put, List.setIfInBounds_toArray, List.set_cons_zero, List.set_cons_succ]
  refine wpAnyH_takeL (i := 67) (v := ?_) rfl (by decide +kernel) (by decide +kernel) (by decide +kernel) (fun _ _ _ h => h) (Or.inl ⟨by rfl, ?_⟩) (by first | trivial | assumption) ?_
  rotate_left
  · intro wz hSz; (try dsimp only at hSz); go_simp; (try with_reducible rfl)
  try simp only [Act.put, List.setIfInBounds_toArray, List.set_cons_zero, List.set_cons_succ]
  refine wpAnyH_ready (rs := [69]) (by decide +kernel) (by simp) ?_
  refine AllReadyH.consL rfl (fun K hK => ?_) AllReadyH.nil
  go_simp
  refine (row_blk _).mono ?_
  rintro e wq69 ⟨rfl, hblk, hb⟩
  replace HB := Lib.hid (HB.out.trans (hb.mono HB.out.size))
  replace Pp := Lib.hid (Pp.out.below hb Pp.out.lt)
  replace RB := Lib.hid (RB.out.below hb RB.out.lt)
  replace RS := Lib.hid ((RS.out.below hb).more hb.size)
  have RC := Lib.hid hblk
  clear hb hblk
  refine hK.out _ _ (⟨six_cells Pp.out, RB.out.cell 0, RB.out.cell 1, RB.out.cell 2⟩) (fun hHeld => ?_)
  clear hK K
  try simp only [Act.put, List.setIfInBounds_toArray, List.set_cons_zero, List.set_cons_succ]
  generalize wq65.heap.size = gRC at *
  refine wpAnyH_mono (S' := fun w' => ((w'.cell? ⟨gPp, 0, none⟩ = some (.int .i64 2) ∧ w'.cell? ⟨gPp, 1, none⟩ = some (.int .i64 2) ∧ w'.cell? ⟨gPp, 2, none⟩ = some (.int .u32 7) ∧ w'.cell? ⟨gPp, 3, none⟩ = some (.int .u32 0) ∧ w'.cell? ⟨gPp, 4, none⟩ = some (.int .u64 5) ∧ w'.cell? ⟨gPp, 5, none⟩ = some (.string B)) ∧ (w'.cell? ⟨gRB, 0, none⟩ = some (.string ⟨#[97]⟩) ∧ w'.cell? ⟨gRB, 1, none⟩ = some (.int .u32 5) ∧ w'.cell? ⟨gRB, 2, none⟩ = some (.int .i64 3))) ∧ (w'.cell? ⟨gRC, 3, none⟩ = some (.string ⟨#[99]⟩) ∧ w'.cell? ⟨gRC, 4, none⟩ = some (.int .u32 0) ∧ w'.cell? ⟨gRC, 5, none⟩ = some (.int .i64 0))) (fun _ h => h.1) _ _ _ _ ?_
  replace hHeld : (fun w' => ((w'.cell? ⟨gPp, 0, none⟩ = some (.int .i64 2) ∧ w'.cell? ⟨gPp, 1, none⟩ = some (.int .i64 2) ∧ w'.cell? ⟨gPp, 2, none⟩ = some (.int .u32 7) ∧ w'.cell? ⟨gPp, 3, none⟩ = some (.int .u32 0) ∧ w'.cell? ⟨gPp, 4, none⟩ = some (.int .u64 5) ∧ w'.cell? ⟨gPp, 5, none⟩ = some (.string B)) ∧ (w'.cell? ⟨gRB, 0, none⟩ = some (.string ⟨#[97]⟩) ∧ w'.cell? ⟨gRB, 1, none⟩ = some (.int .u32 5) ∧ w'.cell? ⟨gRB, 2, none⟩ = some (.int .i64 3))) ∧ (w'.cell? ⟨gRC, 3, none⟩ = some (.string ⟨#[99]⟩) ∧ w'.cell? ⟨gRC, 4, none⟩ = some (.int .u32 0) ∧ w'.cell? ⟨gRC, 5, none⟩ = some (.int .i64 0))) wq69 := ⟨⟨six_cells Pp.out, RB.out.cell 0, RB.out.cell 1, RB.out.cell 2⟩, RC.out.cell 3, RC.out.cell 4, RC.out.cell 5⟩
  refine wpAnyH_takeL (i := 70) (v := ?_) rfl (by decide +kernel) (by decide +kernel) (by decide +kernel) (fun _ _ _ h => h) (Or.inl ⟨by rfl, ?_⟩) (by first | trivial | assumption) ?_
  rotate_left
  · intro wz hSz; (try dsimp only at hSz); go_simp; (try with_reducible rfl)
  try simp only [Act.put, List.setIfInBounds_toArray, List.set_cons_zero, List.set_cons_succ]
  refine wpAnyH_takeL (i := 71) (v := ?_) rfl (by decide +kernel) (by decide +kernel) (by decide +kernel) (fun _ _ _ h => h) (Or.inl ⟨by rfl, ?_⟩) (by first | trivial | assumption) ?_
  rotate_left
  · intro wz hSz; (try dsimp only at hSz); go_simp; (try with_reducible rfl)
  try simp only [Act.put, List.setIfInBounds_toArray, List.set_cons_zero, List.set_cons_succ]
  refine wpAnyH_ready (rs := [72]) (by decide +kernel) (by simp) ?_
  refine AllReadyH.consL rfl (fun K hK => ?_) AllReadyH.nil
  go_simp
  refine hK.out _ _ (⟨⟨six_cells (Pp.out.alloc _), (RB.out.alloc _).cell 0, (RB.out.alloc _).cell 1, (RB.out.alloc _).cell 2⟩, (RC.out.alloc _).cell 3, (RC.out.alloc _).cell 4, (RC.out.alloc _).cell 5⟩) (fun hHeld => ?_)
  clear hK K
  try simp only [Act.put, List.setIfInBounds_toArray, List.set_cons_zero, List.set_cons_succ]
  have RD := Lib.hid (Blk.new wq69 33 #[.string ⟨#[97]⟩, .int .u32 5, .int .i64 3, .string ⟨#[98]⟩, .int .u32 0, .int .i64 0, .string ⟨#[99]⟩, .int .u32 0, .int .i64 0])
  replace Pp := Lib.hid (Pp.out.alloc (.cells #[.string ⟨#[97]⟩, .int .u32 5, .int .i64 3, .string ⟨#[98]⟩, .int .u32 0, .int .i64 0, .string ⟨#[99]⟩, .int .u32 0, .int .i64 0] 33))
  replace RB := Lib.hid (RB.out.alloc (.cells #[.string ⟨#[97]⟩, .int .u32 5, .int .i64 3, .string ⟨#[98]⟩, .int .u32 0, .int .i64 0, .string ⟨#[99]⟩, .int .u32 0, .int .i64 0] 33))
  replace RC := Lib.hid (RC.out.alloc (.cells #[.string ⟨#[97]⟩, .int .u32 5, .int .i64 3, .string ⟨#[98]⟩, .int .u32 0, .int .i64 0, .string ⟨#[99]⟩, .int .u32 0, .int .i64 0] 33))
  replace RS := Lib.hid (show Reads (wq69.alloc (.cells #[.string ⟨#[97]⟩, .int .u32 5, .int .i64 3, .string ⟨#[98]⟩, .int .u32 0, .int .i64 0, .string ⟨#[99]⟩, .int .u32 0, .int .i64 0] 33)) (wq69.alloc (.cells #[.string ⟨#[97]⟩, .int .u32 5, .int .i64 3, .string ⟨#[98]⟩, .int .u32 0, .int .i64 0, .string ⟨#[99]⟩, .int .u32 0, .int .i64 0] 33)).heap.size 3 _ _ _ from (RS.out.alloc (Nat.le_refl _) _).more (by simp))
  replace HB := Lib.hid (HB.out.alloc HB.out.size (.cells #[.string ⟨#[97]⟩, .int .u32 5, .int .i64 3, .string ⟨#[98]⟩, .int .u32 0, .int .i64 0, .string ⟨#[99]⟩, .int .u32 0, .int .i64 0] 33))
  generalize wq69.heap.size = gRD at *
  generalize (wq69.alloc (.cells #[.string ⟨#[97]⟩, .int .u32 5, .int .i64 3, .string ⟨#[98]⟩, .int .u32 0, .int .i64 0, .string ⟨#[99]⟩, .int .u32 0, .int .i64 0] 33)) = wq72 at *
  refine wpAnyH_ready (rs := [73]) (by decide +kernel) (by simp) ?_
  refine AllReadyH.consL rfl (fun K hK => ?_) AllReadyH.nil
  go_simp
  refine (same6_yes A9 3 c9 (some ⟨gRD, 0, none⟩) 3 setL _ RS.out (show Reads _ _ 3 _ 3 (bkc setL) from reads_own (n := 3) RD.out rfl) (by decide)).mono ?_
  rintro e wq73 ⟨rfl, q, hq⟩
  have hb : Below wq72.heap.size wq72 wq73 := by rw [hq]; exact below_drewN (Below.refl _ _) q
  replace HB := Lib.hid (HB.out.trans (hb.mono HB.out.size))
  replace Pp := Lib.hid (Pp.out.below hb Pp.out.lt)
  replace RB := Lib.hid (RB.out.below hb RB.out.lt)
  replace RC := Lib.hid (RC.out.below hb RC.out.lt)
  replace RD := Lib.hid (RD.out.below hb RD.out.lt)
  clear hb hq
  refine hK.out _ _ (⟨⟨six_cells Pp.out, RB.out.cell 0, RB.out.cell 1, RB.out.cell 2⟩, RC.out.cell 3, RC.out.cell 4, RC.out.cell 5⟩) (fun hHeld => ?_)
  clear hK K
  try simp only [Act.put, List.setIfInBounds_toArray, List.set_cons_zero, List.set_cons_succ]
  clear RD RS
  refine wpAnyH_takeL (i := 74) (v := ?_) rfl (by decide +kernel) (by decide +kernel) (by decide +kernel) (fun _ _ _ h => h) (Or.inl ⟨by rfl, ?_⟩) (by first | trivial | assumption) ?_
  rotate_left
  · intro wz hSz; (try dsimp only at hSz); go_simp; (try with_reducible rfl)
  try simp only [Act.put, List.setIfInBounds_toArray, List.set_cons_zero, List.set_cons_succ]
  refine wpAnyH_takeL (i := 75) (v := ?_) rfl (by decide +kernel) (by decide +kernel) (by decide +kernel) (fun _ _ _ h => h) (Or.inl ⟨by rfl, ?_⟩) (by first | trivial | assumption) ?_
  rotate_left
  · intro wz hSz; (try dsimp only at hSz); go_simp; (try with_reducible rfl)
  try simp only [Act.put, List.setIfInBounds_toArray, List.set_cons_zero, List.set_cons_succ]
  refine wpAnyH_ready (rs := [76]) (by decide +kernel) (by simp) ?_
  refine AllReadyH.consL rfl (fun K hK => ?_) AllReadyH.nil
  go_simp
  refine (row_blk _).mono ?_
  rintro e wq76 ⟨rfl, hblk, hb⟩
  replace HB := Lib.hid (HB.out.trans (hb.mono HB.out.size))
  replace Pp := Lib.hid (Pp.out.below hb Pp.out.lt)
  replace RB := Lib.hid (RB.out.below hb RB.out.lt)
  replace RC := Lib.hid (RC.out.below hb RC.out.lt)
  have RE := Lib.hid hblk
  clear hb hblk
  refine hK.out _ _ (⟨⟨six_cells Pp.out, RB.out.cell 0, RB.out.cell 1, RB.out.cell 2⟩, RC.out.cell 3, RC.out.cell 4, RC.out.cell 5⟩) (fun hHeld => ?_)
  clear hK K
  try simp only [Act.put, List.setIfInBounds_toArray, List.set_cons_zero, List.set_cons_succ]
  generalize wq73.heap.size = gRE at *
  refine wpAnyH_ready (rs := [77]) (by decide +kernel) (by simp) ?_
  refine AllReadyH.consL rfl (fun K hK => ?_) AllReadyH.nil
  go_simp
  refine (cdel_any (some ⟨gRE, 0, none⟩) 2 2 rowL ⟨#[97]⟩ _ (show Reads _ _ 3 _ 2 (bkc rowL) from ((reads_own (n := 2) RE.out rfl).more RE.out.lt)) (by decide) (by decide) (by decide)).mono ?_
  rintro e wq77 ⟨A8, n8, c8, rfl, hr, _, _, hb⟩
  rw [del_row] at hr
  obtain rfl : n8 = 1 := (bk_len hr).symm
  replace HB := Lib.hid (HB.out.trans (hb.mono HB.out.size))
  replace Pp := Lib.hid (Pp.out.below hb Pp.out.lt)
  replace RB := Lib.hid (RB.out.below hb RB.out.lt)
  replace RC := Lib.hid (RC.out.below hb RC.out.lt)
  replace RE := Lib.hid (RE.out.below hb RE.out.lt)
  have RS := Lib.hid hr
  clear hb hr
  refine hK.out _ _ (⟨⟨six_cells Pp.out, RB.out.cell 0, RB.out.cell 1, RB.out.cell 2⟩, RC.out.cell 3, RC.out.cell 4, RC.out.cell 5⟩) (fun hHeld => ?_)
  clear hK K
  try simp only [Act.put, List.setIfInBounds_toArray, List.set_cons_zero, List.set_cons_succ]
  clear RE
  refine wpAnyH_ready (rs := [78]) (by decide +kernel) (by simp) ?_
  refine AllReadyH.consL rfl (fun K hK => ?_) AllReadyH.nil
  go_simp
  refine (row_blk _).mono ?_
  rintro e wq78 ⟨rfl, hblk, hb⟩
  replace HB := Lib.hid (HB.out.trans (hb.mono HB.out.size))
  replace Pp := Lib.hid (Pp.out.below hb Pp.out.lt)
  replace RB := Lib.hid (RB.out.below hb RB.out.lt)
  replace RC := Lib.hid (RC.out.below hb RC.out.lt)
  replace RS := Lib.hid ((RS.out.below hb).more hb.size)
  have RF := Lib.hid hblk
  clear hb hblk
  refine hK.out _ _ (⟨⟨six_cells Pp.out, RB.out.cell 0, RB.out.cell 1, RB.out.cell 2⟩, RC.out.cell 3, RC.out.cell 4, RC.out.cell 5⟩) (fun hHeld => ?_)
  clear hK K
  try simp only [Act.put, List.setIfInBounds_toArray, List.set_cons_zero, List.set_cons_succ]
  generalize wq77.heap.size = gRF at *
  refine wpAnyH_takeL (i := 79) (v := ?_) rfl (by decide +kernel) (by decide +kernel) (by decide +kernel) (fun _ _ _ h => h) (Or.inl ⟨by rfl, ?_⟩) (by first | trivial | assumption) ?_
  rotate_left
  · intro wz hSz; (try dsimp only at hSz); go_simp; (try with_reducible rfl)
  try simp only [Act.put, List.setIfInBounds_toArray, List.set_cons_zero, List.set_cons_succ]
  refine wpAnyH_ready (rs := [80]) (by decide +kernel) (by simp) ?_
  refine AllReadyH.consL rfl (fun K hK => ?_) AllReadyH.nil
  go_simp
  refine (same6_yes A8 1 c8 (some ⟨gRF, 3, none⟩) 1 [bkC] _ RS.out (show Reads _ _ 3 (some ⟨gRF, 3, none⟩) 1 (bkc [bkC]) from bk_drop (cap := 2) (m := 1) (show Reads _ _ 3 _ 2 (bkc rowL) from ((reads_own (n := 2) RF.out rfl).more RF.out.lt)) (by decide) (by decide)) (by decide)).mono ?_
  rintro e wq80 ⟨rfl, q, hq⟩
  have hb : Below wq78.heap.size wq78 wq80 := by rw [hq]; exact below_drewN (Below.refl _ _) q
  replace HB := Lib.hid (HB.out.trans (hb.mono HB.out.size))
  replace Pp := Lib.hid (Pp.out.below hb Pp.out.lt)
  replace RB := Lib.hid (RB.out.below hb RB.out.lt)
  replace RC := Lib.hid (RC.out.below hb RC.out.lt)
  replace RF := Lib.hid (RF.out.below hb RF.out.lt)
  clear hb hq
  refine hK.out _ _ (⟨⟨six_cells Pp.out, RB.out.cell 0, RB.out.cell 1, RB.out.cell 2⟩, RC.out.cell 3, RC.out.cell 4, RC.out.cell 5⟩) (fun hHeld => ?_)
  clear hK K
  try simp only [Act.put, List.setIfInBounds_toArray, List.set_cons_zero, List.set_cons_succ]
  clear RF RS
  refine wpAnyH_takeL (i := 81) (v := ?_) rfl (by decide +kernel) (by decide +kernel) (by decide +kernel) (fun _ _ _ h => h) (Or.inl ⟨by rfl, ?_⟩) (by first | trivial | assumption) ?_
  rotate_left
  · intro wz hSz; (try dsimp only at hSz); go_simp; (try with_reducible rfl)
  try simp only [Act.put, List.setIfInBounds_toArray, List.set_cons_zero, List.set_cons_succ]
  refine wpAnyH_takeL (i := 82) (v := ?_) rfl (by decide +kernel) (by decide +kernel) (by decide +kernel) (fun _ _ _ h => h) (Or.inl ⟨by rfl, ?_⟩) (by first | trivial | assumption) ?_
  rotate_left
  · intro wz hSz; (try dsimp only at hSz); go_simp; (try with_reducible rfl)
  try simp only [Act.put, List.setIfInBounds_toArray, List.set_cons_zero, List.set_cons_succ]
  refine wpAnyH_ready (rs := [83]) (by decide +kernel) (by simp) ?_
  refine AllReadyH.consL rfl (fun K hK => ?_) AllReadyH.nil
  go_simp
  refine (row_blk _).mono ?_
  rintro e wq83 ⟨rfl, hblk, hb⟩
  replace HB := Lib.hid (HB.out.trans (hb.mono HB.out.size))
  replace Pp := Lib.hid (Pp.out.below hb Pp.out.lt)
  replace RB := Lib.hid (RB.out.below hb RB.out.lt)
  replace RC := Lib.hid (RC.out.below hb RC.out.lt)
  have RG := Lib.hid hblk
  clear hb hblk
  refine hK.out _ _ (⟨⟨six_cells Pp.out, RB.out.cell 0, RB.out.cell 1, RB.out.cell 2⟩, RC.out.cell 3, RC.out.cell 4, RC.out.cell 5⟩) (fun hHeld => ?_)
  clear hK K
  try simp only [Act.put, List.setIfInBounds_toArray, List.set_cons_zero, List.set_cons_succ]
  generalize wq80.heap.size = gRG at *
  refine wpAnyH_ready (rs := [84]) (by decide +kernel) (by simp) ?_
  refine AllReadyH.consL rfl (fun K hK => ?_) AllReadyH.nil
  go_simp
  refine (cdel_any (some ⟨gRG, 0, none⟩) 2 2 rowL ⟨#[120]⟩ _ (show Reads _ _ 3 _ 2 (bkc rowL) from ((reads_own (n := 2) RG.out rfl).more RG.out.lt)) (by decide) (by decide) (by decide)).mono ?_
  rintro e wq84 ⟨A7, n7, c7, rfl, hr, _, _, hb⟩
  rw [del_row2] at hr
  obtain rfl : n7 = 2 := (bk_len hr).symm
  replace HB := Lib.hid (HB.out.trans (hb.mono HB.out.size))
  replace Pp := Lib.hid (Pp.out.below hb Pp.out.lt)
  replace RB := Lib.hid (RB.out.below hb RB.out.lt)
  replace RC := Lib.hid (RC.out.below hb RC.out.lt)
  replace RG := Lib.hid (RG.out.below hb RG.out.lt)
  clear hb hr
  refine hK.out _ _ (⟨⟨six_cells Pp.out, RB.out.cell 0, RB.out.cell 1, RB.out.cell 2⟩, RC.out.cell 3, RC.out.cell 4, RC.out.cell 5⟩) (fun hHeld => ?_)
  clear hK K
  try simp only [Act.put, List.setIfInBounds_toArray, List.set_cons_zero, List.set_cons_succ]
  clear RG
  refine wpAnyH_takeL (i := 85) (v := ?_) rfl (by decide +kernel) (by decide +kernel) (by decide +kernel) (fun _ _ _ h => h) (Or.inl ⟨by rfl, ?_⟩) (by first | trivial | assumption) ?_
  rotate_left
  · intro wz hSz; (try dsimp only at hSz); go_simp; (try with_reducible rfl)
  try simp only [Act.put, List.setIfInBounds_toArray, List.set_cons_zero, List.set_cons_succ]
  refine wpAnyH_takeL (i := 86) (v := ?_) rfl (by decide +kernel) (by decide +kernel) (by decide +kernel) (fun _ _ _ h => h) (Or.inl ⟨by rfl, ?_⟩) (by first | trivial | assumption) ?_
  rotate_left
  · intro wz hSz; (try dsimp only at hSz); go_simp; (try with_reducible rfl)
  try simp only [Act.put, List.setIfInBounds_toArray, List.set_cons_zero, List.set_cons_succ]
  refine wpAnyH_takeL (i := 87) (v := ?_) rfl (by decide +kernel) (by decide +kernel) (by decide +kernel) (fun _ _ _ h => h) (Or.inl ⟨by rfl, ?_⟩) (by first | trivial | assumption) ?_
  rotate_left
  · intro wz hSz; (try dsimp only at hSz); go_simp; (try with_reducible rfl)
  try simp only [Act.put, List.setIfInBounds_toArray, List.set_cons_zero, List.set_cons_succ]
  refine wpAnyH_takeL (i := 88) (v := ?_) rfl (by decide +kernel) (by decide +kernel) (by decide +kernel) (fun _ _ _ h => h) (Or.inl ⟨by rfl, ?_⟩) (by first | trivial | assumption) ?_
  rotate_left
  · intro wz hSz; (try dsimp only at hSz); go_simp; (try with_reducible rfl)
  try simp only [Act.put, List.setIfInBounds_toArray, List.set_cons_zero, List.set_cons_succ]
  refine wpAnyH_ready (rs := [89]) (by decide +kernel) (by simp) ?_
  refine AllReadyH.consL rfl (fun K hK => ?_) AllReadyH.nil
  go_simp
  refine (HNm1 _).mono ?_
  rintro e wz ⟨rfl, rfl⟩
  refine hK.out _ _ (⟨⟨six_cells Pp.out, RB.out.cell 0, RB.out.cell 1, RB.out.cell 2⟩, RC.out.cell 3, RC.out.cell 4, RC.out.cell 5⟩) (fun hHeld => ?_)
  clear hK K
  try simp only [Act.put, List.setIfInBounds_toArray, List.set_cons_zero, List.set_cons_succ]
  refine wpAnyH_takeL (i := 90) (v := ?_) rfl (by decide +kernel) (by decide +kernel) (by decide +kernel) (fun _ _ _ h => h) (Or.inl ⟨by rfl, ?_⟩) (by first | trivial | assumption) ?_
  rotate_left
  · intro wz hSz; (try dsimp only at hSz); go_simp; (try with_reducible rfl)
  try simp only [Act.put, List.setIfInBounds_toArray, List.set_cons_zero, List.set_cons_succ]
  refine wpAnyH_takeL (i := 91) (v := ?_) rfl (by decide +kernel) (by decide +kernel) (by decide +kernel) (fun _ _ _ h => h) (Or.inl ⟨by rfl, ?_⟩) (by first | trivial | assumption) ?_
  rotate_left
  · intro wz hSz; (try dsimp only at hSz); go_simp; (try with_reducible rfl)
  try simp only [Act.put, List.setIfInBounds_toArray, List.set_cons_zero, List.set_cons_succ]
  refine wpAnyH_takeL (i := 92) (v := ?_) rfl (by decide +kernel) (by decide +kernel) (by decide +kernel) (fun _ _ _ h => h) (Or.inl ⟨by rfl, ?_⟩) (by first | trivial | assumption) ?_
  rotate_left
  · intro wz hSz; (try dsimp only at hSz); go_simp; (try with_reducible rfl)
  try simp only [Act.put, List.setIfInBounds_toArray, List.set_cons_zero, List.set_cons_succ]
  refine wpAnyH_ready (rs := [93]) (by decide +kernel) (by simp) ?_
  refine AllReadyH.consL rfl (fun K hK => ?_) AllReadyH.nil
  go_simp
  refine (HT17 _).mono ?_
  rintro e wz ⟨rfl, rfl⟩
  refine hK.out _ _ (⟨⟨six_cells Pp.out, RB.out.cell 0, RB.out.cell 1, RB.out.cell 2⟩, RC.out.cell 3, RC.out.cell 4, RC.out.cell 5⟩) (fun hHeld => ?_)
  clear hK K
  try simp only [Act.put, List.setIfInBounds_toArray, List.set_cons_zero, List.set_cons_succ]
  refine wpAnyH_ready (rs := [94]) (by decide +kernel) (by simp) ?_
  refine AllReadyH.consL rfl (fun K hK => ?_) AllReadyH.nil
  go_simp
  refine (HNm2 _).mono ?_
  rintro e wz ⟨rfl, rfl⟩
  refine hK.out _ _ (⟨⟨six_cells Pp.out, RB.out.cell 0, RB.out.cell 1, RB.out.cell 2⟩, RC.out.cell 3, RC.out.cell 4, RC.out.cell 5⟩) (fun hHeld => ?_)
  clear hK K
  try simp only [Act.put, List.setIfInBounds_toArray, List.set_cons_zero, List.set_cons_succ]
  refine wpAnyH_takeL (i := 95) (v := ?_) rfl (by decide +kernel) (by decide +kernel) (by decide +kernel) (fun _ _ _ h => h) (Or.inl ⟨by rfl, ?_⟩) (by first | trivial | assumption) ?_
  rotate_left
  · intro wz hSz; (try dsimp only at hSz); go_simp; (try with_reducible rfl)
  try simp only [Act.put, List.setIfInBounds_toArray, List.set_cons_zero, List.set_cons_succ]
  refine wpAnyH_takeL (i := 96) (v := ?_) rfl (by decide +kernel) (by decide +kernel) (by decide +kernel) (fun _ _ _ h => h) (Or.inl ⟨by rfl, ?_⟩) (by first | trivial | assumption) ?_
  rotate_left
  · intro wz hSz; (try dsimp only at hSz); go_simp; (try with_reducible rfl)
  try simp only [Act.put, List.setIfInBounds_toArray, List.set_cons_zero, List.set_cons_succ]
  refine wpAnyH_takeL (i := 97) (v := ?_) rfl (by decide +kernel) (by decide +kernel) (by decide +kernel) (fun _ _ _ h => h) (Or.inl ⟨by rfl, ?_⟩) (by first | trivial | assumption) ?_
  rotate_left
  · intro wz hSz; (try dsimp only at hSz); go_simp; (try with_reducible rfl)
  try simp only [Act.put, List.setIfInBounds_toArray, List.set_cons_zero, List.set_cons_succ]
  refine wpAnyH_takeL (i := 98) (v := ?_) rfl (by decide +kernel) (by decide +kernel) (by decide +kernel) (fun _ _ _ h => h) (Or.inl ⟨by rfl, ?_⟩) (by first | trivial | assumption) ?_
  rotate_left
  · intro wz hSz; (try dsimp only at hSz); go_simp; (try with_reducible rfl)
  try simp only [Act.put, List.setIfInBounds_toArray, List.set_cons_zero, List.set_cons_succ]
  refine wpAnyH_ready (rs := [99]) (by decide +kernel) (by simp) ?_
  refine AllReadyH.consL rfl (fun K hK => ?_) AllReadyH.nil
  go_simp
  refine (HNm3 _).mono ?_
  rintro e wz ⟨rfl, rfl⟩
  refine hK.out _ _ (⟨⟨six_cells Pp.out, RB.out.cell 0, RB.out.cell 1, RB.out.cell 2⟩, RC.out.cell 3, RC.out.cell 4, RC.out.cell 5⟩) (fun hHeld => ?_)
  clear hK K
  try simp only [Act.put, List.setIfInBounds_toArray, List.set_cons_zero, List.set_cons_succ]
  refine wpAnyH_takeL (i := 100) (v := ?_) rfl (by decide +kernel) (by decide +kernel) (by decide +kernel) (fun _ _ _ h => h) (Or.inl ⟨by rfl, ?_⟩) (by first | trivial | assumption) ?_
  rotate_left
  · intro wz hSz; (try dsimp only at hSz); go_simp; (try with_reducible rfl)
  try simp only [Act.put, List.setIfInBounds_toArray, List.set_cons_zero, List.set_cons_succ]
  refine wpAnyH_takeL (i := 101) (v := ?_) rfl (by decide +kernel) (by decide +kernel) (by decide +kernel) (fun _ _ _ h => h) (Or.inl ⟨by rfl, ?_⟩) (by first | trivial | assumption) ?_
  rotate_left
  · intro wz hSz; (try dsimp only at hSz); go_simp; (try with_reducible rfl)
  try simp only [Act.put, List.setIfInBounds_toArray, List.set_cons_zero, List.set_cons_succ]
  refine wpAnyH_done (by decide +kernel) ?_ _
  go_wp2_with fail
  go_ret
  exact ⟨rfl, HB.out⟩
end Go.Proofs.Ytgljmcameeeaiaa
