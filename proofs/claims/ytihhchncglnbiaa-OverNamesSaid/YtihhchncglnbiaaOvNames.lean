/-
  The walk of the statement OverNames: from every start it returns true and changes no block that was there before.
-/
import Derived.Test.YtihhchncglnbiaaOvLaw
import Derived.Test.YtihhchncglnbiaaKitLaw
import Derived.Test.YtihhchncglnbiaaPgWords
import Derived.Test.YtihhchncglnbiaaRef6Set
import Derived.Deep.CutRange
namespace Go.Proofs.Ytihhchncglnbiaa
open Go.RowKit
open Go.Lib hiding intOf
set_option linter.unusedVariables false
set_option linter.unusedSimpArgs false
attribute [local go_sem ↓] Go.wp_at_zero Go.wp_at_succ

theorem short_bad : readO 5 4 7 0 5 (overBody 128 ⟨#[115, 104, 111, 114, 116]⟩) = none := by
  have h : (readO 5 4 7 0 5 (overBody 128 ⟨#[115, 104, 111, 114, 116]⟩)).isNone = true := by decide +kernel
  simpa using h
theorem parts_106 : partsL 128 (reps ⟨#[118]⟩ 104 ++ ⟨#[97, 98]⟩) = [reps ⟨#[118]⟩ 104, ⟨#[97, 98]⟩] := by decide +kernel
theorem two_strs {w : World} {g : Nat} {t : TypeId} {a b : ByteArray} (h : Blk w g t #[.string a, .string b]) : Reads w (g + 1) 1 (some ⟨g, 0, none⟩) 2 (strc [a, b]) := reads_own (n := 2) h rfl

set_option maxRecDepth 100000 in
set_option maxHeartbeats 25600000 in
theorem ovnames_walk (w : World) :
    Calls Try.prog 3 #[] w fun e w' => e = .returned (.bool true) ∧ Below w.heap.size w w' := by
  obtain ⟨L, hL⟩ : ∃ L, L = reps ⟨#[118]⟩ 104 := ⟨_, rfl⟩
  have hLs : L.size = 104 := by rw [hL]; decide +kernel
  have hLx : (L ++ (⟨#[120]⟩ : ByteArray)).size = 105 := by rw [ByteArray.size_append, hLs]; rfl
  obtain ⟨B, hB⟩ : ∃ B, B = overBody 128 L := ⟨_, rfl⟩
  have hBs : B.size = 104 := by rw [hB]; exact overBody_size 128 L (by omega)
  have hm1 : mayP9 128 7 8 5 L = true := by rw [hL]; decide +kernel
  obtain ⟨C, hC⟩ : ∃ C, C = overBody 128 ⟨#[115, 104, 111, 114, 116]⟩ := ⟨_, rfl⟩
  have hCs : C.size = 104 := by rw [hC]; exact overBody_size 128 ⟨#[115, 104, 111, 114, 116]⟩ (by decide)
  have hm2 : mayP9 128 7 0 5 ⟨#[115, 104, 111, 114, 116]⟩ = true := by decide +kernel
  have HP1 : ∀ w' : World, Calls Try.prog 10 #[.int .i64 128, .int .u32 7, .int .u32 8, .int .u64 5, .string L] w' fun e w'' => e = .returned (.tuple #[.agg #[.int .i64 5, .int .i64 104, .int .u32 7, .int .u32 8, .int .u64 5, .string B], .int .i64 0]) ∧ Below w'.heap.size w' w'' := fun w => by have h := opage9_yes 128 7 8 5 L w hm1; rw [← hB, hLs] at h; exact h
  have HP2 : ∀ w' : World, Calls Try.prog 10 #[.int .i64 128, .int .u32 7, .int .u32 8, .int .u64 5, .string ⟨#[115, 104, 111, 114, 116]⟩] w' fun e w'' => e = .returned (.tuple #[.agg #[.int .i64 0, .int .i64 0, .int .u32 0, .int .u32 0, .int .u64 0, .string ByteArray.empty], .int .i64 2]) ∧ Below w'.heap.size w' w'' := fun w => opage9_no 128 7 8 5 ⟨#[115, 104, 111, 114, 116]⟩ w (by decide) (by decide +kernel)
  have HP3 : ∀ w' : World, Calls Try.prog 10 #[.int .i64 128, .int .u32 7, .int .u32 0, .int .u64 5, .string ⟨#[115, 104, 111, 114, 116]⟩] w' fun e w'' => e = .returned (.tuple #[.agg #[.int .i64 5, .int .i64 5, .int .u32 7, .int .u32 0, .int .u64 5, .string C], .int .i64 0]) ∧ Below w'.heap.size w' w'' := fun w => by have h := opage9_yes 128 7 0 5 ⟨#[115, 104, 111, 114, 116]⟩ w hm2; rw [← hC] at h; exact h
  have HP4 : ∀ w' : World, Calls Try.prog 10 #[.int .i64 128, .int .u32 7, .int .u32 0, .int .u64 5, .string (L ++ ⟨#[120]⟩)] w' fun e w'' => e = .returned (.tuple #[.agg #[.int .i64 0, .int .i64 0, .int .u32 0, .int .u32 0, .int .u64 0, .string ByteArray.empty], .int .i64 2]) ∧ Below w'.heap.size w' w'' := fun w => by have h := opage9_no 128 7 0 5 (L ++ ⟨#[120]⟩) w (by rw [hLx]; decide) (by unfold mayP9; rw [hLx]; decide +kernel); exact h
  have HP5 : ∀ w' : World, Calls Try.prog 10 #[.int .i64 128, .int .u32 7, .int .u32 0, .int .u64 5, .string ByteArray.empty] w' fun e w'' => e = .returned (.tuple #[.agg #[.int .i64 0, .int .i64 0, .int .u32 0, .int .u32 0, .int .u64 0, .string ByteArray.empty], .int .i64 2]) ∧ Below w'.heap.size w' w'' := fun w => opage9_no 128 7 0 5 ByteArray.empty w (by decide) (by decide +kernel)
  have HP6 : ∀ w' : World, Calls Try.prog 10 #[.int .i64 128, .int .u32 7, .int .u32 1, .int .u64 5, .string L] w' fun e w'' => e = .returned (.tuple #[.agg #[.int .i64 0, .int .i64 0, .int .u32 0, .int .u32 0, .int .u64 0, .string ByteArray.empty], .int .i64 2]) ∧ Below w'.heap.size w' w'' := fun w => opage9_no 128 7 1 5 L w (by omega) (by rw [hL]; decide +kernel)
  have HO1 : ∀ w' : World, Calls Try.prog 11 #[.agg #[.int .i64 5, .int .i64 104, .int .u32 7, .int .u32 8, .int .u64 5, .string B]] w' fun e w'' => e = .returned (.tuple #[.string L, .int .u32 8, .int .i64 0]) ∧ Below w'.heap.size w' w'' := fun w => by
    have h := oof9_any 5 104 7 8 5 B w (by omega)
    have e := readO_page hm1
    rw [← hB, hLs] at e
    rw [show readO 5 104 7 8 5 B = some L from e] at h
    exact h
  have HO2 : ∀ w' : World, Calls Try.prog 11 #[.agg #[.int .i64 5, .int .i64 5, .int .u32 7, .int .u32 0, .int .u64 5, .string C]] w' fun e w'' => e = .returned (.tuple #[.string ⟨#[115, 104, 111, 114, 116]⟩, .int .u32 0, .int .i64 0]) ∧ Below w'.heap.size w' w'' := fun w => by
    have h := oof9_any 5 5 7 0 5 C w (by omega)
    have e := readO_page hm2
    rw [← hC] at e
    rw [show readO 5 5 7 0 5 C = some ⟨#[115, 104, 111, 114, 116]⟩ from e] at h
    exact h
  have HO3 : ∀ w' : World, Calls Try.prog 11 #[.agg #[.int .i64 5, .int .i64 4, .int .u32 7, .int .u32 0, .int .u64 5, .string C]] w' fun e w'' => e = .returned (.tuple #[.string ⟨#[]⟩, .int .u32 0, .int .i64 4]) ∧ Below w'.heap.size w' w'' := fun w => by
    have h := oof9_any 5 4 7 0 5 C w (by omega)
    rw [hC, short_bad, ← hC] at h
    exact h
  have HT1 : ∀ w : World, Calls Try.prog 9 #[.string ⟨#[118]⟩, .int .i64 104] w fun e w' => e = .returned (.string L) ∧ w = w' := fun w => by
    rw [hL]
    exact times_any ⟨#[118]⟩ 104 w (by decide) (by decide)
  have HPt : ∀ w : World, Calls Try.prog 12 #[.int .i64 128, .string (L ++ ⟨#[97, 98]⟩)] w fun e w' => ∃ A c, e = .returned (.tuple #[.slice A 2 c, .bool true]) ∧ Reads w' w'.heap.size 1 A 2 (strc [L, ⟨#[97, 98]⟩]) ∧ Below w.heap.size w w' := fun w => by
    have h := lparts_read 128 (L ++ ⟨#[97, 98]⟩) w (by rw [ByteArray.size_append, hLs]; decide)
    rw [hL, parts_106, ← hL] at h
    exact h
  have HN1 : ∀ w : World, Calls Try.prog 14 #[.int .i64 1, .int .i64 5] w fun e w' => e = .returned (.int .i64 0) ∧ Below w.heap.size w w' := fun w => oneed_any 1 5 w (by decide)
  have HN2 : ∀ w : World, Calls Try.prog 14 #[.int .i64 128, .int .i64 (-1)] w fun e w' => e = .returned (.int .i64 0) ∧ Below w.heap.size w w' := fun w => oneed_any 128 (-1) w (by decide)
  obtain ⟨hzp, hi⟩ := zero_of_info infoPg
  have HIp := Lib.hid hi
  have HBS := Lib.hid hBs
  have HCS := Lib.hid hCs
  clear hi hB hC hBs hCs hm1 hm2 hL
  have HB := Lib.hid (Below.refl w.heap.size w)
  go_enter Try.func3, Try.ntmps3
  go_wp2_with fail
  refine (lives9_any _).mono ?_
  rintro e w101 ⟨rfl, hb⟩
  replace HB := Lib.hid (HB.out.trans (hb.mono HB.out.size))
  clear hb
  go_wp2_with fail
  refine (HT1 _).mono ?_
  rintro e w102 ⟨rfl, rfl⟩
  clear HT1
  go_wp2_with fail
  refine (HP1 _).mono ?_
  rintro e w103 ⟨rfl, hb⟩
  replace HB := Lib.hid (HB.out.trans (hb.mono HB.out.size))
  clear hb
  clear HP1
  obtain ⟨w104, hw104⟩ : ∃ x, x = w103.alloc (.cells #[.int .i64 5, .int .i64 104, .int .u32 7, .int .u32 8, .int .u64 5, .string B] 27) := ⟨_, rfl⟩
  have saw104 : w103.heap.size = w103.heap.size := by first | rfl | omega
  have ge_Pp := Lib.hid (show w.heap.size ≤ w103.heap.size from saw104 ▸ HB.out.size)
  replace HB := Lib.hid (show Below w.heap.size w w104 by rw [hw104]; exact HB.out.alloc HB.out.size _)
  have Pp := Lib.hid (show Blk w104 w103.heap.size 27 #[.int .i64 5, .int .i64 104, .int .u32 7, .int .u32 8, .int .u64 5, .string B] by rw [hw104, ← saw104]; exact Blk.new _ _ _)
  have szw104 : w104.heap.size = w103.heap.size + 1 := by rw [hw104]; simp
  clear saw104 szw104
  go_upto_region 4 with fail
  rw [← hw104]
  clear hw104
  generalize w103.heap.size = gPp at *
  have aPp_0 := Pp.out.cell 0
  have aPp_1 := Pp.out.cell 1
  have aPp_2 := Pp.out.cell 2
  have aPp_3 := Pp.out.cell 3
  have aPp_4 := Pp.out.cell 4
  have aPp_5 := Pp.out.cell 5
  simp at aPp_0 aPp_1 aPp_2 aPp_3 aPp_4 aPp_5
  go_wp2_with fail
  refine (HO1 _).mono ?_
  rintro e w105 ⟨rfl, hb⟩
  replace HB := Lib.hid (HB.out.trans (hb.mono HB.out.size))
  replace Pp := Lib.hid (Pp.out.below hb Pp.out.lt)
  clear hb
  clear HO1
  clear aPp_0 aPp_1 aPp_2 aPp_3 aPp_4 aPp_5
  go_wp2_with fail
  refine (HP2 _).mono ?_
  rintro e w106 ⟨rfl, hb⟩
  replace HB := Lib.hid (HB.out.trans (hb.mono HB.out.size))
  replace Pp := Lib.hid (Pp.out.below hb Pp.out.lt)
  clear hb
  clear HP2
  obtain ⟨w107, hw107⟩ : ∃ x, x = w106.alloc (.cells #[.int .i64 0, .int .i64 0, .int .u32 0, .int .u32 0, .int .u64 0, .string ByteArray.empty] 27) := ⟨_, rfl⟩
  have saw107 : w106.heap.size = w106.heap.size := by first | rfl | omega
  have lt_Pp_D1 := Lib.hid (show gPp < w106.heap.size from saw107 ▸ Pp.out.lt)
  replace Pp := Lib.hid (show Blk w107 gPp 27 #[.int .i64 5, .int .i64 104, .int .u32 7, .int .u32 8, .int .u64 5, .string B] by rw [hw107]; exact Pp.out.alloc _)
  have ge_D1 := Lib.hid (show w.heap.size ≤ w106.heap.size from saw107 ▸ HB.out.size)
  replace HB := Lib.hid (show Below w.heap.size w w107 by rw [hw107]; exact HB.out.alloc HB.out.size _)
  have D1 := Lib.hid (show Blk w107 w106.heap.size 27 #[.int .i64 0, .int .i64 0, .int .u32 0, .int .u32 0, .int .u64 0, .string ByteArray.empty] by rw [hw107, ← saw107]; exact Blk.new _ _ _)
  have szw107 : w107.heap.size = w106.heap.size + 1 := by rw [hw107]; simp
  clear saw107 szw107
  go_wp2_with fail
  rw [← hw107]
  clear hw107
  generalize w106.heap.size = gD1 at *
  clear D1
  refine (HP3 _).mono ?_
  rintro e w108 ⟨rfl, hb⟩
  replace HB := Lib.hid (HB.out.trans (hb.mono HB.out.size))
  replace Pp := Lib.hid (Pp.out.below hb Pp.out.lt)
  clear hb
  clear HP3
  obtain ⟨w109, hw109⟩ : ∃ x, x = w108.alloc (.cells #[.int .i64 5, .int .i64 5, .int .u32 7, .int .u32 0, .int .u64 5, .string C] 27) := ⟨_, rfl⟩
  have saw109 : w108.heap.size = w108.heap.size := by first | rfl | omega
  have lt_Pp_Qq := Lib.hid (show gPp < w108.heap.size from saw109 ▸ Pp.out.lt)
  replace Pp := Lib.hid (show Blk w109 gPp 27 #[.int .i64 5, .int .i64 104, .int .u32 7, .int .u32 8, .int .u64 5, .string B] by rw [hw109]; exact Pp.out.alloc _)
  have ge_Qq := Lib.hid (show w.heap.size ≤ w108.heap.size from saw109 ▸ HB.out.size)
  replace HB := Lib.hid (show Below w.heap.size w w109 by rw [hw109]; exact HB.out.alloc HB.out.size _)
  have Qq := Lib.hid (show Blk w109 w108.heap.size 27 #[.int .i64 5, .int .i64 5, .int .u32 7, .int .u32 0, .int .u64 5, .string C] by rw [hw109, ← saw109]; exact Blk.new _ _ _)
  have szw109 : w109.heap.size = w108.heap.size + 1 := by rw [hw109]; simp
  clear saw109 szw109
  go_upto_region 7 with fail
  rw [← hw109]
  clear hw109
  generalize w108.heap.size = gQq at *
  have bQq_0 := Qq.out.cell 0
  have bQq_1 := Qq.out.cell 1
  have bQq_2 := Qq.out.cell 2
  have bQq_3 := Qq.out.cell 3
  have bQq_4 := Qq.out.cell 4
  have bQq_5 := Qq.out.cell 5
  simp at bQq_0 bQq_1 bQq_2 bQq_3 bQq_4 bQq_5
  go_wp2_with fail
  refine (HO2 _).mono ?_
  rintro e w110 ⟨rfl, hb⟩
  replace HB := Lib.hid (HB.out.trans (hb.mono HB.out.size))
  replace Pp := Lib.hid (Pp.out.below hb Pp.out.lt)
  replace Qq := Lib.hid (Qq.out.below hb Qq.out.lt)
  clear hb
  clear HO2
  clear bQq_0 bQq_1 bQq_2 bQq_3 bQq_4 bQq_5
  go_wp2_with fail
  refine (HP4 _).mono ?_
  rintro e w111 ⟨rfl, hb⟩
  replace HB := Lib.hid (HB.out.trans (hb.mono HB.out.size))
  replace Pp := Lib.hid (Pp.out.below hb Pp.out.lt)
  replace Qq := Lib.hid (Qq.out.below hb Qq.out.lt)
  clear hb
  clear HP4
  obtain ⟨w112, hw112⟩ : ∃ x, x = w111.alloc (.cells #[.int .i64 0, .int .i64 0, .int .u32 0, .int .u32 0, .int .u64 0, .string ByteArray.empty] 27) := ⟨_, rfl⟩
  have saw112 : w111.heap.size = w111.heap.size := by first | rfl | omega
  have lt_Pp_D4 := Lib.hid (show gPp < w111.heap.size from saw112 ▸ Pp.out.lt)
  replace Pp := Lib.hid (show Blk w112 gPp 27 #[.int .i64 5, .int .i64 104, .int .u32 7, .int .u32 8, .int .u64 5, .string B] by rw [hw112]; exact Pp.out.alloc _)
  have lt_Qq_D4 := Lib.hid (show gQq < w111.heap.size from saw112 ▸ Qq.out.lt)
  replace Qq := Lib.hid (show Blk w112 gQq 27 #[.int .i64 5, .int .i64 5, .int .u32 7, .int .u32 0, .int .u64 5, .string C] by rw [hw112]; exact Qq.out.alloc _)
  have ge_D4 := Lib.hid (show w.heap.size ≤ w111.heap.size from saw112 ▸ HB.out.size)
  replace HB := Lib.hid (show Below w.heap.size w w112 by rw [hw112]; exact HB.out.alloc HB.out.size _)
  have D4 := Lib.hid (show Blk w112 w111.heap.size 27 #[.int .i64 0, .int .i64 0, .int .u32 0, .int .u32 0, .int .u64 0, .string ByteArray.empty] by rw [hw112, ← saw112]; exact Blk.new _ _ _)
  have szw112 : w112.heap.size = w111.heap.size + 1 := by rw [hw112]; simp
  clear saw112 szw112
  go_wp2_with fail
  rw [← hw112]
  clear hw112
  generalize w111.heap.size = gD4 at *
  clear D4
  refine (HP5 _).mono ?_
  rintro e w113 ⟨rfl, hb⟩
  replace HB := Lib.hid (HB.out.trans (hb.mono HB.out.size))
  replace Pp := Lib.hid (Pp.out.below hb Pp.out.lt)
  replace Qq := Lib.hid (Qq.out.below hb Qq.out.lt)
  clear hb
  clear HP5
  obtain ⟨w114, hw114⟩ : ∃ x, x = w113.alloc (.cells #[.int .i64 0, .int .i64 0, .int .u32 0, .int .u32 0, .int .u64 0, .string ByteArray.empty] 27) := ⟨_, rfl⟩
  have saw114 : w113.heap.size = w113.heap.size := by first | rfl | omega
  have lt_Pp_D5 := Lib.hid (show gPp < w113.heap.size from saw114 ▸ Pp.out.lt)
  replace Pp := Lib.hid (show Blk w114 gPp 27 #[.int .i64 5, .int .i64 104, .int .u32 7, .int .u32 8, .int .u64 5, .string B] by rw [hw114]; exact Pp.out.alloc _)
  have lt_Qq_D5 := Lib.hid (show gQq < w113.heap.size from saw114 ▸ Qq.out.lt)
  replace Qq := Lib.hid (show Blk w114 gQq 27 #[.int .i64 5, .int .i64 5, .int .u32 7, .int .u32 0, .int .u64 5, .string C] by rw [hw114]; exact Qq.out.alloc _)
  have ge_D5 := Lib.hid (show w.heap.size ≤ w113.heap.size from saw114 ▸ HB.out.size)
  replace HB := Lib.hid (show Below w.heap.size w w114 by rw [hw114]; exact HB.out.alloc HB.out.size _)
  have D5 := Lib.hid (show Blk w114 w113.heap.size 27 #[.int .i64 0, .int .i64 0, .int .u32 0, .int .u32 0, .int .u64 0, .string ByteArray.empty] by rw [hw114, ← saw114]; exact Blk.new _ _ _)
  have szw114 : w114.heap.size = w113.heap.size + 1 := by rw [hw114]; simp
  clear saw114 szw114
  go_wp2_with fail
  rw [← hw114]
  clear hw114
  generalize w113.heap.size = gD5 at *
  clear D5
  refine (HP6 _).mono ?_
  rintro e w115 ⟨rfl, hb⟩
  replace HB := Lib.hid (HB.out.trans (hb.mono HB.out.size))
  replace Pp := Lib.hid (Pp.out.below hb Pp.out.lt)
  replace Qq := Lib.hid (Qq.out.below hb Qq.out.lt)
  clear hb
  clear HP6
  
  have lzQq := Qq.out.lt
  have dQq_0 := Qq.out.cell 0
  have dQq_1 := Qq.out.cell 1
  have dQq_2 := Qq.out.cell 2
  have dQq_3 := Qq.out.cell 3
  have dQq_4 := Qq.out.cell 4
  have dQq_5 := Qq.out.cell 5
  simp at dQq_0 dQq_1 dQq_2 dQq_3 dQq_4 dQq_5
  obtain ⟨v117, hv117⟩ : ∃ x, x = w115.alloc (.cells #[.int .i64 0, .int .i64 0, .int .u32 0, .int .u32 0, .int .u64 0, .string ByteArray.empty] 27) := ⟨_, rfl⟩
  have sav117 : w115.heap.size = w115.heap.size := by first | rfl | omega
  have lt_Pp_D6 := Lib.hid (show gPp < w115.heap.size from sav117 ▸ Pp.out.lt)
  replace Pp := Lib.hid (show Blk v117 gPp 27 #[.int .i64 5, .int .i64 104, .int .u32 7, .int .u32 8, .int .u64 5, .string B] by rw [hv117]; exact Pp.out.alloc _)
  have lt_Qq_D6 := Lib.hid (show gQq < w115.heap.size from sav117 ▸ Qq.out.lt)
  replace Qq := Lib.hid (show Blk v117 gQq 27 #[.int .i64 5, .int .i64 5, .int .u32 7, .int .u32 0, .int .u64 5, .string C] by rw [hv117]; exact Qq.out.alloc _)
  have ge_D6 := Lib.hid (show w.heap.size ≤ w115.heap.size from sav117 ▸ HB.out.size)
  replace HB := Lib.hid (show Below w.heap.size w v117 by rw [hv117]; exact HB.out.alloc HB.out.size _)
  have D6 := Lib.hid (show Blk v117 w115.heap.size 27 #[.int .i64 0, .int .i64 0, .int .u32 0, .int .u32 0, .int .u64 0, .string ByteArray.empty] by rw [hv117, ← sav117]; exact Blk.new _ _ _)
  have szv117 : v117.heap.size = w115.heap.size + 1 := by rw [hv117]; simp
  obtain ⟨w116, hw116⟩ : ∃ x, x = v117.alloc (.cells #[.int .i64 5, .int .i64 5, .int .u32 7, .int .u32 0, .int .u64 5, .string C] 27) := ⟨_, rfl⟩
  have saw116 : v117.heap.size = (w115.heap.size + 1) := by first | rfl | omega
  have lt_Pp_Rr := Lib.hid (show gPp < (w115.heap.size + 1) from saw116 ▸ Pp.out.lt)
  replace Pp := Lib.hid (show Blk w116 gPp 27 #[.int .i64 5, .int .i64 104, .int .u32 7, .int .u32 8, .int .u64 5, .string B] by rw [hw116]; exact Pp.out.alloc _)
  have lt_Qq_Rr := Lib.hid (show gQq < (w115.heap.size + 1) from saw116 ▸ Qq.out.lt)
  replace Qq := Lib.hid (show Blk w116 gQq 27 #[.int .i64 5, .int .i64 5, .int .u32 7, .int .u32 0, .int .u64 5, .string C] by rw [hw116]; exact Qq.out.alloc _)
  have lt_D6_Rr := Lib.hid (show w115.heap.size < (w115.heap.size + 1) from saw116 ▸ D6.out.lt)
  replace D6 := Lib.hid (show Blk w116 w115.heap.size 27 #[.int .i64 0, .int .i64 0, .int .u32 0, .int .u32 0, .int .u64 0, .string ByteArray.empty] by rw [hw116]; exact D6.out.alloc _)
  have ge_Rr := Lib.hid (show w.heap.size ≤ (w115.heap.size + 1) from saw116 ▸ HB.out.size)
  replace HB := Lib.hid (show Below w.heap.size w w116 by rw [hw116]; exact HB.out.alloc HB.out.size _)
  have Rr := Lib.hid (show Blk w116 (w115.heap.size + 1) 27 #[.int .i64 5, .int .i64 5, .int .u32 7, .int .u32 0, .int .u64 5, .string C] by rw [hw116, ← saw116]; exact Blk.new _ _ _)
  have szw116 : w116.heap.size = v117.heap.size + 1 := by rw [hw116]; simp
  clear sav117 szv117 saw116 szw116
  have cQq_0 := Qq.out.cell 0
  have cQq_1 := Qq.out.cell 1
  have cQq_2 := Qq.out.cell 2
  have cQq_3 := Qq.out.cell 3
  have cQq_4 := Qq.out.cell 4
  have cQq_5 := Qq.out.cell 5
  rw [hw116, hv117] at cQq_0 cQq_1 cQq_2 cQq_3 cQq_4 cQq_5
  simp at cQq_0 cQq_1 cQq_2 cQq_3 cQq_4 cQq_5
  go_upto_region 13 with fail
  rw [← hv117, ← hw116]
  clear hv117 hw116 lzQq dQq_0 dQq_1 dQq_2 dQq_3 dQq_4 dQq_5 cQq_0 cQq_1 cQq_2 cQq_3 cQq_4 cQq_5
  generalize (w115.heap.size + 1) = gRr at *
  generalize w115.heap.size = gD6 at *
  clear D6
  have fzRr_1 := Rr.out.frozen 1
  have lzRr := Rr.out.lt
  have dRr_0 := Rr.out.cell 0
  have dRr_1 := Rr.out.cell 1
  have dRr_2 := Rr.out.cell 2
  have dRr_3 := Rr.out.cell 3
  have dRr_4 := Rr.out.cell 4
  have dRr_5 := Rr.out.cell 5
  simp at dRr_0 dRr_1 dRr_2 dRr_3 dRr_4 dRr_5
  obtain ⟨w118, hw118⟩ : ∃ x, x = w116.setCell ⟨gRr, 1, none⟩ (.int .i64 4) := ⟨_, rfl⟩
  replace Pp := Lib.hid (show Blk w118 gPp 27 #[.int .i64 5, .int .i64 104, .int .u32 7, .int .u32 8, .int .u64 5, .string B] by rw [hw118]; exact Pp.out.far (p := ⟨gRr, 1, none⟩) (Nat.ne_of_lt lt_Pp_Rr.out) (.int .i64 4))
  replace Qq := Lib.hid (show Blk w118 gQq 27 #[.int .i64 5, .int .i64 5, .int .u32 7, .int .u32 0, .int .u64 5, .string C] by rw [hw118]; exact Qq.out.far (p := ⟨gRr, 1, none⟩) (Nat.ne_of_lt lt_Qq_Rr.out) (.int .i64 4))
  replace Rr := Lib.hid (show Blk w118 gRr 27 #[.int .i64 5, .int .i64 4, .int .u32 7, .int .u32 0, .int .u64 5, .string C] by rw [hw118]; exact Rr.out.set_ 1 (.int .i64 4))
  replace HB := Lib.hid (show Below w.heap.size w w118 by rw [hw118]; exact HB.out.setCell (p := ⟨gRr, 1, none⟩) ge_Rr.out (.int .i64 4))
  have szw118 : w118.heap.size = w116.heap.size := by rw [hw118]; simp [World.setCell]
  clear szw118
  have cRr_0 := Rr.out.cell 0
  have cRr_1 := Rr.out.cell 1
  have cRr_2 := Rr.out.cell 2
  have cRr_3 := Rr.out.cell 3
  have cRr_4 := Rr.out.cell 4
  have cRr_5 := Rr.out.cell 5
  rw [hw118] at cRr_0 cRr_1 cRr_2 cRr_3 cRr_4 cRr_5
  simp at cRr_0 cRr_1 cRr_2 cRr_3 cRr_4 cRr_5
  go_wp2_with fail
  rw [← hw118]
  clear hw118 fzRr_1 lzRr dRr_0 dRr_1 dRr_2 dRr_3 dRr_4 dRr_5 cRr_0 cRr_1 cRr_2 cRr_3 cRr_4 cRr_5
  refine (HO3 _).mono ?_
  rintro e w119 ⟨rfl, hb⟩
  replace HB := Lib.hid (HB.out.trans (hb.mono HB.out.size))
  replace Pp := Lib.hid (Pp.out.below hb Pp.out.lt)
  replace Qq := Lib.hid (Qq.out.below hb Qq.out.lt)
  replace Rr := Lib.hid (Rr.out.below hb Rr.out.lt)
  clear hb
  clear HO3
  clear Rr
  clear Qq
  have yPp_0 := Pp.out.cell 0
  have yPp_1 := Pp.out.cell 1
  have yPp_2 := Pp.out.cell 2
  have yPp_3 := Pp.out.cell 3
  have yPp_4 := Pp.out.cell 4
  have yPp_5 := Pp.out.cell 5
  simp at yPp_0 yPp_1 yPp_2 yPp_3 yPp_4 yPp_5
  go_wp2_with fail
  refine (HPt _).mono ?_
  rintro e wt ⟨A7, c7, rfl, hr, hb⟩
  replace HB := Lib.hid (HB.out.trans (hb.mono HB.out.size))
  replace Pp := Lib.hid (Pp.out.below hb Pp.out.lt)
  clear hb yPp_0 yPp_1 yPp_2 yPp_3 yPp_4 yPp_5
  have R7 := Lib.hid hr
  clear hr HPt
  have zPp_0 := Pp.out.cell 0
  have zPp_1 := Pp.out.cell 1
  have zPp_2 := Pp.out.cell 2
  have zPp_3 := Pp.out.cell 3
  have zPp_4 := Pp.out.cell 4
  have zPp_5 := Pp.out.cell 5
  simp at zPp_0 zPp_1 zPp_2 zPp_3 zPp_4 zPp_5
  go_wp2_with fail
  refine (sameS_yes A7 2 c7 _ 2 [L, ⟨#[97, 98]⟩] _ (R7.out.alloc (Nat.le_refl _) _) (two_strs (Blk.new _ _ _)) (by decide)).mono ?_
  rintro e ws ⟨rfl, q, hq⟩
  replace HB := Lib.hid (show Below w.heap.size w ws by rw [hq]; exact below_drewN (HB.out.alloc HB.out.size _) q)
  clear hq R7
  go_wp2_with fail
  refine (HN1 _).mono ?_
  rintro e wn ⟨rfl, hb⟩
  replace HB := Lib.hid (HB.out.trans (hb.mono HB.out.size))
  clear hb HN1
  go_wp2_with fail
  refine (HN2 _).mono ?_
  rintro e wm ⟨rfl, hb⟩
  replace HB := Lib.hid (HB.out.trans (hb.mono HB.out.size))
  clear hb HN2
  go_wp2_with fail
  go_ret
  exact ⟨rfl, HB.out⟩
end Go.Proofs.Ytihhchncglnbiaa
