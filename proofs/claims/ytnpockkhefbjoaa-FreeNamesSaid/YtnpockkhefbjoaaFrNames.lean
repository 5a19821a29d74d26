/-
  The walk of the statement FreeNames: from every start it returns true and changes no block that was there before.
-/
import Derived.Test.YtnpockkhefbjoaaFnLaw
import Derived.Test.YtnpockkhefbjoaaKitLaw
import Derived.Test.YtnpockkhefbjoaaPgWords
import Derived.Test.YtnpockkhefbjoaaRef6Set
import Derived.Deep.CutRange
namespace Go.Proofs.Ytnpockkhefbjoaa
open Go.RowKit
open Go.Lib hiding intOf
set_option linter.unusedVariables false
set_option linter.unusedSimpArgs false
attribute [local go_sem ↓] Go.wp_at_zero Go.wp_at_succ

theorem bad_count : readU 6 3 7 8 5 (freeBody 128 [3, 9]) = none := by
  have h : (readU 6 3 7 8 5 (freeBody 128 [3, 9])).isNone = true := by decide +kernel
  simpa using h
theorem blk_reads {w : World} {g : Nat} {t : TypeId} {cs : Array Value} {n : Nat} {l : List Nat} (h : Blk w g t cs) (hc : cs.toList = ucells l) (hl : l.length = n) : Reads w w.heap.size 1 (some ⟨g, 0, none⟩) n (ucells l) := by
  have h2 := reads_own (n := n) (k := 1) h (by have := congrArg List.length hc; simp [ucells_length, hl] at this; omega)
  rw [hc] at h2
  exact h2.more h.lt
theorem make27 (w : World) : (Instr.makeSlice 30 (.int .i64 27) (.int .i64 27)).run Try.prog w = .ok (.slice (some ⟨w.heap.size, 0, none⟩) 27 27) (w.alloc (.cells (madeCells #[.int .u32 0] 27) 23)) := by
  obtain ⟨i, hi0, hz, hs, hb⟩ := info_parts infoU32
  have hr := run_make (P := Try.prog) w 30 23 i _ Try.underlying30 hi0 hz .i64 .i64 27 27 (by omega) (by omega) (by rw [hb]; omega) (by omega)
  rw [hs] at hr
  exact hr
theorem made_zeros : (madeCells #[.int .u32 0] 27).toList = ucells (List.replicate 27 0) := by rw [toList_madeCells_one]; simp [ucells]

set_option maxRecDepth 100000 in
set_option maxHeartbeats 25600000 in
theorem frnames_walk (w : World) :
    Calls Try.prog 3 #[] w fun e w' => e = .returned (.bool true) ∧ Below w.heap.size w w' := by
  obtain ⟨B, hB⟩ : ∃ B, B = freeBody 128 [3, 9] := ⟨_, rfl⟩
  have hBs : B.size = 104 := by rw [hB]; decide +kernel
  have hB8 : B.extract 0 8 = ⟨#[3, 0, 0, 0, 9, 0, 0, 0]⟩ := by rw [hB]; decide +kernel
  obtain ⟨C, hC⟩ : ∃ C, C = freeBody 128 [] := ⟨_, rfl⟩
  have hCs : C.size = 104 := by rw [hC]; decide +kernel
  have hm1 : mayP10 128 7 8 5 [3, 9] = true := by decide +kernel
  have hm2 : mayP10 128 7 0 5 [] = true := by decide +kernel
  have HP1 : ∀ (A : Option Addr) (c : Nat) (w' : World), Reads w' w'.heap.size 1 A 2 (ucells [3, 9]) → Calls Try.prog 8 #[.int .i64 128, .int .u32 7, .int .u32 8, .int .u64 5, .slice A 2 c] w' fun e w'' => e = .returned (.tuple #[.agg #[.int .i64 6, .int .i64 2, .int .u32 7, .int .u32 8, .int .u64 5, .string B], .int .i64 0]) ∧ Below w'.heap.size w' w'' := fun A c w hr => by have h := fpage10_yes 128 7 8 5 A 2 c [3, 9] w hr hm1; rw [← hB] at h; exact h
  have HP2 : ∀ (A : Option Addr) (c : Nat) (w' : World), Reads w' w'.heap.size 1 A 0 (ucells []) → Calls Try.prog 8 #[.int .i64 128, .int .u32 7, .int .u32 0, .int .u64 5, .slice A 0 c] w' fun e w'' => e = .returned (.tuple #[.agg #[.int .i64 6, .int .i64 0, .int .u32 7, .int .u32 0, .int .u64 5, .string C], .int .i64 0]) ∧ Below w'.heap.size w' w'' := fun A c w hr => by have h := fpage10_yes 128 7 0 5 A 0 c [] w hr hm2; rw [← hC] at h; exact h
  have HP3 : ∀ (A : Option Addr) (c : Nat) (w' : World), Reads w' w'.heap.size 1 A 2 (ucells [9, 3]) → Calls Try.prog 8 #[.int .i64 128, .int .u32 7, .int .u32 0, .int .u64 5, .slice A 2 c] w' fun e w'' => e = .returned (.tuple #[.agg #[.int .i64 0, .int .i64 0, .int .u32 0, .int .u32 0, .int .u64 0, .string ByteArray.empty], .int .i64 2]) ∧ Below w'.heap.size w' w'' := fun A c w hr => fpage10_no 128 7 0 5 A 2 c [9, 3] w hr (by decide) (by decide +kernel)
  have HP4 : ∀ (A : Option Addr) (c : Nat) (w' : World), Reads w' w'.heap.size 1 A 1 (ucells [1]) → Calls Try.prog 8 #[.int .i64 128, .int .u32 7, .int .u32 0, .int .u64 5, .slice A 1 c] w' fun e w'' => e = .returned (.tuple #[.agg #[.int .i64 0, .int .i64 0, .int .u32 0, .int .u32 0, .int .u64 0, .string ByteArray.empty], .int .i64 2]) ∧ Below w'.heap.size w' w'' := fun A c w hr => fpage10_no 128 7 0 5 A 1 c [1] w hr (by decide) (by decide +kernel)
  have HP5 : ∀ (A : Option Addr) (c : Nat) (w' : World), Reads w' w'.heap.size 1 A 27 (ucells (List.replicate 27 0)) → Calls Try.prog 8 #[.int .i64 128, .int .u32 7, .int .u32 0, .int .u64 5, .slice A 27 c] w' fun e w'' => e = .returned (.tuple #[.agg #[.int .i64 0, .int .i64 0, .int .u32 0, .int .u32 0, .int .u64 0, .string ByteArray.empty], .int .i64 2]) ∧ Below w'.heap.size w' w'' := fun A c w hr => fpage10_no 128 7 0 5 A 27 c (List.replicate 27 0) w hr (by decide) (by decide +kernel)
  have HP6 : ∀ (A : Option Addr) (c : Nat) (w' : World), Reads w' w'.heap.size 1 A 0 (ucells []) → Calls Try.prog 8 #[.int .i64 128, .int .u32 1, .int .u32 0, .int .u64 5, .slice A 0 c] w' fun e w'' => e = .returned (.tuple #[.agg #[.int .i64 0, .int .i64 0, .int .u32 0, .int .u32 0, .int .u64 0, .string ByteArray.empty], .int .i64 2]) ∧ Below w'.heap.size w' w'' := fun A c w hr => fpage10_no 128 1 0 5 A 0 c [] w hr (by decide) (by decide +kernel)
  have HO1 : ∀ w' : World, Calls Try.prog 9 #[.agg #[.int .i64 6, .int .i64 2, .int .u32 7, .int .u32 8, .int .u64 5, .string B]] w' fun e w'' => ∃ A c, e = .returned (.tuple #[.slice A 2 c, .int .u32 8, .int .i64 0]) ∧ Reads w'' w''.heap.size 1 A 2 (ucells [3, 9]) ∧ Below w'.heap.size w' w'' := fun w => by
    have h := fof10_any 6 2 7 8 5 B w (by omega)
    have e := readU_page hm1
    rw [← hB] at e
    rw [show readU 6 2 7 8 5 B = some [3, 9] from e] at h
    refine h.mono ?_
    rintro e w' ⟨A, n, c, rfl, hr, _, _, hb⟩
    obtain rfl : 2 = n := ulen hr
    exact ⟨A, c, rfl, hr, hb⟩
  have HO2 : ∀ w' : World, Calls Try.prog 9 #[.agg #[.int .i64 6, .int .i64 0, .int .u32 7, .int .u32 0, .int .u64 5, .string C]] w' fun e w'' => ∃ A c, e = .returned (.tuple #[.slice A 0 c, .int .u32 0, .int .i64 0]) ∧ Reads w'' w''.heap.size 1 A 0 (ucells []) ∧ Below w'.heap.size w' w'' := fun w => by
    have h := fof10_any 6 0 7 0 5 C w (by omega)
    have e := readU_page hm2
    rw [← hC] at e
    rw [show readU 6 0 7 0 5 C = some [] from e] at h
    refine h.mono ?_
    rintro e w' ⟨A, n, c, rfl, hr, _, _, hb⟩
    obtain rfl : 0 = n := ulen hr
    exact ⟨A, c, rfl, hr, hb⟩
  have HO3 : ∀ w' : World, Calls Try.prog 9 #[.agg #[.int .i64 6, .int .i64 3, .int .u32 7, .int .u32 8, .int .u64 5, .string B]] w' fun e w'' => e = .returned (.tuple #[.slice none 0 0, .int .u32 0, .int .i64 4]) ∧ Below w'.heap.size w' w'' := fun w => by
    have h := fof10_any 6 3 7 8 5 B w (by omega)
    rw [hB, bad_count, ← hB] at h
    exact h
  have HR1 : ∀ (A : Option Addr) (c : Nat) (w : World), Reads w w.heap.size 1 A 2 (ucells [2, 2]) → Calls Try.prog 11 #[.slice A 2 c] w fun e w' => e = .returned (.bool false) ∧ Below w.heap.size w w' := fun A c w hr => frises_any A 2 c [2, 2] w hr (by decide)
  have HR2 : ∀ w : World, Calls Try.prog 11 #[.slice none 0 0] w fun e w' => e = .returned (.bool true) ∧ Below w.heap.size w w' := fun w => frises_any none 0 0 [] w Reads.none_ (by decide)
  have HN1 : ∀ w : World, Calls Try.prog 12 #[.int .i64 128, .int .i64 0] w fun e w' => e = .returned (.int .i64 0) ∧ Below w.heap.size w w' := fun w => fneed_any 128 0 w (by decide)
  have HM1 : ∀ w : World, Calls Try.prog 13 #[.int .i64 1] w fun e w' => e = .returned (.int .i64 0) ∧ Below w.heap.size w w' := fun w => fmost_any 1 w
  obtain ⟨hzp, hi⟩ := zero_of_info infoPg
  have HIp := Lib.hid hi
  have hmk := fun w => make27 w
  have HBS := Lib.hid hBs
  have HCS := Lib.hid hCs
  have HB8 := Lib.hid hB8
  clear hi hB hC hBs hCs hm1 hm2 hB8
  have HB := Lib.hid (Below.refl w.heap.size w)
  go_enter Try.func3, Try.ntmps3
  go_wp2_with fail
  refine (lives10_any _).mono ?_
  rintro e w101 ⟨rfl, hb⟩
  replace HB := Lib.hid (HB.out.trans (hb.mono HB.out.size))
  clear hb
  obtain ⟨w102, hw102⟩ : ∃ x, x = w101.alloc (.cells #[.int .u32 3, .int .u32 9] 23) := ⟨_, rfl⟩
  have saw102 : w101.heap.size = w101.heap.size := by first | rfl | omega
  have ge_S1 := Lib.hid (show w.heap.size ≤ w101.heap.size from saw102 ▸ HB.out.size)
  replace HB := Lib.hid (show Below w.heap.size w w102 by rw [hw102]; exact HB.out.alloc HB.out.size _)
  have S1 := Lib.hid (show Blk w102 w101.heap.size 23 #[.int .u32 3, .int .u32 9] by rw [hw102, ← saw102]; exact Blk.new _ _ _)
  have szw102 : w102.heap.size = w101.heap.size + 1 := by rw [hw102]; simp
  clear saw102 szw102
  go_wp2_with fail
  rw [← hw102]
  clear hw102
  generalize w101.heap.size = gS1 at *
  refine (HP1 _ _ _ (blk_reads S1.out rfl rfl)).mono ?_
  rintro e w103 ⟨rfl, hb⟩
  replace HB := Lib.hid (HB.out.trans (hb.mono HB.out.size))
  replace S1 := Lib.hid (S1.out.below hb S1.out.lt)
  clear hb
  clear HP1
  clear S1
  obtain ⟨w104, hw104⟩ : ∃ x, x = w103.alloc (.cells #[.int .i64 6, .int .i64 2, .int .u32 7, .int .u32 8, .int .u64 5, .string B] 26) := ⟨_, rfl⟩
  have saw104 : w103.heap.size = w103.heap.size := by first | rfl | omega
  have ge_Pp := Lib.hid (show w.heap.size ≤ w103.heap.size from saw104 ▸ HB.out.size)
  replace HB := Lib.hid (show Below w.heap.size w w104 by rw [hw104]; exact HB.out.alloc HB.out.size _)
  have Pp := Lib.hid (show Blk w104 w103.heap.size 26 #[.int .i64 6, .int .i64 2, .int .u32 7, .int .u32 8, .int .u64 5, .string B] by rw [hw104, ← saw104]; exact Blk.new _ _ _)
  have szw104 : w104.heap.size = w103.heap.size + 1 := by rw [hw104]; simp
  clear saw104 szw104
  go_upto_region 4 with fail
  rw [← hw104]
  clear hw104
  generalize w103.heap.size = gPp at *
  have aPp_0 := Pp.out.cell 0
  have aPp_1 := Pp.out.cell 1
  have aPp_2 := Pp.out.cell 2
  have aPp_3 := Pp.out.cell 3
  have aPp_4 := Pp.out.cell 4
  have aPp_5 := Pp.out.cell 5
  simp at aPp_0 aPp_1 aPp_2 aPp_3 aPp_4 aPp_5
  go_wp2_with fail
  refine (HO1 _).mono ?_
  rintro e w5 ⟨A5, c5, rfl, hr5, hb⟩
  replace HB := Lib.hid (HB.out.trans (hb.mono HB.out.size))
  replace Pp := Lib.hid (Pp.out.below hb Pp.out.lt)
  have R5 := Lib.hid hr5
  clear hb hr5 HO1
  clear aPp_0 aPp_1 aPp_2 aPp_3 aPp_4 aPp_5
  go_wp2_with fail
  refine (HP2 _ _ _ Reads.none_).mono ?_
  rintro e w105 ⟨rfl, hb⟩
  replace HB := Lib.hid (HB.out.trans (hb.mono HB.out.size))
  replace Pp := Lib.hid (Pp.out.below hb Pp.out.lt)
  replace R5 := Lib.hid ((R5.out.below hb).more hb.size)
  clear hb
  clear HP2
  obtain ⟨w106, hw106⟩ : ∃ x, x = w105.alloc (.cells #[.int .i64 6, .int .i64 0, .int .u32 7, .int .u32 0, .int .u64 5, .string C] 26) := ⟨_, rfl⟩
  have saw106 : w105.heap.size = w105.heap.size := by first | rfl | omega
  have lt_Pp_Qq := Lib.hid (show gPp < w105.heap.size from saw106 ▸ Pp.out.lt)
  replace Pp := Lib.hid (show Blk w106 gPp 26 #[.int .i64 6, .int .i64 2, .int .u32 7, .int .u32 8, .int .u64 5, .string B] by rw [hw106]; exact Pp.out.alloc _)
  have ge_Qq := Lib.hid (show w.heap.size ≤ w105.heap.size from saw106 ▸ HB.out.size)
  replace HB := Lib.hid (show Below w.heap.size w w106 by rw [hw106]; exact HB.out.alloc HB.out.size _)
  replace R5 := Lib.hid (show Reads w106 w106.heap.size _ _ _ _ by rw [hw106]; exact (R5.out.alloc (Nat.le_refl _) _).more (by simp))
  have Qq := Lib.hid (show Blk w106 w105.heap.size 26 #[.int .i64 6, .int .i64 0, .int .u32 7, .int .u32 0, .int .u64 5, .string C] by rw [hw106, ← saw106]; exact Blk.new _ _ _)
  have szw106 : w106.heap.size = w105.heap.size + 1 := by rw [hw106]; simp
  clear saw106 szw106
  go_upto_region 6 with fail
  rw [← hw106]
  clear hw106
  generalize w105.heap.size = gQq at *
  have bQq_0 := Qq.out.cell 0
  have bQq_1 := Qq.out.cell 1
  have bQq_2 := Qq.out.cell 2
  have bQq_3 := Qq.out.cell 3
  have bQq_4 := Qq.out.cell 4
  have bQq_5 := Qq.out.cell 5
  simp at bQq_0 bQq_1 bQq_2 bQq_3 bQq_4 bQq_5
  go_wp2_with fail
  refine (HO2 _).mono ?_
  rintro e w6 ⟨A6, c6, rfl, hr6, hb⟩
  replace HB := Lib.hid (HB.out.trans (hb.mono HB.out.size))
  replace Pp := Lib.hid (Pp.out.below hb Pp.out.lt)
  replace Qq := Lib.hid (Qq.out.below hb Qq.out.lt)
  replace R5 := Lib.hid ((R5.out.below hb).more hb.size)
  have R6 := Lib.hid hr6
  clear hb hr6 HO2
  clear bQq_0 bQq_1 bQq_2 bQq_3 bQq_4 bQq_5 R6
  clear Qq
  obtain ⟨w107, hw107⟩ : ∃ x, x = w6.alloc (.cells #[.int .u32 9, .int .u32 3] 23) := ⟨_, rfl⟩
  have saw107 : w6.heap.size = w6.heap.size := by first | rfl | omega
  have lt_Pp_S3 := Lib.hid (show gPp < w6.heap.size from saw107 ▸ Pp.out.lt)
  replace Pp := Lib.hid (show Blk w107 gPp 26 #[.int .i64 6, .int .i64 2, .int .u32 7, .int .u32 8, .int .u64 5, .string B] by rw [hw107]; exact Pp.out.alloc _)
  have ge_S3 := Lib.hid (show w.heap.size ≤ w6.heap.size from saw107 ▸ HB.out.size)
  replace HB := Lib.hid (show Below w.heap.size w w107 by rw [hw107]; exact HB.out.alloc HB.out.size _)
  replace R5 := Lib.hid (show Reads w107 w107.heap.size _ _ _ _ by rw [hw107]; exact (R5.out.alloc (Nat.le_refl _) _).more (by simp))
  have S3 := Lib.hid (show Blk w107 w6.heap.size 23 #[.int .u32 9, .int .u32 3] by rw [hw107, ← saw107]; exact Blk.new _ _ _)
  have szw107 : w107.heap.size = w6.heap.size + 1 := by rw [hw107]; simp
  clear saw107 szw107
  go_wp2_with fail
  rw [← hw107]
  clear hw107
  generalize w6.heap.size = gS3 at *
  refine (HP3 _ _ _ (blk_reads S3.out rfl rfl)).mono ?_
  rintro e w108 ⟨rfl, hb⟩
  replace HB := Lib.hid (HB.out.trans (hb.mono HB.out.size))
  replace Pp := Lib.hid (Pp.out.below hb Pp.out.lt)
  replace S3 := Lib.hid (S3.out.below hb S3.out.lt)
  replace R5 := Lib.hid ((R5.out.below hb).more hb.size)
  clear hb
  clear HP3
  clear S3
  obtain ⟨v110, hv110⟩ : ∃ x, x = w108.alloc (.cells #[.int .i64 0, .int .i64 0, .int .u32 0, .int .u32 0, .int .u64 0, .string ByteArray.empty] 26) := ⟨_, rfl⟩
  have sav110 : w108.heap.size = w108.heap.size := by first | rfl | omega
  have lt_Pp_D3 := Lib.hid (show gPp < w108.heap.size from sav110 ▸ Pp.out.lt)
  replace Pp := Lib.hid (show Blk v110 gPp 26 #[.int .i64 6, .int .i64 2, .int .u32 7, .int .u32 8, .int .u64 5, .string B] by rw [hv110]; exact Pp.out.alloc _)
  have ge_D3 := Lib.hid (show w.heap.size ≤ w108.heap.size from sav110 ▸ HB.out.size)
  replace HB := Lib.hid (show Below w.heap.size w v110 by rw [hv110]; exact HB.out.alloc HB.out.size _)
  replace R5 := Lib.hid (show Reads v110 v110.heap.size _ _ _ _ by rw [hv110]; exact (R5.out.alloc (Nat.le_refl _) _).more (by simp))
  have D3 := Lib.hid (show Blk v110 w108.heap.size 26 #[.int .i64 0, .int .i64 0, .int .u32 0, .int .u32 0, .int .u64 0, .string ByteArray.empty] by rw [hv110, ← sav110]; exact Blk.new _ _ _)
  have szv110 : v110.heap.size = w108.heap.size + 1 := by rw [hv110]; simp
  obtain ⟨w109, hw109⟩ : ∃ x, x = v110.alloc (.cells #[.int .u32 1] 23) := ⟨_, rfl⟩
  have saw109 : v110.heap.size = (w108.heap.size + 1) := by first | rfl | omega
  have lt_Pp_S4 := Lib.hid (show gPp < (w108.heap.size + 1) from saw109 ▸ Pp.out.lt)
  replace Pp := Lib.hid (show Blk w109 gPp 26 #[.int .i64 6, .int .i64 2, .int .u32 7, .int .u32 8, .int .u64 5, .string B] by rw [hw109]; exact Pp.out.alloc _)
  have lt_D3_S4 := Lib.hid (show w108.heap.size < (w108.heap.size + 1) from saw109 ▸ D3.out.lt)
  replace D3 := Lib.hid (show Blk w109 w108.heap.size 26 #[.int .i64 0, .int .i64 0, .int .u32 0, .int .u32 0, .int .u64 0, .string ByteArray.empty] by rw [hw109]; exact D3.out.alloc _)
  have ge_S4 := Lib.hid (show w.heap.size ≤ (w108.heap.size + 1) from saw109 ▸ HB.out.size)
  replace HB := Lib.hid (show Below w.heap.size w w109 by rw [hw109]; exact HB.out.alloc HB.out.size _)
  replace R5 := Lib.hid (show Reads w109 w109.heap.size _ _ _ _ by rw [hw109]; exact (R5.out.alloc (Nat.le_refl _) _).more (by simp))
  have S4 := Lib.hid (show Blk w109 (w108.heap.size + 1) 23 #[.int .u32 1] by rw [hw109, ← saw109]; exact Blk.new _ _ _)
  have szw109 : w109.heap.size = v110.heap.size + 1 := by rw [hw109]; simp
  clear sav110 szv110 saw109 szw109
  go_wp2_with fail
  rw [← hv110, ← hw109]
  clear hv110 hw109
  clear D3
  refine (HP4 _ _ _ (blk_reads S4.out rfl rfl)).mono ?_
  rintro e w111 ⟨rfl, hb⟩
  replace HB := Lib.hid (HB.out.trans (hb.mono HB.out.size))
  replace Pp := Lib.hid (Pp.out.below hb Pp.out.lt)
  replace S4 := Lib.hid (S4.out.below hb S4.out.lt)
  replace R5 := Lib.hid ((R5.out.below hb).more hb.size)
  clear hb
  clear HP4
  clear S4
  
  obtain ⟨w112, hw112⟩ : ∃ x, x = w111.alloc (.cells #[.int .i64 0, .int .i64 0, .int .u32 0, .int .u32 0, .int .u64 0, .string ByteArray.empty] 26) := ⟨_, rfl⟩
  have saw112 : w111.heap.size = w111.heap.size := by first | rfl | omega
  have lt_Pp_D4 := Lib.hid (show gPp < w111.heap.size from saw112 ▸ Pp.out.lt)
  replace Pp := Lib.hid (show Blk w112 gPp 26 #[.int .i64 6, .int .i64 2, .int .u32 7, .int .u32 8, .int .u64 5, .string B] by rw [hw112]; exact Pp.out.alloc _)
  have ge_D4 := Lib.hid (show w.heap.size ≤ w111.heap.size from saw112 ▸ HB.out.size)
  replace HB := Lib.hid (show Below w.heap.size w w112 by rw [hw112]; exact HB.out.alloc HB.out.size _)
  replace R5 := Lib.hid (show Reads w112 w112.heap.size _ _ _ _ by rw [hw112]; exact (R5.out.alloc (Nat.le_refl _) _).more (by simp))
  have D4 := Lib.hid (show Blk w112 w111.heap.size 26 #[.int .i64 0, .int .i64 0, .int .u32 0, .int .u32 0, .int .u64 0, .string ByteArray.empty] by rw [hw112, ← saw112]; exact Blk.new _ _ _)
  have szw112 : w112.heap.size = w111.heap.size + 1 := by rw [hw112]; simp
  clear saw112 szw112
  go_upto_region 9 with fail
  rw [← hw112]
  clear hw112
  generalize w111.heap.size = gD4 at *
  clear D4
  go_wp2_with fail
  refine (HP5 _ _ _ (blk_reads (Blk.new _ _ _) made_zeros (by simp))).mono ?_
  rintro e w9 ⟨rfl, hb⟩
  replace HB := Lib.hid ((HB.out.alloc HB.out.size _).trans (hb.mono (HB.out.alloc HB.out.size _).size))
  replace Pp := Lib.hid ((Pp.out.alloc _).below hb (Pp.out.alloc _).lt)
  replace R5 := Lib.hid ((((R5.out.alloc (Nat.le_refl _) _).more (by simp)).below hb).more hb.size)
  clear hb hmk HP5
  obtain ⟨w113, hw113⟩ : ∃ x, x = w9.alloc (.cells #[.int .i64 0, .int .i64 0, .int .u32 0, .int .u32 0, .int .u64 0, .string ByteArray.empty] 26) := ⟨_, rfl⟩
  have saw113 : w9.heap.size = w9.heap.size := by first | rfl | omega
  have lt_Pp_D5 := Lib.hid (show gPp < w9.heap.size from saw113 ▸ Pp.out.lt)
  replace Pp := Lib.hid (show Blk w113 gPp 26 #[.int .i64 6, .int .i64 2, .int .u32 7, .int .u32 8, .int .u64 5, .string B] by rw [hw113]; exact Pp.out.alloc _)
  have ge_D5 := Lib.hid (show w.heap.size ≤ w9.heap.size from saw113 ▸ HB.out.size)
  replace HB := Lib.hid (show Below w.heap.size w w113 by rw [hw113]; exact HB.out.alloc HB.out.size _)
  replace R5 := Lib.hid (show Reads w113 w113.heap.size _ _ _ _ by rw [hw113]; exact (R5.out.alloc (Nat.le_refl _) _).more (by simp))
  have D5 := Lib.hid (show Blk w113 w9.heap.size 26 #[.int .i64 0, .int .i64 0, .int .u32 0, .int .u32 0, .int .u64 0, .string ByteArray.empty] by rw [hw113, ← saw113]; exact Blk.new _ _ _)
  have szw113 : w113.heap.size = w9.heap.size + 1 := by rw [hw113]; simp
  clear saw113 szw113
  go_wp2_with fail
  rw [← hw113]
  clear hw113
  generalize w9.heap.size = gD5 at *
  clear D5
  refine (HP6 _ _ _ Reads.none_).mono ?_
  rintro e w114 ⟨rfl, hb⟩
  replace HB := Lib.hid (HB.out.trans (hb.mono HB.out.size))
  replace Pp := Lib.hid (Pp.out.below hb Pp.out.lt)
  replace R5 := Lib.hid ((R5.out.below hb).more hb.size)
  clear hb
  clear HP6
  have lzPp := Pp.out.lt
  have dPp_0 := Pp.out.cell 0
  have dPp_1 := Pp.out.cell 1
  have dPp_2 := Pp.out.cell 2
  have dPp_3 := Pp.out.cell 3
  have dPp_4 := Pp.out.cell 4
  have dPp_5 := Pp.out.cell 5
  simp at dPp_0 dPp_1 dPp_2 dPp_3 dPp_4 dPp_5
  obtain ⟨v116, hv116⟩ : ∃ x, x = w114.alloc (.cells #[.int .i64 0, .int .i64 0, .int .u32 0, .int .u32 0, .int .u64 0, .string ByteArray.empty] 26) := ⟨_, rfl⟩
  have sav116 : w114.heap.size = w114.heap.size := by first | rfl | omega
  have lt_Pp_D6 := Lib.hid (show gPp < w114.heap.size from sav116 ▸ Pp.out.lt)
  replace Pp := Lib.hid (show Blk v116 gPp 26 #[.int .i64 6, .int .i64 2, .int .u32 7, .int .u32 8, .int .u64 5, .string B] by rw [hv116]; exact Pp.out.alloc _)
  have ge_D6 := Lib.hid (show w.heap.size ≤ w114.heap.size from sav116 ▸ HB.out.size)
  replace HB := Lib.hid (show Below w.heap.size w v116 by rw [hv116]; exact HB.out.alloc HB.out.size _)
  have D6 := Lib.hid (show Blk v116 w114.heap.size 26 #[.int .i64 0, .int .i64 0, .int .u32 0, .int .u32 0, .int .u64 0, .string ByteArray.empty] by rw [hv116, ← sav116]; exact Blk.new _ _ _)
  have szv116 : v116.heap.size = w114.heap.size + 1 := by rw [hv116]; simp
  obtain ⟨w115, hw115⟩ : ∃ x, x = v116.alloc (.cells #[.int .i64 6, .int .i64 2, .int .u32 7, .int .u32 8, .int .u64 5, .string B] 26) := ⟨_, rfl⟩
  have saw115 : v116.heap.size = (w114.heap.size + 1) := by first | rfl | omega
  have lt_Pp_Rr := Lib.hid (show gPp < (w114.heap.size + 1) from saw115 ▸ Pp.out.lt)
  replace Pp := Lib.hid (show Blk w115 gPp 26 #[.int .i64 6, .int .i64 2, .int .u32 7, .int .u32 8, .int .u64 5, .string B] by rw [hw115]; exact Pp.out.alloc _)
  have lt_D6_Rr := Lib.hid (show w114.heap.size < (w114.heap.size + 1) from saw115 ▸ D6.out.lt)
  replace D6 := Lib.hid (show Blk w115 w114.heap.size 26 #[.int .i64 0, .int .i64 0, .int .u32 0, .int .u32 0, .int .u64 0, .string ByteArray.empty] by rw [hw115]; exact D6.out.alloc _)
  have ge_Rr := Lib.hid (show w.heap.size ≤ (w114.heap.size + 1) from saw115 ▸ HB.out.size)
  replace HB := Lib.hid (show Below w.heap.size w w115 by rw [hw115]; exact HB.out.alloc HB.out.size _)
  have Rr := Lib.hid (show Blk w115 (w114.heap.size + 1) 26 #[.int .i64 6, .int .i64 2, .int .u32 7, .int .u32 8, .int .u64 5, .string B] by rw [hw115, ← saw115]; exact Blk.new _ _ _)
  have szw115 : w115.heap.size = v116.heap.size + 1 := by rw [hw115]; simp
  clear sav116 szv116 saw115 szw115
  have cPp_0 := Pp.out.cell 0
  have cPp_1 := Pp.out.cell 1
  have cPp_2 := Pp.out.cell 2
  have cPp_3 := Pp.out.cell 3
  have cPp_4 := Pp.out.cell 4
  have cPp_5 := Pp.out.cell 5
  rw [hw115, hv116] at cPp_0 cPp_1 cPp_2 cPp_3 cPp_4 cPp_5
  simp at cPp_0 cPp_1 cPp_2 cPp_3 cPp_4 cPp_5
  have HC := Lib.hid (show Below w114.heap.size w114 w115 by rw [hw115, hv116]; exact ((Below.refl _ _).alloc (Nat.le_refl _) _).alloc (by simp) _)
  go_upto_region 12 with fail
  rw [← hv116, ← hw115]
  clear hv116 hw115 lzPp dPp_0 dPp_1 dPp_2 dPp_3 dPp_4 dPp_5 cPp_0 cPp_1 cPp_2 cPp_3 cPp_4 cPp_5
  clear D6
  have fzRr_1 := Rr.out.frozen 1
  have lzRr := Rr.out.lt
  have dRr_0 := Rr.out.cell 0
  have dRr_1 := Rr.out.cell 1
  have dRr_2 := Rr.out.cell 2
  have dRr_3 := Rr.out.cell 3
  have dRr_4 := Rr.out.cell 4
  have dRr_5 := Rr.out.cell 5
  simp at dRr_0 dRr_1 dRr_2 dRr_3 dRr_4 dRr_5
  obtain ⟨w117, hw117⟩ : ∃ x, x = w115.setCell ⟨(w114.heap.size + 1), 1, none⟩ (.int .i64 3) := ⟨_, rfl⟩
  replace Pp := Lib.hid (show Blk w117 gPp 26 #[.int .i64 6, .int .i64 2, .int .u32 7, .int .u32 8, .int .u64 5, .string B] by rw [hw117]; exact Pp.out.far (p := ⟨(w114.heap.size + 1), 1, none⟩) (Nat.ne_of_lt lt_Pp_Rr.out) (.int .i64 3))
  replace Rr := Lib.hid (show Blk w117 (w114.heap.size + 1) 26 #[.int .i64 6, .int .i64 3, .int .u32 7, .int .u32 8, .int .u64 5, .string B] by rw [hw117]; exact Rr.out.set_ 1 (.int .i64 3))
  replace HB := Lib.hid (show Below w.heap.size w w117 by rw [hw117]; exact HB.out.setCell (p := ⟨(w114.heap.size + 1), 1, none⟩) ge_Rr.out (.int .i64 3))
  have szw117 : w117.heap.size = w115.heap.size := by rw [hw117]; simp [World.setCell]
  clear szw117
  have cRr_0 := Rr.out.cell 0
  have cRr_1 := Rr.out.cell 1
  have cRr_2 := Rr.out.cell 2
  have cRr_3 := Rr.out.cell 3
  have cRr_4 := Rr.out.cell 4
  have cRr_5 := Rr.out.cell 5
  rw [hw117] at cRr_0 cRr_1 cRr_2 cRr_3 cRr_4 cRr_5
  simp at cRr_0 cRr_1 cRr_2 cRr_3 cRr_4 cRr_5
  replace HC := Lib.hid (show Below w114.heap.size w114 w117 by rw [hw117]; exact HC.out.setCell (p := ⟨(w114.heap.size + 1), 1, none⟩) (Nat.le_succ _) _)
  go_wp2_with fail
  rw [← hw117]
  clear hw117 fzRr_1 lzRr dRr_0 dRr_1 dRr_2 dRr_3 dRr_4 dRr_5 cRr_0 cRr_1 cRr_2 cRr_3 cRr_4 cRr_5
  refine (HO3 _).mono ?_
  rintro e w118 ⟨rfl, hb⟩
  replace HB := Lib.hid (HB.out.trans (hb.mono HB.out.size))
  replace Pp := Lib.hid (Pp.out.below hb Pp.out.lt)
  replace Rr := Lib.hid (Rr.out.below hb Rr.out.lt)
  replace HC := Lib.hid (HC.out.trans (hb.mono HC.out.size))
  clear hb
  clear HO3
  clear Rr
  replace R5 := Lib.hid ((R5.out.below HC.out).more HC.out.size)
  clear HC
  have yPp_0 := Pp.out.cell 0
  have yPp_1 := Pp.out.cell 1
  have yPp_2 := Pp.out.cell 2
  have yPp_3 := Pp.out.cell 3
  have yPp_4 := Pp.out.cell 4
  have yPp_5 := Pp.out.cell 5
  simp at yPp_0 yPp_1 yPp_2 yPp_3 yPp_4 yPp_5
  have hB8 := HB8.out
  have hBs := HBS.out
  have hB9 : (8 : Int) ≤ (B.size : Int) := by omega
  go_wp2_with fail
  clear hB8 hBs hB9 yPp_0 yPp_1 yPp_2 yPp_3 yPp_4 yPp_5
  clear Pp
  refine (sameU_yes A5 2 c5 _ 2 [3, 9] _ (R5.out.alloc (Nat.le_refl _) _) (blk_reads (Blk.new _ _ _) rfl rfl) (by decide)).mono ?_
  rintro e ws ⟨rfl, q, hq⟩
  replace HB := Lib.hid (show Below w.heap.size w ws by rw [hq]; exact below_drewN (HB.out.alloc HB.out.size _) q)
  clear hq R5
  go_wp2_with fail
  refine (HR1 _ _ _ (blk_reads (Blk.new _ _ _) rfl rfl)).mono ?_
  rintro e wt ⟨rfl, hb⟩
  replace HB := Lib.hid ((HB.out.alloc HB.out.size _).trans (hb.mono (HB.out.alloc HB.out.size _).size))
  clear hb HR1
  go_wp2_with fail
  refine (HR2 _).mono ?_
  rintro e w119 ⟨rfl, hb⟩
  replace HB := Lib.hid (HB.out.trans (hb.mono HB.out.size))
  clear hb
  clear HR2
  go_wp2_with fail
  refine (HN1 _).mono ?_
  rintro e w120 ⟨rfl, hb⟩
  replace HB := Lib.hid (HB.out.trans (hb.mono HB.out.size))
  clear hb
  clear HN1
  go_wp2_with fail
  refine (HM1 _).mono ?_
  rintro e w121 ⟨rfl, hb⟩
  replace HB := Lib.hid (HB.out.trans (hb.mono HB.out.size))
  clear hb
  clear HM1
  go_wp2_with fail
  go_ret
  exact ⟨rfl, HB.out⟩
end Go.Proofs.Ytnpockkhefbjoaa
