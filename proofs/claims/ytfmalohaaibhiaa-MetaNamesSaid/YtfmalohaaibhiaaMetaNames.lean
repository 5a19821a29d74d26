/-
  The walk of the statement MetaNames: from every start it returns true and changes no block that was there before.
-/
import Derived.Test.YtfmalohaaibhiaaMetaBlk
import Derived.Test.YtfmalohaaibhiaaKitLaw
import Derived.Deep.DrawnRows
namespace Go.Proofs.Ytfmalohaaibhiaa
open Go.RowKit
open Go.Lib
set_option linter.unusedVariables false
set_option linter.unusedSimpArgs false
attribute [local go_sem ↓] Go.wp_at_zero Go.wp_at_succ

theorem bools_same (w : World) : (binOp .eql 37 (.agg #[.bool true, .bool true]) (.agg #[.bool true, .bool true])).run Try.prog w = .ok (.bool true) w := by
  kernel_rfl
theorem metas_same (w : World) : (binOp .eql 36 (.agg #[.int .u64 8, .int .i64 128, .int .u32 2, .int .u32 3, .int .u32 9, .int .u64 7, .int .i64 128, .int .u32 2, .int .u32 3, .int .u32 9]) (.agg #[.int .u64 8, .int .i64 128, .int .u32 2, .int .u32 3, .int .u32 9, .int .u64 7, .int .i64 128, .int .u32 2, .int .u32 3, .int .u32 9])).run Try.prog w = .ok (.bool true) w := by
  kernel_rfl
theorem xs_bad (n : Nat) (hn : n < 2) (k : Nat) : blockOk 128 k (blkAt 128 (reps ⟨#[120]⟩ 256) n) = false := by
  rw [Bool.eq_false_iff]
  intro h
  simp only [blockOk, Bool.and_eq_true, decide_eq_true_eq] at h
  have h5 := h.2.2.1
  rw [numAt, blkAt, Lib.extract_data, reps_list] at h5
  rw [show ((⟨#[120]⟩ : ByteArray).data.toList) = [120] from rfl, rep_one, List.drop_replicate, List.take_replicate, List.drop_replicate, List.take_replicate] at h5
  rw [show min 1 (min (n * 128 + 128 - n * 128) (256 - n * 128) - 5) = 1 by omega] at h5
  exact absurd h5 (by decide)
theorem metas_ten {w : World} {g : Nat} {v0 v1 v2 v3 v4 v5 v6 v7 v8 v9 : Value} (h : Blk w g 36 #[v0, v1, v2, v3, v4, v5, v6, v7, v8, v9]) : w.cell? ⟨g, 0, none⟩ = some v0 ∧ w.cell? ⟨g, 1, none⟩ = some v1 ∧ w.cell? ⟨g, 2, none⟩ = some v2 ∧ w.cell? ⟨g, 3, none⟩ = some v3 ∧ w.cell? ⟨g, 4, none⟩ = some v4 ∧ w.cell? ⟨g, 5, none⟩ = some v5 ∧ w.cell? ⟨g, 6, none⟩ = some v6 ∧ w.cell? ⟨g, 7, none⟩ = some v7 ∧ w.cell? ⟨g, 8, none⟩ = some v8 ∧ w.cell? ⟨g, 9, none⟩ = some v9 :=
  ⟨h.cell 0, h.cell 1, h.cell 2, h.cell 3, h.cell 4, h.cell 5, h.cell 6, h.cell 7, h.cell 8, h.cell 9⟩
theorem meta_pg {w : World} {g : Nat} {v0 v1 v2 v3 v4 v5 : Value} (h : Blk w g 26 #[v0, v1, v2, v3, v4, v5]) : w.cell? ⟨g, 5, none⟩ = some v5 := h.cell 5
theorem bools_two {w : World} {g : Nat} {v0 v1 : Value} (h : Blk w g 37 #[v0, v1]) : w.cell? ⟨g, 0, none⟩ = some v0 ∧ w.cell? ⟨g, 1, none⟩ = some v1 := ⟨h.cell 0, h.cell 1⟩

set_option maxRecDepth 100000 in
set_option maxHeartbeats 25600000 in
theorem mnames_walk (w : World) :
    Calls Try.prog 3 #[] w fun e w' => e = .returned (.bool true) ∧ Below w.heap.size w w' := by
  obtain ⟨b, hb⟩ : ∃ b, b = bodyM 128 2 3 9 := ⟨_, rfl⟩
  obtain ⟨B7, h7⟩ : ∃ B, B = metaB 7 128 2 3 9 := ⟨_, rfl⟩
  obtain ⟨B8, h8⟩ : ∃ B, B = metaB 8 128 2 3 9 := ⟨_, rfl⟩
  obtain ⟨X, hX⟩ : ∃ X, X = reps ⟨#[120]⟩ 256 := ⟨_, rfl⟩
  have m7 : mayM 7 128 2 3 9 = true := by decide
  have m8 : mayM 8 128 2 3 9 = true := by decide
  have s7 : B7.size = 128 := by rw [h7]; exact metaB_size 7 128 2 3 9 (by decide)
  have s8 : B8.size = 128 := by rw [h8]; exact metaB_size 8 128 2 3 9 (by decide)
  have sX : X.size = 256 := by rw [hX]; exact reps_lit_size 120 256
  have hg : goodSize ((128 : Nat) : Int) = true := by decide
  obtain ⟨i1, i2, i3⟩ := blk_two 128 B8 B7 s8 s7
  obtain ⟨j1, j2, j3⟩ := blk_two 128 B7 B7 s7 s7
  have HO7 : ∀ w : World, Calls Try.prog 11 #[.int .u64 7] w fun e w' => e = .returned (.agg #[.int .u64 7, .int .i64 128, .int .u32 2, .int .u32 3, .int .u32 9]) ∧ Below w.heap.size w w' := fun w => one_is 7 w
  have HO8 : ∀ w : World, Calls Try.prog 11 #[.int .u64 8] w fun e w' => e = .returned (.agg #[.int .u64 8, .int .i64 128, .int .u32 2, .int .u32 3, .int .u32 9]) ∧ Below w.heap.size w w' := fun w => one_is 8 w
  have HOL : ∀ w : World, Calls Try.prog 11 #[.int .u64 4611686018427387905] w fun e w' => e = .returned (.agg #[.int .u64 4611686018427387905, .int .i64 128, .int .u32 2, .int .u32 3, .int .u32 9]) ∧ Below w.heap.size w w' := fun w => one_is 4611686018427387905 w
  have HP : ∀ w : World, Calls Try.prog 10 #[.agg #[.int .u64 7, .int .i64 128, .int .u32 2, .int .u32 3, .int .u32 9]] w fun e w' => e = .returned (.tuple #[.agg #[.int .i64 1, .int .i64 0, .int .u32 1, .int .u32 0, .int .u64 7, .string b], .int .i64 0]) ∧ Below w.heap.size w w' := fun w => mpage_yes 7 128 2 3 9 1 b w m7 hb rfl
  have H192 : ∀ w : World, Calls Try.prog 12 #[.int .i64 192, .agg #[.int .i64 1, .int .i64 0, .int .u32 1, .int .u32 0, .int .u64 7, .string b]] w fun e w' => e = .returned (.tuple #[.agg #[.int .u64 0, .int .i64 0, .int .u32 0, .int .u32 0, .int .u32 0], .int .i64 4]) ∧ Below w.heap.size w w' := fun w => of_page_no 192 7 128 2 3 9 1 b w m7 hb rfl (by decide)
  have HQ1 : ∀ w : World, Calls Try.prog 12 #[.int .i64 128, .agg #[.int .i64 1, .int .i64 1, .int .u32 1, .int .u32 0, .int .u64 7, .string b]] w fun e w' => e = .returned (.tuple #[.agg #[.int .u64 0, .int .i64 0, .int .u32 0, .int .u32 0, .int .u32 0], .int .i64 4]) ∧ Below w.heap.size w w' := fun w => of_no 128 1 1 1 0 7 b w (by simp [isM])
  have HBad : ∀ w : World, Calls Try.prog 10 #[.agg #[.int .u64 7, .int .i64 128, .int .u32 1, .int .u32 3, .int .u32 9]] w fun e w' => e = .returned (.tuple #[.agg #[.int .i64 0, .int .i64 0, .int .u32 0, .int .u32 0, .int .u64 0, .string ByteArray.empty], .int .i64 2]) ∧ Below w.heap.size w w' := fun w => mpage_no 7 128 1 3 9 w (by decide)
  have HFar : ∀ w : World, Calls Try.prog 10 #[.agg #[.int .u64 7, .int .i64 128, .int .u32 2, .int .u32 9, .int .u32 9]] w fun e w' => e = .returned (.tuple #[.agg #[.int .i64 0, .int .i64 0, .int .u32 0, .int .u32 0, .int .u64 0, .string ByteArray.empty], .int .i64 2]) ∧ Below w.heap.size w w' := fun w => mpage_no 7 128 2 9 9 w (by decide)
  have HLate : ∀ w : World, Calls Try.prog 10 #[.agg #[.int .u64 4611686018427387905, .int .i64 128, .int .u32 2, .int .u32 3, .int .u32 9]] w fun e w' => e = .returned (.tuple #[.agg #[.int .i64 0, .int .i64 0, .int .u32 0, .int .u32 0, .int .u64 0, .string ByteArray.empty], .int .i64 2]) ∧ Below w.heap.size w w' := fun w => mpage_no 4611686018427387905 128 2 3 9 w (by decide)
  have HK8 : ∀ w : World, Calls Try.prog 13 #[.agg #[.int .u64 8, .int .i64 128, .int .u32 2, .int .u32 3, .int .u32 9]] w fun e w' => e = .returned (.string B8) ∧ Below w.heap.size w w' := fun w => mblock_is 8 128 2 3 9 B8 w m8 h8
  have HK7 : ∀ w : World, Calls Try.prog 13 #[.agg #[.int .u64 7, .int .i64 128, .int .u32 2, .int .u32 3, .int .u32 9]] w fun e w' => e = .returned (.string B7) ∧ Below w.heap.size w w' := fun w => mblock_is 7 128 2 3 9 B7 w m7 h7
  have HBo : ∀ w : World, Calls Try.prog 14 #[.int .i64 128, .string (B8 ++ B7)] w fun e w' => e = .returned (.tuple #[.agg #[.int .u64 8, .int .i64 128, .int .u32 2, .int .u32 3, .int .u32 9, .int .u64 7, .int .i64 128, .int .u32 2, .int .u32 3, .int .u32 9], .agg #[.bool true, .bool true]]) ∧ Below w.heap.size w w' := fun w => mboth_any 128 (B8 ++ B7) 8 128 2 3 9 true 7 128 2 3 9 true w (metaAt_block 128 0 (B8 ++ B7) 8 2 3 9 m8 rfl (by rw [i3]; decide) (by rw [i1, h8])) (metaAt_block 128 1 (B8 ++ B7) 7 2 3 9 m7 rfl (by rw [i3]; decide) (by rw [i2, h7])) (by rw [i3]; decide)
  have HN1 : ∀ w : World, Calls Try.prog 15 #[.int .i64 128, .string (B8 ++ B7)] w fun e w' => e = .returned (.tuple #[.agg #[.int .u64 8, .int .i64 128, .int .u32 2, .int .u32 3, .int .u32 9], .int .i64 0]) ∧ Below w.heap.size w w' := fun w => mnew_ba 128 (B8 ++ B7) 8 128 2 3 9 7 128 2 3 9 w hg (metaAt_block 128 0 (B8 ++ B7) 8 2 3 9 m8 rfl (by rw [i3]; decide) (by rw [i1, h8])) (metaAt_block 128 1 (B8 ++ B7) 7 2 3 9 m7 rfl (by rw [i3]; decide) (by rw [i2, h7])) (by rw [i3]; decide) (by decide)
  have hb7 : blockOk 128 0 B7 = false := by
    rw [Bool.eq_false_iff]
    intro h
    simp only [blockOk, Bool.and_eq_true, decide_eq_true_eq] at h
    have h4 := h.2.2.2.1
    rw [h7, (metaB_parts 7 128 2 3 9 m7).2.2.2.1] at h4
    exact absurd h4 (by decide)
  have HN2 : ∀ w : World, Calls Try.prog 15 #[.int .i64 128, .string (B7 ++ B7)] w fun e w' => e = .returned (.tuple #[.agg #[.int .u64 7, .int .i64 128, .int .u32 2, .int .u32 3, .int .u32 9], .int .i64 0]) ∧ Below w.heap.size w w' := fun w => mnew_b 128 (B7 ++ B7) 0 0 0 0 0 7 128 2 3 9 w hg (metaAt_bad 128 0 (B7 ++ B7) (by rw [j1]; exact hb7)) (metaAt_block 128 1 (B7 ++ B7) 7 2 3 9 m7 rfl (by rw [j3]; decide) (by rw [j2, h7])) (by rw [j3]; decide)
  have HN3 : ∀ w : World, Calls Try.prog 15 #[.int .i64 128, .string X] w fun e w' => e = .returned (.tuple #[.agg #[.int .u64 0, .int .i64 0, .int .u32 0, .int .u32 0, .int .u32 0], .int .i64 5]) ∧ Below w.heap.size w w' := fun w => mnew_none 128 X 0 0 0 0 0 0 0 0 0 0 w hg (metaAt_bad 128 0 X (by rw [hX]; exact xs_bad 0 (by decide) 0)) (metaAt_bad 128 1 X (by rw [hX]; exact xs_bad 1 (by decide) 1)) (by rw [sX]; decide)
  have HN4 : ∀ w : World, Calls Try.prog 15 #[.int .i64 1, .string (B8 ++ B7)] w fun e w' => e = .returned (.tuple #[.agg #[.int .u64 0, .int .i64 0, .int .u32 0, .int .u32 0, .int .u32 0], .int .i64 2]) ∧ Below w.heap.size w w' := fun w => mnew_arg 1 (B8 ++ B7) w (by decide)
  have HT : ∀ w : World, Calls Try.prog 16 #[.string ⟨#[120]⟩, .int .i64 256] w fun e w' => e = .returned (.string X) ∧ w' = w := fun w => by rw [hX]; exact (times_any ⟨#[120]⟩ 256 w (by decide) (by decide)).mono fun _ _ ⟨h1, h2⟩ => ⟨h1, h2.symm⟩
  have HS0 : ∀ w : World, Calls Try.prog 17 #[.int .u64 0] w fun e w' => e = .returned (.int .u32 0) ∧ w' = w := fun w => slot_is 0 0 w rfl
  have cat1 : ¬ (9223372036854775807 < B8.size + B7.size) := by omega
  have cat2 : ¬ (9223372036854775807 < B7.size + B7.size) := by omega
  have hbs : b.size = 104 := by rw [hb]; exact bodyM_size 128 2 3 9 (by decide)
  have hb8 : b.extract 0 8 = ⟨#[99, 97, 114, 101, 101, 110, 48, 49]⟩ := by
    apply bytes_ext
    rw [Lib.extract_data, hb, bodyM_list]
    rfl
  have sl1 : (8 : Int) ≤ (b.size : Int) := by omega
  have sl2 : decide ((8 : Int) ≤ (b.size : Int)) = true := by simpa using sl1
  have hq2 := fun w => bools_same w
  have hqA := fun w => metas_same w
  have hq8 := fun w => meta_same 8 128 2 3 9 w
  have hq7 := fun w => meta_same 7 128 2 3 9 w
  have HBS := Lib.hid hbs
  clear hb h7 h8 hX m7 m8 s7 s8 sX hg i1 i2 i3 j1 j2 j3 hb7 hbs
  have HB := Lib.hid (Below.refl w.heap.size w)
  go_enter Try.func3, Try.ntmps3
  go_wp2_with fail
  refine (lives5_any _).mono ?_
  rintro e w101 ⟨rfl, hb⟩
  replace HB := Lib.hid (HB.out.trans (hb.mono HB.out.size))
  clear hb
  go_wp2_with fail
  refine (HO7 _).mono ?_
  rintro e w102 ⟨rfl, hb⟩
  replace HB := Lib.hid (HB.out.trans (hb.mono HB.out.size))
  clear hb
  go_wp2_with fail
  refine (HP _).mono ?_
  rintro e w103 ⟨rfl, hb⟩
  replace HB := Lib.hid (HB.out.trans (hb.mono HB.out.size))
  clear hb
  obtain ⟨w104, hw104⟩ : ∃ w104, w104 = w103.alloc (.cells #[.int .i64 1, .int .i64 0, .int .u32 1, .int .u32 0, .int .u64 7, .string b] 26) := ⟨_, rfl⟩
  have Pp := Lib.hid (show Blk w104 w103.heap.size 26 #[.int .i64 1, .int .i64 0, .int .u32 1, .int .u32 0, .int .u64 7, .string b] by rw [hw104]; exact Blk.new _ _ _)
  replace HB := Lib.hid (show Below w.heap.size w w104 by rw [hw104]; exact HB.out.alloc HB.out.size _)
  have cPp_0 := Pp.out.cell 0
  have cPp_1 := Pp.out.cell 1
  have cPp_2 := Pp.out.cell 2
  have cPp_3 := Pp.out.cell 3
  have cPp_4 := Pp.out.cell 4
  have cPp_5 := Pp.out.cell 5
  rw [hw104] at cPp_0 cPp_1 cPp_2 cPp_3 cPp_4 cPp_5
  simp at cPp_0 cPp_1 cPp_2 cPp_3 cPp_4 cPp_5
  go_wp2_with fail
  rw [← hw104]
  clear hw104 cPp_0 cPp_1 cPp_2 cPp_3 cPp_4 cPp_5
  refine (H192 _).mono ?_
  rintro e w105 ⟨rfl, hb⟩
  replace HB := Lib.hid (HB.out.trans (hb.mono HB.out.size))
  replace Pp := Lib.hid (Pp.out.below hb Pp.out.lt)
  clear hb
  obtain ⟨w106, hw106⟩ : ∃ w106, w106 = w105.alloc (.cells #[.int .u64 0, .int .i64 0, .int .u32 0, .int .u32 0, .int .u32 0] 31) := ⟨_, rfl⟩
  have lPp := Pp.out.lt
  have dPp_0 := Pp.out.cell 0
  have dPp_1 := Pp.out.cell 1
  have dPp_2 := Pp.out.cell 2
  have dPp_3 := Pp.out.cell 3
  have dPp_4 := Pp.out.cell 4
  have dPp_5 := Pp.out.cell 5
  simp at dPp_0 dPp_1 dPp_2 dPp_3 dPp_4 dPp_5
  have G1 := Lib.hid (show Blk w106 w105.heap.size 31 #[.int .u64 0, .int .i64 0, .int .u32 0, .int .u32 0, .int .u32 0] by rw [hw106]; exact Blk.new _ _ _)
  replace Pp := Lib.hid (show Blk w106 _ _ _ by rw [hw106]; exact Pp.out.alloc _)
  replace HB := Lib.hid (show Below w.heap.size w w106 by rw [hw106]; exact HB.out.alloc HB.out.size _)
  have cPp_0 := Pp.out.cell 0
  have cPp_1 := Pp.out.cell 1
  have cPp_2 := Pp.out.cell 2
  have cPp_3 := Pp.out.cell 3
  have cPp_4 := Pp.out.cell 4
  have cPp_5 := Pp.out.cell 5
  rw [hw106] at cPp_0 cPp_1 cPp_2 cPp_3 cPp_4 cPp_5
  simp at cPp_0 cPp_1 cPp_2 cPp_3 cPp_4 cPp_5
  go_wp2_with fail
  rw [← hw106]
  clear hw106 cPp_0 cPp_1 cPp_2 cPp_3 cPp_4 cPp_5 dPp_0 dPp_1 dPp_2 dPp_3 dPp_4 dPp_5 lPp
  clear G1
  obtain ⟨w107, hw107⟩ : ∃ w107, w107 = w106.alloc (.cells #[.int .i64 1, .int .i64 1, .int .u32 1, .int .u32 0, .int .u64 7, .string b] 26) := ⟨_, rfl⟩
  have Qq := Lib.hid (show Blk w107 w106.heap.size 26 #[.int .i64 1, .int .i64 1, .int .u32 1, .int .u32 0, .int .u64 7, .string b] by rw [hw107]; exact Blk.new _ _ _)
  replace Pp := Lib.hid (show Blk w107 _ _ _ by rw [hw107]; exact Pp.out.alloc _)
  replace HB := Lib.hid (show Below w.heap.size w w107 by rw [hw107]; exact HB.out.alloc HB.out.size _)
  rw [← hw107]
  clear hw107
  clear Qq
  refine (HQ1 _).mono ?_
  rintro e w108 ⟨rfl, hb⟩
  replace HB := Lib.hid (HB.out.trans (hb.mono HB.out.size))
  replace Pp := Lib.hid (Pp.out.below hb Pp.out.lt)
  clear hb
  obtain ⟨w109, hw109⟩ : ∃ w109, w109 = w108.alloc (.cells #[.int .u64 0, .int .i64 0, .int .u32 0, .int .u32 0, .int .u32 0] 31) := ⟨_, rfl⟩
  have G2 := Lib.hid (show Blk w109 w108.heap.size 31 #[.int .u64 0, .int .i64 0, .int .u32 0, .int .u32 0, .int .u32 0] by rw [hw109]; exact Blk.new _ _ _)
  replace Pp := Lib.hid (show Blk w109 _ _ _ by rw [hw109]; exact Pp.out.alloc _)
  replace HB := Lib.hid (show Below w.heap.size w w109 by rw [hw109]; exact HB.out.alloc HB.out.size _)
  go_wp2_with fail
  rw [← hw109]
  clear hw109
  clear G2
  refine (HO7 _).mono ?_
  rintro e w110 ⟨rfl, hb⟩
  replace HB := Lib.hid (HB.out.trans (hb.mono HB.out.size))
  replace Pp := Lib.hid (Pp.out.below hb Pp.out.lt)
  clear hb
  go_wp2_with fail
  obtain ⟨w111, hw111⟩ : ∃ w111, w111 = w110.alloc (.cells #[.int .u64 7, .int .i64 128, .int .u32 1, .int .u32 3, .int .u32 9] 31) := ⟨_, rfl⟩
  have Bd := Lib.hid (show Blk w111 w110.heap.size 31 #[.int .u64 7, .int .i64 128, .int .u32 1, .int .u32 3, .int .u32 9] by rw [hw111]; exact Blk.new _ _ _)
  replace Pp := Lib.hid (show Blk w111 _ _ _ by rw [hw111]; exact Pp.out.alloc _)
  replace HB := Lib.hid (show Below w.heap.size w w111 by rw [hw111]; exact HB.out.alloc HB.out.size _)
  rw [← hw111]
  clear hw111
  clear Bd
  refine (HBad _).mono ?_
  rintro e w112 ⟨rfl, hb⟩
  replace HB := Lib.hid (HB.out.trans (hb.mono HB.out.size))
  replace Pp := Lib.hid (Pp.out.below hb Pp.out.lt)
  clear hb
  obtain ⟨w113, hw113⟩ : ∃ w113, w113 = w112.alloc (.cells #[.int .i64 0, .int .i64 0, .int .u32 0, .int .u32 0, .int .u64 0, .string ByteArray.empty] 26) := ⟨_, rfl⟩
  have P9 := Lib.hid (show Blk w113 w112.heap.size 26 #[.int .i64 0, .int .i64 0, .int .u32 0, .int .u32 0, .int .u64 0, .string ByteArray.empty] by rw [hw113]; exact Blk.new _ _ _)
  replace Pp := Lib.hid (show Blk w113 _ _ _ by rw [hw113]; exact Pp.out.alloc _)
  replace HB := Lib.hid (show Below w.heap.size w w113 by rw [hw113]; exact HB.out.alloc HB.out.size _)
  go_wp2_with fail
  rw [← hw113]
  clear hw113
  clear P9
  refine (HO7 _).mono ?_
  rintro e w114 ⟨rfl, hb⟩
  replace HB := Lib.hid (HB.out.trans (hb.mono HB.out.size))
  replace Pp := Lib.hid (Pp.out.below hb Pp.out.lt)
  clear hb
  go_wp2_with fail
  obtain ⟨w115, hw115⟩ : ∃ w115, w115 = w114.alloc (.cells #[.int .u64 7, .int .i64 128, .int .u32 2, .int .u32 9, .int .u32 9] 31) := ⟨_, rfl⟩
  have Bd := Lib.hid (show Blk w115 w114.heap.size 31 #[.int .u64 7, .int .i64 128, .int .u32 2, .int .u32 9, .int .u32 9] by rw [hw115]; exact Blk.new _ _ _)
  replace Pp := Lib.hid (show Blk w115 _ _ _ by rw [hw115]; exact Pp.out.alloc _)
  replace HB := Lib.hid (show Below w.heap.size w w115 by rw [hw115]; exact HB.out.alloc HB.out.size _)
  rw [← hw115]
  clear hw115
  clear Bd
  refine (HFar _).mono ?_
  rintro e w116 ⟨rfl, hb⟩
  replace HB := Lib.hid (HB.out.trans (hb.mono HB.out.size))
  replace Pp := Lib.hid (Pp.out.below hb Pp.out.lt)
  clear hb
  obtain ⟨w117, hw117⟩ : ∃ w117, w117 = w116.alloc (.cells #[.int .i64 0, .int .i64 0, .int .u32 0, .int .u32 0, .int .u64 0, .string ByteArray.empty] 26) := ⟨_, rfl⟩
  have P9 := Lib.hid (show Blk w117 w116.heap.size 26 #[.int .i64 0, .int .i64 0, .int .u32 0, .int .u32 0, .int .u64 0, .string ByteArray.empty] by rw [hw117]; exact Blk.new _ _ _)
  replace Pp := Lib.hid (show Blk w117 _ _ _ by rw [hw117]; exact Pp.out.alloc _)
  replace HB := Lib.hid (show Below w.heap.size w w117 by rw [hw117]; exact HB.out.alloc HB.out.size _)
  go_wp2_with fail
  rw [← hw117]
  clear hw117
  clear P9
  refine (HOL _).mono ?_
  rintro e w118 ⟨rfl, hb⟩
  replace HB := Lib.hid (HB.out.trans (hb.mono HB.out.size))
  replace Pp := Lib.hid (Pp.out.below hb Pp.out.lt)
  clear hb
  go_wp2_with fail
  obtain ⟨w119, hw119⟩ : ∃ w119, w119 = w118.alloc (.cells #[.int .u64 4611686018427387905, .int .i64 128, .int .u32 2, .int .u32 3, .int .u32 9] 31) := ⟨_, rfl⟩
  have Bd := Lib.hid (show Blk w119 w118.heap.size 31 #[.int .u64 4611686018427387905, .int .i64 128, .int .u32 2, .int .u32 3, .int .u32 9] by rw [hw119]; exact Blk.new _ _ _)
  replace Pp := Lib.hid (show Blk w119 _ _ _ by rw [hw119]; exact Pp.out.alloc _)
  replace HB := Lib.hid (show Below w.heap.size w w119 by rw [hw119]; exact HB.out.alloc HB.out.size _)
  rw [← hw119]
  clear hw119
  clear Bd
  refine (HLate _).mono ?_
  rintro e w120 ⟨rfl, hb⟩
  replace HB := Lib.hid (HB.out.trans (hb.mono HB.out.size))
  replace Pp := Lib.hid (Pp.out.below hb Pp.out.lt)
  clear hb
  obtain ⟨w121, hw121⟩ : ∃ w121, w121 = w120.alloc (.cells #[.int .i64 0, .int .i64 0, .int .u32 0, .int .u32 0, .int .u64 0, .string ByteArray.empty] 26) := ⟨_, rfl⟩
  have P9 := Lib.hid (show Blk w121 w120.heap.size 26 #[.int .i64 0, .int .i64 0, .int .u32 0, .int .u32 0, .int .u64 0, .string ByteArray.empty] by rw [hw121]; exact Blk.new _ _ _)
  replace Pp := Lib.hid (show Blk w121 _ _ _ by rw [hw121]; exact Pp.out.alloc _)
  replace HB := Lib.hid (show Below w.heap.size w w121 by rw [hw121]; exact HB.out.alloc HB.out.size _)
  go_wp2_with fail
  rw [← hw121]
  clear hw121
  clear P9
  refine (HO8 _).mono ?_
  rintro e w122 ⟨rfl, hb⟩
  replace HB := Lib.hid (HB.out.trans (hb.mono HB.out.size))
  replace Pp := Lib.hid (Pp.out.below hb Pp.out.lt)
  clear hb
  go_wp2_with fail
  refine (HK8 _).mono ?_
  rintro e w123 ⟨rfl, hb⟩
  replace HB := Lib.hid (HB.out.trans (hb.mono HB.out.size))
  replace Pp := Lib.hid (Pp.out.below hb Pp.out.lt)
  clear hb
  go_wp2_with fail
  refine (HO7 _).mono ?_
  rintro e w124 ⟨rfl, hb⟩
  replace HB := Lib.hid (HB.out.trans (hb.mono HB.out.size))
  replace Pp := Lib.hid (Pp.out.below hb Pp.out.lt)
  clear hb
  go_wp2_with fail
  refine (HK7 _).mono ?_
  rintro e w125 ⟨rfl, hb⟩
  replace HB := Lib.hid (HB.out.trans (hb.mono HB.out.size))
  replace Pp := Lib.hid (Pp.out.below hb Pp.out.lt)
  clear hb
  go_wp2_with fail
  refine (HBo _).mono ?_
  rintro e w126 ⟨rfl, hb⟩
  replace HB := Lib.hid (HB.out.trans (hb.mono HB.out.size))
  replace Pp := Lib.hid (Pp.out.below hb Pp.out.lt)
  clear hb
  obtain ⟨w127, hw127⟩ : ∃ w127, w127 = w126.alloc (.cells #[.int .u64 8, .int .i64 128, .int .u32 2, .int .u32 3, .int .u32 9, .int .u64 7, .int .i64 128, .int .u32 2, .int .u32 3, .int .u32 9] 36) := ⟨_, rfl⟩
  have A := Lib.hid (show Blk w127 w126.heap.size 36 #[.int .u64 8, .int .i64 128, .int .u32 2, .int .u32 3, .int .u32 9, .int .u64 7, .int .i64 128, .int .u32 2, .int .u32 3, .int .u32 9] by rw [hw127]; exact Blk.new _ _ _)
  replace Pp := Lib.hid (show Blk w127 _ _ _ by rw [hw127]; exact Pp.out.alloc _)
  replace HB := Lib.hid (show Below w.heap.size w w127 by rw [hw127]; exact HB.out.alloc HB.out.size _)
  have hsz : w127.heap.size = w126.heap.size + 1 := by rw [hw127]; simp
  go_wp2_with fail
  rw [← hw127]
  clear hw127
  obtain ⟨w128, hw128⟩ : ∃ w128, w128 = w127.alloc (.cells #[.bool true, .bool true] 37) := ⟨_, rfl⟩
  have Bb := Lib.hid (show Blk w128 w127.heap.size 37 #[.bool true, .bool true] by rw [hw128]; exact Blk.new _ _ _)
  replace Pp := Lib.hid (show Blk w128 _ _ _ by rw [hw128]; exact Pp.out.alloc _)
  replace A := Lib.hid (show Blk w128 _ _ _ by rw [hw128]; exact A.out.alloc _)
  replace HB := Lib.hid (show Below w.heap.size w w128 by rw [hw128]; exact HB.out.alloc HB.out.size _)
  rw [← hw128]
  clear hw128
  rw [hsz] at Bb
  refine (HN1 _).mono ?_
  rintro e w129 ⟨rfl, hb⟩
  replace HB := Lib.hid (HB.out.trans (hb.mono HB.out.size))
  replace Pp := Lib.hid (Pp.out.below hb Pp.out.lt)
  replace A := Lib.hid (A.out.below hb A.out.lt)
  replace Bb := Lib.hid (Bb.out.below hb Bb.out.lt)
  clear hb
  obtain ⟨w130, hw130⟩ : ∃ w130, w130 = w129.alloc (.cells #[.int .u64 8, .int .i64 128, .int .u32 2, .int .u32 3, .int .u32 9] 31) := ⟨_, rfl⟩
  have N1 := Lib.hid (show Blk w130 w129.heap.size 31 #[.int .u64 8, .int .i64 128, .int .u32 2, .int .u32 3, .int .u32 9] by rw [hw130]; exact Blk.new _ _ _)
  replace Pp := Lib.hid (show Blk w130 _ _ _ by rw [hw130]; exact Pp.out.alloc _)
  replace A := Lib.hid (show Blk w130 _ _ _ by rw [hw130]; exact A.out.alloc _)
  replace Bb := Lib.hid (show Blk w130 _ _ _ by rw [hw130]; exact Bb.out.alloc _)
  replace HB := Lib.hid (show Below w.heap.size w w130 by rw [hw130]; exact HB.out.alloc HB.out.size _)
  go_wp2_with fail
  rw [← hw130]
  clear hw130
  refine (HO7 _).mono ?_
  rintro e w131 ⟨rfl, hb⟩
  replace HB := Lib.hid (HB.out.trans (hb.mono HB.out.size))
  replace Pp := Lib.hid (Pp.out.below hb Pp.out.lt)
  replace A := Lib.hid (A.out.below hb A.out.lt)
  replace Bb := Lib.hid (Bb.out.below hb Bb.out.lt)
  replace N1 := Lib.hid (N1.out.below hb N1.out.lt)
  clear hb
  go_wp2_with fail
  refine (HK7 _).mono ?_
  rintro e w132 ⟨rfl, hb⟩
  replace HB := Lib.hid (HB.out.trans (hb.mono HB.out.size))
  replace Pp := Lib.hid (Pp.out.below hb Pp.out.lt)
  replace A := Lib.hid (A.out.below hb A.out.lt)
  replace Bb := Lib.hid (Bb.out.below hb Bb.out.lt)
  replace N1 := Lib.hid (N1.out.below hb N1.out.lt)
  clear hb
  go_wp2_with fail
  refine (HO7 _).mono ?_
  rintro e w133 ⟨rfl, hb⟩
  replace HB := Lib.hid (HB.out.trans (hb.mono HB.out.size))
  replace Pp := Lib.hid (Pp.out.below hb Pp.out.lt)
  replace A := Lib.hid (A.out.below hb A.out.lt)
  replace Bb := Lib.hid (Bb.out.below hb Bb.out.lt)
  replace N1 := Lib.hid (N1.out.below hb N1.out.lt)
  clear hb
  go_wp2_with fail
  refine (HK7 _).mono ?_
  rintro e w134 ⟨rfl, hb⟩
  replace HB := Lib.hid (HB.out.trans (hb.mono HB.out.size))
  replace Pp := Lib.hid (Pp.out.below hb Pp.out.lt)
  replace A := Lib.hid (A.out.below hb A.out.lt)
  replace Bb := Lib.hid (Bb.out.below hb Bb.out.lt)
  replace N1 := Lib.hid (N1.out.below hb N1.out.lt)
  clear hb
  go_wp2_with fail
  refine (HN2 _).mono ?_
  rintro e w135 ⟨rfl, hb⟩
  replace HB := Lib.hid (HB.out.trans (hb.mono HB.out.size))
  replace Pp := Lib.hid (Pp.out.below hb Pp.out.lt)
  replace A := Lib.hid (A.out.below hb A.out.lt)
  replace Bb := Lib.hid (Bb.out.below hb Bb.out.lt)
  replace N1 := Lib.hid (N1.out.below hb N1.out.lt)
  clear hb
  obtain ⟨w136, hw136⟩ : ∃ w136, w136 = w135.alloc (.cells #[.int .u64 7, .int .i64 128, .int .u32 2, .int .u32 3, .int .u32 9] 31) := ⟨_, rfl⟩
  have N2 := Lib.hid (show Blk w136 w135.heap.size 31 #[.int .u64 7, .int .i64 128, .int .u32 2, .int .u32 3, .int .u32 9] by rw [hw136]; exact Blk.new _ _ _)
  replace Pp := Lib.hid (show Blk w136 _ _ _ by rw [hw136]; exact Pp.out.alloc _)
  replace A := Lib.hid (show Blk w136 _ _ _ by rw [hw136]; exact A.out.alloc _)
  replace Bb := Lib.hid (show Blk w136 _ _ _ by rw [hw136]; exact Bb.out.alloc _)
  replace N1 := Lib.hid (show Blk w136 _ _ _ by rw [hw136]; exact N1.out.alloc _)
  replace HB := Lib.hid (show Below w.heap.size w w136 by rw [hw136]; exact HB.out.alloc HB.out.size _)
  go_wp2_with fail
  rw [← hw136]
  clear hw136
  refine (HT _).mono ?_
  rintro e w137 ⟨rfl, rfl⟩
  go_wp2_with fail
  refine (HN3 _).mono ?_
  rintro e w138 ⟨rfl, hb⟩
  replace HB := Lib.hid (HB.out.trans (hb.mono HB.out.size))
  replace Pp := Lib.hid (Pp.out.below hb Pp.out.lt)
  replace A := Lib.hid (A.out.below hb A.out.lt)
  replace Bb := Lib.hid (Bb.out.below hb Bb.out.lt)
  replace N1 := Lib.hid (N1.out.below hb N1.out.lt)
  replace N2 := Lib.hid (N2.out.below hb N2.out.lt)
  clear hb
  obtain ⟨w139, hw139⟩ : ∃ w139, w139 = w138.alloc (.cells #[.int .u64 0, .int .i64 0, .int .u32 0, .int .u32 0, .int .u32 0] 31) := ⟨_, rfl⟩
  have N3 := Lib.hid (show Blk w139 w138.heap.size 31 #[.int .u64 0, .int .i64 0, .int .u32 0, .int .u32 0, .int .u32 0] by rw [hw139]; exact Blk.new _ _ _)
  replace Pp := Lib.hid (show Blk w139 _ _ _ by rw [hw139]; exact Pp.out.alloc _)
  replace A := Lib.hid (show Blk w139 _ _ _ by rw [hw139]; exact A.out.alloc _)
  replace Bb := Lib.hid (show Blk w139 _ _ _ by rw [hw139]; exact Bb.out.alloc _)
  replace N1 := Lib.hid (show Blk w139 _ _ _ by rw [hw139]; exact N1.out.alloc _)
  replace N2 := Lib.hid (show Blk w139 _ _ _ by rw [hw139]; exact N2.out.alloc _)
  replace HB := Lib.hid (show Below w.heap.size w w139 by rw [hw139]; exact HB.out.alloc HB.out.size _)
  go_wp2_with fail
  rw [← hw139]
  clear hw139
  clear N3
  refine (HN4 _).mono ?_
  rintro e w140 ⟨rfl, hb⟩
  replace HB := Lib.hid (HB.out.trans (hb.mono HB.out.size))
  replace Pp := Lib.hid (Pp.out.below hb Pp.out.lt)
  replace A := Lib.hid (A.out.below hb A.out.lt)
  replace Bb := Lib.hid (Bb.out.below hb Bb.out.lt)
  replace N1 := Lib.hid (N1.out.below hb N1.out.lt)
  replace N2 := Lib.hid (N2.out.below hb N2.out.lt)
  clear hb
  obtain ⟨w141, hw141⟩ : ∃ w141, w141 = w140.alloc (.cells #[.int .u64 0, .int .i64 0, .int .u32 0, .int .u32 0, .int .u32 0] 31) := ⟨_, rfl⟩
  have N4 := Lib.hid (show Blk w141 w140.heap.size 31 #[.int .u64 0, .int .i64 0, .int .u32 0, .int .u32 0, .int .u32 0] by rw [hw141]; exact Blk.new _ _ _)
  replace Pp := Lib.hid (show Blk w141 _ _ _ by rw [hw141]; exact Pp.out.alloc _)
  replace A := Lib.hid (show Blk w141 _ _ _ by rw [hw141]; exact A.out.alloc _)
  replace Bb := Lib.hid (show Blk w141 _ _ _ by rw [hw141]; exact Bb.out.alloc _)
  replace N1 := Lib.hid (show Blk w141 _ _ _ by rw [hw141]; exact N1.out.alloc _)
  replace N2 := Lib.hid (show Blk w141 _ _ _ by rw [hw141]; exact N2.out.alloc _)
  replace HB := Lib.hid (show Below w.heap.size w w141 by rw [hw141]; exact HB.out.alloc HB.out.size _)
  go_wp2_with fail
  rw [← hw141]
  clear hw141
  clear N4
  replace Pp := Lib.hid Pp.out.drew
  replace A := Lib.hid A.out.drew
  replace Bb := Lib.hid Bb.out.drew
  replace N1 := Lib.hid N1.out.drew
  replace N2 := Lib.hid N2.out.drew
  replace HB := Lib.hid HB.out.drew
  try simp only [List.append_eq, List.cons_append, List.nil_append]
  refine wp_region_held_drew (S := fun w' => w'.cell? ⟨w103.heap.size, 5, none⟩ = some (.string b) ∧ (w'.cell? ⟨w126.heap.size, 0, none⟩ = some (.int .u64 8) ∧ w'.cell? ⟨w126.heap.size, 1, none⟩ = some (.int .i64 128) ∧ w'.cell? ⟨w126.heap.size, 2, none⟩ = some (.int .u32 2) ∧ w'.cell? ⟨w126.heap.size, 3, none⟩ = some (.int .u32 3) ∧ w'.cell? ⟨w126.heap.size, 4, none⟩ = some (.int .u32 9) ∧ w'.cell? ⟨w126.heap.size, 5, none⟩ = some (.int .u64 7) ∧ w'.cell? ⟨w126.heap.size, 6, none⟩ = some (.int .i64 128) ∧ w'.cell? ⟨w126.heap.size, 7, none⟩ = some (.int .u32 2) ∧ w'.cell? ⟨w126.heap.size, 8, none⟩ = some (.int .u32 3) ∧ w'.cell? ⟨w126.heap.size, 9, none⟩ = some (.int .u32 9)) ∧ (w'.cell? ⟨(w126.heap.size + 1), 0, none⟩ = some (.bool true) ∧ w'.cell? ⟨(w126.heap.size + 1), 1, none⟩ = some (.bool true)) ∧ (w'.cell? ⟨w129.heap.size, 0, none⟩ = some (.int .u64 8) ∧ w'.cell? ⟨w129.heap.size, 1, none⟩ = some (.int .i64 128) ∧ w'.cell? ⟨w129.heap.size, 2, none⟩ = some (.int .u32 2) ∧ w'.cell? ⟨w129.heap.size, 3, none⟩ = some (.int .u32 3) ∧ w'.cell? ⟨w129.heap.size, 4, none⟩ = some (.int .u32 9)) ∧ (w'.cell? ⟨w135.heap.size, 0, none⟩ = some (.int .u64 7) ∧ w'.cell? ⟨w135.heap.size, 1, none⟩ = some (.int .i64 128) ∧ w'.cell? ⟨w135.heap.size, 2, none⟩ = some (.int .u32 2) ∧ w'.cell? ⟨w135.heap.size, 3, none⟩ = some (.int .u32 3) ∧ w'.cell? ⟨w135.heap.size, 4, none⟩ = some (.int .u32 9))) (by kernel_rfl) ⟨meta_pg Pp.out, metas_ten A.out, bools_two Bb.out, meta_cells N1.out, meta_cells N2.out⟩ (fun hHeld => ?_)
  refine wpAnyH_takeL (i := 0) (v := ?_) rfl (by decide +kernel) (by decide +kernel) (by decide +kernel) (fun _ _ _ h => h) (Or.inl ⟨by rfl, ?_⟩) (by first | trivial | assumption) ?_
  rotate_left
  · intro wz hSz; (try dsimp only at hSz); go_simp; (try with_reducible rfl)
  try simp only [Act.put, List.setIfInBounds_toArray, List.set_cons_zero, List.set_cons_succ]
  refine wpAnyH_takeL (i := 1) (v := ?_) rfl (by decide +kernel) (by decide +kernel) (by decide +kernel) (fun _ _ _ h => h) (Or.inl ⟨by rfl, ?_⟩) (by first | trivial | assumption) ?_
  rotate_left
  · intro wz hSz; (try dsimp only at hSz); go_simp; (try with_reducible rfl)
  try simp only [Act.put, List.setIfInBounds_toArray, List.set_cons_zero, List.set_cons_succ]
  refine wpAnyH_takeL (i := 2) (v := ?_) rfl (by decide +kernel) (by decide +kernel) (by decide +kernel) (fun _ _ _ h => h) (Or.inl ⟨by rfl, ?_⟩) (by first | trivial | assumption) ?_
  rotate_left
  · intro wz hSz; (try dsimp only at hSz); go_simp; (try with_reducible rfl)
  try simp only [Act.put, List.setIfInBounds_toArray, List.set_cons_zero, List.set_cons_succ]
  refine wpAnyH_takeL (i := 3) (v := ?_) rfl (by decide +kernel) (by decide +kernel) (by decide +kernel) (fun _ _ _ h => h) (Or.inl ⟨by rfl, ?_⟩) (by first | trivial | assumption) ?_
  rotate_left
  · intro wz hSz; (try dsimp only at hSz); go_simp; (try with_reducible rfl)
  try simp only [Act.put, List.setIfInBounds_toArray, List.set_cons_zero, List.set_cons_succ]
  refine wpAnyH_takeL (i := 4) (v := ?_) rfl (by decide +kernel) (by decide +kernel) (by decide +kernel) (fun _ _ _ h => h) (Or.inl ⟨by rfl, ?_⟩) (by first | trivial | assumption) ?_
  rotate_left
  · intro wz hSz; (try dsimp only at hSz); go_simp; (try with_reducible rfl)
  try simp only [Act.put, List.setIfInBounds_toArray, List.set_cons_zero, List.set_cons_succ]
  refine wpAnyH_takeL (i := 5) (v := ?_) rfl (by decide +kernel) (by decide +kernel) (by decide +kernel) (fun _ _ _ h => h) (Or.inl ⟨by rfl, ?_⟩) (by first | trivial | assumption) ?_
  rotate_left
  · intro wz hSz; (try dsimp only at hSz); go_simp; (try with_reducible rfl)
  try simp only [Act.put, List.setIfInBounds_toArray, List.set_cons_zero, List.set_cons_succ]
  refine wpAnyH_takeL (i := 6) (v := ?_) rfl (by decide +kernel) (by decide +kernel) (by decide +kernel) (fun _ _ _ h => h) (Or.inl ⟨by rfl, ?_⟩) (by first | trivial | assumption) ?_
  rotate_left
  · intro wz hSz; (try dsimp only at hSz); go_simp; (try with_reducible rfl)
  try simp only [Act.put, List.setIfInBounds_toArray, List.set_cons_zero, List.set_cons_succ]
  refine wpAnyH_takeL (i := 7) (v := ?_) rfl (by decide +kernel) (by decide +kernel) (by decide +kernel) (fun _ _ _ h => h) (Or.inl ⟨by rfl, ?_⟩) (by first | trivial | assumption) ?_
  rotate_left
  · intro wz hSz; (try dsimp only at hSz); go_simp; (try with_reducible rfl)
  try simp only [Act.put, List.setIfInBounds_toArray, List.set_cons_zero, List.set_cons_succ]
  refine wpAnyH_takeL (i := 8) (v := ?_) rfl (by decide +kernel) (by decide +kernel) (by decide +kernel) (fun _ _ _ h => h) (Or.inl ⟨by rfl, ?_⟩) (by first | trivial | assumption) ?_
  rotate_left
  · intro wz hSz; (try dsimp only at hSz); go_simp; (try with_reducible rfl)
  try simp only [Act.put, List.setIfInBounds_toArray, List.set_cons_zero, List.set_cons_succ]
  refine wpAnyH_takeL (i := 9) (v := ?_) rfl (by decide +kernel) (by decide +kernel) (by decide +kernel) (fun _ _ _ h => h) (Or.inl ⟨by rfl, ?_⟩) (by first | trivial | assumption) ?_
  rotate_left
  · intro wz hSz; (try dsimp only at hSz); go_simp; (try with_reducible rfl)
  try simp only [Act.put, List.setIfInBounds_toArray, List.set_cons_zero, List.set_cons_succ]
  refine wpAnyH_takeL (i := 10) (v := ?_) rfl (by decide +kernel) (by decide +kernel) (by decide +kernel) (fun _ _ _ h => h) (Or.inl ⟨by rfl, ?_⟩) (by first | trivial | assumption) ?_
  rotate_left
  · intro wz hSz; (try dsimp only at hSz); go_simp; (try with_reducible rfl)
  try simp only [Act.put, List.setIfInBounds_toArray, List.set_cons_zero, List.set_cons_succ]
  refine wpAnyH_takeL (i := 11) (v := ?_) rfl (by decide +kernel) (by decide +kernel) (by decide +kernel) (fun _ _ _ h => h) (Or.inl ⟨by rfl, ?_⟩) (by first | trivial | assumption) ?_
  rotate_left
  · intro wz hSz; (try dsimp only at hSz); go_simp; (try with_reducible rfl)
  try simp only [Act.put, List.setIfInBounds_toArray, List.set_cons_zero, List.set_cons_succ]
  refine wpAnyH_takeL (i := 12) (v := ?_) rfl (by decide +kernel) (by decide +kernel) (by decide +kernel) (fun _ _ _ h => h) (Or.inl ⟨by rfl, ?_⟩) (by first | trivial | assumption) ?_
  rotate_left
  · intro wz hSz; (try dsimp only at hSz); go_simp; (try with_reducible rfl)
  try simp only [Act.put, List.setIfInBounds_toArray, List.set_cons_zero, List.set_cons_succ]
  refine wpAnyH_takeL (i := 13) (v := ?_) rfl (by decide +kernel) (by decide +kernel) (by decide +kernel) (fun _ _ _ h => h) (Or.inl ⟨by rfl, ?_⟩) (by first | trivial | assumption) ?_
  rotate_left
  · intro wz hSz; (try dsimp only at hSz); go_simp; (try with_reducible rfl)
  try simp only [Act.put, List.setIfInBounds_toArray, List.set_cons_zero, List.set_cons_succ]
  refine wpAnyH_takeL (i := 14) (v := ?_) rfl (by decide +kernel) (by decide +kernel) (by decide +kernel) (fun _ _ _ h => h) (Or.inl ⟨by rfl, ?_⟩) (by first | trivial | assumption) ?_
  rotate_left
  · intro wz hSz; (try dsimp only at hSz); go_simp; (try with_reducible rfl)
  try simp only [Act.put, List.setIfInBounds_toArray, List.set_cons_zero, List.set_cons_succ]
  refine wpAnyH_takeL (i := 15) (v := ?_) rfl (by decide +kernel) (by decide +kernel) (by decide +kernel) (fun _ _ _ h => h) (Or.inl ⟨by rfl, ?_⟩) (by first | trivial | assumption) ?_
  rotate_left
  · intro wz hSz; (try dsimp only at hSz); go_simp; (try with_reducible rfl)
  try simp only [Act.put, List.setIfInBounds_toArray, List.set_cons_zero, List.set_cons_succ]
  refine wpAnyH_takeL (i := 16) (v := ?_) rfl (by decide +kernel) (by decide +kernel) (by decide +kernel) (fun _ _ _ h => h) (Or.inl ⟨by rfl, ?_⟩) (by first | trivial | assumption) ?_
  rotate_left
  · intro wz hSz; (try dsimp only at hSz); go_simp; (try with_reducible rfl)
  try simp only [Act.put, List.setIfInBounds_toArray, List.set_cons_zero, List.set_cons_succ]
  refine wpAnyH_takeL (i := 17) (v := ?_) rfl (by decide +kernel) (by decide +kernel) (by decide +kernel) (fun _ _ _ h => h) (Or.inl ⟨by rfl, ?_⟩) (by first | trivial | assumption) ?_
  rotate_left
  · intro wz hSz; (try dsimp only at hSz); go_simp; (try with_reducible rfl)
  try simp only [Act.put, List.setIfInBounds_toArray, List.set_cons_zero, List.set_cons_succ]
  refine wpAnyH_takeL (i := 18) (v := ?_) rfl (by decide +kernel) (by decide +kernel) (by decide +kernel) (fun _ _ _ h => h) (Or.inl ⟨by rfl, ?_⟩) (by first | trivial | assumption) ?_
  rotate_left
  · intro wz hSz; (try dsimp only at hSz); go_simp; (try with_reducible rfl)
  try simp only [Act.put, List.setIfInBounds_toArray, List.set_cons_zero, List.set_cons_succ]
  refine wpAnyH_takeL (i := 19) (v := ?_) rfl (by decide +kernel) (by decide +kernel) (by decide +kernel) (fun _ _ _ h => h) (Or.inl ⟨by rfl, ?_⟩) (by first | trivial | assumption) ?_
  rotate_left
  · intro wz hSz; (try dsimp only at hSz); go_simp; (try with_reducible rfl)
  try simp only [Act.put, List.setIfInBounds_toArray, List.set_cons_zero, List.set_cons_succ]
  refine wpAnyH_takeL (i := 20) (v := ?_) rfl (by decide +kernel) (by decide +kernel) (by decide +kernel) (fun _ _ _ h => h) (Or.inl ⟨by rfl, ?_⟩) (by first | trivial | assumption) ?_
  rotate_left
  · intro wz hSz; (try dsimp only at hSz); go_simp; (try with_reducible rfl)
  try simp only [Act.put, List.setIfInBounds_toArray, List.set_cons_zero, List.set_cons_succ]
  refine wpAnyH_takeL (i := 21) (v := ?_) rfl (by decide +kernel) (by decide +kernel) (by decide +kernel) (fun _ _ _ h => h) (Or.inl ⟨by rfl, ?_⟩) (by first | trivial | assumption) ?_
  rotate_left
  · intro wz hSz; (try dsimp only at hSz); go_simp; (try with_reducible rfl)
  try simp only [Act.put, List.setIfInBounds_toArray, List.set_cons_zero, List.set_cons_succ]
  refine wpAnyH_takeL (i := 22) (v := ?_) rfl (by decide +kernel) (by decide +kernel) (by decide +kernel) (fun _ _ _ h => h) (Or.inl ⟨by rfl, ?_⟩) (by first | trivial | assumption) ?_
  rotate_left
  · intro wz hSz; (try dsimp only at hSz); go_simp; (try with_reducible rfl)
  try simp only [Act.put, List.setIfInBounds_toArray, List.set_cons_zero, List.set_cons_succ]
  refine wpAnyH_takeL (i := 23) (v := ?_) rfl (by decide +kernel) (by decide +kernel) (by decide +kernel) (fun _ _ _ h => h) (Or.inl ⟨by rfl, ?_⟩) (by first | trivial | assumption) ?_
  rotate_left
  · intro wz hSz; (try dsimp only at hSz); go_simp; (try with_reducible rfl)
  try simp only [Act.put, List.setIfInBounds_toArray, List.set_cons_zero, List.set_cons_succ]
  refine wpAnyH_takeL (i := 24) (v := ?_) rfl (by decide +kernel) (by decide +kernel) (by decide +kernel) (fun _ _ _ h => h) (Or.inl ⟨by rfl, ?_⟩) (by first | trivial | assumption) ?_
  rotate_left
  · intro wz hSz; (try dsimp only at hSz); go_simp; (try with_reducible rfl)
  try simp only [Act.put, List.setIfInBounds_toArray, List.set_cons_zero, List.set_cons_succ]
  refine wpAnyH_ready (rs := [25]) (by decide +kernel) (by simp) ?_
  refine AllReadyH.consL rfl (fun K hK => ?_) AllReadyH.nil
  go_simp
  refine (HO8 _).mono ?_
  rintro e wq ⟨rfl, hb⟩
  replace Pp := Lib.hid (Pp.out.below hb Pp.out.lt)
  replace A := Lib.hid (A.out.below hb A.out.lt)
  replace Bb := Lib.hid (Bb.out.below hb Bb.out.lt)
  replace N1 := Lib.hid (N1.out.below hb N1.out.lt)
  replace N2 := Lib.hid (N2.out.below hb N2.out.lt)
  replace HB := Lib.hid (HB.out.trans (hb.mono HB.out.size))
  clear hb
  refine hK.out _ _ (⟨meta_pg Pp.out, metas_ten A.out, bools_two Bb.out, meta_cells N1.out, meta_cells N2.out⟩) (fun hHeld => ?_)
  clear hK K
  try simp only [Act.put, List.setIfInBounds_toArray, List.set_cons_zero, List.set_cons_succ]
  refine wpAnyH_ready (rs := [26]) (by decide +kernel) (by simp) ?_
  refine AllReadyH.consL rfl (fun K hK => ?_) AllReadyH.nil
  go_simp
  refine (HO7 _).mono ?_
  rintro e wq ⟨rfl, hb⟩
  replace Pp := Lib.hid (Pp.out.below hb Pp.out.lt)
  replace A := Lib.hid (A.out.below hb A.out.lt)
  replace Bb := Lib.hid (Bb.out.below hb Bb.out.lt)
  replace N1 := Lib.hid (N1.out.below hb N1.out.lt)
  replace N2 := Lib.hid (N2.out.below hb N2.out.lt)
  replace HB := Lib.hid (HB.out.trans (hb.mono HB.out.size))
  clear hb
  refine hK.out _ _ (⟨meta_pg Pp.out, metas_ten A.out, bools_two Bb.out, meta_cells N1.out, meta_cells N2.out⟩) (fun hHeld => ?_)
  clear hK K
  try simp only [Act.put, List.setIfInBounds_toArray, List.set_cons_zero, List.set_cons_succ]
  refine wpAnyH_takeL (i := 27) (v := ?_) rfl (by decide +kernel) (by decide +kernel) (by decide +kernel) (fun _ _ _ h => h) (Or.inl ⟨by rfl, ?_⟩) (by first | trivial | assumption) ?_
  rotate_left
  · intro wz hSz; (try dsimp only at hSz); go_simp; (try with_reducible rfl)
  try simp only [Act.put, List.setIfInBounds_toArray, List.set_cons_zero, List.set_cons_succ]
  refine wpAnyH_takeL (i := 28) (v := ?_) rfl (by decide +kernel) (by decide +kernel) (by decide +kernel) (fun _ _ _ h => h) (Or.inl ⟨by rfl, ?_⟩) (by first | trivial | assumption) ?_
  rotate_left
  · intro wz hSz; (try dsimp only at hSz); go_simp; (try with_reducible rfl)
  try simp only [Act.put, List.setIfInBounds_toArray, List.set_cons_zero, List.set_cons_succ]
  refine wpAnyH_takeL (i := 29) (v := ?_) rfl (by decide +kernel) (by decide +kernel) (by decide +kernel) (fun _ _ _ h => h) (Or.inl ⟨by rfl, ?_⟩) (by first | trivial | assumption) ?_
  rotate_left
  · intro wz hSz; (try dsimp only at hSz); go_simp; (try with_reducible rfl)
  try simp only [Act.put, List.setIfInBounds_toArray, List.set_cons_zero, List.set_cons_succ]
  refine wpAnyH_takeL (i := 30) (v := ?_) rfl (by decide +kernel) (by decide +kernel) (by decide +kernel) (fun _ _ _ h => h) (Or.inl ⟨by rfl, ?_⟩) (by first | trivial | assumption) ?_
  rotate_left
  · intro wz hSz; (try dsimp only at hSz); go_simp; (try with_reducible rfl)
  try simp only [Act.put, List.setIfInBounds_toArray, List.set_cons_zero, List.set_cons_succ]
  refine wpAnyH_takeL (i := 31) (v := ?_) rfl (by decide +kernel) (by decide +kernel) (by decide +kernel) (fun _ _ _ h => h) (Or.inl ⟨by rfl, ?_⟩) (by first | trivial | assumption) ?_
  rotate_left
  · intro wz hSz; (try dsimp only at hSz); go_simp; (try with_reducible rfl)
  try simp only [Act.put, List.setIfInBounds_toArray, List.set_cons_zero, List.set_cons_succ]
  refine wpAnyH_takeL (i := 32) (v := ?_) rfl (by decide +kernel) (by decide +kernel) (by decide +kernel) (fun _ _ _ h => h) (Or.inl ⟨by rfl, ?_⟩) (by first | trivial | assumption) ?_
  rotate_left
  · intro wz hSz; (try dsimp only at hSz); go_simp; (try with_reducible rfl)
  try simp only [Act.put, List.setIfInBounds_toArray, List.set_cons_zero, List.set_cons_succ]
  refine wpAnyH_takeL (i := 33) (v := ?_) rfl (by decide +kernel) (by decide +kernel) (by decide +kernel) (fun _ _ _ h => h) (Or.inl ⟨by rfl, ?_⟩) (by first | trivial | assumption) ?_
  rotate_left
  · intro wz hSz; (try dsimp only at hSz); go_simp; (try with_reducible rfl)
  try simp only [Act.put, List.setIfInBounds_toArray, List.set_cons_zero, List.set_cons_succ]
  refine wpAnyH_takeL (i := 34) (v := ?_) rfl (by decide +kernel) (by decide +kernel) (by decide +kernel) (fun _ _ _ h => h) (Or.inl ⟨by rfl, ?_⟩) (by first | trivial | assumption) ?_
  rotate_left
  · intro wz hSz; (try dsimp only at hSz); go_simp; (try with_reducible rfl)
  try simp only [Act.put, List.setIfInBounds_toArray, List.set_cons_zero, List.set_cons_succ]
  refine wpAnyH_takeL (i := 35) (v := ?_) rfl (by decide +kernel) (by decide +kernel) (by decide +kernel) (fun _ _ _ h => h) (Or.inl ⟨by rfl, ?_⟩) (by first | trivial | assumption) ?_
  rotate_left
  · intro wz hSz; (try dsimp only at hSz); go_simp; (try with_reducible rfl)
  try simp only [Act.put, List.setIfInBounds_toArray, List.set_cons_zero, List.set_cons_succ]
  refine wpAnyH_ready (rs := [36]) (by decide +kernel) (by simp) ?_
  refine AllReadyH.consL rfl (fun K hK => ?_) AllReadyH.nil
  go_simp
  refine (HO8 _).mono ?_
  rintro e wq ⟨rfl, hb⟩
  replace Pp := Lib.hid (Pp.out.below hb Pp.out.lt)
  replace A := Lib.hid (A.out.below hb A.out.lt)
  replace Bb := Lib.hid (Bb.out.below hb Bb.out.lt)
  replace N1 := Lib.hid (N1.out.below hb N1.out.lt)
  replace N2 := Lib.hid (N2.out.below hb N2.out.lt)
  replace HB := Lib.hid (HB.out.trans (hb.mono HB.out.size))
  clear hb
  refine hK.out _ _ (⟨meta_pg Pp.out, metas_ten A.out, bools_two Bb.out, meta_cells N1.out, meta_cells N2.out⟩) (fun hHeld => ?_)
  clear hK K
  try simp only [Act.put, List.setIfInBounds_toArray, List.set_cons_zero, List.set_cons_succ]
  refine wpAnyH_takeL (i := 37) (v := ?_) rfl (by decide +kernel) (by decide +kernel) (by decide +kernel) (fun _ _ _ h => h) (Or.inl ⟨by rfl, ?_⟩) (by first | trivial | assumption) ?_
  rotate_left
  · intro wz hSz; (try dsimp only at hSz); go_simp; (try with_reducible rfl)
  try simp only [Act.put, List.setIfInBounds_toArray, List.set_cons_zero, List.set_cons_succ]
  refine wpAnyH_takeL (i := 38) (v := ?_) rfl (by decide +kernel) (by decide +kernel) (by decide +kernel) (fun _ _ _ h => h) (Or.inl ⟨by rfl, ?_⟩) (by first | trivial | assumption) ?_
  rotate_left
  · intro wz hSz; (try dsimp only at hSz); go_simp; (try with_reducible rfl)
  try simp only [Act.put, List.setIfInBounds_toArray, List.set_cons_zero, List.set_cons_succ]
  refine wpAnyH_takeL (i := 39) (v := ?_) rfl (by decide +kernel) (by decide +kernel) (by decide +kernel) (fun _ _ _ h => h) (Or.inl ⟨by rfl, ?_⟩) (by first | trivial | assumption) ?_
  rotate_left
  · intro wz hSz; (try dsimp only at hSz); go_simp; (try with_reducible rfl)
  try simp only [Act.put, List.setIfInBounds_toArray, List.set_cons_zero, List.set_cons_succ]
  refine wpAnyH_takeL (i := 40) (v := ?_) rfl (by decide +kernel) (by decide +kernel) (by decide +kernel) (fun _ _ _ h => h) (Or.inl ⟨by rfl, ?_⟩) (by first | trivial | assumption) ?_
  rotate_left
  · intro wz hSz; (try dsimp only at hSz); go_simp; (try with_reducible rfl)
  try simp only [Act.put, List.setIfInBounds_toArray, List.set_cons_zero, List.set_cons_succ]
  refine wpAnyH_takeL (i := 41) (v := ?_) rfl (by decide +kernel) (by decide +kernel) (by decide +kernel) (fun _ _ _ h => h) (Or.inl ⟨by rfl, ?_⟩) (by first | trivial | assumption) ?_
  rotate_left
  · intro wz hSz; (try dsimp only at hSz); go_simp; (try with_reducible rfl)
  try simp only [Act.put, List.setIfInBounds_toArray, List.set_cons_zero, List.set_cons_succ]
  refine wpAnyH_takeL (i := 42) (v := ?_) rfl (by decide +kernel) (by decide +kernel) (by decide +kernel) (fun _ _ _ h => h) (Or.inl ⟨by rfl, ?_⟩) (by first | trivial | assumption) ?_
  rotate_left
  · intro wz hSz; (try dsimp only at hSz); go_simp; (try with_reducible rfl)
  try simp only [Act.put, List.setIfInBounds_toArray, List.set_cons_zero, List.set_cons_succ]
  refine wpAnyH_takeL (i := 43) (v := ?_) rfl (by decide +kernel) (by decide +kernel) (by decide +kernel) (fun _ _ _ h => h) (Or.inl ⟨by rfl, ?_⟩) (by first | trivial | assumption) ?_
  rotate_left
  · intro wz hSz; (try dsimp only at hSz); go_simp; (try with_reducible rfl)
  try simp only [Act.put, List.setIfInBounds_toArray, List.set_cons_zero, List.set_cons_succ]
  refine wpAnyH_takeL (i := 44) (v := ?_) rfl (by decide +kernel) (by decide +kernel) (by decide +kernel) (fun _ _ _ h => h) (Or.inl ⟨by rfl, ?_⟩) (by first | trivial | assumption) ?_
  rotate_left
  · intro wz hSz; (try dsimp only at hSz); go_simp; (try with_reducible rfl)
  try simp only [Act.put, List.setIfInBounds_toArray, List.set_cons_zero, List.set_cons_succ]
  refine wpAnyH_ready (rs := [45]) (by decide +kernel) (by simp) ?_
  refine AllReadyH.consL rfl (fun K hK => ?_) AllReadyH.nil
  go_simp
  refine (HO7 _).mono ?_
  rintro e wq ⟨rfl, hb⟩
  replace Pp := Lib.hid (Pp.out.below hb Pp.out.lt)
  replace A := Lib.hid (A.out.below hb A.out.lt)
  replace Bb := Lib.hid (Bb.out.below hb Bb.out.lt)
  replace N1 := Lib.hid (N1.out.below hb N1.out.lt)
  replace N2 := Lib.hid (N2.out.below hb N2.out.lt)
  replace HB := Lib.hid (HB.out.trans (hb.mono HB.out.size))
  clear hb
  refine hK.out _ _ (⟨meta_pg Pp.out, metas_ten A.out, bools_two Bb.out, meta_cells N1.out, meta_cells N2.out⟩) (fun hHeld => ?_)
  clear hK K
  try simp only [Act.put, List.setIfInBounds_toArray, List.set_cons_zero, List.set_cons_succ]
  refine wpAnyH_takeL (i := 46) (v := ?_) rfl (by decide +kernel) (by decide +kernel) (by decide +kernel) (fun _ _ _ h => h) (Or.inl ⟨by rfl, ?_⟩) (by first | trivial | assumption) ?_
  rotate_left
  · intro wz hSz; (try dsimp only at hSz); go_simp; (try with_reducible rfl)
  try simp only [Act.put, List.setIfInBounds_toArray, List.set_cons_zero, List.set_cons_succ]
  refine wpAnyH_takeL (i := 47) (v := ?_) rfl (by decide +kernel) (by decide +kernel) (by decide +kernel) (fun _ _ _ h => h) (Or.inl ⟨by rfl, ?_⟩) (by first | trivial | assumption) ?_
  rotate_left
  · intro wz hSz; (try dsimp only at hSz); go_simp; (try with_reducible rfl)
  try simp only [Act.put, List.setIfInBounds_toArray, List.set_cons_zero, List.set_cons_succ]
  refine wpAnyH_takeL (i := 48) (v := ?_) rfl (by decide +kernel) (by decide +kernel) (by decide +kernel) (fun _ _ _ h => h) (Or.inl ⟨by rfl, ?_⟩) (by first | trivial | assumption) ?_
  rotate_left
  · intro wz hSz; (try dsimp only at hSz); go_simp; (try with_reducible rfl)
  try simp only [Act.put, List.setIfInBounds_toArray, List.set_cons_zero, List.set_cons_succ]
  refine wpAnyH_takeL (i := 49) (v := ?_) rfl (by decide +kernel) (by decide +kernel) (by decide +kernel) (fun _ _ _ h => h) (Or.inl ⟨by rfl, ?_⟩) (by first | trivial | assumption) ?_
  rotate_left
  · intro wz hSz; (try dsimp only at hSz); go_simp; (try with_reducible rfl)
  try simp only [Act.put, List.setIfInBounds_toArray, List.set_cons_zero, List.set_cons_succ]
  refine wpAnyH_takeL (i := 50) (v := ?_) rfl (by decide +kernel) (by decide +kernel) (by decide +kernel) (fun _ _ _ h => h) (Or.inl ⟨by rfl, ?_⟩) (by first | trivial | assumption) ?_
  rotate_left
  · intro wz hSz; (try dsimp only at hSz); go_simp; (try with_reducible rfl)
  try simp only [Act.put, List.setIfInBounds_toArray, List.set_cons_zero, List.set_cons_succ]
  refine wpAnyH_takeL (i := 51) (v := ?_) rfl (by decide +kernel) (by decide +kernel) (by decide +kernel) (fun _ _ _ h => h) (Or.inl ⟨by rfl, ?_⟩) (by first | trivial | assumption) ?_
  rotate_left
  · intro wz hSz; (try dsimp only at hSz); go_simp; (try with_reducible rfl)
  try simp only [Act.put, List.setIfInBounds_toArray, List.set_cons_zero, List.set_cons_succ]
  refine wpAnyH_takeL (i := 52) (v := ?_) rfl (by decide +kernel) (by decide +kernel) (by decide +kernel) (fun _ _ _ h => h) (Or.inl ⟨by rfl, ?_⟩) (by first | trivial | assumption) ?_
  rotate_left
  · intro wz hSz; (try dsimp only at hSz); go_simp; (try with_reducible rfl)
  try simp only [Act.put, List.setIfInBounds_toArray, List.set_cons_zero, List.set_cons_succ]
  refine wpAnyH_takeL (i := 53) (v := ?_) rfl (by decide +kernel) (by decide +kernel) (by decide +kernel) (fun _ _ _ h => h) (Or.inl ⟨by rfl, ?_⟩) (by first | trivial | assumption) ?_
  rotate_left
  · intro wz hSz; (try dsimp only at hSz); go_simp; (try with_reducible rfl)
  try simp only [Act.put, List.setIfInBounds_toArray, List.set_cons_zero, List.set_cons_succ]
  refine wpAnyH_takeL (i := 54) (v := ?_) rfl (by decide +kernel) (by decide +kernel) (by decide +kernel) (fun _ _ _ h => h) (Or.inl ⟨by rfl, ?_⟩) (by first | trivial | assumption) ?_
  rotate_left
  · intro wz hSz; (try dsimp only at hSz); go_simp; (try with_reducible rfl)
  try simp only [Act.put, List.setIfInBounds_toArray, List.set_cons_zero, List.set_cons_succ]
  refine wpAnyH_takeL (i := 55) (v := ?_) rfl (by decide +kernel) (by decide +kernel) (by decide +kernel) (fun _ _ _ h => h) (Or.inl ⟨by rfl, ?_⟩) (by first | trivial | assumption) ?_
  rotate_left
  · intro wz hSz; (try dsimp only at hSz); go_simp; (try with_reducible rfl)
  try simp only [Act.put, List.setIfInBounds_toArray, List.set_cons_zero, List.set_cons_succ]
  refine wpAnyH_takeL (i := 56) (v := ?_) rfl (by decide +kernel) (by decide +kernel) (by decide +kernel) (fun _ _ _ h => h) (Or.inl ⟨by rfl, ?_⟩) (by first | trivial | assumption) ?_
  rotate_left
  · intro wz hSz; (try dsimp only at hSz); go_simp; (try with_reducible rfl)
  try simp only [Act.put, List.setIfInBounds_toArray, List.set_cons_zero, List.set_cons_succ]
  refine wpAnyH_takeL (i := 57) (v := ?_) rfl (by decide +kernel) (by decide +kernel) (by decide +kernel) (fun _ _ _ h => h) (Or.inl ⟨by rfl, ?_⟩) (by first | trivial | assumption) ?_
  rotate_left
  · intro wz hSz; (try dsimp only at hSz); go_simp; (try with_reducible rfl)
  try simp only [Act.put, List.setIfInBounds_toArray, List.set_cons_zero, List.set_cons_succ]
  refine wpAnyH_takeL (i := 58) (v := ?_) rfl (by decide +kernel) (by decide +kernel) (by decide +kernel) (fun _ _ _ h => h) (Or.inl ⟨by rfl, ?_⟩) (by first | trivial | assumption) ?_
  rotate_left
  · intro wz hSz; (try dsimp only at hSz); go_simp; (try with_reducible rfl)
  try simp only [Act.put, List.setIfInBounds_toArray, List.set_cons_zero, List.set_cons_succ]
  refine wpAnyH_takeL (i := 59) (v := ?_) rfl (by decide +kernel) (by decide +kernel) (by decide +kernel) (fun _ _ _ h => h) (Or.inl ⟨by rfl, ?_⟩) (by first | trivial | assumption) ?_
  rotate_left
  · intro wz hSz; (try dsimp only at hSz); go_simp; (try with_reducible rfl)
  try simp only [Act.put, List.setIfInBounds_toArray, List.set_cons_zero, List.set_cons_succ]
  refine wpAnyH_takeL (i := 60) (v := ?_) rfl (by decide +kernel) (by decide +kernel) (by decide +kernel) (fun _ _ _ h => h) (Or.inl ⟨by rfl, ?_⟩) (by first | trivial | assumption) ?_
  rotate_left
  · intro wz hSz; (try dsimp only at hSz); go_simp; (try with_reducible rfl)
  try simp only [Act.put, List.setIfInBounds_toArray, List.set_cons_zero, List.set_cons_succ]
  refine wpAnyH_takeL (i := 61) (v := ?_) rfl (by decide +kernel) (by decide +kernel) (by decide +kernel) (fun _ _ _ h => h) (Or.inl ⟨by rfl, ?_⟩) (by first | trivial | assumption) ?_
  rotate_left
  · intro wz hSz; (try dsimp only at hSz); go_simp; (try with_reducible rfl)
  try simp only [Act.put, List.setIfInBounds_toArray, List.set_cons_zero, List.set_cons_succ]
  refine wpAnyH_takeL (i := 62) (v := ?_) rfl (by decide +kernel) (by decide +kernel) (by decide +kernel) (fun _ _ _ h => h) (Or.inl ⟨by rfl, ?_⟩) (by first | trivial | assumption) ?_
  rotate_left
  · intro wz hSz; (try dsimp only at hSz); go_simp; (try with_reducible rfl)
  try simp only [Act.put, List.setIfInBounds_toArray, List.set_cons_zero, List.set_cons_succ]
  refine wpAnyH_takeL (i := 63) (v := ?_) rfl (by decide +kernel) (by decide +kernel) (by decide +kernel) (fun _ _ _ h => h) (Or.inl ⟨by rfl, ?_⟩) (by first | trivial | assumption) ?_
  rotate_left
  · intro wz hSz; (try dsimp only at hSz); go_simp; (try with_reducible rfl)
  try simp only [Act.put, List.setIfInBounds_toArray, List.set_cons_zero, List.set_cons_succ]
  refine wpAnyH_takeL (i := 64) (v := ?_) rfl (by decide +kernel) (by decide +kernel) (by decide +kernel) (fun _ _ _ h => h) (Or.inl ⟨by rfl, ?_⟩) (by first | trivial | assumption) ?_
  rotate_left
  · intro wz hSz; (try dsimp only at hSz); go_simp; (try with_reducible rfl)
  try simp only [Act.put, List.setIfInBounds_toArray, List.set_cons_zero, List.set_cons_succ]
  refine wpAnyH_takeL (i := 65) (v := ?_) rfl (by decide +kernel) (by decide +kernel) (by decide +kernel) (fun _ _ _ h => h) (Or.inl ⟨by rfl, ?_⟩) (by first | trivial | assumption) ?_
  rotate_left
  · intro wz hSz; (try dsimp only at hSz); go_simp; (try with_reducible rfl)
  try simp only [Act.put, List.setIfInBounds_toArray, List.set_cons_zero, List.set_cons_succ]
  refine wpAnyH_takeL (i := 66) (v := ?_) rfl (by decide +kernel) (by decide +kernel) (by decide +kernel) (fun _ _ _ h => h) (Or.inl ⟨by rfl, ?_⟩) (by first | trivial | assumption) ?_
  rotate_left
  · intro wz hSz; (try dsimp only at hSz); go_simp; (try with_reducible rfl)
  try simp only [Act.put, List.setIfInBounds_toArray, List.set_cons_zero, List.set_cons_succ]
  refine wpAnyH_takeL (i := 67) (v := ?_) rfl (by decide +kernel) (by decide +kernel) (by decide +kernel) (fun _ _ _ h => h) (Or.inl ⟨by rfl, ?_⟩) (by first | trivial | assumption) ?_
  rotate_left
  · intro wz hSz; (try dsimp only at hSz); go_simp; (try with_reducible rfl)
  try simp only [Act.put, List.setIfInBounds_toArray, List.set_cons_zero, List.set_cons_succ]
  refine wpAnyH_takeL (i := 68) (v := ?_) rfl (by decide +kernel) (by decide +kernel) (by decide +kernel) (fun _ _ _ h => h) (Or.inl ⟨by rfl, ?_⟩) (by first | trivial | assumption) ?_
  rotate_left
  · intro wz hSz; (try dsimp only at hSz); go_simp; (try with_reducible rfl)
  try simp only [Act.put, List.setIfInBounds_toArray, List.set_cons_zero, List.set_cons_succ]
  refine wpAnyH_ready (rs := [69]) (by decide +kernel) (by simp) ?_
  refine AllReadyH.consL rfl (fun K hK => ?_) AllReadyH.nil
  go_simp
  refine (HS0 _).mono ?_
  rintro e wq ⟨rfl, rfl⟩
  refine hK.out _ _ (⟨meta_pg Pp.out, metas_ten A.out, bools_two Bb.out, meta_cells N1.out, meta_cells N2.out⟩) (fun hHeld => ?_)
  clear hK K
  try simp only [Act.put, List.setIfInBounds_toArray, List.set_cons_zero, List.set_cons_succ]
  refine wpAnyH_takeL (i := 70) (v := ?_) rfl (by decide +kernel) (by decide +kernel) (by decide +kernel) (fun _ _ _ h => h) (Or.inl ⟨by rfl, ?_⟩) (by first | trivial | assumption) ?_
  rotate_left
  · intro wz hSz; (try dsimp only at hSz); go_simp; (try with_reducible rfl)
  try simp only [Act.put, List.setIfInBounds_toArray, List.set_cons_zero, List.set_cons_succ]
  refine wpAnyH_takeL (i := 71) (v := ?_) rfl (by decide +kernel) (by decide +kernel) (by decide +kernel) (fun _ _ _ h => h) (Or.inl ⟨by rfl, ?_⟩) (by first | trivial | assumption) ?_
  rotate_left
  · intro wz hSz; (try dsimp only at hSz); go_simp; (try with_reducible rfl)
  try simp only [Act.put, List.setIfInBounds_toArray, List.set_cons_zero, List.set_cons_succ]
  refine wpAnyH_takeL (i := 72) (v := ?_) rfl (by decide +kernel) (by decide +kernel) (by decide +kernel) (fun _ _ _ h => h) (Or.inl ⟨by rfl, ?_⟩) (by first | trivial | assumption) ?_
  rotate_left
  · intro wz hSz; (try dsimp only at hSz); go_simp; (try with_reducible rfl)
  try simp only [Act.put, List.setIfInBounds_toArray, List.set_cons_zero, List.set_cons_succ]
  refine wpAnyH_done (by decide +kernel) ?_ _
  go_wp2_with fail
  go_ret
  exact ⟨rfl, HB.out⟩
end Go.Proofs.Ytfmalohaaibhiaa
