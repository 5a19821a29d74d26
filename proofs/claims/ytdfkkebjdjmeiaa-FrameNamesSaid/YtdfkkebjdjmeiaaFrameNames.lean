/-
  The walk of the statement on chapter 4's examples: from every start it returns true and changes no block that was there before. (Written by wip/tools/gen_names04.py.)
-/
import Derived.Test.YtdfkkebjdjmeiaaFrameLaw
import Derived.Deep.RegionHeld3
import Derived.Lib.SlBytesConst
namespace Go.Proofs.Ytdfkkebjdjmeiaa
open Go.RowKit
open Go.Lib
set_option linter.unusedVariables false
set_option linter.unusedSimpArgs false
attribute [local go_sem ↓] Go.wp_at_zero Go.wp_at_succ

/-- Two pages with the same fields are equal. -/
theorem page_eql (a0 a1 : Int) (a2 a3 a4 : Nat) (a5 : ByteArray) (w : World) : (binOp .eql 29 (.agg #[.int .i64 a0, .int .i64 a1, .int .u32 a2, .int .u32 a3, .int .u64 a4, .string a5]) (.agg #[.int .i64 a0, .int .i64 a1, .int .u32 a2, .int .u32 a3, .int .u64 a4, .string a5])).run Try.prog w = .ok (.bool true) w := by
  simp [go_sem]
theorem reps_ext (x : UInt8) (n a c : Nat) (h : a + c ≤ n) : (reps ⟨#[x]⟩ n).extract a (a + c) = reps ⟨#[x]⟩ c := by
  apply bytes_ext
  rw [Lib.extract_data, reps_list, reps_list]
  show List.take (a + c - a) (List.drop a (rep [x] n)) = rep [x] c
  rw [rep_one, rep_one, List.drop_replicate, List.take_replicate]
  congr 1
  omega
/-- The example's page, byte by byte up to its body. -/
theorem ex_head : List.drop 4 (List.take 24 (pageB 4 3 7 9 5 bod).data.toList) = [4, 1, 3, 0, 7, 0, 0, 0, 9, 0, 0, 0, 5, 0, 0, 0, 0, 0, 0, 0] := by
  rw [pageB_parts]
  have a0 := leB_len 4 (crcM 0 (restL 4 3 7 9 5 bod))
  generalize leBytes 4 (crcM 0 (restL 4 3 7 9 5 bod)) = S at *
  have : leBytes 1 4 ++ (leBytes 1 1 ++ (leBytes 2 3 ++ (leBytes 4 7 ++ (leBytes 4 9 ++ (leBytes 8 5 ++ bod.data.toList))))) = [4, 1, 3, 0, 7, 0, 0, 0, 9, 0, 0, 0, 5, 0, 0, 0, 0, 0, 0, 0] ++ bod.data.toList := rfl
  rw [this, List.take_append, List.take_of_length_le (by omega), a0, List.drop_left' a0]
  rfl
theorem ex_at (a c : Nat) (h : 4 ≤ a) (h2 : a ≤ c) (h3 : c ≤ 24) : ((pageB 4 3 7 9 5 bod).extract a c).data.toList = List.take (c - a) (List.drop (a - 4) [4, 1, 3, 0, 7, 0, 0, 0, 9, 0, 0, 0, 5, 0, 0, 0, 0, 0, 0, 0]) := by
  rw [← ex_head, Lib.extract_data, List.drop_drop, List.drop_take, List.take_take]
  congr 1
  · omega
  · congr 1; omega

set_option maxHeartbeats 12800000 in
set_option maxRecDepth 1000000 in
theorem fnames_walk (w : World) :
    Calls Try.prog 3 #[] w fun e w' => e = .returned (.bool true) ∧ Below w.heap.size w w' := by
  obtain ⟨hz, hi⟩ := zero_of_info infoPg
  obtain ⟨s, hs⟩ : ∃ s, s = pageB 4 3 7 9 5 bod := ⟨_, rfl⟩
  obtain ⟨b, hb⟩ : ∃ b, b = bod := ⟨_, rfl⟩
  obtain ⟨x3, hx3⟩ : ∃ x, x = reps ⟨#[120]⟩ 300 := ⟨_, rfl⟩
  obtain ⟨x8, hx8⟩ : ∃ x, x = reps ⟨#[120]⟩ 896 := ⟨_, rfl⟩
  obtain ⟨x1, hx1⟩ : ∃ x, x = reps ⟨#[120]⟩ 128 := ⟨_, rfl⟩
  obtain ⟨ab, hab⟩ : ∃ x : ByteArray, x = ⟨(([97, 98] : List UInt8) ++ List.replicate 102 0).toArray⟩ := ⟨_, rfl⟩
  have hss : s.size = 128 := by rw [hs, pageB_size, bod_size]
  have hx3s : x3.size = 300 := by rw [hx3, reps_lit_size]
  have hx8s : x8.size = 896 := by rw [hx8, reps_lit_size]
  have habs : ab.size = 104 := by rw [hab]; rfl
  have may : mayPg 128 4 3 7 9 5 b = true := by rw [hb]; exact may_page
  have may2 : mayPg 128 4 3 7 9 4611686018427387905 b = false := by simp [mayPg]
  have may7 : mayPg 128 7 3 7 9 5 b = false := by simp [mayPg]
  rw [← hb] at hs
  have PA := page_any
  rw [← hb] at PA
  have HP : ∀ w : World, Calls Try.prog 7 #[.int .i64 128, .agg #[.int .i64 4, .int .i64 3, .int .u32 7, .int .u32 9, .int .u64 5, .string b]] w fun e w' => e = .returned (.tuple #[.string s, .int .i64 0]) ∧ Below w.heap.size w w' := fun w => by rw [hs]; exact fput_yes 128 4 3 7 9 5 b w may
  have HPB : ∀ w : World, Calls Try.prog 7 #[.int .i64 128, .agg #[.int .i64 4, .int .i64 3, .int .u32 7, .int .u32 9, .int .u64 4611686018427387905, .string b]] w fun e w' => e = .returned (.tuple #[.string ⟨#[]⟩, .int .i64 2]) ∧ Below w.heap.size w w' := fun w => fput_no 128 4 3 7 9 4611686018427387905 b w may2
  have HPK : ∀ w : World, Calls Try.prog 7 #[.int .i64 128, .agg #[.int .i64 7, .int .i64 3, .int .u32 7, .int .u32 9, .int .u64 5, .string b]] w fun e w' => e = .returned (.tuple #[.string ⟨#[]⟩, .int .i64 2]) ∧ Below w.heap.size w w' := fun w => fput_no 128 7 3 7 9 5 b w may7
  have HG7 : ∀ w : World, Calls Try.prog 9 #[.int .i64 128, .int .u32 7, .string s] w fun e w' => e = .returned (.tuple #[.agg #[.int .i64 4, .int .i64 3, .int .u32 7, .int .u32 9, .int .u64 5, .string b], .int .i64 0]) ∧ Below w.heap.size w w' := fun w => by rw [hs]; exact get_back 128 4 3 7 9 5 b w may
  have HG8 : ∀ w : World, Calls Try.prog 9 #[.int .i64 128, .int .u32 8, .string s] w fun e w' => e = .returned (.tuple #[.agg #[.int .i64 0, .int .i64 0, .int .u32 0, .int .u32 0, .int .u64 0, .string ByteArray.empty], .int .i64 4]) ∧ Below w.heap.size w w' := fun w => by rw [hs]; exact get_other 128 4 3 7 9 5 b 8 w may (by decide)
  have HGA : ∀ w : World, Calls Try.prog 9 #[.int .i64 100, .int .u32 7, .string s] w fun e w' => e = .returned (.tuple #[.agg #[.int .i64 0, .int .i64 0, .int .u32 0, .int .u32 0, .int .u64 0, .string ByteArray.empty], .int .i64 2]) ∧ Below w.heap.size w w' := fun w => get_arg 100 s 7 w (by decide)
  have HGL : ∀ w : World, Calls Try.prog 9 #[.int .i64 128, .int .u32 7, .string (s.extract 0 127)] w fun e w' => e = .returned (.tuple #[.agg #[.int .i64 0, .int .i64 0, .int .u32 0, .int .u32 0, .int .u64 0, .string ByteArray.empty], .int .i64 4]) ∧ Below w.heap.size w w' := fun w => get_len 128 _ 7 w (by decide) (by rw [ByteArray.size_extract, hss]; decide)
  have HB1 : ∀ w : World, Calls Try.prog 10 #[.int .i64 1, .slice none 0 0] w fun e w' => e = .returned (.tuple #[.string ⟨#[]⟩, .int .i64 2]) ∧ w = w' := fun w => fbody_bad 1 none 0 0 w (by decide)
  have HT3 : ∀ w : World, Calls Try.prog 12 #[.string ⟨#[120]⟩, .int .i64 300] w fun e w' => e = .returned (.string x3) ∧ w = w' := fun w => by rw [hx3]; exact times_any ⟨#[120]⟩ 300 w (by decide) (by decide)
  have HT8 : ∀ w : World, Calls Try.prog 12 #[.string ⟨#[120]⟩, .int .i64 896] w fun e w' => e = .returned (.string x8) ∧ w = w' := fun w => by rw [hx8]; exact times_any ⟨#[120]⟩ 896 w (by decide) (by decide)
  have HT1 : ∀ w : World, Calls Try.prog 12 #[.string ⟨#[120]⟩, .int .i64 128] w fun e w' => e = .returned (.string x1) ∧ w = w' := fun w => by rw [hx1]; exact times_any ⟨#[120]⟩ 128 w (by decide) (by decide)
  have HA1 : ∀ w : World, Calls Try.prog 11 #[.int .i64 128, .string x3, .int .u32 1] w fun e w' => e = .returned (.tuple #[.string x1, .bool true]) ∧ w = w' := fun w => by
    have := at_yes 128 1 x3 w (by decide) (by rw [hx3s]; decide) (by rw [hx3s]; decide)
    rw [show x3.extract (1 * 128) (1 * 128 + 128) = x1 by rw [hx3, hx1]; exact reps_ext 120 300 128 128 (by decide)] at this
    exact this
  have HA2 : ∀ w : World, Calls Try.prog 11 #[.int .i64 128, .string x3, .int .u32 2] w fun e w' => e = .returned (.tuple #[.string ⟨#[]⟩, .bool false]) ∧ w = w' := fun w => at_no 128 2 x3 w (by decide) (by rw [hx3s]; decide) (by rw [hx3s]; decide) (by decide)
  have HR1 : ∀ w : World, Calls Try.prog 13 #[.int .i64 128, .string s, .int .u32 1] w fun e w' => e = .returned (.tuple #[.agg #[.int .i64 0, .int .i64 0, .int .u32 0, .int .u32 0, .int .u64 0, .string ByteArray.empty], .int .i64 5]) ∧ Below w.heap.size w w' := fun w => fread_none 128 1 s w (by decide) (by rw [hss]; decide) (by rw [hss]; decide) (by decide)
  obtain ⟨xs, hxs⟩ : ∃ xs, xs = x8 ++ s := ⟨_, rfl⟩
  have hxss : xs.size = 1024 := by rw [hxs, ByteArray.size_append, hx8s, hss]
  have hxe : xs.extract (7 * 128) (7 * 128 + 128) = s := by
    apply bytes_ext
    rw [Lib.extract_data, hxs, ByteArray.data_append, Array.toList_append, List.drop_left' (by rw [size_list, hx8s]), List.take_of_length_le (by rw [size_list, hss]; decide)]
  have HR7 : ∀ w : World, Calls Try.prog 13 #[.int .i64 128, .string xs, .int .u32 7] w fun e w' => e = .returned (.tuple #[.agg #[.int .i64 4, .int .i64 3, .int .u32 7, .int .u32 9, .int .u64 5, .string b], .int .i64 0]) ∧ Below w.heap.size w w' := fun w => fread_get 128 7 xs 4 3 7 9 5 b 0 w (by decide) (by rw [hxss]; decide) (by rw [hxss]; decide) (by rw [hxe]; exact HG7)
  have HRB : ∀ w : World, Calls Try.prog 13 #[.int .i64 7, .string s, .int .u32 0] w fun e w' => e = .returned (.tuple #[.agg #[.int .i64 0, .int .i64 0, .int .u32 0, .int .u32 0, .int .u64 0, .string ByteArray.empty], .int .i64 2]) ∧ Below w.heap.size w w' := fun w => fread_bad 7 s 0 w (by decide)
  have HS3 : ∀ w : World, Calls Try.prog 14 #[.int .i64 128, .string x3] w fun e w' => e = .returned (.int .i64 2) ∧ w = w' := fun w => by
    have := fpages_yes 128 x3 w (by decide) (by rw [hx3s]; decide)
    rw [hx3s] at this
    exact this
  have HS1 : ∀ w : World, Calls Try.prog 14 #[.int .i64 1, .string ⟨#[120, 120]⟩] w fun e w' => e = .returned (.int .i64 0) ∧ w = w' := fun w => fpages_no 1 _ w (by decide)
  have HM6 : ∀ w : World, Calls Try.prog 15 #[.int .i64 64] w fun e w' => e = .returned (.int .i64 0) ∧ w = w' := fun w => room_no 64 w (by decide)
  have hmk : ∀ w : World, (Instr.makeSlice 34 (.int .i64 105) (.int .i64 105)).run Try.prog w = .ok (.slice (some ⟨w.heap.size, 0, none⟩) 105 105) (w.alloc (.cells (madeCells #[.int .u8 0] 105) 5)) := fun w => run_make_bytes (P := Try.prog) 34 5 Try.underlying34 infoU8 105 (by omega) w
  have peq := page_eql 4 3 7 9 5 b
  have e1 : s.extract 4 8 = ⟨#[4, 1, 3, 0]⟩ := by
    apply bytes_ext; rw [hs, hb]; exact ex_at 4 8 (by decide) (by decide) (by decide)
  have e2 : s.extract 8 24 = ⟨#[7, 0, 0, 0, 9, 0, 0, 0, 5, 0, 0, 0, 0, 0, 0, 0]⟩ := by
    apply bytes_ext; rw [hs, hb]; exact ex_at 8 24 (by decide) (by decide) (by decide)
  have e3 : ab.extract 0 3 = ⟨#[97, 98, 0]⟩ := by rw [hab]; rfl
  have hsi : (s.size : Int) = 128 := by omega
  have hai : (ab.size : Int) = 104 := by omega
  have hcat : ¬ (9223372036854775807 < x8.size + s.size) := by omega
  have HXS := Lib.hid hxs
  have HAB := Lib.hid hab
  clear hi hs hb hx3 hx8 hx1 hab hss hx3s hx8s habs may may2 may7 hxs hxss hxe
  go_enter Try.func3, Try.ntmps3
  go_wp2_with fail
  refine (lives_any w).mono ?_
  rintro e w1 ⟨rfl, hb⟩
  have HB := Lib.hid hb
  clear hb
  go_wp2_with fail
  refine (PA _).mono ?_
  rintro e w2 ⟨rfl, hb⟩
  replace HB := Lib.hid (show Below w.heap.size w w2 from (by
    first
    | with_reducible exact HB.out.trans (hb.mono HB.out.size)
    | with_reducible exact (HB.out.alloc HB.out.size _).trans (hb.mono (HB.out.alloc HB.out.size _).size)
    | with_reducible exact ((HB.out.alloc HB.out.size _).setCell HB.out.size _).trans (hb.mono ((HB.out.alloc HB.out.size _).setCell HB.out.size _).size)
    | with_reducible exact ((HB.out.alloc HB.out.size _).alloc (HB.out.alloc HB.out.size _).size _).trans (hb.mono ((HB.out.alloc HB.out.size _).alloc (HB.out.alloc HB.out.size _).size _).size)))
  clear hb
  go_wp2_with fail
  refine (HP _).mono ?_
  rintro e w3 ⟨rfl, hb⟩
  replace HB := Lib.hid (show Below w.heap.size w w3 from (by
    first
    | with_reducible exact HB.out.trans (hb.mono HB.out.size)
    | with_reducible exact (HB.out.alloc HB.out.size _).trans (hb.mono (HB.out.alloc HB.out.size _).size)
    | with_reducible exact ((HB.out.alloc HB.out.size _).setCell HB.out.size _).trans (hb.mono ((HB.out.alloc HB.out.size _).setCell HB.out.size _).size)
    | with_reducible exact ((HB.out.alloc HB.out.size _).alloc (HB.out.alloc HB.out.size _).size _).trans (hb.mono ((HB.out.alloc HB.out.size _).alloc (HB.out.alloc HB.out.size _).size _).size)))
  clear hb
  go_wp2_with fail
  refine (HG7 _).mono ?_
  rintro e w4 ⟨rfl, hb⟩
  replace HB := Lib.hid (show Below w.heap.size w w4 from (by
    first
    | with_reducible exact HB.out.trans (hb.mono HB.out.size)
    | with_reducible exact (HB.out.alloc HB.out.size _).trans (hb.mono (HB.out.alloc HB.out.size _).size)
    | with_reducible exact ((HB.out.alloc HB.out.size _).setCell HB.out.size _).trans (hb.mono ((HB.out.alloc HB.out.size _).setCell HB.out.size _).size)
    | with_reducible exact ((HB.out.alloc HB.out.size _).alloc (HB.out.alloc HB.out.size _).size _).trans (hb.mono ((HB.out.alloc HB.out.size _).alloc (HB.out.alloc HB.out.size _).size _).size)))
  clear hb
  go_wp2_with fail
  refine (HG8 _).mono ?_
  rintro e w5 ⟨rfl, hb⟩
  have P3 := Lib.hid ((Blk.new w4 29 #[.int .i64 4, .int .i64 3, .int .u32 7, .int .u32 9, .int .u64 5, .string b]).below hb (Blk.new w4 29 #[.int .i64 4, .int .i64 3, .int .u32 7, .int .u32 9, .int .u64 5, .string b]).lt)
  replace HB := Lib.hid ((HB.out.alloc HB.out.size _).trans (hb.mono (HB.out.alloc HB.out.size _).size))
  clear hb
  go_wp2_with fail
  refine (HGA _).mono ?_
  rintro e w6 ⟨rfl, hb⟩
  replace HB := Lib.hid (show Below w.heap.size w w6 from (by
    first
    | with_reducible exact HB.out.trans (hb.mono HB.out.size)
    | with_reducible exact (HB.out.alloc HB.out.size _).trans (hb.mono (HB.out.alloc HB.out.size _).size)
    | with_reducible exact ((HB.out.alloc HB.out.size _).setCell HB.out.size _).trans (hb.mono ((HB.out.alloc HB.out.size _).setCell HB.out.size _).size)
    | with_reducible exact ((HB.out.alloc HB.out.size _).alloc (HB.out.alloc HB.out.size _).size _).trans (hb.mono ((HB.out.alloc HB.out.size _).alloc (HB.out.alloc HB.out.size _).size _).size)))
  replace P3 := Lib.hid (show Blk w6 _ _ _ from (by
    first
    | with_reducible exact P3.out.below hb P3.out.lt
    | with_reducible exact (P3.out.alloc _).below hb (P3.out.alloc _).lt
    | with_reducible exact ((P3.out.alloc _).far (Nat.ne_of_lt P3.out.lt) _).below hb ((P3.out.alloc _).far (Nat.ne_of_lt P3.out.lt) _).lt
    | with_reducible exact ((P3.out.alloc _).alloc _).below hb ((P3.out.alloc _).alloc _).lt))
  clear hb
  go_wp2_with fail
  refine (HGL _).mono ?_
  rintro e w7 ⟨rfl, hb⟩
  replace HB := Lib.hid (show Below w.heap.size w w7 from (by
    first
    | with_reducible exact HB.out.trans (hb.mono HB.out.size)
    | with_reducible exact (HB.out.alloc HB.out.size _).trans (hb.mono (HB.out.alloc HB.out.size _).size)
    | with_reducible exact ((HB.out.alloc HB.out.size _).setCell HB.out.size _).trans (hb.mono ((HB.out.alloc HB.out.size _).setCell HB.out.size _).size)
    | with_reducible exact ((HB.out.alloc HB.out.size _).alloc (HB.out.alloc HB.out.size _).size _).trans (hb.mono ((HB.out.alloc HB.out.size _).alloc (HB.out.alloc HB.out.size _).size _).size)))
  replace P3 := Lib.hid (show Blk w7 _ _ _ from (by
    first
    | with_reducible exact P3.out.below hb P3.out.lt
    | with_reducible exact (P3.out.alloc _).below hb (P3.out.alloc _).lt
    | with_reducible exact ((P3.out.alloc _).far (Nat.ne_of_lt P3.out.lt) _).below hb ((P3.out.alloc _).far (Nat.ne_of_lt P3.out.lt) _).lt
    | with_reducible exact ((P3.out.alloc _).alloc _).below hb ((P3.out.alloc _).alloc _).lt))
  clear hb
  go_wp2_with fail
  refine (PA _).mono ?_
  rintro e w8 ⟨rfl, hb⟩
  replace HB := Lib.hid (show Below w.heap.size w w8 from (by
    first
    | with_reducible exact HB.out.trans (hb.mono HB.out.size)
    | with_reducible exact (HB.out.alloc HB.out.size _).trans (hb.mono (HB.out.alloc HB.out.size _).size)
    | with_reducible exact ((HB.out.alloc HB.out.size _).setCell HB.out.size _).trans (hb.mono ((HB.out.alloc HB.out.size _).setCell HB.out.size _).size)
    | with_reducible exact ((HB.out.alloc HB.out.size _).alloc (HB.out.alloc HB.out.size _).size _).trans (hb.mono ((HB.out.alloc HB.out.size _).alloc (HB.out.alloc HB.out.size _).size _).size)))
  replace P3 := Lib.hid (show Blk w8 _ _ _ from (by
    first
    | with_reducible exact P3.out.below hb P3.out.lt
    | with_reducible exact (P3.out.alloc _).below hb (P3.out.alloc _).lt
    | with_reducible exact ((P3.out.alloc _).far (Nat.ne_of_lt P3.out.lt) _).below hb ((P3.out.alloc _).far (Nat.ne_of_lt P3.out.lt) _).lt
    | with_reducible exact ((P3.out.alloc _).alloc _).below hb ((P3.out.alloc _).alloc _).lt))
  clear hb
  go_wp2_with fail
  refine (HPB _).mono ?_
  rintro e w9 ⟨rfl, hb⟩
  replace HB := Lib.hid (show Below w.heap.size w w9 from (by
    first
    | with_reducible exact HB.out.trans (hb.mono HB.out.size)
    | with_reducible exact (HB.out.alloc HB.out.size _).trans (hb.mono (HB.out.alloc HB.out.size _).size)
    | with_reducible exact ((HB.out.alloc HB.out.size _).setCell HB.out.size _).trans (hb.mono ((HB.out.alloc HB.out.size _).setCell HB.out.size _).size)
    | with_reducible exact ((HB.out.alloc HB.out.size _).alloc (HB.out.alloc HB.out.size _).size _).trans (hb.mono ((HB.out.alloc HB.out.size _).alloc (HB.out.alloc HB.out.size _).size _).size)))
  replace P3 := Lib.hid (show Blk w9 _ _ _ from (by
    first
    | with_reducible exact P3.out.below hb P3.out.lt
    | with_reducible exact (P3.out.alloc _).below hb (P3.out.alloc _).lt
    | with_reducible exact ((P3.out.alloc _).far (Nat.ne_of_lt P3.out.lt) _).below hb ((P3.out.alloc _).far (Nat.ne_of_lt P3.out.lt) _).lt
    | with_reducible exact ((P3.out.alloc _).alloc _).below hb ((P3.out.alloc _).alloc _).lt))
  clear hb
  go_wp2_with fail
  refine (PA _).mono ?_
  rintro e w10 ⟨rfl, hb⟩
  replace HB := Lib.hid (show Below w.heap.size w w10 from (by
    first
    | with_reducible exact HB.out.trans (hb.mono HB.out.size)
    | with_reducible exact (HB.out.alloc HB.out.size _).trans (hb.mono (HB.out.alloc HB.out.size _).size)
    | with_reducible exact ((HB.out.alloc HB.out.size _).setCell HB.out.size _).trans (hb.mono ((HB.out.alloc HB.out.size _).setCell HB.out.size _).size)
    | with_reducible exact ((HB.out.alloc HB.out.size _).alloc (HB.out.alloc HB.out.size _).size _).trans (hb.mono ((HB.out.alloc HB.out.size _).alloc (HB.out.alloc HB.out.size _).size _).size)))
  replace P3 := Lib.hid (show Blk w10 _ _ _ from (by
    first
    | with_reducible exact P3.out.below hb P3.out.lt
    | with_reducible exact (P3.out.alloc _).below hb (P3.out.alloc _).lt
    | with_reducible exact ((P3.out.alloc _).far (Nat.ne_of_lt P3.out.lt) _).below hb ((P3.out.alloc _).far (Nat.ne_of_lt P3.out.lt) _).lt
    | with_reducible exact ((P3.out.alloc _).alloc _).below hb ((P3.out.alloc _).alloc _).lt))
  clear hb
  go_wp2_with fail
  refine (HPK _).mono ?_
  rintro e w11 ⟨rfl, hb⟩
  replace HB := Lib.hid (show Below w.heap.size w w11 from (by
    first
    | with_reducible exact HB.out.trans (hb.mono HB.out.size)
    | with_reducible exact (HB.out.alloc HB.out.size _).trans (hb.mono (HB.out.alloc HB.out.size _).size)
    | with_reducible exact ((HB.out.alloc HB.out.size _).setCell HB.out.size _).trans (hb.mono ((HB.out.alloc HB.out.size _).setCell HB.out.size _).size)
    | with_reducible exact ((HB.out.alloc HB.out.size _).alloc (HB.out.alloc HB.out.size _).size _).trans (hb.mono ((HB.out.alloc HB.out.size _).alloc (HB.out.alloc HB.out.size _).size _).size)))
  replace P3 := Lib.hid (show Blk w11 _ _ _ from (by
    first
    | with_reducible exact P3.out.below hb P3.out.lt
    | with_reducible exact (P3.out.alloc _).below hb (P3.out.alloc _).lt
    | with_reducible exact ((P3.out.alloc _).far (Nat.ne_of_lt P3.out.lt) _).below hb ((P3.out.alloc _).far (Nat.ne_of_lt P3.out.lt) _).lt
    | with_reducible exact ((P3.out.alloc _).alloc _).below hb ((P3.out.alloc _).alloc _).lt))
  clear hb
  have kc := fun (w : World) (C : Array Value) (n c : Nat) => Lib.run_convert_bytes_const (P := Try.prog) w 34 5 C n c Try.underlying34 Try.underlying5
  have hrd : Reads (w11.alloc (.cells #[.int .u8 97, .int .u8 98] 5 (2, 3))) (w11.alloc (.cells #[.int .u8 97, .int .u8 98] 5 (2, 3))).heap.size 1 (some ⟨w11.heap.size, 0, none⟩) 2 (bcells [97, 98]) := (reads_new w11 #[.int .u8 97, .int .u8 98] 5 (2, 3)).more (by simp)
  have hbd : Calls Try.prog 10 #[.int .i64 128, .slice (some ⟨w11.heap.size, 0, none⟩) 2 2] (w11.alloc (.cells #[.int .u8 97, .int .u8 98] 5 (2, 3))) fun e w' => e = .returned (.tuple #[.string ab, .int .i64 0]) ∧ Below (w11.alloc (.cells #[.int .u8 97, .int .u8 98] 5 (2, 3))).heap.size (w11.alloc (.cells #[.int .u8 97, .int .u8 98] 5 (2, 3))) w' := by
    rw [HAB.out]; exact fbody_ok 128 _ 2 2 [97, 98] _ (by decide) hrd (by decide)
  clear hrd
  go_wp2_with fail
  refine (hbd).mono ?_
  rintro e w12 ⟨rfl, hb⟩
  replace HB := Lib.hid (show Below w.heap.size w w12 from (by
    first
    | with_reducible exact HB.out.trans (hb.mono HB.out.size)
    | with_reducible exact (HB.out.alloc HB.out.size _).trans (hb.mono (HB.out.alloc HB.out.size _).size)
    | with_reducible exact ((HB.out.alloc HB.out.size _).setCell HB.out.size _).trans (hb.mono ((HB.out.alloc HB.out.size _).setCell HB.out.size _).size)
    | with_reducible exact ((HB.out.alloc HB.out.size _).alloc (HB.out.alloc HB.out.size _).size _).trans (hb.mono ((HB.out.alloc HB.out.size _).alloc (HB.out.alloc HB.out.size _).size _).size)))
  replace P3 := Lib.hid (show Blk w12 _ _ _ from (by
    first
    | with_reducible exact P3.out.below hb P3.out.lt
    | with_reducible exact (P3.out.alloc _).below hb (P3.out.alloc _).lt
    | with_reducible exact ((P3.out.alloc _).far (Nat.ne_of_lt P3.out.lt) _).below hb ((P3.out.alloc _).far (Nat.ne_of_lt P3.out.lt) _).lt
    | with_reducible exact ((P3.out.alloc _).alloc _).below hb ((P3.out.alloc _).alloc _).lt))
  clear hb
  clear hbd
  go_wp2_with fail
  refine (fbody_long 128 _ 105 105 _ (by decide) (by decide)).mono ?_
  rintro e w' ⟨rfl, rfl⟩
  go_wp2_with fail
  refine (HB1 _).mono ?_
  rintro e w' ⟨rfl, rfl⟩
  go_wp2_with fail
  refine (HT3 _).mono ?_
  rintro e w' ⟨rfl, rfl⟩
  go_wp2_with fail
  refine (HA1 _).mono ?_
  rintro e w' ⟨rfl, rfl⟩
  go_wp2_with fail
  refine (HT3 _).mono ?_
  rintro e w' ⟨rfl, rfl⟩
  go_wp2_with fail
  refine (HA2 _).mono ?_
  rintro e w' ⟨rfl, rfl⟩
  go_wp2_with fail
  refine (HR1 _).mono ?_
  rintro e v1 ⟨rfl, hb⟩
  replace HB := Lib.hid ((HB.out.alloc HB.out.size _).trans (hb.mono (HB.out.alloc HB.out.size _).size))
  replace P3 := Lib.hid ((P3.out.alloc _).below hb (P3.out.alloc _).lt)
  clear hb
  go_wp2_with fail
  refine (HT8 _).mono ?_
  rintro e w' ⟨rfl, rfl⟩
  have hxs := HXS.out.symm
  go_wp2_with fail
  refine (HR7 _).mono ?_
  rintro e v2 ⟨rfl, hb⟩
  replace HB := Lib.hid ((HB.out.alloc HB.out.size _).trans (hb.mono (HB.out.alloc HB.out.size _).size))
  replace P3 := Lib.hid ((P3.out.alloc _).below hb (P3.out.alloc _).lt)
  clear hb hxs
  go_wp2_with fail
  refine (HRB _).mono ?_
  rintro e v3 ⟨rfl, hb⟩
  have P9 := Lib.hid ((Blk.new v2 29 #[.int .i64 4, .int .i64 3, .int .u32 7, .int .u32 9, .int .u64 5, .string b]).below hb (Blk.new v2 29 #[.int .i64 4, .int .i64 3, .int .u32 7, .int .u32 9, .int .u64 5, .string b]).lt)
  replace HB := Lib.hid ((HB.out.alloc HB.out.size _).trans (hb.mono (HB.out.alloc HB.out.size _).size))
  replace P3 := Lib.hid ((P3.out.alloc _).below hb (P3.out.alloc _).lt)
  clear hb
  replace HB := Lib.hid (HB.out.alloc HB.out.size (.cells #[.int .i64 0, .int .i64 0, .int .u32 0, .int .u32 0, .int .u64 0, .string ByteArray.empty] 29)).drew
  replace P3 := Lib.hid (P3.out.alloc (.cells #[.int .i64 0, .int .i64 0, .int .u32 0, .int .u32 0, .int .u64 0, .string ByteArray.empty] 29)).drew
  replace P9 := Lib.hid (P9.out.alloc (.cells #[.int .i64 0, .int .i64 0, .int .u32 0, .int .u32 0, .int .u64 0, .string ByteArray.empty] 29)).drew
  go_wp2_with fail
  simp only [List.append_eq, List.cons_append, List.nil_append]
  refine wp_region_held_drew (S := (fun w' => (w'.cell? ⟨w4.heap.size, 0, none⟩ = some (.int .i64 4) ∧ w'.cell? ⟨w4.heap.size, 1, none⟩ = some (.int .i64 3) ∧ w'.cell? ⟨w4.heap.size, 2, none⟩ = some (.int .u32 7) ∧ w'.cell? ⟨w4.heap.size, 3, none⟩ = some (.int .u32 9) ∧ w'.cell? ⟨w4.heap.size, 4, none⟩ = some (.int .u64 5) ∧ w'.cell? ⟨w4.heap.size, 5, none⟩ = some (.string b)) ∧ (w'.cell? ⟨v2.heap.size, 0, none⟩ = some (.int .i64 4) ∧ w'.cell? ⟨v2.heap.size, 1, none⟩ = some (.int .i64 3) ∧ w'.cell? ⟨v2.heap.size, 2, none⟩ = some (.int .u32 7) ∧ w'.cell? ⟨v2.heap.size, 3, none⟩ = some (.int .u32 9) ∧ w'.cell? ⟨v2.heap.size, 4, none⟩ = some (.int .u64 5) ∧ w'.cell? ⟨v2.heap.size, 5, none⟩ = some (.string b)))) (by kernel_rfl) ⟨pg_cells P3.out, pg_cells P9.out⟩ (fun hHeld => ?_)
  refine wpAnyH_takeL (i := 0) (v := ?_) rfl (by decide +kernel) (by decide +kernel) (by decide +kernel) (fun _ _ _ h => h) (Or.inl ⟨by rfl, ?_⟩) (by first | trivial | assumption) ?_
  rotate_left
  · intro wz hSz; (try dsimp only at hSz); go_simp; (try with_reducible rfl)
  try simp only [Act.put, List.setIfInBounds_toArray, List.set_cons_zero, List.set_cons_succ]
  refine wpAnyH_takeL (i := 1) (v := ?_) rfl (by decide +kernel) (by decide +kernel) (by decide +kernel) (fun _ _ _ h => h) (Or.inl ⟨by rfl, ?_⟩) (by first | trivial | assumption) ?_
  rotate_left
  · intro wz hSz; (try dsimp only at hSz); go_simp; (try with_reducible rfl)
  try simp only [Act.put, List.setIfInBounds_toArray, List.set_cons_zero, List.set_cons_succ]
  refine wpAnyH_takeL (i := 2) (v := ?_) rfl (by decide +kernel) (by decide +kernel) (by decide +kernel) (fun _ _ _ h => h) (Or.inl ⟨by rfl, ?_⟩) (by first | trivial | assumption) ?_
  rotate_left
  · intro wz hSz; (try dsimp only at hSz); go_simp; (try with_reducible rfl)
  try simp only [Act.put, List.setIfInBounds_toArray, List.set_cons_zero, List.set_cons_succ]
  refine wpAnyH_takeL (i := 3) (v := ?_) rfl (by decide +kernel) (by decide +kernel) (by decide +kernel) (fun _ _ _ h => h) (Or.inl ⟨by rfl, ?_⟩) (by first | trivial | assumption) ?_
  rotate_left
  · intro wz hSz; (try dsimp only at hSz); go_simp; (try with_reducible rfl)
  try simp only [Act.put, List.setIfInBounds_toArray, List.set_cons_zero, List.set_cons_succ]
  refine wpAnyH_takeL (i := 4) (v := ?_) rfl (by decide +kernel) (by decide +kernel) (by decide +kernel) (fun _ _ _ h => h) (Or.inl ⟨by rfl, ?_⟩) (by first | trivial | assumption) ?_
  rotate_left
  · intro wz hSz; (try dsimp only at hSz); go_simp; (try with_reducible rfl)
  try simp only [Act.put, List.setIfInBounds_toArray, List.set_cons_zero, List.set_cons_succ]
  refine wpAnyH_takeL (i := 5) (v := ?_) rfl (by decide +kernel) (by decide +kernel) (by decide +kernel) (fun _ _ _ h => h) (Or.inl ⟨by rfl, ?_⟩) (by first | trivial | assumption) ?_
  rotate_left
  · intro wz hSz; (try dsimp only at hSz); go_simp; (try with_reducible rfl)
  try simp only [Act.put, List.setIfInBounds_toArray, List.set_cons_zero, List.set_cons_succ]
  refine wpAnyH_takeL (i := 6) (v := ?_) rfl (by decide +kernel) (by decide +kernel) (by decide +kernel) (fun _ _ _ h => h) (Or.inl ⟨by rfl, ?_⟩) (by first | trivial | assumption) ?_
  rotate_left
  · intro wz hSz; (try dsimp only at hSz); go_simp; (try with_reducible rfl)
  try simp only [Act.put, List.setIfInBounds_toArray, List.set_cons_zero, List.set_cons_succ]
  refine wpAnyH_takeL (i := 7) (v := ?_) rfl (by decide +kernel) (by decide +kernel) (by decide +kernel) (fun _ _ _ h => h) (Or.inl ⟨by rfl, ?_⟩) (by first | trivial | assumption) ?_
  rotate_left
  · intro wz hSz; (try dsimp only at hSz); go_simp; (try with_reducible rfl)
  try simp only [Act.put, List.setIfInBounds_toArray, List.set_cons_zero, List.set_cons_succ]
  refine wpAnyH_takeL (i := 8) (v := ?_) rfl (by decide +kernel) (by decide +kernel) (by decide +kernel) (fun _ _ _ h => h) (Or.inl ⟨by rfl, ?_⟩) (by first | trivial | assumption) ?_
  rotate_left
  · intro wz hSz; (try dsimp only at hSz); go_simp; (try with_reducible rfl)
  try simp only [Act.put, List.setIfInBounds_toArray, List.set_cons_zero, List.set_cons_succ]
  refine wpAnyH_takeL (i := 9) (v := ?_) rfl (by decide +kernel) (by decide +kernel) (by decide +kernel) (fun _ _ _ h => h) (Or.inl ⟨by rfl, ?_⟩) (by first | trivial | assumption) ?_
  rotate_left
  · intro wz hSz; (try dsimp only at hSz); go_simp; (try with_reducible rfl)
  try simp only [Act.put, List.setIfInBounds_toArray, List.set_cons_zero, List.set_cons_succ]
  refine wpAnyH_takeL (i := 10) (v := ?_) rfl (by decide +kernel) (by decide +kernel) (by decide +kernel) (fun _ _ _ h => h) (Or.inl ⟨by rfl, ?_⟩) (by first | trivial | assumption) ?_
  rotate_left
  · intro wz hSz; (try dsimp only at hSz); go_simp; (try with_reducible rfl)
  try simp only [Act.put, List.setIfInBounds_toArray, List.set_cons_zero, List.set_cons_succ]
  refine wpAnyH_takeL (i := 11) (v := ?_) rfl (by decide +kernel) (by decide +kernel) (by decide +kernel) (fun _ _ _ h => h) (Or.inl ⟨by rfl, ?_⟩) (by first | trivial | assumption) ?_
  rotate_left
  · intro wz hSz; (try dsimp only at hSz); go_simp; (try with_reducible rfl)
  try simp only [Act.put, List.setIfInBounds_toArray, List.set_cons_zero, List.set_cons_succ]
  refine wpAnyH_takeL (i := 12) (v := ?_) rfl (by decide +kernel) (by decide +kernel) (by decide +kernel) (fun _ _ _ h => h) (Or.inl ⟨by rfl, ?_⟩) (by first | trivial | assumption) ?_
  rotate_left
  · intro wz hSz; (try dsimp only at hSz); go_simp; (try with_reducible rfl)
  try simp only [Act.put, List.setIfInBounds_toArray, List.set_cons_zero, List.set_cons_succ]
  refine wpAnyH_takeL (i := 13) (v := ?_) rfl (by decide +kernel) (by decide +kernel) (by decide +kernel) (fun _ _ _ h => h) (Or.inl ⟨by rfl, ?_⟩) (by first | trivial | assumption) ?_
  rotate_left
  · intro wz hSz; (try dsimp only at hSz); go_simp; (try with_reducible rfl)
  try simp only [Act.put, List.setIfInBounds_toArray, List.set_cons_zero, List.set_cons_succ]
  refine wpAnyH_takeL (i := 14) (v := ?_) rfl (by decide +kernel) (by decide +kernel) (by decide +kernel) (fun _ _ _ h => h) (Or.inl ⟨by rfl, ?_⟩) (by first | trivial | assumption) ?_
  rotate_left
  · intro wz hSz; (try dsimp only at hSz); go_simp; (try with_reducible rfl)
  try simp only [Act.put, List.setIfInBounds_toArray, List.set_cons_zero, List.set_cons_succ]
  refine wpAnyH_takeL (i := 15) (v := ?_) rfl (by decide +kernel) (by decide +kernel) (by decide +kernel) (fun _ _ _ h => h) (Or.inl ⟨by rfl, ?_⟩) (by first | trivial | assumption) ?_
  rotate_left
  · intro wz hSz; (try dsimp only at hSz); go_simp; (try with_reducible rfl)
  try simp only [Act.put, List.setIfInBounds_toArray, List.set_cons_zero, List.set_cons_succ]
  refine wpAnyH_takeL (i := 16) (v := ?_) rfl (by decide +kernel) (by decide +kernel) (by decide +kernel) (fun _ _ _ h => h) (Or.inl ⟨by rfl, ?_⟩) (by first | trivial | assumption) ?_
  rotate_left
  · intro wz hSz; (try dsimp only at hSz); go_simp; (try with_reducible rfl)
  try simp only [Act.put, List.setIfInBounds_toArray, List.set_cons_zero, List.set_cons_succ]
  refine wpAnyH_takeL (i := 17) (v := ?_) rfl (by decide +kernel) (by decide +kernel) (by decide +kernel) (fun _ _ _ h => h) (Or.inl ⟨by rfl, ?_⟩) (by first | trivial | assumption) ?_
  rotate_left
  · intro wz hSz; (try dsimp only at hSz); go_simp; (try with_reducible rfl)
  try simp only [Act.put, List.setIfInBounds_toArray, List.set_cons_zero, List.set_cons_succ]
  refine wpAnyH_ready (rs := [18]) (by decide +kernel) (by simp) ?_
  refine AllReadyH.consL rfl (fun K hK => ?_) AllReadyH.nil
  go_simp
  refine (PA _).mono ?_
  rintro e wq ⟨rfl, hb⟩
  replace HB := Lib.hid (HB.out.trans (hb.mono HB.out.size))
  replace P3 := Lib.hid (P3.out.below hb P3.out.lt)
  replace P9 := Lib.hid (P9.out.below hb P9.out.lt)
  clear hb
  refine hK.out _ _ (⟨pg_cells P3.out, pg_cells P9.out⟩) (fun hHeld => ?_)
  clear hK K
  try simp only [Act.put, List.setIfInBounds_toArray, List.set_cons_zero, List.set_cons_succ]
  refine wpAnyH_takeL (i := 19) (v := ?_) rfl (by decide +kernel) (by decide +kernel) (by decide +kernel) (fun _ _ _ h => h) (Or.inl ⟨by rfl, ?_⟩) (by first | trivial | assumption) ?_
  rotate_left
  · intro wz hSz; (try dsimp only at hSz); go_simp; (try with_reducible rfl)
  try simp only [Act.put, List.setIfInBounds_toArray, List.set_cons_zero, List.set_cons_succ]
  refine wpAnyH_takeL (i := 20) (v := ?_) rfl (by decide +kernel) (by decide +kernel) (by decide +kernel) (fun _ _ _ h => h) (Or.inl ⟨by rfl, ?_⟩) (by first | trivial | assumption) ?_
  rotate_left
  · intro wz hSz; (try dsimp only at hSz); go_simp; (try with_reducible rfl)
  try simp only [Act.put, List.setIfInBounds_toArray, List.set_cons_zero, List.set_cons_succ]
  refine wpAnyH_takeL (i := 21) (v := ?_) rfl (by decide +kernel) (by decide +kernel) (by decide +kernel) (fun _ _ _ h => h) (Or.inl ⟨by rfl, ?_⟩) (by first | trivial | assumption) ?_
  rotate_left
  · intro wz hSz; (try dsimp only at hSz); go_simp; (try with_reducible rfl)
  try simp only [Act.put, List.setIfInBounds_toArray, List.set_cons_zero, List.set_cons_succ]
  refine wpAnyH_takeL (i := 22) (v := ?_) rfl (by decide +kernel) (by decide +kernel) (by decide +kernel) (fun _ _ _ h => h) (Or.inl ⟨by rfl, ?_⟩) (by first | trivial | assumption) ?_
  rotate_left
  · intro wz hSz; (try dsimp only at hSz); go_simp; (try with_reducible rfl)
  try simp only [Act.put, List.setIfInBounds_toArray, List.set_cons_zero, List.set_cons_succ]
  refine wpAnyH_takeL (i := 23) (v := ?_) rfl (by decide +kernel) (by decide +kernel) (by decide +kernel) (fun _ _ _ h => h) (Or.inl ⟨by rfl, ?_⟩) (by first | trivial | assumption) ?_
  rotate_left
  · intro wz hSz; (try dsimp only at hSz); go_simp; (try with_reducible rfl)
  try simp only [Act.put, List.setIfInBounds_toArray, List.set_cons_zero, List.set_cons_succ]
  refine wpAnyH_takeL (i := 24) (v := ?_) rfl (by decide +kernel) (by decide +kernel) (by decide +kernel) (fun _ _ _ h => h) (Or.inl ⟨by rfl, ?_⟩) (by first | trivial | assumption) ?_
  rotate_left
  · intro wz hSz; (try dsimp only at hSz); go_simp; (try with_reducible rfl)
  try simp only [Act.put, List.setIfInBounds_toArray, List.set_cons_zero, List.set_cons_succ]
  refine wpAnyH_takeL (i := 25) (v := ?_) rfl (by decide +kernel) (by decide +kernel) (by decide +kernel) (fun _ _ _ h => h) (Or.inl ⟨by rfl, ?_⟩) (by first | trivial | assumption) ?_
  rotate_left
  · intro wz hSz; (try dsimp only at hSz); go_simp; (try with_reducible rfl)
  try simp only [Act.put, List.setIfInBounds_toArray, List.set_cons_zero, List.set_cons_succ]
  refine wpAnyH_takeL (i := 26) (v := ?_) rfl (by decide +kernel) (by decide +kernel) (by decide +kernel) (fun _ _ _ h => h) (Or.inl ⟨by rfl, ?_⟩) (by first | trivial | assumption) ?_
  rotate_left
  · intro wz hSz; (try dsimp only at hSz); go_simp; (try with_reducible rfl)
  try simp only [Act.put, List.setIfInBounds_toArray, List.set_cons_zero, List.set_cons_succ]
  refine wpAnyH_takeL (i := 27) (v := ?_) rfl (by decide +kernel) (by decide +kernel) (by decide +kernel) (fun _ _ _ h => h) (Or.inl ⟨by rfl, ?_⟩) (by first | trivial | assumption) ?_
  rotate_left
  · intro wz hSz; (try dsimp only at hSz); go_simp; (try with_reducible rfl)
  try simp only [Act.put, List.setIfInBounds_toArray, List.set_cons_zero, List.set_cons_succ]
  refine wpAnyH_takeL (i := 28) (v := ?_) rfl (by decide +kernel) (by decide +kernel) (by decide +kernel) (fun _ _ _ h => h) (Or.inl ⟨by rfl, ?_⟩) (by first | trivial | assumption) ?_
  rotate_left
  · intro wz hSz; (try dsimp only at hSz); go_simp; (try with_reducible rfl)
  try simp only [Act.put, List.setIfInBounds_toArray, List.set_cons_zero, List.set_cons_succ]
  refine wpAnyH_takeL (i := 29) (v := ?_) rfl (by decide +kernel) (by decide +kernel) (by decide +kernel) (fun _ _ _ h => h) (Or.inl ⟨by rfl, ?_⟩) (by first | trivial | assumption) ?_
  rotate_left
  · intro wz hSz; (try dsimp only at hSz); go_simp; (try with_reducible rfl)
  try simp only [Act.put, List.setIfInBounds_toArray, List.set_cons_zero, List.set_cons_succ]
  refine wpAnyH_takeL (i := 30) (v := ?_) rfl (by decide +kernel) (by decide +kernel) (by decide +kernel) (fun _ _ _ h => h) (Or.inl ⟨by rfl, ?_⟩) (by first | trivial | assumption) ?_
  rotate_left
  · intro wz hSz; (try dsimp only at hSz); go_simp; (try with_reducible rfl)
  try simp only [Act.put, List.setIfInBounds_toArray, List.set_cons_zero, List.set_cons_succ]
  refine wpAnyH_takeL (i := 31) (v := ?_) rfl (by decide +kernel) (by decide +kernel) (by decide +kernel) (fun _ _ _ h => h) (Or.inl ⟨by rfl, ?_⟩) (by first | trivial | assumption) ?_
  rotate_left
  · intro wz hSz; (try dsimp only at hSz); go_simp; (try with_reducible rfl)
  try simp only [Act.put, List.setIfInBounds_toArray, List.set_cons_zero, List.set_cons_succ]
  refine wpAnyH_takeL (i := 32) (v := ?_) rfl (by decide +kernel) (by decide +kernel) (by decide +kernel) (fun _ _ _ h => h) (Or.inl ⟨by rfl, ?_⟩) (by first | trivial | assumption) ?_
  rotate_left
  · intro wz hSz; (try dsimp only at hSz); go_simp; (try with_reducible rfl)
  try simp only [Act.put, List.setIfInBounds_toArray, List.set_cons_zero, List.set_cons_succ]
  refine wpAnyH_takeL (i := 33) (v := ?_) rfl (by decide +kernel) (by decide +kernel) (by decide +kernel) (fun _ _ _ h => h) (Or.inl ⟨by rfl, ?_⟩) (by first | trivial | assumption) ?_
  rotate_left
  · intro wz hSz; (try dsimp only at hSz); go_simp; (try with_reducible rfl)
  try simp only [Act.put, List.setIfInBounds_toArray, List.set_cons_zero, List.set_cons_succ]
  refine wpAnyH_takeL (i := 34) (v := ?_) rfl (by decide +kernel) (by decide +kernel) (by decide +kernel) (fun _ _ _ h => h) (Or.inl ⟨by rfl, ?_⟩) (by first | trivial | assumption) ?_
  rotate_left
  · intro wz hSz; (try dsimp only at hSz); go_simp; (try with_reducible rfl)
  try simp only [Act.put, List.setIfInBounds_toArray, List.set_cons_zero, List.set_cons_succ]
  refine wpAnyH_takeL (i := 35) (v := ?_) rfl (by decide +kernel) (by decide +kernel) (by decide +kernel) (fun _ _ _ h => h) (Or.inl ⟨by rfl, ?_⟩) (by first | trivial | assumption) ?_
  rotate_left
  · intro wz hSz; (try dsimp only at hSz); go_simp; (try with_reducible rfl)
  try simp only [Act.put, List.setIfInBounds_toArray, List.set_cons_zero, List.set_cons_succ]
  refine wpAnyH_takeL (i := 36) (v := ?_) rfl (by decide +kernel) (by decide +kernel) (by decide +kernel) (fun _ _ _ h => h) (Or.inl ⟨by rfl, ?_⟩) (by first | trivial | assumption) ?_
  rotate_left
  · intro wz hSz; (try dsimp only at hSz); go_simp; (try with_reducible rfl)
  try simp only [Act.put, List.setIfInBounds_toArray, List.set_cons_zero, List.set_cons_succ]
  refine wpAnyH_takeL (i := 37) (v := ?_) rfl (by decide +kernel) (by decide +kernel) (by decide +kernel) (fun _ _ _ h => h) (Or.inl ⟨by rfl, ?_⟩) (by first | trivial | assumption) ?_
  rotate_left
  · intro wz hSz; (try dsimp only at hSz); go_simp; (try with_reducible rfl)
  try simp only [Act.put, List.setIfInBounds_toArray, List.set_cons_zero, List.set_cons_succ]
  refine wpAnyH_takeL (i := 38) (v := ?_) rfl (by decide +kernel) (by decide +kernel) (by decide +kernel) (fun _ _ _ h => h) (Or.inl ⟨by rfl, ?_⟩) (by first | trivial | assumption) ?_
  rotate_left
  · intro wz hSz; (try dsimp only at hSz); go_simp; (try with_reducible rfl)
  try simp only [Act.put, List.setIfInBounds_toArray, List.set_cons_zero, List.set_cons_succ]
  refine wpAnyH_takeL (i := 39) (v := ?_) rfl (by decide +kernel) (by decide +kernel) (by decide +kernel) (fun _ _ _ h => h) (Or.inl ⟨by rfl, ?_⟩) (by first | trivial | assumption) ?_
  rotate_left
  · intro wz hSz; (try dsimp only at hSz); go_simp; (try with_reducible rfl)
  try simp only [Act.put, List.setIfInBounds_toArray, List.set_cons_zero, List.set_cons_succ]
  refine wpAnyH_takeL (i := 40) (v := ?_) rfl (by decide +kernel) (by decide +kernel) (by decide +kernel) (fun _ _ _ h => h) (Or.inl ⟨by rfl, ?_⟩) (by first | trivial | assumption) ?_
  rotate_left
  · intro wz hSz; (try dsimp only at hSz); go_simp; (try with_reducible rfl)
  try simp only [Act.put, List.setIfInBounds_toArray, List.set_cons_zero, List.set_cons_succ]
  refine wpAnyH_takeL (i := 41) (v := ?_) rfl (by decide +kernel) (by decide +kernel) (by decide +kernel) (fun _ _ _ h => h) (Or.inl ⟨by rfl, ?_⟩) (by first | trivial | assumption) ?_
  rotate_left
  · intro wz hSz; (try dsimp only at hSz); go_simp; (try with_reducible rfl)
  try simp only [Act.put, List.setIfInBounds_toArray, List.set_cons_zero, List.set_cons_succ]
  refine wpAnyH_takeL (i := 42) (v := ?_) rfl (by decide +kernel) (by decide +kernel) (by decide +kernel) (fun _ _ _ h => h) (Or.inl ⟨by rfl, ?_⟩) (by first | trivial | assumption) ?_
  rotate_left
  · intro wz hSz; (try dsimp only at hSz); go_simp; (try with_reducible rfl)
  try simp only [Act.put, List.setIfInBounds_toArray, List.set_cons_zero, List.set_cons_succ]
  refine wpAnyH_takeL (i := 43) (v := ?_) rfl (by decide +kernel) (by decide +kernel) (by decide +kernel) (fun _ _ _ h => h) (Or.inl ⟨by rfl, ?_⟩) (by first | trivial | assumption) ?_
  rotate_left
  · intro wz hSz; (try dsimp only at hSz); go_simp; (try with_reducible rfl)
  try simp only [Act.put, List.setIfInBounds_toArray, List.set_cons_zero, List.set_cons_succ]
  refine wpAnyH_takeL (i := 44) (v := ?_) rfl (by decide +kernel) (by decide +kernel) (by decide +kernel) (fun _ _ _ h => h) (Or.inl ⟨by rfl, ?_⟩) (by first | trivial | assumption) ?_
  rotate_left
  · intro wz hSz; (try dsimp only at hSz); go_simp; (try with_reducible rfl)
  try simp only [Act.put, List.setIfInBounds_toArray, List.set_cons_zero, List.set_cons_succ]
  refine wpAnyH_takeL (i := 45) (v := ?_) rfl (by decide +kernel) (by decide +kernel) (by decide +kernel) (fun _ _ _ h => h) (Or.inl ⟨by rfl, ?_⟩) (by first | trivial | assumption) ?_
  rotate_left
  · intro wz hSz; (try dsimp only at hSz); go_simp; (try with_reducible rfl)
  try simp only [Act.put, List.setIfInBounds_toArray, List.set_cons_zero, List.set_cons_succ]
  refine wpAnyH_takeL (i := 46) (v := ?_) rfl (by decide +kernel) (by decide +kernel) (by decide +kernel) (fun _ _ _ h => h) (Or.inl ⟨by rfl, ?_⟩) (by first | trivial | assumption) ?_
  rotate_left
  · intro wz hSz; (try dsimp only at hSz); go_simp; (try with_reducible rfl)
  try simp only [Act.put, List.setIfInBounds_toArray, List.set_cons_zero, List.set_cons_succ]
  refine wpAnyH_takeL (i := 47) (v := ?_) rfl (by decide +kernel) (by decide +kernel) (by decide +kernel) (fun _ _ _ h => h) (Or.inl ⟨by rfl, ?_⟩) (by first | trivial | assumption) ?_
  rotate_left
  · intro wz hSz; (try dsimp only at hSz); go_simp; (try with_reducible rfl)
  try simp only [Act.put, List.setIfInBounds_toArray, List.set_cons_zero, List.set_cons_succ]
  refine wpAnyH_takeL (i := 48) (v := ?_) rfl (by decide +kernel) (by decide +kernel) (by decide +kernel) (fun _ _ _ h => h) (Or.inl ⟨by rfl, ?_⟩) (by first | trivial | assumption) ?_
  rotate_left
  · intro wz hSz; (try dsimp only at hSz); go_simp; (try with_reducible rfl)
  try simp only [Act.put, List.setIfInBounds_toArray, List.set_cons_zero, List.set_cons_succ]
  refine wpAnyH_takeL (i := 49) (v := ?_) rfl (by decide +kernel) (by decide +kernel) (by decide +kernel) (fun _ _ _ h => h) (Or.inl ⟨by rfl, ?_⟩) (by first | trivial | assumption) ?_
  rotate_left
  · intro wz hSz; (try dsimp only at hSz); go_simp; (try with_reducible rfl)
  try simp only [Act.put, List.setIfInBounds_toArray, List.set_cons_zero, List.set_cons_succ]
  refine wpAnyH_takeL (i := 50) (v := ?_) rfl (by decide +kernel) (by decide +kernel) (by decide +kernel) (fun _ _ _ h => h) (Or.inl ⟨by rfl, ?_⟩) (by first | trivial | assumption) ?_
  rotate_left
  · intro wz hSz; (try dsimp only at hSz); go_simp; (try with_reducible rfl)
  try simp only [Act.put, List.setIfInBounds_toArray, List.set_cons_zero, List.set_cons_succ]
  refine wpAnyH_takeL (i := 51) (v := ?_) rfl (by decide +kernel) (by decide +kernel) (by decide +kernel) (fun _ _ _ h => h) (Or.inl ⟨by rfl, ?_⟩) (by first | trivial | assumption) ?_
  rotate_left
  · intro wz hSz; (try dsimp only at hSz); go_simp; (try with_reducible rfl)
  try simp only [Act.put, List.setIfInBounds_toArray, List.set_cons_zero, List.set_cons_succ]
  refine wpAnyH_takeL (i := 52) (v := ?_) rfl (by decide +kernel) (by decide +kernel) (by decide +kernel) (fun _ _ _ h => h) (Or.inl ⟨by rfl, ?_⟩) (by first | trivial | assumption) ?_
  rotate_left
  · intro wz hSz; (try dsimp only at hSz); go_simp; (try with_reducible rfl)
  try simp only [Act.put, List.setIfInBounds_toArray, List.set_cons_zero, List.set_cons_succ]
  refine wpAnyH_takeL (i := 53) (v := ?_) rfl (by decide +kernel) (by decide +kernel) (by decide +kernel) (fun _ _ _ h => h) (Or.inl ⟨by rfl, ?_⟩) (by first | trivial | assumption) ?_
  rotate_left
  · intro wz hSz; (try dsimp only at hSz); go_simp; (try with_reducible rfl)
  try simp only [Act.put, List.setIfInBounds_toArray, List.set_cons_zero, List.set_cons_succ]
  refine wpAnyH_takeL (i := 54) (v := ?_) rfl (by decide +kernel) (by decide +kernel) (by decide +kernel) (fun _ _ _ h => h) (Or.inl ⟨by rfl, ?_⟩) (by first | trivial | assumption) ?_
  rotate_left
  · intro wz hSz; (try dsimp only at hSz); go_simp; (try with_reducible rfl)
  try simp only [Act.put, List.setIfInBounds_toArray, List.set_cons_zero, List.set_cons_succ]
  refine wpAnyH_takeL (i := 55) (v := ?_) rfl (by decide +kernel) (by decide +kernel) (by decide +kernel) (fun _ _ _ h => h) (Or.inl ⟨by rfl, ?_⟩) (by first | trivial | assumption) ?_
  rotate_left
  · intro wz hSz; (try dsimp only at hSz); go_simp; (try with_reducible rfl)
  try simp only [Act.put, List.setIfInBounds_toArray, List.set_cons_zero, List.set_cons_succ]
  refine wpAnyH_takeL (i := 56) (v := ?_) rfl (by decide +kernel) (by decide +kernel) (by decide +kernel) (fun _ _ _ h => h) (Or.inl ⟨by rfl, ?_⟩) (by first | trivial | assumption) ?_
  rotate_left
  · intro wz hSz; (try dsimp only at hSz); go_simp; (try with_reducible rfl)
  try simp only [Act.put, List.setIfInBounds_toArray, List.set_cons_zero, List.set_cons_succ]
  refine wpAnyH_takeL (i := 57) (v := ?_) rfl (by decide +kernel) (by decide +kernel) (by decide +kernel) (fun _ _ _ h => h) (Or.inl ⟨by rfl, ?_⟩) (by first | trivial | assumption) ?_
  rotate_left
  · intro wz hSz; (try dsimp only at hSz); go_simp; (try with_reducible rfl)
  try simp only [Act.put, List.setIfInBounds_toArray, List.set_cons_zero, List.set_cons_succ]
  refine wpAnyH_takeL (i := 58) (v := ?_) rfl (by decide +kernel) (by decide +kernel) (by decide +kernel) (fun _ _ _ h => h) (Or.inl ⟨by rfl, ?_⟩) (by first | trivial | assumption) ?_
  rotate_left
  · intro wz hSz; (try dsimp only at hSz); go_simp; (try with_reducible rfl)
  try simp only [Act.put, List.setIfInBounds_toArray, List.set_cons_zero, List.set_cons_succ]
  refine wpAnyH_takeL (i := 59) (v := ?_) rfl (by decide +kernel) (by decide +kernel) (by decide +kernel) (fun _ _ _ h => h) (Or.inl ⟨by rfl, ?_⟩) (by first | trivial | assumption) ?_
  rotate_left
  · intro wz hSz; (try dsimp only at hSz); go_simp; (try with_reducible rfl)
  try simp only [Act.put, List.setIfInBounds_toArray, List.set_cons_zero, List.set_cons_succ]
  refine wpAnyH_takeL (i := 60) (v := ?_) rfl (by decide +kernel) (by decide +kernel) (by decide +kernel) (fun _ _ _ h => h) (Or.inl ⟨by rfl, ?_⟩) (by first | trivial | assumption) ?_
  rotate_left
  · intro wz hSz; (try dsimp only at hSz); go_simp; (try with_reducible rfl)
  try simp only [Act.put, List.setIfInBounds_toArray, List.set_cons_zero, List.set_cons_succ]
  refine wpAnyH_takeL (i := 61) (v := ?_) rfl (by decide +kernel) (by decide +kernel) (by decide +kernel) (fun _ _ _ h => h) (Or.inl ⟨by rfl, ?_⟩) (by first | trivial | assumption) ?_
  rotate_left
  · intro wz hSz; (try dsimp only at hSz); go_simp; (try with_reducible rfl)
  try simp only [Act.put, List.setIfInBounds_toArray, List.set_cons_zero, List.set_cons_succ]
  refine wpAnyH_takeL (i := 62) (v := ?_) rfl (by decide +kernel) (by decide +kernel) (by decide +kernel) (fun _ _ _ h => h) (Or.inl ⟨by rfl, ?_⟩) (by first | trivial | assumption) ?_
  rotate_left
  · intro wz hSz; (try dsimp only at hSz); go_simp; (try with_reducible rfl)
  try simp only [Act.put, List.setIfInBounds_toArray, List.set_cons_zero, List.set_cons_succ]
  refine wpAnyH_takeL (i := 63) (v := ?_) rfl (by decide +kernel) (by decide +kernel) (by decide +kernel) (fun _ _ _ h => h) (Or.inl ⟨by rfl, ?_⟩) (by first | trivial | assumption) ?_
  rotate_left
  · intro wz hSz; (try dsimp only at hSz); go_simp; (try with_reducible rfl)
  try simp only [Act.put, List.setIfInBounds_toArray, List.set_cons_zero, List.set_cons_succ]
  refine wpAnyH_takeL (i := 64) (v := ?_) rfl (by decide +kernel) (by decide +kernel) (by decide +kernel) (fun _ _ _ h => h) (Or.inl ⟨by rfl, ?_⟩) (by first | trivial | assumption) ?_
  rotate_left
  · intro wz hSz; (try dsimp only at hSz); go_simp; (try with_reducible rfl)
  try simp only [Act.put, List.setIfInBounds_toArray, List.set_cons_zero, List.set_cons_succ]
  refine wpAnyH_takeL (i := 65) (v := ?_) rfl (by decide +kernel) (by decide +kernel) (by decide +kernel) (fun _ _ _ h => h) (Or.inl ⟨by rfl, ?_⟩) (by first | trivial | assumption) ?_
  rotate_left
  · intro wz hSz; (try dsimp only at hSz); go_simp; (try with_reducible rfl)
  try simp only [Act.put, List.setIfInBounds_toArray, List.set_cons_zero, List.set_cons_succ]
  refine wpAnyH_takeL (i := 66) (v := ?_) rfl (by decide +kernel) (by decide +kernel) (by decide +kernel) (fun _ _ _ h => h) (Or.inl ⟨by rfl, ?_⟩) (by first | trivial | assumption) ?_
  rotate_left
  · intro wz hSz; (try dsimp only at hSz); go_simp; (try with_reducible rfl)
  try simp only [Act.put, List.setIfInBounds_toArray, List.set_cons_zero, List.set_cons_succ]
  refine wpAnyH_takeL (i := 67) (v := ?_) rfl (by decide +kernel) (by decide +kernel) (by decide +kernel) (fun _ _ _ h => h) (Or.inl ⟨by rfl, ?_⟩) (by first | trivial | assumption) ?_
  rotate_left
  · intro wz hSz; (try dsimp only at hSz); go_simp; (try with_reducible rfl)
  try simp only [Act.put, List.setIfInBounds_toArray, List.set_cons_zero, List.set_cons_succ]
  refine wpAnyH_ready (rs := [68]) (by decide +kernel) (by simp) ?_
  refine AllReadyH.consL rfl (fun K hK => ?_) AllReadyH.nil
  go_simp
  refine (HT1 _).mono ?_
  rintro e wq ⟨rfl, rfl⟩
  refine hK.out _ _ (⟨pg_cells P3.out, pg_cells P9.out⟩) (fun hHeld => ?_)
  clear hK K
  try simp only [Act.put, List.setIfInBounds_toArray, List.set_cons_zero, List.set_cons_succ]
  refine wpAnyH_takeL (i := 69) (v := ?_) rfl (by decide +kernel) (by decide +kernel) (by decide +kernel) (fun _ _ _ h => h) (Or.inl ⟨by rfl, ?_⟩) (by first | trivial | assumption) ?_
  rotate_left
  · intro wz hSz; (try dsimp only at hSz); go_simp; (try with_reducible rfl)
  try simp only [Act.put, List.setIfInBounds_toArray, List.set_cons_zero, List.set_cons_succ]
  refine wpAnyH_takeL (i := 70) (v := ?_) rfl (by decide +kernel) (by decide +kernel) (by decide +kernel) (fun _ _ _ h => h) (Or.inl ⟨by rfl, ?_⟩) (by first | trivial | assumption) ?_
  rotate_left
  · intro wz hSz; (try dsimp only at hSz); go_simp; (try with_reducible rfl)
  try simp only [Act.put, List.setIfInBounds_toArray, List.set_cons_zero, List.set_cons_succ]
  refine wpAnyH_takeL (i := 71) (v := ?_) rfl (by decide +kernel) (by decide +kernel) (by decide +kernel) (fun _ _ _ h => h) (Or.inl ⟨by rfl, ?_⟩) (by first | trivial | assumption) ?_
  rotate_left
  · intro wz hSz; (try dsimp only at hSz); go_simp; (try with_reducible rfl)
  try simp only [Act.put, List.setIfInBounds_toArray, List.set_cons_zero, List.set_cons_succ]
  refine wpAnyH_takeL (i := 72) (v := ?_) rfl (by decide +kernel) (by decide +kernel) (by decide +kernel) (fun _ _ _ h => h) (Or.inl ⟨by rfl, ?_⟩) (by first | trivial | assumption) ?_
  rotate_left
  · intro wz hSz; (try dsimp only at hSz); go_simp; (try with_reducible rfl)
  try simp only [Act.put, List.setIfInBounds_toArray, List.set_cons_zero, List.set_cons_succ]
  refine wpAnyH_takeL (i := 73) (v := ?_) rfl (by decide +kernel) (by decide +kernel) (by decide +kernel) (fun _ _ _ h => h) (Or.inl ⟨by rfl, ?_⟩) (by first | trivial | assumption) ?_
  rotate_left
  · intro wz hSz; (try dsimp only at hSz); go_simp; (try with_reducible rfl)
  try simp only [Act.put, List.setIfInBounds_toArray, List.set_cons_zero, List.set_cons_succ]
  refine wpAnyH_takeL (i := 74) (v := ?_) rfl (by decide +kernel) (by decide +kernel) (by decide +kernel) (fun _ _ _ h => h) (Or.inl ⟨by rfl, ?_⟩) (by first | trivial | assumption) ?_
  rotate_left
  · intro wz hSz; (try dsimp only at hSz); go_simp; (try with_reducible rfl)
  try simp only [Act.put, List.setIfInBounds_toArray, List.set_cons_zero, List.set_cons_succ]
  refine wpAnyH_takeL (i := 75) (v := ?_) rfl (by decide +kernel) (by decide +kernel) (by decide +kernel) (fun _ _ _ h => h) (Or.inl ⟨by rfl, ?_⟩) (by first | trivial | assumption) ?_
  rotate_left
  · intro wz hSz; (try dsimp only at hSz); go_simp; (try with_reducible rfl)
  try simp only [Act.put, List.setIfInBounds_toArray, List.set_cons_zero, List.set_cons_succ]
  refine wpAnyH_takeL (i := 76) (v := ?_) rfl (by decide +kernel) (by decide +kernel) (by decide +kernel) (fun _ _ _ h => h) (Or.inl ⟨by rfl, ?_⟩) (by first | trivial | assumption) ?_
  rotate_left
  · intro wz hSz; (try dsimp only at hSz); go_simp; (try with_reducible rfl)
  try simp only [Act.put, List.setIfInBounds_toArray, List.set_cons_zero, List.set_cons_succ]
  refine wpAnyH_takeL (i := 77) (v := ?_) rfl (by decide +kernel) (by decide +kernel) (by decide +kernel) (fun _ _ _ h => h) (Or.inl ⟨by rfl, ?_⟩) (by first | trivial | assumption) ?_
  rotate_left
  · intro wz hSz; (try dsimp only at hSz); go_simp; (try with_reducible rfl)
  try simp only [Act.put, List.setIfInBounds_toArray, List.set_cons_zero, List.set_cons_succ]
  refine wpAnyH_takeL (i := 78) (v := ?_) rfl (by decide +kernel) (by decide +kernel) (by decide +kernel) (fun _ _ _ h => h) (Or.inl ⟨by rfl, ?_⟩) (by first | trivial | assumption) ?_
  rotate_left
  · intro wz hSz; (try dsimp only at hSz); go_simp; (try with_reducible rfl)
  try simp only [Act.put, List.setIfInBounds_toArray, List.set_cons_zero, List.set_cons_succ]
  refine wpAnyH_takeL (i := 79) (v := ?_) rfl (by decide +kernel) (by decide +kernel) (by decide +kernel) (fun _ _ _ h => h) (Or.inl ⟨by rfl, ?_⟩) (by first | trivial | assumption) ?_
  rotate_left
  · intro wz hSz; (try dsimp only at hSz); go_simp; (try with_reducible rfl)
  try simp only [Act.put, List.setIfInBounds_toArray, List.set_cons_zero, List.set_cons_succ]
  refine wpAnyH_takeL (i := 80) (v := ?_) rfl (by decide +kernel) (by decide +kernel) (by decide +kernel) (fun _ _ _ h => h) (Or.inl ⟨by rfl, ?_⟩) (by first | trivial | assumption) ?_
  rotate_left
  · intro wz hSz; (try dsimp only at hSz); go_simp; (try with_reducible rfl)
  try simp only [Act.put, List.setIfInBounds_toArray, List.set_cons_zero, List.set_cons_succ]
  refine wpAnyH_takeL (i := 81) (v := ?_) rfl (by decide +kernel) (by decide +kernel) (by decide +kernel) (fun _ _ _ h => h) (Or.inl ⟨by rfl, ?_⟩) (by first | trivial | assumption) ?_
  rotate_left
  · intro wz hSz; (try dsimp only at hSz); go_simp; (try with_reducible rfl)
  try simp only [Act.put, List.setIfInBounds_toArray, List.set_cons_zero, List.set_cons_succ]
  refine wpAnyH_takeL (i := 82) (v := ?_) rfl (by decide +kernel) (by decide +kernel) (by decide +kernel) (fun _ _ _ h => h) (Or.inl ⟨by rfl, ?_⟩) (by first | trivial | assumption) ?_
  rotate_left
  · intro wz hSz; (try dsimp only at hSz); go_simp; (try with_reducible rfl)
  try simp only [Act.put, List.setIfInBounds_toArray, List.set_cons_zero, List.set_cons_succ]
  refine wpAnyH_takeL (i := 83) (v := ?_) rfl (by decide +kernel) (by decide +kernel) (by decide +kernel) (fun _ _ _ h => h) (Or.inl ⟨by rfl, ?_⟩) (by first | trivial | assumption) ?_
  rotate_left
  · intro wz hSz; (try dsimp only at hSz); go_simp; (try with_reducible rfl)
  try simp only [Act.put, List.setIfInBounds_toArray, List.set_cons_zero, List.set_cons_succ]
  refine wpAnyH_takeL (i := 84) (v := ?_) rfl (by decide +kernel) (by decide +kernel) (by decide +kernel) (fun _ _ _ h => h) (Or.inl ⟨by rfl, ?_⟩) (by first | trivial | assumption) ?_
  rotate_left
  · intro wz hSz; (try dsimp only at hSz); go_simp; (try with_reducible rfl)
  try simp only [Act.put, List.setIfInBounds_toArray, List.set_cons_zero, List.set_cons_succ]
  refine wpAnyH_ready (rs := [85]) (by decide +kernel) (by simp) ?_
  refine AllReadyH.consL rfl (fun K hK => ?_) AllReadyH.nil
  go_simp
  refine (PA _).mono ?_
  rintro e wq ⟨rfl, hb⟩
  replace HB := Lib.hid (HB.out.trans (hb.mono HB.out.size))
  replace P3 := Lib.hid (P3.out.below hb P3.out.lt)
  replace P9 := Lib.hid (P9.out.below hb P9.out.lt)
  clear hb
  refine hK.out _ _ (⟨pg_cells P3.out, pg_cells P9.out⟩) (fun hHeld => ?_)
  clear hK K
  try simp only [Act.put, List.setIfInBounds_toArray, List.set_cons_zero, List.set_cons_succ]
  refine wpAnyH_takeL (i := 86) (v := ?_) rfl (by decide +kernel) (by decide +kernel) (by decide +kernel) (fun _ _ _ h => h) (Or.inl ⟨by rfl, ?_⟩) (by first | trivial | assumption) ?_
  rotate_left
  · intro wz hSz; (try dsimp only at hSz); go_simp; (try with_reducible rfl)
  try simp only [Act.put, List.setIfInBounds_toArray, List.set_cons_zero, List.set_cons_succ]
  refine wpAnyH_takeL (i := 87) (v := ?_) rfl (by decide +kernel) (by decide +kernel) (by decide +kernel) (fun _ _ _ h => h) (Or.inl ⟨by rfl, ?_⟩) (by first | trivial | assumption) ?_
  rotate_left
  · intro wz hSz; (try dsimp only at hSz); go_simp; (try with_reducible rfl)
  try simp only [Act.put, List.setIfInBounds_toArray, List.set_cons_zero, List.set_cons_succ]
  refine wpAnyH_takeL (i := 88) (v := ?_) rfl (by decide +kernel) (by decide +kernel) (by decide +kernel) (fun _ _ _ h => h) (Or.inl ⟨by rfl, ?_⟩) (by first | trivial | assumption) ?_
  rotate_left
  · intro wz hSz; (try dsimp only at hSz); go_simp; (try with_reducible rfl)
  try simp only [Act.put, List.setIfInBounds_toArray, List.set_cons_zero, List.set_cons_succ]
  refine wpAnyH_takeL (i := 89) (v := ?_) rfl (by decide +kernel) (by decide +kernel) (by decide +kernel) (fun _ _ _ h => h) (Or.inl ⟨by rfl, ?_⟩) (by first | trivial | assumption) ?_
  rotate_left
  · intro wz hSz; (try dsimp only at hSz); go_simp; (try with_reducible rfl)
  try simp only [Act.put, List.setIfInBounds_toArray, List.set_cons_zero, List.set_cons_succ]
  refine wpAnyH_takeL (i := 90) (v := ?_) rfl (by decide +kernel) (by decide +kernel) (by decide +kernel) (fun _ _ _ h => h) (Or.inl ⟨by rfl, ?_⟩) (by first | trivial | assumption) ?_
  rotate_left
  · intro wz hSz; (try dsimp only at hSz); go_simp; (try with_reducible rfl)
  try simp only [Act.put, List.setIfInBounds_toArray, List.set_cons_zero, List.set_cons_succ]
  refine wpAnyH_takeL (i := 91) (v := ?_) rfl (by decide +kernel) (by decide +kernel) (by decide +kernel) (fun _ _ _ h => h) (Or.inl ⟨by rfl, ?_⟩) (by first | trivial | assumption) ?_
  rotate_left
  · intro wz hSz; (try dsimp only at hSz); go_simp; (try with_reducible rfl)
  try simp only [Act.put, List.setIfInBounds_toArray, List.set_cons_zero, List.set_cons_succ]
  refine wpAnyH_takeL (i := 92) (v := ?_) rfl (by decide +kernel) (by decide +kernel) (by decide +kernel) (fun _ _ _ h => h) (Or.inl ⟨by rfl, ?_⟩) (by first | trivial | assumption) ?_
  rotate_left
  · intro wz hSz; (try dsimp only at hSz); go_simp; (try with_reducible rfl)
  try simp only [Act.put, List.setIfInBounds_toArray, List.set_cons_zero, List.set_cons_succ]
  refine wpAnyH_ready (rs := [93]) (by decide +kernel) (by simp) ?_
  refine AllReadyH.consL rfl (fun K hK => ?_) AllReadyH.nil
  go_simp
  refine (HT3 _).mono ?_
  rintro e wq ⟨rfl, rfl⟩
  refine hK.out _ _ (⟨pg_cells P3.out, pg_cells P9.out⟩) (fun hHeld => ?_)
  clear hK K
  try simp only [Act.put, List.setIfInBounds_toArray, List.set_cons_zero, List.set_cons_succ]
  refine wpAnyH_ready (rs := [94]) (by decide +kernel) (by simp) ?_
  refine AllReadyH.consL rfl (fun K hK => ?_) AllReadyH.nil
  go_simp
  refine (HS3 _).mono ?_
  rintro e wq ⟨rfl, rfl⟩
  refine hK.out _ _ (⟨pg_cells P3.out, pg_cells P9.out⟩) (fun hHeld => ?_)
  clear hK K
  try simp only [Act.put, List.setIfInBounds_toArray, List.set_cons_zero, List.set_cons_succ]
  refine wpAnyH_takeL (i := 95) (v := ?_) rfl (by decide +kernel) (by decide +kernel) (by decide +kernel) (fun _ _ _ h => h) (Or.inl ⟨by rfl, ?_⟩) (by first | trivial | assumption) ?_
  rotate_left
  · intro wz hSz; (try dsimp only at hSz); go_simp; (try with_reducible rfl)
  try simp only [Act.put, List.setIfInBounds_toArray, List.set_cons_zero, List.set_cons_succ]
  refine wpAnyH_takeL (i := 96) (v := ?_) rfl (by decide +kernel) (by decide +kernel) (by decide +kernel) (fun _ _ _ h => h) (Or.inl ⟨by rfl, ?_⟩) (by first | trivial | assumption) ?_
  rotate_left
  · intro wz hSz; (try dsimp only at hSz); go_simp; (try with_reducible rfl)
  try simp only [Act.put, List.setIfInBounds_toArray, List.set_cons_zero, List.set_cons_succ]
  refine wpAnyH_takeL (i := 97) (v := ?_) rfl (by decide +kernel) (by decide +kernel) (by decide +kernel) (fun _ _ _ h => h) (Or.inl ⟨by rfl, ?_⟩) (by first | trivial | assumption) ?_
  rotate_left
  · intro wz hSz; (try dsimp only at hSz); go_simp; (try with_reducible rfl)
  try simp only [Act.put, List.setIfInBounds_toArray, List.set_cons_zero, List.set_cons_succ]
  refine wpAnyH_ready (rs := [98]) (by decide +kernel) (by simp) ?_
  refine AllReadyH.consL rfl (fun K hK => ?_) AllReadyH.nil
  go_simp
  refine (HS1 _).mono ?_
  rintro e wq ⟨rfl, rfl⟩
  refine hK.out _ _ (⟨pg_cells P3.out, pg_cells P9.out⟩) (fun hHeld => ?_)
  clear hK K
  try simp only [Act.put, List.setIfInBounds_toArray, List.set_cons_zero, List.set_cons_succ]
  refine wpAnyH_takeL (i := 99) (v := ?_) rfl (by decide +kernel) (by decide +kernel) (by decide +kernel) (fun _ _ _ h => h) (Or.inl ⟨by rfl, ?_⟩) (by first | trivial | assumption) ?_
  rotate_left
  · intro wz hSz; (try dsimp only at hSz); go_simp; (try with_reducible rfl)
  try simp only [Act.put, List.setIfInBounds_toArray, List.set_cons_zero, List.set_cons_succ]
  refine wpAnyH_takeL (i := 100) (v := ?_) rfl (by decide +kernel) (by decide +kernel) (by decide +kernel) (fun _ _ _ h => h) (Or.inl ⟨by rfl, ?_⟩) (by first | trivial | assumption) ?_
  rotate_left
  · intro wz hSz; (try dsimp only at hSz); go_simp; (try with_reducible rfl)
  try simp only [Act.put, List.setIfInBounds_toArray, List.set_cons_zero, List.set_cons_succ]
  refine wpAnyH_takeL (i := 101) (v := ?_) rfl (by decide +kernel) (by decide +kernel) (by decide +kernel) (fun _ _ _ h => h) (Or.inl ⟨by rfl, ?_⟩) (by first | trivial | assumption) ?_
  rotate_left
  · intro wz hSz; (try dsimp only at hSz); go_simp; (try with_reducible rfl)
  try simp only [Act.put, List.setIfInBounds_toArray, List.set_cons_zero, List.set_cons_succ]
  refine wpAnyH_ready (rs := [102]) (by decide +kernel) (by simp) ?_
  refine AllReadyH.consL rfl (fun K hK => ?_) AllReadyH.nil
  go_simp
  refine (HM6 _).mono ?_
  rintro e wq ⟨rfl, rfl⟩
  refine hK.out _ _ (⟨pg_cells P3.out, pg_cells P9.out⟩) (fun hHeld => ?_)
  clear hK K
  try simp only [Act.put, List.setIfInBounds_toArray, List.set_cons_zero, List.set_cons_succ]
  refine wpAnyH_takeL (i := 103) (v := ?_) rfl (by decide +kernel) (by decide +kernel) (by decide +kernel) (fun _ _ _ h => h) (Or.inl ⟨by rfl, ?_⟩) (by first | trivial | assumption) ?_
  rotate_left
  · intro wz hSz; (try dsimp only at hSz); go_simp; (try with_reducible rfl)
  try simp only [Act.put, List.setIfInBounds_toArray, List.set_cons_zero, List.set_cons_succ]
  refine wpAnyH_takeL (i := 104) (v := ?_) rfl (by decide +kernel) (by decide +kernel) (by decide +kernel) (fun _ _ _ h => h) (Or.inl ⟨by rfl, ?_⟩) (by first | trivial | assumption) ?_
  rotate_left
  · intro wz hSz; (try dsimp only at hSz); go_simp; (try with_reducible rfl)
  try simp only [Act.put, List.setIfInBounds_toArray, List.set_cons_zero, List.set_cons_succ]
  refine wpAnyH_takeL (i := 105) (v := ?_) rfl (by decide +kernel) (by decide +kernel) (by decide +kernel) (fun _ _ _ h => h) (Or.inl ⟨by rfl, ?_⟩) (by first | trivial | assumption) ?_
  rotate_left
  · intro wz hSz; (try dsimp only at hSz); go_simp; (try with_reducible rfl)
  try simp only [Act.put, List.setIfInBounds_toArray, List.set_cons_zero, List.set_cons_succ]
  refine wpAnyH_done (by decide +kernel) ?_ _
  go_wp2_with fail
  go_ret
  exact ⟨rfl, HB.out⟩
end Go.Proofs.Ytdfkkebjdjmeiaa
