/-
  Contract of package frame's Put: ErrArg for what is no valid page, the bytes of a valid page.
-/
import Derived.Test.YtdfkkebjdjmeiaaFramePut
import Derived.Deep.RegionHeld3
namespace Go.Proofs.Ytdfkkebjdjmeiaa
open Go.RowKit
open Go.Lib
set_option linter.unusedVariables false
set_option linter.unusedSimpArgs false
attribute [local go_sem ↓] Go.wp_at_zero Go.wp_at_succ

theorem fput_no (size kd ct : Int) (pg lk tx : Nat) (bd : ByteArray) (w : World) (h : mayPg size kd ct pg lk tx bd = false) :
    Calls Try.prog 7 #[.int .i64 size, .agg #[.int .i64 kd, .int .i64 ct, .int .u32 pg, .int .u32 lk, .int .u64 tx, .string bd]] w fun e w' => e = .returned (.tuple #[.string ⟨#[]⟩, .int .i64 2]) ∧ Below w.heap.size w w' := by
  have b0 : Blk (w.alloc (.cells #[.int .i64 kd, .int .i64 ct, .int .u32 pg, .int .u32 lk, .int .u64 tx, .string bd] 29)) w.heap.size 29 #[.int .i64 kd, .int .i64 ct, .int .u32 pg, .int .u32 lk, .int .u64 tx, .string bd] := Blk.new _ _ _
  have HB := Lib.hid (show Below w.heap.size w (w.alloc (.cells #[.int .i64 kd, .int .i64 ct, .int .u32 pg, .int .u32 lk, .int .u64 tx, .string bd] 29)) from (Below.refl _ _).alloc (Nat.le_refl _) _)
  have c0 := b0.cell 0
  have c1 := b0.cell 1
  have c2 := b0.cell 2
  have c3 := b0.cell 3
  have c4 := b0.cell 4
  have c5 := b0.cell 5
  simp at c0 c1 c2 c3 c4 c5
  clear b0
  go_enter Try.func7, Try.ntmps7
  go_wp2_with fail
  refine (valid_any _ _ _ _ _ _ _ _).mono ?_
  rw [h]
  rintro e w1 ⟨rfl, hb1⟩
  go_wp2_with fail
  go_ret2
  exact ⟨rfl, HB.out.trans (hb1.mono (HB.out).size)⟩

/-- What a page's checksum speaks of. -/
def restL (kd ct pg lk tx : Nat) (bd : ByteArray) : List UInt8 := headL kd ct pg lk tx ++ bd.data.toList
/-- A page's bytes. -/
def pageB (kd ct pg lk tx : Nat) (bd : ByteArray) : ByteArray := ⟨(leBytes 4 (crcM 0 (restL kd ct pg lk tx bd)) ++ restL kd ct pg lk tx bd).toArray⟩
theorem pageB_list (kd ct pg lk tx : Nat) (bd : ByteArray) : (pageB kd ct pg lk tx bd).data.toList = leBytes 4 (crcM 0 (restL kd ct pg lk tx bd)) ++ restL kd ct pg lk tx bd := by simp [pageB]
theorem restL_len (kd ct pg lk tx : Nat) (bd : ByteArray) : (restL kd ct pg lk tx bd).length = 20 + bd.size := by rw [restL, List.length_append, headL_len, size_list]
theorem pageB_size (kd ct pg lk tx : Nat) (bd : ByteArray) : (pageB kd ct pg lk tx bd).size = 24 + bd.size := by rw [← size_list, pageB_list, List.length_append, leB_len, restL_len]; omega

set_option maxHeartbeats 1600000 in
theorem fput_yes (size : Int) (kd ct pg lk tx : Nat) (bd : ByteArray) (w : World) (h : mayPg size kd ct pg lk tx bd = true) :
    Calls Try.prog 7 #[.int .i64 size, .agg #[.int .i64 kd, .int .i64 ct, .int .u32 pg, .int .u32 lk, .int .u64 tx, .string bd]] w fun e w' => e = .returned (.tuple #[.string (pageB kd ct pg lk tx bd), .int .i64 0]) ∧ Below w.heap.size w w' := by
  have hm := h
  simp only [mayPg, Bool.and_eq_true, decide_eq_true_eq] at hm
  obtain ⟨hg, m1, m2, m3, m4, m5, m6, m7, m8⟩ := hm
  obtain ⟨n, rfl, n1, n2, n3⟩ := good_nat hg
  have hbs : bd.size = n - 24 := by omega
  have b0 : Blk (w.alloc (.cells #[.int .i64 kd, .int .i64 ct, .int .u32 pg, .int .u32 lk, .int .u64 tx, .string bd] 29)) w.heap.size 29 #[.int .i64 kd, .int .i64 ct, .int .u32 pg, .int .u32 lk, .int .u64 tx, .string bd] := Blk.new _ _ _
  have hb0 := (show Below w.heap.size w (w.alloc (.cells #[.int .i64 kd, .int .i64 ct, .int .u32 pg, .int .u32 lk, .int .u64 tx, .string bd] 29)) from (Below.refl _ _).alloc (Nat.le_refl _) _)
  have hlt : w.heap.size < (w.alloc (.cells #[.int .i64 kd, .int .i64 ct, .int .u32 pg, .int .u32 lk, .int .u64 tx, .string bd] 29)).heap.size := by simp
  have HV := fun w => valid_any n kd ct pg lk tx bd w
  rw [h] at HV
  have HH := fun w => header_any kd ct pg lk tx bd w (by omega) (by omega) (by omega) (by omega)
  obtain ⟨hd, hhd⟩ : ∃ hd : ByteArray, hd = ⟨(headL kd ct pg lk tx).toArray⟩ := ⟨_, rfl⟩
  rw [← hhd] at HH
  have hds : hd.size = 20 := by rw [← size_list, hhd]; simp [headL_len]
  obtain ⟨rs, hrs⟩ : ∃ rs : ByteArray, rs = hd ++ bd := ⟨_, rfl⟩
  have hrl : rs.data.toList = restL kd ct pg lk tx bd := by rw [hrs, ByteArray.data_append, Array.toList_append, hhd, restL]
  have hrz : rs.size = n - 4 := by rw [hrs, ByteArray.size_append, hds, hbs]; omega
  have HO := fun w => of_any rs w (by rw [hrz]; unfold maxLen; omega)
  rw [hrl] at HO
  have hcr := crcM_lt 0 (restL kd ct pg lk tx bd)
  obtain ⟨cr, hcr2⟩ : ∃ cr, cr = crcM 0 (restL kd ct pg lk tx bd) := ⟨_, rfl⟩
  rw [← hcr2] at HO hcr
  have hw8 := u64_nat cr (by omega)
  have hpb : pageB kd ct pg lk tx bd = (⟨(leBytes 4 cr).toArray⟩ : ByteArray) ++ rs := by
    apply bytes_ext
    rw [pageB_list, ByteArray.data_append, Array.toList_append, hrl, hcr2]
  rw [hpb]
  have cat1 : ¬ (9223372036854775807 < hd.size + bd.size) := by omega
  have cat2 : ¬ (9223372036854775807 < (⟨(leBytes 4 cr).toArray⟩ : ByteArray).size + rs.size) := by
    have : (⟨(leBytes 4 cr).toArray⟩ : ByteArray).size = 4 := by rw [← size_list]; simp [leB_len]
    omega
  have B0 := Lib.hid b0
  have HB0 := Lib.hid hb0
  have HLT := Lib.hid hlt
  have HRS := Lib.hid hrs
  have c0 := b0.cell 0
  have c1 := b0.cell 1
  have c2 := b0.cell 2
  have c3 := b0.cell 3
  have c4 := b0.cell 4
  have c5 := b0.cell 5
  simp at c0 c1 c2 c3 c4 c5
  clear b0 hb0 hlt hrs hpb hrl hhd hcr2 h m1 m2 m3 m4 m5 m6 m7 m8 hg n1 n2 n3 hbs hds hrz hcr
  go_enter Try.func7, Try.ntmps7
  go_wp2_with fail
  refine (HV _).mono ?_
  rintro e w1 ⟨rfl, hb1⟩
  replace B0 := Lib.hid (B0.out.below hb1 HLT.out)
  replace HB0 := Lib.hid (HB0.out.trans (hb1.mono HB0.out.size))
  replace HLT := Lib.hid (Nat.lt_of_lt_of_le HLT.out hb1.size)
  clear c0 c1 c2 c3 c4 c5 hb1
  replace B0 := Lib.hid (B0.out.drew)
  replace HB0 := Lib.hid (HB0.out.drew)
  replace HLT := Lib.hid (show w.heap.size < w1.drew.heap.size from HLT.out)
  go_wp2_with fail
  go_region_held3 (fun w' => w'.cell? ⟨w.heap.size, 0, none⟩ = some (.int .i64 kd) ∧ w'.cell? ⟨w.heap.size, 1, none⟩ = some (.int .i64 ct) ∧ w'.cell? ⟨w.heap.size, 2, none⟩ = some (.int .u32 pg) ∧ w'.cell? ⟨w.heap.size, 3, none⟩ = some (.int .u32 lk) ∧ w'.cell? ⟨w.heap.size, 4, none⟩ = some (.int .u64 tx) ∧ w'.cell? ⟨w.heap.size, 5, none⟩ = some (.string bd))
    (exact ⟨B0.out.cell 0, B0.out.cell 1, B0.out.cell 2, B0.out.cell 3, B0.out.cell 4, B0.out.cell 5⟩)
    (first
    | (go_at_call 19
       with_reducible refine (HH _).mono ?_
       rintro e w2 ⟨rfl, hb2⟩
       replace B0 := Lib.hid (B0.out.below hb2 HLT.out)
       replace HB0 := Lib.hid (HB0.out.trans (hb2.mono HB0.out.size))
       replace HLT := Lib.hid (Nat.lt_of_lt_of_le HLT.out hb2.size)
       clear hb2))
  all_goals (try rw [← HRS.out])
  go_wp2_with fail
  refine (HO _).mono ?_
  rintro e w3 ⟨rfl, hb3⟩
  replace HB0 := Lib.hid (HB0.out.trans (hb3.mono HB0.out.size))
  clear hb3
  go_wp2_with fail
  refine (put_reads none 0 0 cr 4 [] _ (reads_nil _) (by omega) (by omega) (by omega)).mono ?_
  rintro e w4 ⟨A4, c4_, rfl, hr4, hb4⟩
  rw [List.nil_append] at hr4
  have hcv := run_string_reads w4 34 9 5 c4_ Try.underlying34 Try.underlying5 Try.underlying9 hr4
  clear hr4
  replace HB0 := Lib.hid (HB0.out.trans (hb4.mono HB0.out.size))
  clear hb4
  go_wp2_with fail
  go_ret2
  exact ⟨rfl, HB0.out⟩
end Go.Proofs.Ytdfkkebjdjmeiaa
