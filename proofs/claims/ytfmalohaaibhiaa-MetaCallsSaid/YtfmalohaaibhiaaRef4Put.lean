/-
  Contracts of the reference's rest and Put of layer 4, each with its conditions in its own statement: the bytes of a page.
-/
import Derived.Test.YtfmalohaaibhiaaRef4May
import Derived.Test.YtfmalohaaibhiaaRef1
import Derived.Test.YtfmalohaaibhiaaFramePutP
namespace Go.Proofs.Ytfmalohaaibhiaa
open Go.RowKit
open Go.Lib
set_option linter.unusedVariables false
set_option linter.unusedSimpArgs false
attribute [local go_sem ↓] Go.wp_at_zero Go.wp_at_succ

set_option maxHeartbeats 3200000 in
theorem rrest_any (kd ct pg lk tx : Nat) (bd : ByteArray) (w : World) (h1 : kd < 18446744073709551616) (h2 : ct < 18446744073709551616) (h3 : pg < 18446744073709551616) (h4 : lk < 18446744073709551616) (h5 : bd.size ≤ 1000000000) (rs : ByteArray) (hrs : rs = ⟨(restL kd ct pg lk tx bd).toArray⟩) :
    Calls Try.prog 41 #[.agg #[.int .i64 kd, .int .i64 ct, .int .u32 pg, .int .u32 lk, .int .u64 tx, .string bd]] w fun e w' => e = .returned (.string rs) ∧ Below w.heap.size w w' := by
  have b0 : Blk (w.alloc (.cells #[.int .i64 kd, .int .i64 ct, .int .u32 pg, .int .u32 lk, .int .u64 tx, .string bd] 26)) w.heap.size 26 #[.int .i64 kd, .int .i64 ct, .int .u32 pg, .int .u32 lk, .int .u64 tx, .string bd] := Blk.new _ _ _
  have B0 := Lib.hid b0
  clear b0
  have hb0 : Below w.heap.size w (w.alloc (.cells #[.int .i64 kd, .int .i64 ct, .int .u32 pg, .int .u32 lk, .int .u64 tx, .string bd] 26)) := (Below.refl _ _).alloc (Nat.le_refl _) _
  have hlt : w.heap.size < (w.alloc (.cells #[.int .i64 kd, .int .i64 ct, .int .u32 pg, .int .u32 lk, .int .u64 tx, .string bd] 26)).heap.size := by simp
  obtain ⟨w0, hw0⟩ : ∃ w0, w0 = w.alloc (.cells #[.int .i64 kd, .int .i64 ct, .int .u32 pg, .int .u32 lk, .int .u64 tx, .string bd] 26) := ⟨_, rfl⟩
  rw [← hw0] at B0 hb0 hlt
  have e1 := u64_nat kd h1
  have e2 := u64_nat ct h2
  have e3 := u64_nat pg h3
  have e4 := u64_nat lk h4
  have b0 := B0.out
  have c0 := b0.cell 0
  have c1 := b0.cell 1
  have c2 := b0.cell 2
  have c3 := b0.cell 3
  have c4 := b0.cell 4
  have c5 := b0.cell 5
  simp at c0 c1 c2 c3 c4 c5
  clear b0
  go_enter Try.func41, Try.ntmps41
  go_wp2_with fail
  rw [← hw0]
  clear hw0
  refine (rput_reads none 0 0 kd 1 [] _ (reads_nil _) (by omega) (by omega) (by omega)).mono ?_
  rintro e w1 ⟨A1, c1_, rfl, hr1, hb1⟩
  rw [List.nil_append] at hr1
  have R1 := Lib.hid hr1
  replace B0 := Lib.hid (B0.out.below hb1 hlt)
  replace hlt := Nat.lt_of_lt_of_le hlt hb1.size
  replace hb0 := hb0.trans (hb1.mono hb0.size)
  clear c0 c1 c2 c3 c4 c5 hb1 hr1
  have b0 := B0.out
  have c0 := b0.cell 0
  have c1 := b0.cell 1
  have c2 := b0.cell 2
  have c3 := b0.cell 3
  have c4 := b0.cell 4
  have c5 := b0.cell 5
  simp at c0 c1 c2 c3 c4 c5
  clear b0
  go_wp2_with fail
  refine (rput_reads A1 1 c1_ 1 1 (leBytes 1 kd) _ R1.out (by omega) (by omega) (by omega)).mono ?_
  rintro e w2 ⟨A2, c2_, rfl, hr2, hb2⟩
  have R2 := Lib.hid hr2
  replace B0 := Lib.hid (B0.out.below hb2 hlt)
  replace hlt := Nat.lt_of_lt_of_le hlt hb2.size
  replace hb0 := hb0.trans (hb2.mono hb0.size)
  clear c0 c1 c2 c3 c4 c5 hb2 hr2
  have b0 := B0.out
  have c0 := b0.cell 0
  have c1 := b0.cell 1
  have c2 := b0.cell 2
  have c3 := b0.cell 3
  have c4 := b0.cell 4
  have c5 := b0.cell 5
  simp at c0 c1 c2 c3 c4 c5
  clear b0
  go_wp2_with fail
  refine (rput_reads A2 2 c2_ ct 2 ((leBytes 1 kd) ++ leBytes 1 1) _ R2.out (by omega) (by omega) (by omega)).mono ?_
  rintro e w3 ⟨A3, c3_, rfl, hr3, hb3⟩
  have R3 := Lib.hid hr3
  replace B0 := Lib.hid (B0.out.below hb3 hlt)
  replace hlt := Nat.lt_of_lt_of_le hlt hb3.size
  replace hb0 := hb0.trans (hb3.mono hb0.size)
  clear c0 c1 c2 c3 c4 c5 hb3 hr3
  have b0 := B0.out
  have c0 := b0.cell 0
  have c1 := b0.cell 1
  have c2 := b0.cell 2
  have c3 := b0.cell 3
  have c4 := b0.cell 4
  have c5 := b0.cell 5
  simp at c0 c1 c2 c3 c4 c5
  clear b0
  go_wp2_with fail
  refine (rput_reads A3 4 c3_ pg 4 (((leBytes 1 kd) ++ leBytes 1 1) ++ leBytes 2 ct) _ R3.out (by omega) (by omega) (by omega)).mono ?_
  rintro e w4 ⟨A4, c4_, rfl, hr4, hb4⟩
  have R4 := Lib.hid hr4
  replace B0 := Lib.hid (B0.out.below hb4 hlt)
  replace hlt := Nat.lt_of_lt_of_le hlt hb4.size
  replace hb0 := hb0.trans (hb4.mono hb0.size)
  clear c0 c1 c2 c3 c4 c5 hb4 hr4
  have b0 := B0.out
  have c0 := b0.cell 0
  have c1 := b0.cell 1
  have c2 := b0.cell 2
  have c3 := b0.cell 3
  have c4 := b0.cell 4
  have c5 := b0.cell 5
  simp at c0 c1 c2 c3 c4 c5
  clear b0
  go_wp2_with fail
  refine (rput_reads A4 8 c4_ lk 4 ((((leBytes 1 kd) ++ leBytes 1 1) ++ leBytes 2 ct) ++ leBytes 4 pg) _ R4.out (by omega) (by omega) (by omega)).mono ?_
  rintro e w5 ⟨A5, c5_, rfl, hr5, hb5⟩
  have R5 := Lib.hid hr5
  replace B0 := Lib.hid (B0.out.below hb5 hlt)
  replace hlt := Nat.lt_of_lt_of_le hlt hb5.size
  replace hb0 := hb0.trans (hb5.mono hb0.size)
  clear c0 c1 c2 c3 c4 c5 hb5 hr5
  have b0 := B0.out
  have c0 := b0.cell 0
  have c1 := b0.cell 1
  have c2 := b0.cell 2
  have c3 := b0.cell 3
  have c4 := b0.cell 4
  have c5 := b0.cell 5
  simp at c0 c1 c2 c3 c4 c5
  clear b0
  go_wp2_with fail
  refine (rput_reads A5 12 c5_ tx 8 (((((leBytes 1 kd) ++ leBytes 1 1) ++ leBytes 2 ct) ++ leBytes 4 pg) ++ leBytes 4 lk) _ R5.out (by omega) (by omega) (by omega)).mono ?_
  rintro e w6 ⟨A6, c6_, rfl, hr6, hb6⟩
  have R6 := Lib.hid hr6
  replace B0 := Lib.hid (B0.out.below hb6 hlt)
  replace hb0 := hb0.trans (hb6.mono hb0.size)
  have hcv := run_string_reads w6 56 9 5 c6_ Try.underlying56 Try.underlying5 Try.underlying9 R6.out
  clear c0 c1 c2 c3 c4 c5 hr6 hb6
  have c5 := B0.out.cell 5
  simp at c5
  have hsz : (⟨((((((leBytes 1 kd) ++ leBytes 1 1) ++ leBytes 2 ct) ++ leBytes 4 pg) ++ leBytes 4 lk) ++ leBytes 8 tx).toArray⟩ : ByteArray).size = 20 := by rw [← size_list]; simp [leB_len]
  have cat : ¬ (9223372036854775807 < (⟨((((((leBytes 1 kd) ++ leBytes 1 1) ++ leBytes 2 ct) ++ leBytes 4 pg) ++ leBytes 4 lk) ++ leBytes 8 tx).toArray⟩ : ByteArray).size + bd.size) := by rw [hsz]; omega
  have hcat : (⟨((((((leBytes 1 kd) ++ leBytes 1 1) ++ leBytes 2 ct) ++ leBytes 4 pg) ++ leBytes 4 lk) ++ leBytes 8 tx).toArray⟩ : ByteArray) ++ bd = rs := by
    rw [hrs]
    apply bytes_ext
    rw [ByteArray.data_append, Array.toList_append]
    rfl
  obtain ⟨hd, hhd⟩ : ∃ hd : ByteArray, hd = ⟨((((((leBytes 1 kd) ++ leBytes 1 1) ++ leBytes 2 ct) ++ leBytes 4 pg) ++ leBytes 4 lk) ++ leBytes 8 tx).toArray⟩ := ⟨_, rfl⟩
  rw [← hhd] at cat hcat hcv
  have HC := Lib.hid hcat
  clear hcat hhd hsz hrs
  go_wp2_with fail
  go_ret
  exact ⟨by rw [← HC.out]; rfl, hb0⟩

theorem rfput_no (size kd ct : Int) (pg lk tx : Nat) (bd : ByteArray) (w : World) (h : mayPg size kd ct pg lk tx bd = false) :
    Calls Try.prog 30 #[.int .i64 size, .agg #[.int .i64 kd, .int .i64 ct, .int .u32 pg, .int .u32 lk, .int .u64 tx, .string bd]] w fun e w' => e = .returned (.tuple #[.string ⟨#[]⟩, .int .i64 2]) ∧ Below w.heap.size w w' := by
  have b0 : Blk (w.alloc (.cells #[.int .i64 kd, .int .i64 ct, .int .u32 pg, .int .u32 lk, .int .u64 tx, .string bd] 26)) w.heap.size 26 #[.int .i64 kd, .int .i64 ct, .int .u32 pg, .int .u32 lk, .int .u64 tx, .string bd] := Blk.new _ _ _
  have HB := Lib.hid (show Below w.heap.size w (w.alloc (.cells #[.int .i64 kd, .int .i64 ct, .int .u32 pg, .int .u32 lk, .int .u64 tx, .string bd] 26)) from (Below.refl _ _).alloc (Nat.le_refl _) _)
  have c0 := b0.cell 0
  have c1 := b0.cell 1
  have c2 := b0.cell 2
  have c3 := b0.cell 3
  have c4 := b0.cell 4
  have c5 := b0.cell 5
  simp at c0 c1 c2 c3 c4 c5
  clear b0
  go_enter Try.func30, Try.ntmps30
  go_wp2_with fail
  refine (rmay_any _ _ _ _ _ _ _ _).mono ?_
  rw [h]
  rintro e w1 ⟨rfl, hb1⟩
  go_wp2_with fail
  go_ret2
  exact ⟨rfl, HB.out.trans (hb1.mono (HB.out).size)⟩

set_option maxHeartbeats 1600000 in
theorem rfput_yes (size : Int) (kd ct pg lk tx : Nat) (bd : ByteArray) (w : World) (h : mayPg size kd ct pg lk tx bd = true) :
    Calls Try.prog 30 #[.int .i64 size, .agg #[.int .i64 kd, .int .i64 ct, .int .u32 pg, .int .u32 lk, .int .u64 tx, .string bd]] w fun e w' => e = .returned (.tuple #[.string (pageB kd ct pg lk tx bd), .int .i64 0]) ∧ Below w.heap.size w w' := by
  have hm := h
  simp only [mayPg, Bool.and_eq_true, decide_eq_true_eq] at hm
  obtain ⟨hg, m1, m2, m3, m4, m5, m6, m7, m8⟩ := hm
  obtain ⟨n, rfl, n1, n2, n3⟩ := good_nat hg
  have hbs : bd.size = n - 24 := by omega
  have HB := Lib.hid (show Below w.heap.size w (w.alloc (.cells #[.int .i64 kd, .int .i64 ct, .int .u32 pg, .int .u32 lk, .int .u64 tx, .string bd] 26)) from (Below.refl _ _).alloc (Nat.le_refl _) _)
  obtain ⟨w0, hw0⟩ : ∃ w0, w0 = w.alloc (.cells #[.int .i64 kd, .int .i64 ct, .int .u32 pg, .int .u32 lk, .int .u64 tx, .string bd] 26) := ⟨_, rfl⟩
  have B0 := Lib.hid (show Blk w0 w.heap.size 26 #[.int .i64 kd, .int .i64 ct, .int .u32 pg, .int .u32 lk, .int .u64 tx, .string bd] by rw [hw0]; exact Blk.new _ _ _)
  rw [← hw0] at HB
  have HV := fun w => rmay_any n kd ct pg lk tx bd w
  rw [h] at HV
  obtain ⟨rs, hrs⟩ : ∃ rs : ByteArray, rs = ⟨(restL kd ct pg lk tx bd).toArray⟩ := ⟨_, rfl⟩
  have HR := fun w => rrest_any kd ct pg lk tx bd w (by omega) (by omega) (by omega) (by omega) (by omega) rs hrs
  have hrl : rs.data.toList = restL kd ct pg lk tx bd := by rw [hrs]
  have hrz : rs.size = n - 4 := by rw [← size_list, hrl, restL_len, hbs]; omega
  have HO := fun w => rof_any rs w (by rw [hrz]; unfold maxLen; omega)
  rw [hrl] at HO
  have hcr := crcM_lt 0 (restL kd ct pg lk tx bd)
  obtain ⟨cr, hcr2⟩ : ∃ cr, cr = crcM 0 (restL kd ct pg lk tx bd) := ⟨_, rfl⟩
  rw [← hcr2] at HO hcr
  have hw8 := u64_nat cr (by omega)
  have hpb : pageB kd ct pg lk tx bd = (⟨(leBytes 4 cr).toArray⟩ : ByteArray) ++ rs := by
    apply bytes_ext
    rw [pageB_list, ByteArray.data_append, Array.toList_append, hrl, hcr2]
  rw [hpb]
  have cat2 : ¬ (9223372036854775807 < (⟨(leBytes 4 cr).toArray⟩ : ByteArray).size + rs.size) := by
    have : (⟨(leBytes 4 cr).toArray⟩ : ByteArray).size = 4 := by rw [← size_list]; simp [leB_len]
    omega
  clear hpb hrl hrs hcr2 h m1 m2 m3 m4 m5 m6 m7 m8 hg n1 n2 n3 hbs hrz hcr
  have k0 := B0.out.cell 0
  have k1 := B0.out.cell 1
  have k2 := B0.out.cell 2
  have k3 := B0.out.cell 3
  have k4 := B0.out.cell 4
  have k5 := B0.out.cell 5
  rw [hw0] at k0 k1 k2 k3 k4 k5
  simp at k0 k1 k2 k3 k4 k5
  go_enter Try.func30, Try.ntmps30
  go_wp2_with fail
  rw [← hw0]
  clear hw0 k0 k1 k2 k3 k4 k5
  refine (HV _).mono ?_
  rintro e w1 ⟨rfl, hb⟩
  replace B0 := Lib.hid (B0.out.below hb B0.out.lt)
  replace HB := Lib.hid (HB.out.trans (hb.mono HB.out.size))
  clear hb
  have k0 := B0.out.cell 0
  have k1 := B0.out.cell 1
  have k2 := B0.out.cell 2
  have k3 := B0.out.cell 3
  have k4 := B0.out.cell 4
  have k5 := B0.out.cell 5
  simp at k0 k1 k2 k3 k4 k5
  go_wp2_with fail
  refine (HR _).mono ?_
  rintro e w2 ⟨rfl, hb⟩
  replace HB := Lib.hid (HB.out.trans (hb.mono HB.out.size))
  clear hb k0 k1 k2 k3 k4 k5 B0
  go_wp2_with fail
  refine (HO _).mono ?_
  rintro e w3 ⟨rfl, hb⟩
  replace HB := Lib.hid (HB.out.trans (hb.mono HB.out.size))
  clear hb
  go_wp2_with fail
  refine (rput_reads none 0 0 cr 4 [] _ (reads_nil _) (by omega) (by omega) (by omega)).mono ?_
  rintro e w4 ⟨A4, c4_, rfl, hr4, hb⟩
  rw [List.nil_append] at hr4
  have hcv := run_string_reads w4 56 9 5 c4_ Try.underlying56 Try.underlying5 Try.underlying9 hr4
  clear hr4
  replace HB := Lib.hid (HB.out.trans (hb.mono HB.out.size))
  clear hb
  go_wp2_with fail
  go_ret2
  exact ⟨rfl, HB.out⟩
end Go.Proofs.Ytfmalohaaibhiaa
