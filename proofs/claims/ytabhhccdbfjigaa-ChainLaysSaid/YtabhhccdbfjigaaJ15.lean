/-
  Texts that the main proof rests on, put together: Ref4Put, Ref4Get, Ref4Body, Ref4Use, PgRead. No statement is proved here.
-/
import Derived.Test.YtabhhccdbfjigaaJ14
import Derived.Test.YtabhhccdbfjigaaJ7
import Derived.Test.YtabhhccdbfjigaaJ12
import Derived.Test.YtabhhccdbfjigaaJ13
import Derived.Deep.RegionHeld3
import Derived.Deep.DrawnRows
import Derived.Test.YtabhhccdbfjigaaJ11
namespace Go.Proofs.Ytabhhccdbfjigaa
open Go.RowKit
open Go.Lib
set_option linter.unusedVariables false
set_option linter.unusedSimpArgs false
attribute [local go_sem ↓] Go.wp_at_zero Go.wp_at_succ

set_option maxHeartbeats 3200000 in
theorem rrest_any (kd ct pg lk tx : Nat) (bd : ByteArray) (w : World) (h1 : kd < 18446744073709551616) (h2 : ct < 18446744073709551616) (h3 : pg < 18446744073709551616) (h4 : lk < 18446744073709551616) (h5 : bd.size ≤ 1000000000) (rs : ByteArray) (hrs : rs = ⟨(restL kd ct pg lk tx bd).toArray⟩) :
    Calls Try.prog 85 #[.agg #[.int .i64 kd, .int .i64 ct, .int .u32 pg, .int .u32 lk, .int .u64 tx, .string bd]] w fun e w' => e = .returned (.string rs) ∧ Below w.heap.size w w' := by
  have b0 : Blk (w.alloc (.cells #[.int .i64 kd, .int .i64 ct, .int .u32 pg, .int .u32 lk, .int .u64 tx, .string bd] 40)) w.heap.size 40 #[.int .i64 kd, .int .i64 ct, .int .u32 pg, .int .u32 lk, .int .u64 tx, .string bd] := Blk.new _ _ _
  have B0 := Lib.hid b0
  clear b0
  have hb0 : Below w.heap.size w (w.alloc (.cells #[.int .i64 kd, .int .i64 ct, .int .u32 pg, .int .u32 lk, .int .u64 tx, .string bd] 40)) := (Below.refl _ _).alloc (Nat.le_refl _) _
  have hlt : w.heap.size < (w.alloc (.cells #[.int .i64 kd, .int .i64 ct, .int .u32 pg, .int .u32 lk, .int .u64 tx, .string bd] 40)).heap.size := by simp
  obtain ⟨w0, hw0⟩ : ∃ w0, w0 = w.alloc (.cells #[.int .i64 kd, .int .i64 ct, .int .u32 pg, .int .u32 lk, .int .u64 tx, .string bd] 40) := ⟨_, rfl⟩
  rw [← hw0] at B0 hb0 hlt
  have e1 := u64_nat kd h1
  have e2 := u64_nat ct h2
  have e3 := u64_nat pg h3
  have e4 := u64_nat lk h4
  have b0 := B0.out
  have c0 := b0.cell 0
  have c1 := b0.cell 1
  have c2 := b0.cell 2
  have c3 := b0.cell 3
  have c4 := b0.cell 4
  have c5 := b0.cell 5
  simp at c0 c1 c2 c3 c4 c5
  clear b0
  go_enter Try.func85, Try.ntmps85
  go_wp2_with fail
  rw [← hw0]
  clear hw0
  refine (rput_reads none 0 0 kd 1 [] _ (reads_nil _) (by omega) (by omega) (by omega)).mono ?_
  rintro e w1 ⟨A1, c1_, rfl, hr1, hb1⟩
  rw [List.nil_append] at hr1
  have R1 := Lib.hid hr1
  replace B0 := Lib.hid (B0.out.below hb1 hlt)
  replace hlt := Nat.lt_of_lt_of_le hlt hb1.size
  replace hb0 := hb0.trans (hb1.mono hb0.size)
  clear c0 c1 c2 c3 c4 c5 hb1 hr1
  have b0 := B0.out
  have c0 := b0.cell 0
  have c1 := b0.cell 1
  have c2 := b0.cell 2
  have c3 := b0.cell 3
  have c4 := b0.cell 4
  have c5 := b0.cell 5
  simp at c0 c1 c2 c3 c4 c5
  clear b0
  go_wp2_with fail
  refine (rput_reads A1 1 c1_ 1 1 (leBytes 1 kd) _ R1.out (by omega) (by omega) (by omega)).mono ?_
  rintro e w2 ⟨A2, c2_, rfl, hr2, hb2⟩
  have R2 := Lib.hid hr2
  replace B0 := Lib.hid (B0.out.below hb2 hlt)
  replace hlt := Nat.lt_of_lt_of_le hlt hb2.size
  replace hb0 := hb0.trans (hb2.mono hb0.size)
  clear c0 c1 c2 c3 c4 c5 hb2 hr2
  have b0 := B0.out
  have c0 := b0.cell 0
  have c1 := b0.cell 1
  have c2 := b0.cell 2
  have c3 := b0.cell 3
  have c4 := b0.cell 4
  have c5 := b0.cell 5
  simp at c0 c1 c2 c3 c4 c5
  clear b0
  go_wp2_with fail
  refine (rput_reads A2 2 c2_ ct 2 ((leBytes 1 kd) ++ leBytes 1 1) _ R2.out (by omega) (by omega) (by omega)).mono ?_
  rintro e w3 ⟨A3, c3_, rfl, hr3, hb3⟩
  have R3 := Lib.hid hr3
  replace B0 := Lib.hid (B0.out.below hb3 hlt)
  replace hlt := Nat.lt_of_lt_of_le hlt hb3.size
  replace hb0 := hb0.trans (hb3.mono hb0.size)
  clear c0 c1 c2 c3 c4 c5 hb3 hr3
  have b0 := B0.out
  have c0 := b0.cell 0
  have c1 := b0.cell 1
  have c2 := b0.cell 2
  have c3 := b0.cell 3
  have c4 := b0.cell 4
  have c5 := b0.cell 5
  simp at c0 c1 c2 c3 c4 c5
  clear b0
  go_wp2_with fail
  refine (rput_reads A3 4 c3_ pg 4 (((leBytes 1 kd) ++ leBytes 1 1) ++ leBytes 2 ct) _ R3.out (by omega) (by omega) (by omega)).mono ?_
  rintro e w4 ⟨A4, c4_, rfl, hr4, hb4⟩
  have R4 := Lib.hid hr4
  replace B0 := Lib.hid (B0.out.below hb4 hlt)
  replace hlt := Nat.lt_of_lt_of_le hlt hb4.size
  replace hb0 := hb0.trans (hb4.mono hb0.size)
  clear c0 c1 c2 c3 c4 c5 hb4 hr4
  have b0 := B0.out
  have c0 := b0.cell 0
  have c1 := b0.cell 1
  have c2 := b0.cell 2
  have c3 := b0.cell 3
  have c4 := b0.cell 4
  have c5 := b0.cell 5
  simp at c0 c1 c2 c3 c4 c5
  clear b0
  go_wp2_with fail
  refine (rput_reads A4 8 c4_ lk 4 ((((leBytes 1 kd) ++ leBytes 1 1) ++ leBytes 2 ct) ++ leBytes 4 pg) _ R4.out (by omega) (by omega) (by omega)).mono ?_
  rintro e w5 ⟨A5, c5_, rfl, hr5, hb5⟩
  have R5 := Lib.hid hr5
  replace B0 := Lib.hid (B0.out.below hb5 hlt)
  replace hlt := Nat.lt_of_lt_of_le hlt hb5.size
  replace hb0 := hb0.trans (hb5.mono hb0.size)
  clear c0 c1 c2 c3 c4 c5 hb5 hr5
  have b0 := B0.out
  have c0 := b0.cell 0
  have c1 := b0.cell 1
  have c2 := b0.cell 2
  have c3 := b0.cell 3
  have c4 := b0.cell 4
  have c5 := b0.cell 5
  simp at c0 c1 c2 c3 c4 c5
  clear b0
  go_wp2_with fail
  refine (rput_reads A5 12 c5_ tx 8 (((((leBytes 1 kd) ++ leBytes 1 1) ++ leBytes 2 ct) ++ leBytes 4 pg) ++ leBytes 4 lk) _ R5.out (by omega) (by omega) (by omega)).mono ?_
  rintro e w6 ⟨A6, c6_, rfl, hr6, hb6⟩
  have R6 := Lib.hid hr6
  replace B0 := Lib.hid (B0.out.below hb6 hlt)
  replace hb0 := hb0.trans (hb6.mono hb0.size)
  have hcv := run_string_reads w6 60 9 5 c6_ Try.underlying60 Try.underlying5 Try.underlying9 R6.out
  clear c0 c1 c2 c3 c4 c5 hr6 hb6
  have c5 := B0.out.cell 5
  simp at c5
  have hsz : (⟨((((((leBytes 1 kd) ++ leBytes 1 1) ++ leBytes 2 ct) ++ leBytes 4 pg) ++ leBytes 4 lk) ++ leBytes 8 tx).toArray⟩ : ByteArray).size = 20 := by rw [← size_list]; simp [leB_len]
  have cat : ¬ (9223372036854775807 < (⟨((((((leBytes 1 kd) ++ leBytes 1 1) ++ leBytes 2 ct) ++ leBytes 4 pg) ++ leBytes 4 lk) ++ leBytes 8 tx).toArray⟩ : ByteArray).size + bd.size) := by rw [hsz]; omega
  have hcat : (⟨((((((leBytes 1 kd) ++ leBytes 1 1) ++ leBytes 2 ct) ++ leBytes 4 pg) ++ leBytes 4 lk) ++ leBytes 8 tx).toArray⟩ : ByteArray) ++ bd = rs := by
    rw [hrs]
    apply bytes_ext
    rw [ByteArray.data_append, Array.toList_append]
    rfl
  obtain ⟨hd, hhd⟩ : ∃ hd : ByteArray, hd = ⟨((((((leBytes 1 kd) ++ leBytes 1 1) ++ leBytes 2 ct) ++ leBytes 4 pg) ++ leBytes 4 lk) ++ leBytes 8 tx).toArray⟩ := ⟨_, rfl⟩
  rw [← hhd] at cat hcat hcv
  have HC := Lib.hid hcat
  clear hcat hhd hsz hrs
  go_wp2_with fail
  go_ret
  exact ⟨by rw [← HC.out]; rfl, hb0⟩

theorem rfput_no (size kd ct : Int) (pg lk tx : Nat) (bd : ByteArray) (w : World) (h : mayPg size kd ct pg lk tx bd = false) :
    Calls Try.prog 57 #[.int .i64 size, .agg #[.int .i64 kd, .int .i64 ct, .int .u32 pg, .int .u32 lk, .int .u64 tx, .string bd]] w fun e w' => e = .returned (.tuple #[.string ⟨#[]⟩, .int .i64 2]) ∧ Below w.heap.size w w' := by
  have b0 : Blk (w.alloc (.cells #[.int .i64 kd, .int .i64 ct, .int .u32 pg, .int .u32 lk, .int .u64 tx, .string bd] 40)) w.heap.size 40 #[.int .i64 kd, .int .i64 ct, .int .u32 pg, .int .u32 lk, .int .u64 tx, .string bd] := Blk.new _ _ _
  have HB := Lib.hid (show Below w.heap.size w (w.alloc (.cells #[.int .i64 kd, .int .i64 ct, .int .u32 pg, .int .u32 lk, .int .u64 tx, .string bd] 40)) from (Below.refl _ _).alloc (Nat.le_refl _) _)
  have c0 := b0.cell 0
  have c1 := b0.cell 1
  have c2 := b0.cell 2
  have c3 := b0.cell 3
  have c4 := b0.cell 4
  have c5 := b0.cell 5
  simp at c0 c1 c2 c3 c4 c5
  clear b0
  go_enter Try.func57, Try.ntmps57
  go_wp2_with fail
  refine (rmay_any _ _ _ _ _ _ _ _).mono ?_
  rw [h]
  rintro e w1 ⟨rfl, hb1⟩
  go_wp2_with fail
  go_ret2
  exact ⟨rfl, HB.out.trans (hb1.mono (HB.out).size)⟩

set_option maxHeartbeats 1600000 in
theorem rfput_yes (size : Int) (kd ct pg lk tx : Nat) (bd : ByteArray) (w : World) (h : mayPg size kd ct pg lk tx bd = true) :
    Calls Try.prog 57 #[.int .i64 size, .agg #[.int .i64 kd, .int .i64 ct, .int .u32 pg, .int .u32 lk, .int .u64 tx, .string bd]] w fun e w' => e = .returned (.tuple #[.string (pageB kd ct pg lk tx bd), .int .i64 0]) ∧ Below w.heap.size w w' := by
  have hm := h
  simp only [mayPg, Bool.and_eq_true, decide_eq_true_eq] at hm
  obtain ⟨hg, m1, m2, m3, m4, m5, m6, m7, m8⟩ := hm
  obtain ⟨n, rfl, n1, n2, n3⟩ := good_nat hg
  have hbs : bd.size = n - 24 := by omega
  have HB := Lib.hid (show Below w.heap.size w (w.alloc (.cells #[.int .i64 kd, .int .i64 ct, .int .u32 pg, .int .u32 lk, .int .u64 tx, .string bd] 40)) from (Below.refl _ _).alloc (Nat.le_refl _) _)
  obtain ⟨w0, hw0⟩ : ∃ w0, w0 = w.alloc (.cells #[.int .i64 kd, .int .i64 ct, .int .u32 pg, .int .u32 lk, .int .u64 tx, .string bd] 40) := ⟨_, rfl⟩
  have B0 := Lib.hid (show Blk w0 w.heap.size 40 #[.int .i64 kd, .int .i64 ct, .int .u32 pg, .int .u32 lk, .int .u64 tx, .string bd] by rw [hw0]; exact Blk.new _ _ _)
  rw [← hw0] at HB
  have HV := fun w => rmay_any n kd ct pg lk tx bd w
  rw [h] at HV
  obtain ⟨rs, hrs⟩ : ∃ rs : ByteArray, rs = ⟨(restL kd ct pg lk tx bd).toArray⟩ := ⟨_, rfl⟩
  have HR := fun w => rrest_any kd ct pg lk tx bd w (by omega) (by omega) (by omega) (by omega) (by omega) rs hrs
  have hrl : rs.data.toList = restL kd ct pg lk tx bd := by rw [hrs]
  have hrz : rs.size = n - 4 := by rw [← size_list, hrl, restL_len, hbs]; omega
  have HO := fun w => rof_any rs w (by rw [hrz]; unfold maxLen; omega)
  rw [hrl] at HO
  have hcr := crcM_lt 0 (restL kd ct pg lk tx bd)
  obtain ⟨cr, hcr2⟩ : ∃ cr, cr = crcM 0 (restL kd ct pg lk tx bd) := ⟨_, rfl⟩
  rw [← hcr2] at HO hcr
  have hw8 := u64_nat cr (by omega)
  have hpb : pageB kd ct pg lk tx bd = (⟨(leBytes 4 cr).toArray⟩ : ByteArray) ++ rs := by
    apply bytes_ext
    rw [pageB_list, ByteArray.data_append, Array.toList_append, hrl, hcr2]
  rw [hpb]
  have cat2 : ¬ (9223372036854775807 < (⟨(leBytes 4 cr).toArray⟩ : ByteArray).size + rs.size) := by
    have : (⟨(leBytes 4 cr).toArray⟩ : ByteArray).size = 4 := by rw [← size_list]; simp [leB_len]
    omega
  clear hpb hrl hrs hcr2 h m1 m2 m3 m4 m5 m6 m7 m8 hg n1 n2 n3 hbs hrz hcr
  have k0 := B0.out.cell 0
  have k1 := B0.out.cell 1
  have k2 := B0.out.cell 2
  have k3 := B0.out.cell 3
  have k4 := B0.out.cell 4
  have k5 := B0.out.cell 5
  rw [hw0] at k0 k1 k2 k3 k4 k5
  simp at k0 k1 k2 k3 k4 k5
  go_enter Try.func57, Try.ntmps57
  go_wp2_with fail
  rw [← hw0]
  clear hw0 k0 k1 k2 k3 k4 k5
  refine (HV _).mono ?_
  rintro e w1 ⟨rfl, hb⟩
  replace B0 := Lib.hid (B0.out.below hb B0.out.lt)
  replace HB := Lib.hid (HB.out.trans (hb.mono HB.out.size))
  clear hb
  have k0 := B0.out.cell 0
  have k1 := B0.out.cell 1
  have k2 := B0.out.cell 2
  have k3 := B0.out.cell 3
  have k4 := B0.out.cell 4
  have k5 := B0.out.cell 5
  simp at k0 k1 k2 k3 k4 k5
  go_wp2_with fail
  refine (HR _).mono ?_
  rintro e w2 ⟨rfl, hb⟩
  replace HB := Lib.hid (HB.out.trans (hb.mono HB.out.size))
  clear hb k0 k1 k2 k3 k4 k5 B0
  go_wp2_with fail
  refine (HO _).mono ?_
  rintro e w3 ⟨rfl, hb⟩
  replace HB := Lib.hid (HB.out.trans (hb.mono HB.out.size))
  clear hb
  go_wp2_with fail
  refine (rput_reads none 0 0 cr 4 [] _ (reads_nil _) (by omega) (by omega) (by omega)).mono ?_
  rintro e w4 ⟨A4, c4_, rfl, hr4, hb⟩
  rw [List.nil_append] at hr4
  have hcv := run_string_reads w4 60 9 5 c4_ Try.underlying60 Try.underlying5 Try.underlying9 hr4
  clear hr4
  replace HB := Lib.hid (HB.out.trans (hb.mono HB.out.size))
  clear hb
  go_wp2_with fail
  go_ret2
  exact ⟨rfl, HB.out⟩
end Go.Proofs.Ytabhhccdbfjigaa
namespace Go.Proofs.Ytabhhccdbfjigaa
open Go.RowKit
open Go.Lib
set_option linter.unusedVariables false
set_option linter.unusedSimpArgs false
attribute [local go_sem ↓] Go.wp_at_zero Go.wp_at_succ

theorem str_neq (a b : ByteArray) (h : ¬ a = b) : (a.toList == b.toList) = false := by
  rw [beq_eq_false_iff_ne]
  intro h2
  rw [ByteArray.toList_eq, ByteArray.toList_eq] at h2
  exact h (bytes_ext h2)
theorem numAt_lt (s : ByteArray) (f k : Nat) : numAt s f k < 2 ^ (8 * k) := by
  have h := leNat_lt (List.take k (List.drop f s.data.toList))
  have h2 : (List.take k (List.drop f s.data.toList)).length ≤ k := by rw [List.length_take]; omega
  exact Nat.lt_of_lt_of_le h (Nat.pow_le_pow_right (by omega) (by omega))
/-- What is read of a block is written again exactly if its version is 1. -/
theorem rest_is (s : ByteArray) (hz : 24 ≤ s.size) : (⟨(restL (numAt s 4 1) (numAt s 6 2) (numAt s 8 4) (numAt s 12 4) (numAt s 16 8) (s.extract 24 s.size)).toArray⟩ : ByteArray) = s.extract 4 s.size ↔ numAt s 5 1 = 1 := by
  have hl : s.data.toList.length = s.size := size_list s
  have hx : (s.extract 24 s.size).data.toList = List.drop 24 s.data.toList := by
    rw [Lib.extract_data, List.take_of_length_le]
    rw [List.length_drop, size_list]; exact Nat.le_refl _
  have hx4 : (s.extract 4 s.size).data.toList = List.drop 4 s.data.toList := by
    rw [Lib.extract_data, List.take_of_length_le]
    rw [List.length_drop, size_list]; exact Nat.le_refl _
  have hrest : restL (numAt s 4 1) (numAt s 6 2) (numAt s 8 4) (numAt s 12 4) (numAt s 16 8) (s.extract 24 s.size) = List.take 1 (List.drop 4 s.data.toList) ++ (leBytes 1 1 ++ List.drop 6 s.data.toList) := by
    rw [restL, headL, numAt, numAt, numAt, numAt, numAt, part_back _ 4 1 (by omega), part_back _ 6 2 (by omega), part_back _ 8 4 (by omega), part_back _ 12 4 (by omega), part_back _ 16 8 (by omega), hx]
    simp only [List.append_assoc]
    rw [← cut_at s.data.toList 16 8, ← cut_at s.data.toList 12 4, ← cut_at s.data.toList 8 4, ← cut_at s.data.toList 6 2]
  have h4 : List.drop 4 s.data.toList = List.take 1 (List.drop 4 s.data.toList) ++ (List.take 1 (List.drop 5 s.data.toList) ++ List.drop 6 s.data.toList) := by
    rw [← cut_at s.data.toList 5 1, ← cut_at s.data.toList 4 1]
  have hp := part_back s.data.toList 5 1 (by omega)
  have hn : leNat (List.take 1 (List.drop 5 s.data.toList)) = numAt s 5 1 := rfl
  rw [hn] at hp
  have hv := numAt_lt s 5 1
  have hiff : restL (numAt s 4 1) (numAt s 6 2) (numAt s 8 4) (numAt s 12 4) (numAt s 16 8) (s.extract 24 s.size) = List.drop 4 s.data.toList ↔ numAt s 5 1 = 1 := by
    obtain ⟨A, hA⟩ : ∃ A, A = List.take 1 (List.drop 4 s.data.toList) := ⟨_, rfl⟩
    obtain ⟨C, hC⟩ : ∃ C, C = List.drop 6 s.data.toList := ⟨_, rfl⟩
    rw [← hp, ← hA, ← hC] at h4
    rw [hrest, ← hA, ← hC]
    rw [h4]
    constructor
    · intro h
      have h2 := List.append_cancel_left h
      have h3 := List.append_cancel_right h2
      have h5 := congrArg leNat h3
      rw [leNat_le 1 1 (by omega), leNat_le 1 _ hv] at h5
      exact h5.symm
    · intro h
      rw [h]
  rw [← hiff]
  constructor
  · intro h
    have h1 := congrArg (fun b : ByteArray => b.data.toList) h
    simp only at h1
    rw [hx4] at h1
    exact h1
  · intro h
    apply bytes_ext
    rw [hx4]
    exact h

end Go.Proofs.Ytabhhccdbfjigaa
namespace Go.Proofs.Ytabhhccdbfjigaa
open Go.RowKit
open Go.Lib
set_option linter.unusedVariables false
set_option linter.unusedSimpArgs false
attribute [local go_sem ↓] Go.wp_at_zero Go.wp_at_succ

theorem rbody_bad (size : Int) (A : Option Addr) (m c : Nat) (w : World) (hg : goodSize size = false) :
    Calls Try.prog 60 #[.int .i64 size, .slice A m c] w fun e w' => e = .returned (.tuple #[.string ⟨#[]⟩, .int .i64 2]) ∧ w = w' := by
  go_enter Try.func60, Try.ntmps60
  go_wp2_with fail
  refine (rgood_is size _ _ hg).mono ?_
  rintro e w' ⟨rfl, rfl⟩
  go_wp2_with fail
  go_ret2
  exact ⟨rfl, rfl⟩
theorem rbody_long (size : Int) (A : Option Addr) (m c : Nat) (w : World) (hg : goodSize size = true) (hm : size - 24 < m) :
    Calls Try.prog 60 #[.int .i64 size, .slice A m c] w fun e w' => e = .returned (.tuple #[.string ⟨#[]⟩, .int .i64 3]) ∧ w = w' := by
  have q : decide (size - 24 < (m : Int)) = true := by simpa using hm
  go_enter Try.func60, Try.ntmps60
  go_wp2_with fail
  refine (rgood_is size _ _ hg).mono ?_
  rintro e w' ⟨rfl, rfl⟩
  go_wp2_with fail
  refine (rroom_is size _ hg).mono ?_
  rintro e w' ⟨rfl, rfl⟩
  go_wp2_with fail
  go_ret2
  exact ⟨rfl, rfl⟩

set_option maxRecDepth 100000 in
set_option maxHeartbeats 1600000 in
theorem rbody_ok (size : Nat) (A : Option Addr) (m c : Nat) (l : List UInt8) (b : ByteArray) (w : World) (hg : goodSize size = true) (hr : Reads w w.heap.size 1 A m (bcells l)) (hm : m ≤ size - 24) (hb : b = ⟨(l ++ List.replicate (size - 24 - m) 0).toArray⟩) :
    Calls Try.prog 60 #[.int .i64 size, .slice A m c] w fun e w' => e = .returned (.tuple #[.string b, .int .i64 0]) ∧ Below w.heap.size w w' := by
  have hp := good_pos hg
  have hl : l.length = m := by have := hr.1; rw [bcells_length] at this; omega
  obtain ⟨r, hrm⟩ : ∃ r, r = size - 24 := ⟨_, rfl⟩
  obtain ⟨k, hk⟩ : ∃ k, k = r - m := ⟨_, rfl⟩
  have hR : ∀ w : World, Calls Try.prog 23 #[.int .i64 size] w fun e w' => e = .returned (.int .i64 (r : Int)) ∧ w' = w := fun w => by
    have := rroom_is size w hg
    rw [show (size : Int) - 24 = (r : Int) by omega] at this
    exact this
  have q : decide (r < m) = false := by simp; omega
  have q' : decide ((r : Int) < (m : Int)) = false := by simp; omega
  have wk : wrap64 ((r : Int) - (m : Int)) = (k : Int) := by unfold wrap64; omega
  have wk2 : (r : Int) - (m : Int) = (k : Int) := by omega
  have hk9 : k < 9223372036854775808 := by omega
  obtain ⟨i0, hi0, hz0, hz1, hz2⟩ := info_parts infoU8
  have hmk := fun w => run_make_bytes (P := Try.prog) 60 5 Try.underlying60 infoU8 k (by omega) w
  obtain ⟨X, hX⟩ : ∃ X : ByteArray, X = ⟨l.toArray⟩ := ⟨_, rfl⟩
  have hcv : ∀ w', Below w.heap.size w w' → (convert 60 9 (.slice A m c)).run Try.prog w' = .ok (.string X) w' := fun w' h => by
    rw [hX]; exact run_string_reads w' 60 9 5 c Try.underlying60 Try.underlying5 Try.underlying9 (hr.below h)
  obtain ⟨Z, hZ⟩ : ∃ Z : ByteArray, Z = zb k := ⟨_, rfl⟩
  have hzb : ∀ w : World, (convert 60 9 (.slice (some ⟨w.heap.size, 0, none⟩) k k)).run Try.prog (w.alloc (.cells (madeCells #[.int .u8 0] k) 5)).drew = .ok (.string Z) (w.alloc (.cells (madeCells #[.int .u8 0] k) 5)).drew := fun w => by
    rw [hZ]
    have h3 := (MRow.of_made w 5 k).drew.reads
    rw [List.length_replicate] at h3
    exact run_string_reads _ 60 9 5 k Try.underlying60 Try.underlying5 Try.underlying9 h3
  have cat : ¬ (9223372036854775807 < X.size + Z.size) := by
    have : X.size = m := by rw [← size_list, hX]; simpa using hl
    rw [this, hZ, zb_size]; omega
  have HC := Lib.hid (show X ++ Z = b by
    rw [hb, hX, hZ, hk, hrm]
    apply bytes_ext
    rw [ByteArray.data_append, Array.toList_append, zb_list])
  have wk3 := i64_nat k hk9
  have wk4 := wrap64_nat k hk9
  clear hr hm hp hl hrm hi0 hz0 hz1 hz2 hX hZ hb hk hk9
  go_enter Try.func60, Try.ntmps60
  go_wp2_with fail
  refine (rgood_is size _ _ hg).mono ?_
  rintro e w' ⟨rfl, rfl⟩
  go_wp2_with fail
  refine (hR _).mono ?_
  rintro e w2 ⟨rfl, rfl⟩
  go_wp2_with fail
  refine wp_region_held_drew (S := fun wx => (convert 60 9 (.slice A m c)).run Try.prog wx = .ok (.string X) wx) (by kernel_rfl) (hcv _ (Below.refl _ _).drew) (fun hHeld => ?_)
  refine wpAnyH_takeL (i := 0) (v := ?_) rfl (by kernel_rfl) (by kernel_rfl) (by kernel_rfl) (fun _ _ _ h => h) (Or.inl ⟨by rfl, ?_⟩) (by first | trivial | assumption) ?_
  rotate_left
  · intro wz hSz; (try dsimp only at hSz); go_simp; (try with_reducible rfl)
  try simp only [Act.put, List.setIfInBounds_toArray, List.set_cons_zero, List.set_cons_succ]
  refine wpAnyH_takeL (i := 1) (v := ?_) rfl (by kernel_rfl) (by kernel_rfl) (by kernel_rfl) (fun _ _ _ h => h) (Or.inl ⟨by rfl, ?_⟩) (by first | trivial | assumption) ?_
  rotate_left
  · intro wz hSz; (try dsimp only at hSz); go_simp; (try with_reducible rfl)
  try simp only [Act.put, List.setIfInBounds_toArray, List.set_cons_zero, List.set_cons_succ]
  refine wpAnyH_takeL (i := 2) (v := ?_) rfl (by kernel_rfl) (by kernel_rfl) (by kernel_rfl) (fun _ _ _ h => h) (Or.inl ⟨by rfl, ?_⟩) (by first | trivial | assumption) ?_
  rotate_left
  · intro wz hSz; (try dsimp only at hSz); go_simp; (try with_reducible rfl)
  try simp only [Act.put, List.setIfInBounds_toArray, List.set_cons_zero, List.set_cons_succ]
  refine wpAnyH_takeL (i := 4) (v := ?_) rfl (by kernel_rfl) (by kernel_rfl) (by kernel_rfl) (fun _ _ _ h => h) (Or.inl ⟨by rfl, ?_⟩) (by first | trivial | assumption) ?_
  rotate_left
  · intro wz hSz; (try dsimp only at hSz); go_simp; (try with_reducible rfl)
  try simp only [Act.put, List.setIfInBounds_toArray, List.set_cons_zero, List.set_cons_succ]
  refine wpAnyH_takeL (i := 5) (v := ?_) rfl (by kernel_rfl) (by kernel_rfl) (by kernel_rfl) (fun _ _ _ h => h) (Or.inl ⟨by rfl, ?_⟩) (by first | trivial | assumption) ?_
  rotate_left
  · intro wz hSz; (try dsimp only at hSz); go_simp; (try with_reducible rfl)
  try simp only [Act.put, List.setIfInBounds_toArray, List.set_cons_zero, List.set_cons_succ]
  refine wpAnyH_ready (rs := [3]) (by kernel_rfl) (by simp) ?_
  refine AllReadyH.consL rfl (fun K hK => ?_) AllReadyH.nil
  go_simp
  refine (hR _).mono ?_
  rintro e wq ⟨rfl, rfl⟩
  refine hK.out _ _ (hcv _ (Below.refl _ _).drew) (fun hHeld => ?_)
  clear hK K
  try simp only [Act.put, List.setIfInBounds_toArray, List.set_cons_zero, List.set_cons_succ]
  refine wpAnyH_takeL (i := 6) (v := ?_) rfl (by kernel_rfl) (by kernel_rfl) (by kernel_rfl) (fun _ _ _ h => h) (Or.inl ⟨by rfl, ?_⟩) (by first | trivial | assumption) ?_
  rotate_left
  · intro wz hSz; (try dsimp only at hSz); go_simp; (try with_reducible rfl)
  try simp only [Act.put, List.setIfInBounds_toArray, List.set_cons_zero, List.set_cons_succ]
  refine wpAnyH_ready (rs := [7]) (by kernel_rfl) (by simp) ?_
  refine AllReadyH.consL rfl (fun K hK => ?_) AllReadyH.nil
  go_simp
  refine hK.out _ _ (hcv _ ((Below.refl _ _).alloc (Nat.le_refl _) _).drew) (fun hHeld => ?_)
  clear hK K
  try simp only [Act.put, List.setIfInBounds_toArray, List.set_cons_zero, List.set_cons_succ]
  refine wpAnyH_ready (rs := [8]) (by kernel_rfl) (by simp) ?_
  refine AllReadyH.consL rfl (fun K hK => ?_) AllReadyH.nil
  go_simp
  refine hK.out _ _ (hcv _ ((Below.refl _ _).alloc (Nat.le_refl _) _).drew) (fun hHeld => ?_)
  clear hK K
  try simp only [Act.put, List.setIfInBounds_toArray, List.set_cons_zero, List.set_cons_succ]
  refine wpAnyH_takeL (i := 9) (v := ?_) rfl (by kernel_rfl) (by kernel_rfl) (by kernel_rfl) (fun _ _ _ h => h) (Or.inl ⟨by rfl, ?_⟩) (by first | trivial | assumption) ?_
  rotate_left
  · intro wz hSz; (try dsimp only at hSz); go_simp; (try with_reducible rfl)
  try simp only [Act.put, List.setIfInBounds_toArray, List.set_cons_zero, List.set_cons_succ]
  refine wpAnyH_takeL (i := 10) (v := ?_) rfl (by kernel_rfl) (by kernel_rfl) (by kernel_rfl) (fun _ _ _ h => h) (Or.inl ⟨by rfl, ?_⟩) (by first | trivial | assumption) ?_
  rotate_left
  · intro wz hSz; (try dsimp only at hSz); go_simp; (try with_reducible rfl)
  try simp only [Act.put, List.setIfInBounds_toArray, List.set_cons_zero, List.set_cons_succ]
  refine wpAnyH_takeL (i := 11) (v := ?_) rfl (by kernel_rfl) (by kernel_rfl) (by kernel_rfl) (fun _ _ _ h => h) (Or.inl ⟨by rfl, ?_⟩) (by first | trivial | assumption) ?_
  rotate_left
  · intro wz hSz; (try dsimp only at hSz); go_simp; (try with_reducible rfl)
  try simp only [Act.put, List.setIfInBounds_toArray, List.set_cons_zero, List.set_cons_succ]
  refine wpAnyH_done (by kernel_rfl) ?_ _
  go_wp2_with fail
  go_ret2
  exact ⟨by rw [← HC.out]; rfl, ((Below.refl _ _).alloc (Nat.le_refl _) _).drew⟩
end Go.Proofs.Ytabhhccdbfjigaa
namespace Go.Proofs.Ytabhhccdbfjigaa
open Go.RowKit
open Go.Lib
set_option linter.unusedVariables false
set_option linter.unusedSimpArgs false
attribute [local go_sem ↓] Go.wp_at_zero Go.wp_at_succ

end Go.Proofs.Ytabhhccdbfjigaa
namespace Go.Proofs.Ytabhhccdbfjigaa
open Go.RowKit
open Go.Lib hiding intOf
set_option linter.unusedVariables false
set_option linter.unusedSimpArgs false

/-- The error of a reading. -/
def errAt (size : Int) (s : ByteArray) (n : Nat) : Int := if (readAt size s n).isSome then 0 else if goodSize size then (if n < s.size / size.toNat then 4 else 5) else 2
def pageOf (size : Int) (s : ByteArray) (n : Nat) : Pg := (readAt size s n).getD Pg.zero
theorem errAt_some {size : Int} {s : ByteArray} {n : Nat} {p : Pg} (h : readAt size s n = some p) : errAt size s n = 0 ∧ pageOf size s n = p := by unfold errAt pageOf; rw [h]; exact ⟨rfl, rfl⟩
theorem errAt_none {size : Int} {s : ByteArray} {n : Nat} (h : readAt size s n = none) : errAt size s n ≠ 0 ∧ pageOf size s n = Pg.zero := by
  unfold errAt pageOf
  rw [h]
  refine ⟨?_, rfl⟩
  simp only [Option.isSome_none, Bool.false_eq_true, if_false]
  split
  · split <;> decide
  · decide
set_option maxHeartbeats 1600000
theorem fread_all (size : Int) (s : ByteArray) (n : Nat) (w : World) (hs : s.size ≤ maxLen) (hn : n < 4294967296) :
    Calls Try.prog 67 #[.int .i64 size, .string s, .int .u32 n] w fun e w' => e = .returned (.tuple #[(pageOf size s n).agg, .int .i64 (errAt size s n)]) ∧ Below w.heap.size w w' := by
  rcases hg : goodSize size with _ | _
  · have hr := readAt_bad (s := s) (n := n) hg
    rw [(errAt_none hr).2, show errAt size s n = 2 by unfold errAt; rw [hr, hg]; rfl]
    exact (fread_bad size s n w hg).mono fun e w' h => ⟨h.1, (by first | exact h.2 | (rw [h.2]; exact Below.refl _ _) | (rw [← h.2]; exact Below.refl _ _))⟩
  obtain ⟨q, rfl, _, _, _⟩ := good_nat hg
  have hq : (q : Int).toNat = q := by omega
  by_cases h2 : n < s.size / q
  rotate_left
  · have hr : readAt q s n = none := by unfold readAt; rw [hq, decide_eq_false h2]; simp
    rw [(errAt_none hr).2, show errAt q s n = 5 by unfold errAt; rw [hr, hg, hq, if_neg (by simp), if_pos rfl, if_neg h2]]
    exact (fread_none q n s w hg hs h2 hn).mono fun e w' h => ⟨h.1, (by first | exact h.2 | (rw [h.2]; exact Below.refl _ _) | (rw [← h.2]; exact Below.refl _ _))⟩
  obtain ⟨B, hB⟩ : ∃ B, B = blkOf q s n := ⟨_, rfl⟩
  rcases h3 : blockOk q n B with _ | _
  · have hr : readAt q s n = none := by unfold readAt; rw [hq, ← hB, h3]; simp
    rw [(errAt_none hr).2, show errAt q s n = 4 by unfold errAt; rw [hr, hg, hq, if_neg (by simp), if_pos rfl, if_pos h2]]
    have := fread_get q n s 0 0 0 0 0 ByteArray.empty 4 w hg hs h2 fun w => (by
      rw [show s.extract (n * q) (n * q + q) = B from hB.symm]
      exact get_wrong q n B w hg h3)
    exact this
  · have hr : readAt q s n = some ⟨numAt B 4 1, numAt B 6 2, numAt B 8 4, numAt B 12 4, numAt B 16 8, B.extract 24 B.size⟩ := by unfold readAt; rw [hq, ← hB, h3, hg, decide_eq_true h2]; rfl
    rw [(errAt_some hr).1, (errAt_some hr).2]
    have := fread_get q n s (numAt B 4 1) (numAt B 6 2) (numAt B 8 4) (numAt B 12 4) (numAt B 16 8) (B.extract 24 B.size) 0 w hg hs h2 fun w => (by
      rw [show s.extract (n * q) (n * q + q) = B from hB.symm]
      exact get_right q n B w h3)
    exact this
end Go.Proofs.Ytabhhccdbfjigaa
