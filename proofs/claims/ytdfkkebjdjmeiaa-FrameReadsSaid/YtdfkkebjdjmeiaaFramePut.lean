/-
  Contracts of package frame's header and Put, each with its conditions in its own statement: the bytes of a page.
-/
import Derived.Test.YtdfkkebjdjmeiaaFrameValid
namespace Go.Proofs.Ytdfkkebjdjmeiaa
open Go.RowKit
open Go.Lib
set_option linter.unusedVariables false
set_option linter.unusedSimpArgs false
attribute [local go_sem ↓] Go.wp_at_zero Go.wp_at_succ

/-- What stands between the checksum and the body. -/
def headL (kd ct pg lk tx : Nat) : List UInt8 := leBytes 1 kd ++ leBytes 1 1 ++ leBytes 2 ct ++ leBytes 4 pg ++ leBytes 4 lk ++ leBytes 8 tx
theorem headL_len (kd ct pg lk tx : Nat) : (headL kd ct pg lk tx).length = 20 := by simp [headL, leB_len]
theorem reads_nil (w : World) : Reads w w.heap.size 1 none 0 (bcells []) := Reads.none_
theorem u64_nat (n : Nat) (h : n < 18446744073709551616) : IntKind.u64.wrap (n : Int) = (n : Int) := by rw [IntKind.wrap_u64]; omega

theorem put_reads (A : Option Addr) (n c num k : Nat) (l : List UInt8) (w : World) (hr : Reads w w.heap.size 1 A n (bcells l)) (hn : n + 8 ≤ 140737488355328) (h1 : 1 ≤ k) (h2 : k ≤ 8) :
    Calls Try.prog 20 #[.slice A n c, .int .u64 num, .int .i64 k] w fun e w' => ∃ A' c', e = .returned (.slice A' (n + k) c') ∧ Reads w' w'.heap.size 1 A' (n + k) (bcells (l ++ leBytes k num)) ∧ Below w.heap.size w w' :=
  (put_yes A n c num k l w hr hn h1 h2).mono fun _ _ ⟨v, he, ho, hb⟩ => by
    obtain ⟨A', c', rfl, _⟩ := own_form ho
    exact ⟨A', c', he, Reads.of_own ho, hb⟩

set_option maxHeartbeats 3200000 in
theorem header_any (kd ct pg lk tx : Nat) (bd : ByteArray) (w : World) (h1 : kd < 18446744073709551616) (h2 : ct < 18446744073709551616) (h3 : pg < 18446744073709551616) (h4 : lk < 18446744073709551616) :
    Calls Try.prog 19 #[.agg #[.int .i64 kd, .int .i64 ct, .int .u32 pg, .int .u32 lk, .int .u64 tx, .string bd]] w fun e w' => e = .returned (.string ⟨(headL kd ct pg lk tx).toArray⟩) ∧ Below w.heap.size w w' := by
  have b0 : Blk (w.alloc (.cells #[.int .i64 kd, .int .i64 ct, .int .u32 pg, .int .u32 lk, .int .u64 tx, .string bd] 29)) w.heap.size 29 #[.int .i64 kd, .int .i64 ct, .int .u32 pg, .int .u32 lk, .int .u64 tx, .string bd] := Blk.new _ _ _
  have B0 := Lib.hid b0
  clear b0
  have hb0 : Below w.heap.size w (w.alloc (.cells #[.int .i64 kd, .int .i64 ct, .int .u32 pg, .int .u32 lk, .int .u64 tx, .string bd] 29)) := (Below.refl _ _).alloc (Nat.le_refl _) _
  have hlt : w.heap.size < (w.alloc (.cells #[.int .i64 kd, .int .i64 ct, .int .u32 pg, .int .u32 lk, .int .u64 tx, .string bd] 29)).heap.size := by simp
  obtain ⟨w0, hw0⟩ : ∃ w0, w0 = w.alloc (.cells #[.int .i64 kd, .int .i64 ct, .int .u32 pg, .int .u32 lk, .int .u64 tx, .string bd] 29) := ⟨_, rfl⟩
  rw [← hw0] at B0 hb0 hlt
  have e1 := u64_nat kd h1
  have e2 := u64_nat ct h2
  have e3 := u64_nat pg h3
  have e4 := u64_nat lk h4
  have b0 := B0.out
  have c0 := b0.cell 0
  have c1 := b0.cell 1
  have c2 := b0.cell 2
  have c3 := b0.cell 3
  have c4 := b0.cell 4
  simp at c0 c1 c2 c3 c4
  clear b0
  go_enter Try.func19, Try.ntmps19
  go_wp2_with fail
  rw [← hw0]
  clear hw0
  refine (put_reads none 0 0 kd 1 [] _ (reads_nil _) (by omega) (by omega) (by omega)).mono ?_
  rintro e w1 ⟨A1, c1_, rfl, hr1, hb1⟩
  rw [List.nil_append] at hr1
  have R1 := Lib.hid hr1
  replace B0 := Lib.hid (B0.out.below hb1 hlt)
  replace hlt := Nat.lt_of_lt_of_le hlt hb1.size
  replace hb0 := hb0.trans (hb1.mono hb0.size)
  clear c0 c1 c2 c3 c4 hb1 hr1
  have b0 := B0.out
  have c0 := b0.cell 0
  have c1 := b0.cell 1
  have c2 := b0.cell 2
  have c3 := b0.cell 3
  have c4 := b0.cell 4
  simp at c0 c1 c2 c3 c4
  clear b0
  go_wp2_with fail
  refine (put_reads A1 1 c1_ 1 1 (leBytes 1 kd) _ R1.out (by omega) (by omega) (by omega)).mono ?_
  rintro e w2 ⟨A2, c2_, rfl, hr2, hb2⟩
  have R2 := Lib.hid hr2
  replace B0 := Lib.hid (B0.out.below hb2 hlt)
  replace hlt := Nat.lt_of_lt_of_le hlt hb2.size
  replace hb0 := hb0.trans (hb2.mono hb0.size)
  clear c0 c1 c2 c3 c4 hb2 hr2
  have b0 := B0.out
  have c0 := b0.cell 0
  have c1 := b0.cell 1
  have c2 := b0.cell 2
  have c3 := b0.cell 3
  have c4 := b0.cell 4
  simp at c0 c1 c2 c3 c4
  clear b0
  go_wp2_with fail
  refine (put_reads A2 2 c2_ ct 2 ((leBytes 1 kd) ++ leBytes 1 1) _ R2.out (by omega) (by omega) (by omega)).mono ?_
  rintro e w3 ⟨A3, c3_, rfl, hr3, hb3⟩
  have R3 := Lib.hid hr3
  replace B0 := Lib.hid (B0.out.below hb3 hlt)
  replace hlt := Nat.lt_of_lt_of_le hlt hb3.size
  replace hb0 := hb0.trans (hb3.mono hb0.size)
  clear c0 c1 c2 c3 c4 hb3 hr3
  have b0 := B0.out
  have c0 := b0.cell 0
  have c1 := b0.cell 1
  have c2 := b0.cell 2
  have c3 := b0.cell 3
  have c4 := b0.cell 4
  simp at c0 c1 c2 c3 c4
  clear b0
  go_wp2_with fail
  refine (put_reads A3 4 c3_ pg 4 (((leBytes 1 kd) ++ leBytes 1 1) ++ leBytes 2 ct) _ R3.out (by omega) (by omega) (by omega)).mono ?_
  rintro e w4 ⟨A4, c4_, rfl, hr4, hb4⟩
  have R4 := Lib.hid hr4
  replace B0 := Lib.hid (B0.out.below hb4 hlt)
  replace hlt := Nat.lt_of_lt_of_le hlt hb4.size
  replace hb0 := hb0.trans (hb4.mono hb0.size)
  clear c0 c1 c2 c3 c4 hb4 hr4
  have b0 := B0.out
  have c0 := b0.cell 0
  have c1 := b0.cell 1
  have c2 := b0.cell 2
  have c3 := b0.cell 3
  have c4 := b0.cell 4
  simp at c0 c1 c2 c3 c4
  clear b0
  go_wp2_with fail
  refine (put_reads A4 8 c4_ lk 4 ((((leBytes 1 kd) ++ leBytes 1 1) ++ leBytes 2 ct) ++ leBytes 4 pg) _ R4.out (by omega) (by omega) (by omega)).mono ?_
  rintro e w5 ⟨A5, c5_, rfl, hr5, hb5⟩
  have R5 := Lib.hid hr5
  replace B0 := Lib.hid (B0.out.below hb5 hlt)
  replace hlt := Nat.lt_of_lt_of_le hlt hb5.size
  replace hb0 := hb0.trans (hb5.mono hb0.size)
  clear c0 c1 c2 c3 c4 hb5 hr5
  have b0 := B0.out
  have c0 := b0.cell 0
  have c1 := b0.cell 1
  have c2 := b0.cell 2
  have c3 := b0.cell 3
  have c4 := b0.cell 4
  simp at c0 c1 c2 c3 c4
  clear b0
  go_wp2_with fail
  refine (put_reads A5 12 c5_ tx 8 (((((leBytes 1 kd) ++ leBytes 1 1) ++ leBytes 2 ct) ++ leBytes 4 pg) ++ leBytes 4 lk) _ R5.out (by omega) (by omega) (by omega)).mono ?_
  rintro e w6 ⟨A6, c6_, rfl, hr6, hb6⟩
  have R6 := Lib.hid hr6
  replace hb0 := hb0.trans (hb6.mono hb0.size)
  have hcv := run_string_reads w6 34 9 5 c6_ Try.underlying34 Try.underlying5 Try.underlying9 R6.out
  clear c0 c1 c2 c3 c4 hr6 hb6
  go_wp2_with fail
  go_ret
  exact ⟨rfl, hb0⟩
end Go.Proofs.Ytdfkkebjdjmeiaa
