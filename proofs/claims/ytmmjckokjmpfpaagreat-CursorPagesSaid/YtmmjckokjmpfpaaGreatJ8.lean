/-
  Texts that the main proof rests on, put together: Ref4May, Bk, Ref6Find, Ref6May, Ov, Fn, CnV, Fk. No statement is proved here.
-/
import Derived.Test.YtmmjckokjmpfpaaGreatJ3
import Derived.Test.YtmmjckokjmpfpaaGreatJ1
import Derived.Sort.Walk0
import Derived.Deep.DrawnRows
import Derived.Lib.Hide
import Derived.Deep.CutRange
import Derived.Deep.QuietTactic
import Derived.BigQuiet
import Derived.Test.YtmmjckokjmpfpaaGreatJ2
import Derived.Test.YtmmjckokjmpfpaaGreatJ7
set_option linter.unusedVariables false
set_option linter.unusedSimpArgs false
namespace Go.Proofs.YtmmjckokjmpfpaaGreat
open Go.RowKit
open Go.Lib
attribute [local go_sem ↓] Go.wp_at_zero Go.wp_at_succ

theorem rgood_any (n : Int) (w : World) :
  Calls Tryz.prog 32 #[.int .i64 n] w fun e w' => e = .returned (.bool (goodSize n)) ∧ w = w' := by
 by_cases h1 : 128 ≤ n
 ·by_cases h2 : n ≤ 4096
  ·have h0 : 0 ≤ n := by omega
   by_cases h3 : n % 64 = 0
   ·have h4 : (n % 64 == 0) = true := by simpa using h3
    have HG := Lib.hid (show goodSize n = true by simp [goodSize, h1, h2, h3])
    clear h3
    go_enter Tryz.func32, Tryz.ntmps32
    go_wp2
    go_ret
    exact ⟨by rw [HG.out]; rfl, rfl⟩
   ·have h4 : (n % 64 == 0) = false := by simpa using h3
    have HG := Lib.hid (show goodSize n = false by simp [goodSize, h1, h2, h4])
    clear h3
    go_enter Tryz.func32, Tryz.ntmps32
    go_wp2
    go_ret
    exact ⟨by rw [HG.out]; rfl, rfl⟩
  ·have HG := Lib.hid (show goodSize n = false by simp [goodSize, h2])
   go_enter Tryz.func32, Tryz.ntmps32
   go_wp2
   go_ret
   exact ⟨by rw [HG.out]; rfl, rfl⟩
 ·have HG := Lib.hid (show goodSize n = false by simp [goodSize, h1])
  go_enter Tryz.func32, Tryz.ntmps32
  go_wp2
  go_ret
  exact ⟨by rw [HG.out]; rfl, rfl⟩

theorem rroom_yes (size : Int) (w : World) (h : goodSize size = true) :
  Calls Tryz.prog 49 #[.int .i64 size] w fun e w' => e = .returned (.int .i64 (size - 24)) ∧ w = w' := by
 obtain ⟨n, rfl, h1, h2, h3⟩ := good_nat h
 go_enter Tryz.func49, Tryz.ntmps49
 go_wp2_with (go_at_call 32; refine (rgood_any _ _).mono ?_; rw [h]; rintro e w' ⟨rfl, rfl⟩)
 go_ret
 exact ⟨rfl, rfl⟩
theorem rgood_is (n : Int) (b : Bool) (w : World) (h : goodSize n = b) : Calls Tryz.prog 32 #[.int .i64 n] w fun e w' => e = .returned (.bool b) ∧ w' = w :=
 (rgood_any n w).mono fun _ _ ⟨a, b⟩ => ⟨by rw [← h]; exact a, b.symm⟩
theorem rroom_is (n : Int) (w : World) (h : goodSize n = true) : Calls Tryz.prog 49 #[.int .i64 n] w fun e w' => e = .returned (.int .i64 (n - 24)) ∧ w' = w :=
 (rroom_yes n w h).mono fun _ _ ⟨a, b⟩ => ⟨a, b.symm⟩
theorem rmay_0 (size kd ct : Int) (pg lk tx : Nat) (bd : ByteArray) (w : World) (hg : goodSize size = false) :
  Calls Tryz.prog 83 #[.int .i64 size, .agg #[.int .i64 kd, .int .i64 ct, .int .u32 pg, .int .u32 lk, .int .u64 tx, .string bd]] w fun e w' => e = .returned (.bool false) ∧ Below w.heap.size w w' := by
 have b0 : Blk (w.alloc (.cells #[.int .i64 kd, .int .i64 ct, .int .u32 pg, .int .u32 lk, .int .u64 tx, .string bd] 41)) w.heap.size 41 #[.int .i64 kd, .int .i64 ct, .int .u32 pg, .int .u32 lk, .int .u64 tx, .string bd] := Blk.new _ _ _
 have HB := Lib.hid (show Below w.heap.size w (w.alloc (.cells #[.int .i64 kd, .int .i64 ct, .int .u32 pg, .int .u32 lk, .int .u64 tx, .string bd] 41)) from (Below.refl _ _).alloc (Nat.le_refl _) _)
 have c0 := b0.cell 0
 have c1 := b0.cell 1
 have c2 := b0.cell 2
 have c3 := b0.cell 3
 have c4 := b0.cell 4
 have c5 := b0.cell 5
 simp at c0 c1 c2 c3 c4 c5
 clear b0
 go_enter Tryz.func83, Tryz.ntmps83
 go_wp2_with fail
 go_quiet (first | (go_at_call 32; exact Calls.quiet_of_same (rgood_is _ _ _ hg)) | (go_at_call 49; exact Calls.quiet_of_same (rroom_is _ _ hg)))
 go_wp2
 go_ret
 exact ⟨rfl, below_drewN HB.out _⟩
theorem rmay_1 (size kd ct : Int) (pg lk tx : Nat) (bd : ByteArray) (w : World) (hg : goodSize size = true) (h1 : ¬ (1 ≤ kd)) :
  Calls Tryz.prog 83 #[.int .i64 size, .agg #[.int .i64 kd, .int .i64 ct, .int .u32 pg, .int .u32 lk, .int .u64 tx, .string bd]] w fun e w' => e = .returned (.bool false) ∧ Below w.heap.size w w' := by
 have b0 : Blk (w.alloc (.cells #[.int .i64 kd, .int .i64 ct, .int .u32 pg, .int .u32 lk, .int .u64 tx, .string bd] 41)) w.heap.size 41 #[.int .i64 kd, .int .i64 ct, .int .u32 pg, .int .u32 lk, .int .u64 tx, .string bd] := Blk.new _ _ _
 have HB := Lib.hid (show Below w.heap.size w (w.alloc (.cells #[.int .i64 kd, .int .i64 ct, .int .u32 pg, .int .u32 lk, .int .u64 tx, .string bd] 41)) from (Below.refl _ _).alloc (Nat.le_refl _) _)
 have c0 := b0.cell 0
 have c1 := b0.cell 1
 have c2 := b0.cell 2
 have c3 := b0.cell 3
 have c4 := b0.cell 4
 have c5 := b0.cell 5
 simp at c0 c1 c2 c3 c4 c5
 clear b0
 have d1 : decide ((1 : Int) ≤ kd) = false := by simp; omega
 go_enter Tryz.func83, Tryz.ntmps83
 go_wp2_with fail
 go_quiet (first | (go_at_call 32; exact Calls.quiet_of_same (rgood_is _ _ _ hg)) | (go_at_call 49; exact Calls.quiet_of_same (rroom_is _ _ hg)))
 go_wp2
 go_ret
 exact ⟨rfl, below_drewN HB.out _⟩
theorem rmay_2 (size kd ct : Int) (pg lk tx : Nat) (bd : ByteArray) (w : World) (hg : goodSize size = true) (h1 : 1 ≤ kd) (h2 : ¬ (kd ≤ 6)) :
  Calls Tryz.prog 83 #[.int .i64 size, .agg #[.int .i64 kd, .int .i64 ct, .int .u32 pg, .int .u32 lk, .int .u64 tx, .string bd]] w fun e w' => e = .returned (.bool false) ∧ Below w.heap.size w w' := by
 have b0 : Blk (w.alloc (.cells #[.int .i64 kd, .int .i64 ct, .int .u32 pg, .int .u32 lk, .int .u64 tx, .string bd] 41)) w.heap.size 41 #[.int .i64 kd, .int .i64 ct, .int .u32 pg, .int .u32 lk, .int .u64 tx, .string bd] := Blk.new _ _ _
 have HB := Lib.hid (show Below w.heap.size w (w.alloc (.cells #[.int .i64 kd, .int .i64 ct, .int .u32 pg, .int .u32 lk, .int .u64 tx, .string bd] 41)) from (Below.refl _ _).alloc (Nat.le_refl _) _)
 have c0 := b0.cell 0
 have c1 := b0.cell 1
 have c2 := b0.cell 2
 have c3 := b0.cell 3
 have c4 := b0.cell 4
 have c5 := b0.cell 5
 simp at c0 c1 c2 c3 c4 c5
 clear b0
 have d1 : decide ((1 : Int) ≤ kd) = true := by simp; omega
 have d2 : decide (kd ≤ (6 : Int)) = false := by simp; omega
 go_enter Tryz.func83, Tryz.ntmps83
 go_wp2_with fail
 go_quiet (first | (go_at_call 32; exact Calls.quiet_of_same (rgood_is _ _ _ hg)) | (go_at_call 49; exact Calls.quiet_of_same (rroom_is _ _ hg)))
 go_wp2
 go_ret
 exact ⟨rfl, below_drewN HB.out _⟩
theorem rmay_3 (size kd ct : Int) (pg lk tx : Nat) (bd : ByteArray) (w : World) (hg : goodSize size = true) (h1 : 1 ≤ kd) (h2 : kd ≤ 6) (h3 : ¬ (0 ≤ ct)) :
  Calls Tryz.prog 83 #[.int .i64 size, .agg #[.int .i64 kd, .int .i64 ct, .int .u32 pg, .int .u32 lk, .int .u64 tx, .string bd]] w fun e w' => e = .returned (.bool false) ∧ Below w.heap.size w w' := by
 have b0 : Blk (w.alloc (.cells #[.int .i64 kd, .int .i64 ct, .int .u32 pg, .int .u32 lk, .int .u64 tx, .string bd] 41)) w.heap.size 41 #[.int .i64 kd, .int .i64 ct, .int .u32 pg, .int .u32 lk, .int .u64 tx, .string bd] := Blk.new _ _ _
 have HB := Lib.hid (show Below w.heap.size w (w.alloc (.cells #[.int .i64 kd, .int .i64 ct, .int .u32 pg, .int .u32 lk, .int .u64 tx, .string bd] 41)) from (Below.refl _ _).alloc (Nat.le_refl _) _)
 have c0 := b0.cell 0
 have c1 := b0.cell 1
 have c2 := b0.cell 2
 have c3 := b0.cell 3
 have c4 := b0.cell 4
 have c5 := b0.cell 5
 simp at c0 c1 c2 c3 c4 c5
 clear b0
 have d1 : decide ((1 : Int) ≤ kd) = true := by simp; omega
 have d2 : decide (kd ≤ (6 : Int)) = true := by simp; omega
 have d3 : decide ((0 : Int) ≤ ct) = false := by simp; omega
 go_enter Tryz.func83, Tryz.ntmps83
 go_wp2_with fail
 go_quiet (first | (go_at_call 32; exact Calls.quiet_of_same (rgood_is _ _ _ hg)) | (go_at_call 49; exact Calls.quiet_of_same (rroom_is _ _ hg)))
 go_wp2
 go_ret
 exact ⟨rfl, below_drewN HB.out _⟩
theorem rmay_4 (size kd ct : Int) (pg lk tx : Nat) (bd : ByteArray) (w : World) (hg : goodSize size = true) (h1 : 1 ≤ kd) (h2 : kd ≤ 6) (h3 : 0 ≤ ct) (h4 : ¬ (ct ≤ 65535)) :
  Calls Tryz.prog 83 #[.int .i64 size, .agg #[.int .i64 kd, .int .i64 ct, .int .u32 pg, .int .u32 lk, .int .u64 tx, .string bd]] w fun e w' => e = .returned (.bool false) ∧ Below w.heap.size w w' := by
 have b0 : Blk (w.alloc (.cells #[.int .i64 kd, .int .i64 ct, .int .u32 pg, .int .u32 lk, .int .u64 tx, .string bd] 41)) w.heap.size 41 #[.int .i64 kd, .int .i64 ct, .int .u32 pg, .int .u32 lk, .int .u64 tx, .string bd] := Blk.new _ _ _
 have HB := Lib.hid (show Below w.heap.size w (w.alloc (.cells #[.int .i64 kd, .int .i64 ct, .int .u32 pg, .int .u32 lk, .int .u64 tx, .string bd] 41)) from (Below.refl _ _).alloc (Nat.le_refl _) _)
 have c0 := b0.cell 0
 have c1 := b0.cell 1
 have c2 := b0.cell 2
 have c3 := b0.cell 3
 have c4 := b0.cell 4
 have c5 := b0.cell 5
 simp at c0 c1 c2 c3 c4 c5
 clear b0
 have d1 : decide ((1 : Int) ≤ kd) = true := by simp; omega
 have d2 : decide (kd ≤ (6 : Int)) = true := by simp; omega
 have d3 : decide ((0 : Int) ≤ ct) = true := by simp; omega
 have d4 : decide (ct ≤ (65535 : Int)) = false := by simp; omega
 go_enter Tryz.func83, Tryz.ntmps83
 go_wp2_with fail
 go_quiet (first | (go_at_call 32; exact Calls.quiet_of_same (rgood_is _ _ _ hg)) | (go_at_call 49; exact Calls.quiet_of_same (rroom_is _ _ hg)))
 go_wp2
 go_ret
 exact ⟨rfl, below_drewN HB.out _⟩
theorem rmay_5 (size kd ct : Int) (pg lk tx : Nat) (bd : ByteArray) (w : World) (hg : goodSize size = true) (h1 : 1 ≤ kd) (h2 : kd ≤ 6) (h3 : 0 ≤ ct) (h4 : ct ≤ 65535) (h5 : ¬ (pg ≤ 2147483647)) :
  Calls Tryz.prog 83 #[.int .i64 size, .agg #[.int .i64 kd, .int .i64 ct, .int .u32 pg, .int .u32 lk, .int .u64 tx, .string bd]] w fun e w' => e = .returned (.bool false) ∧ Below w.heap.size w w' := by
 have b0 : Blk (w.alloc (.cells #[.int .i64 kd, .int .i64 ct, .int .u32 pg, .int .u32 lk, .int .u64 tx, .string bd] 41)) w.heap.size 41 #[.int .i64 kd, .int .i64 ct, .int .u32 pg, .int .u32 lk, .int .u64 tx, .string bd] := Blk.new _ _ _
 have HB := Lib.hid (show Below w.heap.size w (w.alloc (.cells #[.int .i64 kd, .int .i64 ct, .int .u32 pg, .int .u32 lk, .int .u64 tx, .string bd] 41)) from (Below.refl _ _).alloc (Nat.le_refl _) _)
 have c0 := b0.cell 0
 have c1 := b0.cell 1
 have c2 := b0.cell 2
 have c3 := b0.cell 3
 have c4 := b0.cell 4
 have c5 := b0.cell 5
 simp at c0 c1 c2 c3 c4 c5
 clear b0
 have d1 : decide ((1 : Int) ≤ kd) = true := by simp; omega
 have d2 : decide (kd ≤ (6 : Int)) = true := by simp; omega
 have d3 : decide ((0 : Int) ≤ ct) = true := by simp; omega
 have d4 : decide (ct ≤ (65535 : Int)) = true := by simp; omega
 have d5 : decide ((pg : Int) ≤ (2147483647 : Int)) = false := by simp; omega
 go_enter Tryz.func83, Tryz.ntmps83
 go_wp2_with fail
 go_quiet (first | (go_at_call 32; exact Calls.quiet_of_same (rgood_is _ _ _ hg)) | (go_at_call 49; exact Calls.quiet_of_same (rroom_is _ _ hg)))
 go_wp2
 go_ret
 exact ⟨rfl, below_drewN HB.out _⟩
theorem rmay_6 (size kd ct : Int) (pg lk tx : Nat) (bd : ByteArray) (w : World) (hg : goodSize size = true) (h1 : 1 ≤ kd) (h2 : kd ≤ 6) (h3 : 0 ≤ ct) (h4 : ct ≤ 65535) (h5 : pg ≤ 2147483647) (h6 : ¬ (lk ≤ 2147483647)) :
  Calls Tryz.prog 83 #[.int .i64 size, .agg #[.int .i64 kd, .int .i64 ct, .int .u32 pg, .int .u32 lk, .int .u64 tx, .string bd]] w fun e w' => e = .returned (.bool false) ∧ Below w.heap.size w w' := by
 have b0 : Blk (w.alloc (.cells #[.int .i64 kd, .int .i64 ct, .int .u32 pg, .int .u32 lk, .int .u64 tx, .string bd] 41)) w.heap.size 41 #[.int .i64 kd, .int .i64 ct, .int .u32 pg, .int .u32 lk, .int .u64 tx, .string bd] := Blk.new _ _ _
 have HB := Lib.hid (show Below w.heap.size w (w.alloc (.cells #[.int .i64 kd, .int .i64 ct, .int .u32 pg, .int .u32 lk, .int .u64 tx, .string bd] 41)) from (Below.refl _ _).alloc (Nat.le_refl _) _)
 have c0 := b0.cell 0
 have c1 := b0.cell 1
 have c2 := b0.cell 2
 have c3 := b0.cell 3
 have c4 := b0.cell 4
 have c5 := b0.cell 5
 simp at c0 c1 c2 c3 c4 c5
 clear b0
 have d1 : decide ((1 : Int) ≤ kd) = true := by simp; omega
 have d2 : decide (kd ≤ (6 : Int)) = true := by simp; omega
 have d3 : decide ((0 : Int) ≤ ct) = true := by simp; omega
 have d4 : decide (ct ≤ (65535 : Int)) = true := by simp; omega
 have d5 : decide ((pg : Int) ≤ (2147483647 : Int)) = true := by simp; omega
 have d6 : decide ((lk : Int) ≤ (2147483647 : Int)) = false := by simp; omega
 go_enter Tryz.func83, Tryz.ntmps83
 go_wp2_with fail
 go_quiet (first | (go_at_call 32; exact Calls.quiet_of_same (rgood_is _ _ _ hg)) | (go_at_call 49; exact Calls.quiet_of_same (rroom_is _ _ hg)))
 go_wp2
 go_ret
 exact ⟨rfl, below_drewN HB.out _⟩
theorem rmay_7 (size kd ct : Int) (pg lk tx : Nat) (bd : ByteArray) (w : World) (hg : goodSize size = true) (h1 : 1 ≤ kd) (h2 : kd ≤ 6) (h3 : 0 ≤ ct) (h4 : ct ≤ 65535) (h5 : pg ≤ 2147483647) (h6 : lk ≤ 2147483647) (h7 : ¬ (tx ≤ 4611686018427387904)) :
  Calls Tryz.prog 83 #[.int .i64 size, .agg #[.int .i64 kd, .int .i64 ct, .int .u32 pg, .int .u32 lk, .int .u64 tx, .string bd]] w fun e w' => e = .returned (.bool false) ∧ Below w.heap.size w w' := by
 have b0 : Blk (w.alloc (.cells #[.int .i64 kd, .int .i64 ct, .int .u32 pg, .int .u32 lk, .int .u64 tx, .string bd] 41)) w.heap.size 41 #[.int .i64 kd, .int .i64 ct, .int .u32 pg, .int .u32 lk, .int .u64 tx, .string bd] := Blk.new _ _ _
 have HB := Lib.hid (show Below w.heap.size w (w.alloc (.cells #[.int .i64 kd, .int .i64 ct, .int .u32 pg, .int .u32 lk, .int .u64 tx, .string bd] 41)) from (Below.refl _ _).alloc (Nat.le_refl _) _)
 have c0 := b0.cell 0
 have c1 := b0.cell 1
 have c2 := b0.cell 2
 have c3 := b0.cell 3
 have c4 := b0.cell 4
 have c5 := b0.cell 5
 simp at c0 c1 c2 c3 c4 c5
 clear b0
 have d1 : decide ((1 : Int) ≤ kd) = true := by simp; omega
 have d2 : decide (kd ≤ (6 : Int)) = true := by simp; omega
 have d3 : decide ((0 : Int) ≤ ct) = true := by simp; omega
 have d4 : decide (ct ≤ (65535 : Int)) = true := by simp; omega
 have d5 : decide ((pg : Int) ≤ (2147483647 : Int)) = true := by simp; omega
 have d6 : decide ((lk : Int) ≤ (2147483647 : Int)) = true := by simp; omega
 have d7 : decide ((tx : Int) ≤ (4611686018427387904 : Int)) = false := by simp; omega
 go_enter Tryz.func83, Tryz.ntmps83
 go_wp2_with fail
 go_quiet (first | (go_at_call 32; exact Calls.quiet_of_same (rgood_is _ _ _ hg)) | (go_at_call 49; exact Calls.quiet_of_same (rroom_is _ _ hg)))
 go_wp2
 go_ret
 exact ⟨rfl, below_drewN HB.out _⟩
theorem rmay_8 (size kd ct : Int) (pg lk tx : Nat) (bd : ByteArray) (w : World) (hg : goodSize size = true) (h1 : 1 ≤ kd) (h2 : kd ≤ 6) (h3 : 0 ≤ ct) (h4 : ct ≤ 65535) (h5 : pg ≤ 2147483647) (h6 : lk ≤ 2147483647) (h7 : tx ≤ 4611686018427387904) (h8 : ¬ ((bd.size : Int) = size - 24)) :
  Calls Tryz.prog 83 #[.int .i64 size, .agg #[.int .i64 kd, .int .i64 ct, .int .u32 pg, .int .u32 lk, .int .u64 tx, .string bd]] w fun e w' => e = .returned (.bool false) ∧ Below w.heap.size w w' := by
 have b0 : Blk (w.alloc (.cells #[.int .i64 kd, .int .i64 ct, .int .u32 pg, .int .u32 lk, .int .u64 tx, .string bd] 41)) w.heap.size 41 #[.int .i64 kd, .int .i64 ct, .int .u32 pg, .int .u32 lk, .int .u64 tx, .string bd] := Blk.new _ _ _
 have HB := Lib.hid (show Below w.heap.size w (w.alloc (.cells #[.int .i64 kd, .int .i64 ct, .int .u32 pg, .int .u32 lk, .int .u64 tx, .string bd] 41)) from (Below.refl _ _).alloc (Nat.le_refl _) _)
 have c0 := b0.cell 0
 have c1 := b0.cell 1
 have c2 := b0.cell 2
 have c3 := b0.cell 3
 have c4 := b0.cell 4
 have c5 := b0.cell 5
 simp at c0 c1 c2 c3 c4 c5
 clear b0
 have d1 : decide ((1 : Int) ≤ kd) = true := by simp; omega
 have d2 : decide (kd ≤ (6 : Int)) = true := by simp; omega
 have d3 : decide ((0 : Int) ≤ ct) = true := by simp; omega
 have d4 : decide (ct ≤ (65535 : Int)) = true := by simp; omega
 have d5 : decide ((pg : Int) ≤ (2147483647 : Int)) = true := by simp; omega
 have d6 : decide ((lk : Int) ≤ (2147483647 : Int)) = true := by simp; omega
 have d7 : decide ((tx : Int) ≤ (4611686018427387904 : Int)) = true := by simp; omega
 have d8 : ((bd.size : Int) == size - 24) = false := by simp; omega
 go_enter Tryz.func83, Tryz.ntmps83
 go_wp2_with fail
 go_quiet (first | (go_at_call 32; exact Calls.quiet_of_same (rgood_is _ _ _ hg)) | (go_at_call 49; exact Calls.quiet_of_same (rroom_is _ _ hg)))
 go_wp2
 go_ret
 exact ⟨rfl, below_drewN HB.out _⟩
theorem rmay_9 (size kd ct : Int) (pg lk tx : Nat) (bd : ByteArray) (w : World) (hg : goodSize size = true) (h1 : 1 ≤ kd) (h2 : kd ≤ 6) (h3 : 0 ≤ ct) (h4 : ct ≤ 65535) (h5 : pg ≤ 2147483647) (h6 : lk ≤ 2147483647) (h7 : tx ≤ 4611686018427387904) (h8 : (bd.size : Int) = size - 24) :
  Calls Tryz.prog 83 #[.int .i64 size, .agg #[.int .i64 kd, .int .i64 ct, .int .u32 pg, .int .u32 lk, .int .u64 tx, .string bd]] w fun e w' => e = .returned (.bool true) ∧ Below w.heap.size w w' := by
 have b0 : Blk (w.alloc (.cells #[.int .i64 kd, .int .i64 ct, .int .u32 pg, .int .u32 lk, .int .u64 tx, .string bd] 41)) w.heap.size 41 #[.int .i64 kd, .int .i64 ct, .int .u32 pg, .int .u32 lk, .int .u64 tx, .string bd] := Blk.new _ _ _
 have HB := Lib.hid (show Below w.heap.size w (w.alloc (.cells #[.int .i64 kd, .int .i64 ct, .int .u32 pg, .int .u32 lk, .int .u64 tx, .string bd] 41)) from (Below.refl _ _).alloc (Nat.le_refl _) _)
 have c0 := b0.cell 0
 have c1 := b0.cell 1
 have c2 := b0.cell 2
 have c3 := b0.cell 3
 have c4 := b0.cell 4
 have c5 := b0.cell 5
 simp at c0 c1 c2 c3 c4 c5
 clear b0
 have d1 : decide ((1 : Int) ≤ kd) = true := by simp; omega
 have d2 : decide (kd ≤ (6 : Int)) = true := by simp; omega
 have d3 : decide ((0 : Int) ≤ ct) = true := by simp; omega
 have d4 : decide (ct ≤ (65535 : Int)) = true := by simp; omega
 have d5 : decide ((pg : Int) ≤ (2147483647 : Int)) = true := by simp; omega
 have d6 : decide ((lk : Int) ≤ (2147483647 : Int)) = true := by simp; omega
 have d7 : decide ((tx : Int) ≤ (4611686018427387904 : Int)) = true := by simp; omega
 have d8 : ((bd.size : Int) == size - 24) = true := by simp; omega
 have d8 : ((bd.size : Int) == size - 24) = true := by simpa using h8
 go_enter Tryz.func83, Tryz.ntmps83
 go_wp2_with fail
 go_quiet (first | (go_at_call 32; exact Calls.quiet_of_same (rgood_is _ _ _ hg)) | (go_at_call 49; exact Calls.quiet_of_same (rroom_is _ _ hg)))
 go_wp2
 go_ret
 exact ⟨rfl, below_drewN HB.out _⟩
theorem rmay_any (size kd ct : Int) (pg lk tx : Nat) (bd : ByteArray) (w : World) :
  Calls Tryz.prog 83 #[.int .i64 size, .agg #[.int .i64 kd, .int .i64 ct, .int .u32 pg, .int .u32 lk, .int .u64 tx, .string bd]] w fun e w' => e = .returned (.bool (mayPg size kd ct pg lk tx bd)) ∧ Below w.heap.size w w' := by
 by_cases hg : goodSize size = true
 case neg =>
  rw [show mayPg size kd ct pg lk tx bd = false by simp [mayPg, show goodSize size = false by simpa using hg]]
  exact rmay_0 size kd ct pg lk tx bd w  (by simpa using hg)
 by_cases h1 : 1 ≤ kd
 case neg =>
  rw [show mayPg size kd ct pg lk tx bd = false by simp [mayPg, hg, h1]]
  exact rmay_1 size kd ct pg lk tx bd w hg h1
 by_cases h2 : kd ≤ 6
 case neg =>
  rw [show mayPg size kd ct pg lk tx bd = false by simp [mayPg, hg, h1, h2]]
  exact rmay_2 size kd ct pg lk tx bd w hg h1 h2
 by_cases h3 : 0 ≤ ct
 case neg =>
  rw [show mayPg size kd ct pg lk tx bd = false by simp [mayPg, hg, h1, h2, h3]]
  exact rmay_3 size kd ct pg lk tx bd w hg h1 h2 h3
 by_cases h4 : ct ≤ 65535
 case neg =>
  rw [show mayPg size kd ct pg lk tx bd = false by simp [mayPg, hg, h1, h2, h3, h4]]
  exact rmay_4 size kd ct pg lk tx bd w hg h1 h2 h3 h4
 by_cases h5 : pg ≤ 2147483647
 case neg =>
  rw [show mayPg size kd ct pg lk tx bd = false by simp [mayPg, hg, h1, h2, h3, h4, h5]]
  exact rmay_5 size kd ct pg lk tx bd w hg h1 h2 h3 h4 h5
 by_cases h6 : lk ≤ 2147483647
 case neg =>
  rw [show mayPg size kd ct pg lk tx bd = false by simp [mayPg, hg, h1, h2, h3, h4, h5, h6]]
  exact rmay_6 size kd ct pg lk tx bd w hg h1 h2 h3 h4 h5 h6
 by_cases h7 : tx ≤ 4611686018427387904
 case neg =>
  rw [show mayPg size kd ct pg lk tx bd = false by simp [mayPg, hg, h1, h2, h3, h4, h5, h6, h7]]
  exact rmay_7 size kd ct pg lk tx bd w hg h1 h2 h3 h4 h5 h6 h7
 by_cases h8 : (bd.size : Int) = size - 24
 case neg =>
  rw [show mayPg size kd ct pg lk tx bd = false by simp [mayPg, hg, h1, h2, h3, h4, h5, h6, h7, h8]]
  exact rmay_8 size kd ct pg lk tx bd w hg h1 h2 h3 h4 h5 h6 h7 h8
 rw [show mayPg size kd ct pg lk tx bd = true by simp [mayPg, hg, h1, h2, h3, h4, h5, h6, h7, h8]]
 exact rmay_9 size kd ct pg lk tx bd w hg h1 h2 h3 h4 h5 h6 h7 h8
end Go.Proofs.YtmmjckokjmpfpaaGreat

namespace Go.Proofs.YtmmjckokjmpfpaaGreat
open Go.RowKit

structure Bk where
 nm : ByteArray
 rt : Nat
 ks : Int
end Go.Proofs.YtmmjckokjmpfpaaGreat

namespace Go.Proofs.YtmmjckokjmpfpaaGreat
open Go.RowKit
open Go.Lib hiding intOf
attribute [local go_sem ↓] Go.wp_at_zero Go.wp_at_succ

end Go.Proofs.YtmmjckokjmpfpaaGreat

namespace Go.Proofs.YtmmjckokjmpfpaaGreat
open Go.RowKit
open Go.Lib hiding intOf
attribute [local go_sem ↓] Go.wp_at_zero Go.wp_at_succ

def numB (n : Nat) : Bool := decide (2 ≤ n ∧ n ≤ 2147483647)
theorem rnumB_any (n : Nat) (w : World) : Calls Tryz.prog 50 #[.int .u32 n] w fun e w' => e = .returned (.bool (numB n)) ∧ w' = w := by
 by_cases h1 : 2 ≤ n
 ·have h1' : (2 : Int) ≤ n := by omega
  by_cases h2 : n ≤ 2147483647
  ·have h2' : (n : Int) ≤ 2147483647 := by omega
   have HE := Lib.hid (show numB n = true by simp [numB, h1, h2])
   go_enter Tryz.func50, Tryz.ntmps50
   go_wp2
   go_ret
   exact ⟨by rw [HE.out]; rfl, rfl⟩
  ·have h2' : ¬ (n : Int) ≤ 2147483647 := by omega
   have HE := Lib.hid (show numB n = false by simp [numB, h1, h2])
   go_enter Tryz.func50, Tryz.ntmps50
   go_wp2
   go_ret
   exact ⟨by rw [HE.out]; rfl, rfl⟩
 ·have h1' : ¬ (2 : Int) ≤ n := by omega
  have HE := Lib.hid (show numB n = false by simp [numB, h1])
  go_enter Tryz.func50, Tryz.ntmps50
  go_wp2
  go_ret
  exact ⟨by rw [HE.out]; rfl, rfl⟩
end Go.Proofs.YtmmjckokjmpfpaaGreat

namespace Go.Proofs.YtmmjckokjmpfpaaGreat
open Go.RowKit
open Go.Lib hiding intOf

def ceilD (n r : Nat) : Nat := (n + r - 1) / r
def piece (r : Nat) (v : ByteArray) (i : Nat) : ByteArray := v.extract (i * r) (min ((i + 1) * r) v.size)
def chunks (r : Nat) (v : ByteArray) : List ByteArray := (List.range (ceilD v.size r)).map (piece r v)
def partsL (size : Int) (v : ByteArray) : List ByteArray := if goodSize size then chunks (size - 24).toNat v else []
def needN (size n : Int) : Nat := if goodSize size && decide (1 ≤ n) then (n.toNat - 1) / (size - 24).toNat + 1 else 0
theorem ceilD_pos {n r : Nat} (hr : 0 < r) (hn : 0 < n) : ceilD n r = (n - 1) / r + 1 := by
 unfold ceilD
 rw [show n + r - 1 = (n - 1) + r by omega, Nat.add_div_right _ hr]
theorem ceilD_zero {r : Nat} (hr : 0 < r) : ceilD 0 r = 0 := by
 unfold ceilD
 exact Nat.div_eq_of_lt (by omega)
theorem chunks_len (r : Nat) (v : ByteArray) : (chunks r v).length = ceilD v.size r := by simp [chunks]
theorem parts_need (size : Int) (v : ByteArray) : (partsL size v).length = needN size v.size := by
 unfold partsL needN
 rcases hg : goodSize size with _ | _
 ·simp
 ·obtain ⟨z, rfl, h1, h2, _⟩ := good_nat hg
  have hr : ((z : Int) - 24).toNat = z - 24 := by omega
  simp only [if_true, Bool.true_and]
  rw [chunks_len, hr]
  by_cases hv : v.size = 0
  ·rw [hv, ceilD_zero (by omega)]
   simp
  ·rw [ceilD_pos (by omega) (by omega)]
   have h3 : decide ((1 : Int) ≤ (v.size : Int)) = true := by simp; omega
   rw [h3, if_pos rfl]
   simp
theorem piece_lt {n r i : Nat} (hr : 0 < r) (hi : i < ceilD n r) : i * r < n := by
 unfold ceilD at hi
 have h1 := (Nat.le_div_iff_mul_le hr).1 (show i + 1 ≤ (n + r - 1) / r by omega)
 rw [Nat.add_mul, Nat.one_mul] at h1
 omega
theorem piece_end {n r i : Nat} (hr : 0 < r) (hi : ¬ i < ceilD n r) : n ≤ i * r := by
 unfold ceilD at hi
 have h1 : ¬ (i + 1) * r ≤ n + r - 1 := fun h => hi ((Nat.le_div_iff_mul_le hr).2 h)
 rw [Nat.add_mul, Nat.one_mul] at h1
 omega
theorem piece_size {r : Nat} {v : ByteArray} {i : Nat} (hr : 0 < r) (hi : i < ceilD v.size r) : (piece r v i).size = min r (v.size - i * r) := by
 have h := piece_lt hr hi
 unfold piece
 rw [ByteArray.size_extract, Nat.add_mul, Nat.one_mul]
 omega
def mayP9 (size : Int) (n next tx : Nat) (s : ByteArray) : Bool := goodSize size && (decide (1 ≤ s.size) && (decide ((s.size : Int) ≤ size - 24) && (numB n && ((decide (next = 0) || (numB next && decide ((size - 24 : Int) ≤ s.size))) && decide (tx ≤ 4611686018427387904)))))
def overBody (z : Nat) (s : ByteArray) : ByteArray := ⟨(s.data.toList ++ List.replicate (z - 24 - s.size) 0).toArray⟩
theorem mayP9_parts {z n next tx : Nat} {s : ByteArray} (h : mayP9 z n next tx s = true) : goodSize z = true ∧ 1 ≤ s.size ∧ (s.size ≤ z - 24 ∧ 24 ≤ z) ∧ numB n = true ∧ (next = 0 ∨ numB next = true ∧ s.size = z - 24) ∧ tx ≤ 4611686018427387904 := by
 simp only [mayP9, Bool.and_eq_true, Bool.or_eq_true, decide_eq_true_eq] at h
 obtain ⟨h1, h2, h3, h4, h5, h6⟩ := h
 have := good_pos h1
 refine ⟨h1, h2, by omega, h4, ?_, h6⟩
 rcases h5 with h5 | ⟨h5, h7⟩
 ·exact .inl h5
 ·exact .inr ⟨h5, by omega⟩
theorem overBody_size (z : Nat) (s : ByteArray) (h : s.size ≤ z - 24) : (overBody z s).size = z - 24 := by
 show (s.data.toList ++ List.replicate (z - 24 - s.size) 0).toArray.size = _
 rw [List.size_toArray, List.length_append, List.length_replicate, size_list]
 omega
def readO (kd ct : Int) (pg lk ty : Nat) (bd : ByteArray) : Option ByteArray :=
 if decide (0 ≤ ct) && (decide (ct ≤ bd.size) && (mayP9 ((bd.size + 24 : Nat) : Int) pg lk ty (bd.extract 0 ct.toNat) && decide (kd = 5 ∧ bd = overBody (bd.size + 24) (bd.extract 0 ct.toNat)))) then some (bd.extract 0 ct.toNat) else none
theorem overBody_take (z : Nat) (s : ByteArray) : (overBody z s).extract 0 s.size = s := by
 apply bytes_ext
 have hs : s.data.toList.length = s.size := size_list s
 rw [ByteArray.data_extract, Array.toList_extract, List.extract_eq_take_drop]
 show List.take _ (List.drop 0 (s.data.toList ++ _)) = _
 rw [List.drop_zero, Nat.sub_zero, ← hs, List.take_left]
theorem readO_page {z n next tx : Nat} {s : ByteArray} (h : mayP9 z n next tx s = true) : readO 5 s.size n next tx (overBody z s) = some s := by
 obtain ⟨h1, h2, h3, h4, h5, h6⟩ := mayP9_parts h
 have hz := overBody_size z s h3.1
 have hz2 : (overBody z s).size + 24 = z := by omega
 have ht : (overBody z s).extract 0 ((s.size : Nat) : Int).toNat = s := overBody_take z s
 unfold readO
 rw [ht, hz2, h]
 rw [if_pos]
 simp
 omega
end Go.Proofs.YtmmjckokjmpfpaaGreat

namespace Go.Proofs.YtmmjckokjmpfpaaGreat
open Go.RowKit
open Go.Lib hiding intOf

def nthU (l : List Nat) (i : Nat) : Nat := (l[i]?).getD 0
def ucells (l : List Nat) : List Value := l.map fun (n : Nat) => Value.int .u32 (n : Int)
def allU (l : List Nat) : Bool := l.all numB
theorem ucells_length (l : List Nat) : (ucells l).length = l.length := by simp [ucells]
theorem ucells_append (l m : List Nat) : ucells (l ++ m) = ucells l ++ ucells m := by simp [ucells]
theorem ucells_one (l : List Nat) : ∀ u ∈ ucells l, u.oneCell' = true := by
 intro u hu
 obtain ⟨s, _, rfl⟩ := List.mem_map.1 hu
 rfl
theorem ucells_at {l : List Nat} {k : Nat} {n : Nat} (h : l[k]? = some n) : (ucells l)[k]? = some (.int .u32 n) := by
 unfold ucells; rw [List.getElem?_map, h]; rfl
theorem nthU_of {l : List Nat} {k n : Nat} (h : l[k]? = some n) : nthU l k = n := by unfold nthU; rw [h]; rfl
theorem nthU_at {l : List Nat} {k : Nat} (h : k < l.length) : l[k]? = some (nthU l k) := by unfold nthU; rw [List.getElem?_eq_getElem h]; rfl
theorem allU_iff {l : List Nat} : allU l = true ↔ ∀ n, n ∈ l → numB n = true := by unfold allU; rw [List.all_eq_true]
theorem allU_at {l : List Nat} : allU l = true ↔ ∀ i, i < l.length → numB (nthU l i) = true := by
 rw [allU_iff]
 constructor
 ·intro h i hi
  exact h _ (List.mem_of_getElem? (nthU_at hi))
 ·intro h n hn
  obtain ⟨i, hi, rfl⟩ := List.getElem_of_mem hn
  have := h i hi
  rwa [nthU_of (List.getElem?_eq_getElem hi)] at this
end Go.Proofs.YtmmjckokjmpfpaaGreat

namespace Go.Proofs.YtmmjckokjmpfpaaGreat
open Go.RowKit
open Go.Lib hiding intOf

def Pg.over (p : Pg) : Option ByteArray := readO p.kd p.ct p.pg p.lk p.tx p.bd
def valV (L : List Pg) : Option ByteArray := L.foldl (fun a p => match a, p.over with | some v, some s => some (v ++ s) | _, _ => none) (some ⟨#[]⟩)
theorem valV_snoc (L : List Pg) (p : Pg) : valV (L ++ [p]) = match valV L, p.over with | some v, some s => some (v ++ s) | _, _ => none := by unfold valV; rw [List.foldl_append]; rfl
theorem take_snoc_at {α : Type} {L : List α} {k : Nat} {p : α} (h : L[k]? = some p) : L.take (k + 1) = L.take k ++ [p] := by
 obtain ⟨h1, h2⟩ := List.getElem?_eq_some_iff.1 h
 rw [List.take_succ_eq_append_getElem h1, h2]
def readV (size : Int) (s : ByteArray) (head : Nat) (len : Int) : Option (ByteArray × List Nat) :=
 if chainOk size s 5 head then (match valV (chainL size s 5 head) with
  | some v => if 1 ≤ len ∧ (v.size : Int) = len then some (v, (chainL size s 5 head).map (·.pg)) else none
  | none => none) else none
def fineL (l : List Nat) : Bool := l.all numB && decide l.Nodup
def nextL (l : List Nat) (i : Nat) : Nat := if i + 1 < l.length then nthU l (i + 1) else 0
def onL (size : Int) (tx : Nat) (ps : List Nat) (v : ByteArray) : Option (List Pg) :=
 if goodSize size && (decide (0 < v.size) && (decide (v.size ≤ 4096) && (decide ((partsL size v).length = ps.length) && (fineL ps && decide (tx ≤ 4611686018427387904))))) then
  some ((List.range ps.length).map fun i => ⟨5, ((partsL size v).getD i ⟨#[]⟩).size, nthU ps i, nextL ps i, tx, overBody size.toNat ((partsL size v).getD i ⟨#[]⟩)⟩)
 else none
end Go.Proofs.YtmmjckokjmpfpaaGreat

namespace Go.Proofs.YtmmjckokjmpfpaaGreat
open Go.RowKit

theorem cells2 {w : World} {p : Addr} {v0 v1 : Value} (h : ∀ j u, ([v0, v1] : List Value)[j]? = some u → w.cell? (p.add j) = some u) : w.cell? p = some v0 ∧ w.cell? ⟨p.block, p.off + 1, none⟩ = some v1 := by
 have e : p.add 1 = ⟨p.block, p.off + 1, none⟩ := by unfold Addr.add; rw [if_neg (by omega)]
 refine ⟨h 0 _ rfl, ?_⟩
 rw [← e]
 exact h 1 _ rfl
structure Fk where
 nm : ByteArray
 rt : Nat
def Fk.cells (b : Fk) : List Value := [.string b.nm, .int .u32 b.rt]
theorem Fk.cells_len (b : Fk) : b.cells.length = 2 := rfl
theorem Fk.ext_ {a b : Fk} (h1 : a.nm = b.nm) (h2 : a.rt = b.rt) : a = b := by cases a; cases b; simp_all
def fkc (l : List Fk) : List Value := rowsOf Fk.cells l
def FkAt (w : World) (p : Addr) (b : Fk) : Prop := w.cell? p = some (.string b.nm) ∧ w.cell? ⟨p.block, p.off + 1, none⟩ = some (.int .u32 b.rt)
theorem FkAt.below {w w' : World} {B : Nat} {p : Addr} {b : Fk} (h : FkAt w p b) (hb : Below B w w') (hp : p.block < B) : FkAt w' p b :=
 ⟨(hb.cell (p := p) hp).trans h.1, (hb.cell (p := ⟨p.block, p.off + 1, none⟩) hp).trans h.2⟩
theorem fk_at {w : World} {B n i : Nat} {A : Option Addr} {l : List Fk} (h : Reads w B 2 A n (fkc l)) (hi : i < n) :
  ∃ ad x, A = some ad ∧ ad.block < B ∧ (ad.add (i * 2)).block < B ∧ l[i]? = some x ∧ FkAt w (ad.add (i * 2)) x := by
 obtain ⟨ad, x, hA, hb, hx, hc⟩ := row_at (fun b => Fk.cells_len b) (by decide) h hi
 exact ⟨ad, x, hA, hb, by rw [block_add]; exact hb, hx, cells2 hc⟩
theorem fk_len {w : World} {B n : Nat} {A : Option Addr} {l : List Fk} (h : Reads w B 2 A n (fkc l)) : l.length = n := rows_len (fun b => Fk.cells_len b) (by decide) h
theorem fkc_snoc (l : List Fk) (b : Fk) : fkc l ++ b.cells = fkc (l ++ [b]) := by simp [fkc, rowsOf]
theorem fkc_append (l m : List Fk) : fkc (l ++ m) = fkc l ++ fkc m := rowsOf_append l m

end Go.Proofs.YtmmjckokjmpfpaaGreat

