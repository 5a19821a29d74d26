/-
  Texts that the main proof rests on, put together: FrameValid, FramePut, FramePutP, FrameCatch, Shelf, StrClone, Order, PgWords. No statement is proved here.
-/
import Derived.Test.YtmmjckokjmpfpaaGreatJ2
import Derived.Deep.RegionHeld3
import Derived.Tactics2
import Derived.Defers
import Derived.Recover
import Derived.Laws.Pointers
import Derived.Shelf.Strconv.Clone
import Derived.Test.YtmmjckokjmpfpaaGreatProg
import Derived.Shelf.Strings.BuilderK
import Derived.Test.YtmmjckokjmpfpaaGreatJ1
import Derived.Deep.DrawnRows
import Derived.Laws.ResultCell
import Derived.Deep.WholeRow
set_option linter.unusedVariables false
set_option linter.unusedSimpArgs false
namespace Go.Proofs.YtmmjckokjmpfpaaGreat
open Go.RowKit
open Go.Lib
attribute [local go_sem ↓] Go.wp_at_zero Go.wp_at_succ

def mayPg (size kd ct : Int) (pg lk tx : Nat) (bd : ByteArray) : Bool := goodSize size && (decide (1 ≤ kd) && (decide (kd ≤ 6) && (decide (0 ≤ ct) && (decide (ct ≤ 65535) && (decide (pg ≤ 2147483647) && (decide (lk ≤ 2147483647) && (decide (tx ≤ 4611686018427387904) && decide ((bd.size : Int) = size - 24))))))))
theorem dgood_is (n : Int) (b : Bool) (w : World) (h : goodSize n = b) : Calls Tryz.prog 71 #[.int .i64 n] w fun e w' => e = .returned (.bool b) ∧ w' = w :=
 (dgood_any n w).mono fun _ _ ⟨a, b⟩ => ⟨by rw [← h]; exact a, b.symm⟩
theorem room_is (n : Int) (w : World) (h : goodSize n = true) : Calls Tryz.prog 122 #[.int .i64 n] w fun e w' => e = .returned (.int .i64 (n - 24)) ∧ w' = w :=
 (room_yes n w h).mono fun _ _ ⟨a, b⟩ => ⟨a, b.symm⟩
theorem valid_0 (size kd ct : Int) (pg lk tx : Nat) (bd : ByteArray) (w : World) (hg : goodSize size = false) :
  Calls Tryz.prog 156 #[.int .i64 size, .agg #[.int .i64 kd, .int .i64 ct, .int .u32 pg, .int .u32 lk, .int .u64 tx, .string bd]] w fun e w' => e = .returned (.bool false) ∧ Below w.heap.size w w' := by
 have b0 : Blk (w.alloc (.cells #[.int .i64 kd, .int .i64 ct, .int .u32 pg, .int .u32 lk, .int .u64 tx, .string bd] 41)) w.heap.size 41 #[.int .i64 kd, .int .i64 ct, .int .u32 pg, .int .u32 lk, .int .u64 tx, .string bd] := Blk.new _ _ _
 have HB := Lib.hid (show Below w.heap.size w (w.alloc (.cells #[.int .i64 kd, .int .i64 ct, .int .u32 pg, .int .u32 lk, .int .u64 tx, .string bd] 41)) from (Below.refl _ _).alloc (Nat.le_refl _) _)
 have c0 := b0.cell 0
 have c1 := b0.cell 1
 have c2 := b0.cell 2
 have c3 := b0.cell 3
 have c4 := b0.cell 4
 have c5 := b0.cell 5
 simp at c0 c1 c2 c3 c4 c5
 clear b0
 go_enter Tryz.func156, Tryz.ntmps156
 go_wp2_with fail
 go_quiet (first | (go_at_call 71; exact Calls.quiet_of_same (dgood_is _ _ _ hg)) | (go_at_call 122; exact Calls.quiet_of_same (room_is _ _ hg)))
 go_wp2
 go_ret
 exact ⟨rfl, below_drewN HB.out _⟩
theorem valid_1 (size kd ct : Int) (pg lk tx : Nat) (bd : ByteArray) (w : World) (hg : goodSize size = true) (h1 : ¬ (1 ≤ kd)) :
  Calls Tryz.prog 156 #[.int .i64 size, .agg #[.int .i64 kd, .int .i64 ct, .int .u32 pg, .int .u32 lk, .int .u64 tx, .string bd]] w fun e w' => e = .returned (.bool false) ∧ Below w.heap.size w w' := by
 have b0 : Blk (w.alloc (.cells #[.int .i64 kd, .int .i64 ct, .int .u32 pg, .int .u32 lk, .int .u64 tx, .string bd] 41)) w.heap.size 41 #[.int .i64 kd, .int .i64 ct, .int .u32 pg, .int .u32 lk, .int .u64 tx, .string bd] := Blk.new _ _ _
 have HB := Lib.hid (show Below w.heap.size w (w.alloc (.cells #[.int .i64 kd, .int .i64 ct, .int .u32 pg, .int .u32 lk, .int .u64 tx, .string bd] 41)) from (Below.refl _ _).alloc (Nat.le_refl _) _)
 have c0 := b0.cell 0
 have c1 := b0.cell 1
 have c2 := b0.cell 2
 have c3 := b0.cell 3
 have c4 := b0.cell 4
 have c5 := b0.cell 5
 simp at c0 c1 c2 c3 c4 c5
 clear b0
 have d1 : decide ((1 : Int) ≤ kd) = false := by simp; omega
 go_enter Tryz.func156, Tryz.ntmps156
 go_wp2_with fail
 go_quiet (first | (go_at_call 71; exact Calls.quiet_of_same (dgood_is _ _ _ hg)) | (go_at_call 122; exact Calls.quiet_of_same (room_is _ _ hg)))
 go_wp2
 go_ret
 exact ⟨rfl, below_drewN HB.out _⟩
theorem valid_2 (size kd ct : Int) (pg lk tx : Nat) (bd : ByteArray) (w : World) (hg : goodSize size = true) (h1 : 1 ≤ kd) (h2 : ¬ (kd ≤ 6)) :
  Calls Tryz.prog 156 #[.int .i64 size, .agg #[.int .i64 kd, .int .i64 ct, .int .u32 pg, .int .u32 lk, .int .u64 tx, .string bd]] w fun e w' => e = .returned (.bool false) ∧ Below w.heap.size w w' := by
 have b0 : Blk (w.alloc (.cells #[.int .i64 kd, .int .i64 ct, .int .u32 pg, .int .u32 lk, .int .u64 tx, .string bd] 41)) w.heap.size 41 #[.int .i64 kd, .int .i64 ct, .int .u32 pg, .int .u32 lk, .int .u64 tx, .string bd] := Blk.new _ _ _
 have HB := Lib.hid (show Below w.heap.size w (w.alloc (.cells #[.int .i64 kd, .int .i64 ct, .int .u32 pg, .int .u32 lk, .int .u64 tx, .string bd] 41)) from (Below.refl _ _).alloc (Nat.le_refl _) _)
 have c0 := b0.cell 0
 have c1 := b0.cell 1
 have c2 := b0.cell 2
 have c3 := b0.cell 3
 have c4 := b0.cell 4
 have c5 := b0.cell 5
 simp at c0 c1 c2 c3 c4 c5
 clear b0
 have d1 : decide ((1 : Int) ≤ kd) = true := by simp; omega
 have d2 : decide (kd ≤ (6 : Int)) = false := by simp; omega
 go_enter Tryz.func156, Tryz.ntmps156
 go_wp2_with fail
 go_quiet (first | (go_at_call 71; exact Calls.quiet_of_same (dgood_is _ _ _ hg)) | (go_at_call 122; exact Calls.quiet_of_same (room_is _ _ hg)))
 go_wp2
 go_ret
 exact ⟨rfl, below_drewN HB.out _⟩
theorem valid_3 (size kd ct : Int) (pg lk tx : Nat) (bd : ByteArray) (w : World) (hg : goodSize size = true) (h1 : 1 ≤ kd) (h2 : kd ≤ 6) (h3 : ¬ (0 ≤ ct)) :
  Calls Tryz.prog 156 #[.int .i64 size, .agg #[.int .i64 kd, .int .i64 ct, .int .u32 pg, .int .u32 lk, .int .u64 tx, .string bd]] w fun e w' => e = .returned (.bool false) ∧ Below w.heap.size w w' := by
 have b0 : Blk (w.alloc (.cells #[.int .i64 kd, .int .i64 ct, .int .u32 pg, .int .u32 lk, .int .u64 tx, .string bd] 41)) w.heap.size 41 #[.int .i64 kd, .int .i64 ct, .int .u32 pg, .int .u32 lk, .int .u64 tx, .string bd] := Blk.new _ _ _
 have HB := Lib.hid (show Below w.heap.size w (w.alloc (.cells #[.int .i64 kd, .int .i64 ct, .int .u32 pg, .int .u32 lk, .int .u64 tx, .string bd] 41)) from (Below.refl _ _).alloc (Nat.le_refl _) _)
 have c0 := b0.cell 0
 have c1 := b0.cell 1
 have c2 := b0.cell 2
 have c3 := b0.cell 3
 have c4 := b0.cell 4
 have c5 := b0.cell 5
 simp at c0 c1 c2 c3 c4 c5
 clear b0
 have d1 : decide ((1 : Int) ≤ kd) = true := by simp; omega
 have d2 : decide (kd ≤ (6 : Int)) = true := by simp; omega
 have d3 : decide ((0 : Int) ≤ ct) = false := by simp; omega
 go_enter Tryz.func156, Tryz.ntmps156
 go_wp2_with fail
 go_quiet (first | (go_at_call 71; exact Calls.quiet_of_same (dgood_is _ _ _ hg)) | (go_at_call 122; exact Calls.quiet_of_same (room_is _ _ hg)))
 go_wp2
 go_ret
 exact ⟨rfl, below_drewN HB.out _⟩
theorem valid_4 (size kd ct : Int) (pg lk tx : Nat) (bd : ByteArray) (w : World) (hg : goodSize size = true) (h1 : 1 ≤ kd) (h2 : kd ≤ 6) (h3 : 0 ≤ ct) (h4 : ¬ (ct ≤ 65535)) :
  Calls Tryz.prog 156 #[.int .i64 size, .agg #[.int .i64 kd, .int .i64 ct, .int .u32 pg, .int .u32 lk, .int .u64 tx, .string bd]] w fun e w' => e = .returned (.bool false) ∧ Below w.heap.size w w' := by
 have b0 : Blk (w.alloc (.cells #[.int .i64 kd, .int .i64 ct, .int .u32 pg, .int .u32 lk, .int .u64 tx, .string bd] 41)) w.heap.size 41 #[.int .i64 kd, .int .i64 ct, .int .u32 pg, .int .u32 lk, .int .u64 tx, .string bd] := Blk.new _ _ _
 have HB := Lib.hid (show Below w.heap.size w (w.alloc (.cells #[.int .i64 kd, .int .i64 ct, .int .u32 pg, .int .u32 lk, .int .u64 tx, .string bd] 41)) from (Below.refl _ _).alloc (Nat.le_refl _) _)
 have c0 := b0.cell 0
 have c1 := b0.cell 1
 have c2 := b0.cell 2
 have c3 := b0.cell 3
 have c4 := b0.cell 4
 have c5 := b0.cell 5
 simp at c0 c1 c2 c3 c4 c5
 clear b0
 have d1 : decide ((1 : Int) ≤ kd) = true := by simp; omega
 have d2 : decide (kd ≤ (6 : Int)) = true := by simp; omega
 have d3 : decide ((0 : Int) ≤ ct) = true := by simp; omega
 have d4 : decide (ct ≤ (65535 : Int)) = false := by simp; omega
 go_enter Tryz.func156, Tryz.ntmps156
 go_wp2_with fail
 go_quiet (first | (go_at_call 71; exact Calls.quiet_of_same (dgood_is _ _ _ hg)) | (go_at_call 122; exact Calls.quiet_of_same (room_is _ _ hg)))
 go_wp2
 go_ret
 exact ⟨rfl, below_drewN HB.out _⟩
theorem valid_5 (size kd ct : Int) (pg lk tx : Nat) (bd : ByteArray) (w : World) (hg : goodSize size = true) (h1 : 1 ≤ kd) (h2 : kd ≤ 6) (h3 : 0 ≤ ct) (h4 : ct ≤ 65535) (h5 : ¬ (pg ≤ 2147483647)) :
  Calls Tryz.prog 156 #[.int .i64 size, .agg #[.int .i64 kd, .int .i64 ct, .int .u32 pg, .int .u32 lk, .int .u64 tx, .string bd]] w fun e w' => e = .returned (.bool false) ∧ Below w.heap.size w w' := by
 have b0 : Blk (w.alloc (.cells #[.int .i64 kd, .int .i64 ct, .int .u32 pg, .int .u32 lk, .int .u64 tx, .string bd] 41)) w.heap.size 41 #[.int .i64 kd, .int .i64 ct, .int .u32 pg, .int .u32 lk, .int .u64 tx, .string bd] := Blk.new _ _ _
 have HB := Lib.hid (show Below w.heap.size w (w.alloc (.cells #[.int .i64 kd, .int .i64 ct, .int .u32 pg, .int .u32 lk, .int .u64 tx, .string bd] 41)) from (Below.refl _ _).alloc (Nat.le_refl _) _)
 have c0 := b0.cell 0
 have c1 := b0.cell 1
 have c2 := b0.cell 2
 have c3 := b0.cell 3
 have c4 := b0.cell 4
 have c5 := b0.cell 5
 simp at c0 c1 c2 c3 c4 c5
 clear b0
 have d1 : decide ((1 : Int) ≤ kd) = true := by simp; omega
 have d2 : decide (kd ≤ (6 : Int)) = true := by simp; omega
 have d3 : decide ((0 : Int) ≤ ct) = true := by simp; omega
 have d4 : decide (ct ≤ (65535 : Int)) = true := by simp; omega
 have d5 : decide ((pg : Int) ≤ (2147483647 : Int)) = false := by simp; omega
 go_enter Tryz.func156, Tryz.ntmps156
 go_wp2_with fail
 go_quiet (first | (go_at_call 71; exact Calls.quiet_of_same (dgood_is _ _ _ hg)) | (go_at_call 122; exact Calls.quiet_of_same (room_is _ _ hg)))
 go_wp2
 go_ret
 exact ⟨rfl, below_drewN HB.out _⟩
theorem valid_6 (size kd ct : Int) (pg lk tx : Nat) (bd : ByteArray) (w : World) (hg : goodSize size = true) (h1 : 1 ≤ kd) (h2 : kd ≤ 6) (h3 : 0 ≤ ct) (h4 : ct ≤ 65535) (h5 : pg ≤ 2147483647) (h6 : ¬ (lk ≤ 2147483647)) :
  Calls Tryz.prog 156 #[.int .i64 size, .agg #[.int .i64 kd, .int .i64 ct, .int .u32 pg, .int .u32 lk, .int .u64 tx, .string bd]] w fun e w' => e = .returned (.bool false) ∧ Below w.heap.size w w' := by
 have b0 : Blk (w.alloc (.cells #[.int .i64 kd, .int .i64 ct, .int .u32 pg, .int .u32 lk, .int .u64 tx, .string bd] 41)) w.heap.size 41 #[.int .i64 kd, .int .i64 ct, .int .u32 pg, .int .u32 lk, .int .u64 tx, .string bd] := Blk.new _ _ _
 have HB := Lib.hid (show Below w.heap.size w (w.alloc (.cells #[.int .i64 kd, .int .i64 ct, .int .u32 pg, .int .u32 lk, .int .u64 tx, .string bd] 41)) from (Below.refl _ _).alloc (Nat.le_refl _) _)
 have c0 := b0.cell 0
 have c1 := b0.cell 1
 have c2 := b0.cell 2
 have c3 := b0.cell 3
 have c4 := b0.cell 4
 have c5 := b0.cell 5
 simp at c0 c1 c2 c3 c4 c5
 clear b0
 have d1 : decide ((1 : Int) ≤ kd) = true := by simp; omega
 have d2 : decide (kd ≤ (6 : Int)) = true := by simp; omega
 have d3 : decide ((0 : Int) ≤ ct) = true := by simp; omega
 have d4 : decide (ct ≤ (65535 : Int)) = true := by simp; omega
 have d5 : decide ((pg : Int) ≤ (2147483647 : Int)) = true := by simp; omega
 have d6 : decide ((lk : Int) ≤ (2147483647 : Int)) = false := by simp; omega
 go_enter Tryz.func156, Tryz.ntmps156
 go_wp2_with fail
 go_quiet (first | (go_at_call 71; exact Calls.quiet_of_same (dgood_is _ _ _ hg)) | (go_at_call 122; exact Calls.quiet_of_same (room_is _ _ hg)))
 go_wp2
 go_ret
 exact ⟨rfl, below_drewN HB.out _⟩
theorem valid_7 (size kd ct : Int) (pg lk tx : Nat) (bd : ByteArray) (w : World) (hg : goodSize size = true) (h1 : 1 ≤ kd) (h2 : kd ≤ 6) (h3 : 0 ≤ ct) (h4 : ct ≤ 65535) (h5 : pg ≤ 2147483647) (h6 : lk ≤ 2147483647) (h7 : ¬ (tx ≤ 4611686018427387904)) :
  Calls Tryz.prog 156 #[.int .i64 size, .agg #[.int .i64 kd, .int .i64 ct, .int .u32 pg, .int .u32 lk, .int .u64 tx, .string bd]] w fun e w' => e = .returned (.bool false) ∧ Below w.heap.size w w' := by
 have b0 : Blk (w.alloc (.cells #[.int .i64 kd, .int .i64 ct, .int .u32 pg, .int .u32 lk, .int .u64 tx, .string bd] 41)) w.heap.size 41 #[.int .i64 kd, .int .i64 ct, .int .u32 pg, .int .u32 lk, .int .u64 tx, .string bd] := Blk.new _ _ _
 have HB := Lib.hid (show Below w.heap.size w (w.alloc (.cells #[.int .i64 kd, .int .i64 ct, .int .u32 pg, .int .u32 lk, .int .u64 tx, .string bd] 41)) from (Below.refl _ _).alloc (Nat.le_refl _) _)
 have c0 := b0.cell 0
 have c1 := b0.cell 1
 have c2 := b0.cell 2
 have c3 := b0.cell 3
 have c4 := b0.cell 4
 have c5 := b0.cell 5
 simp at c0 c1 c2 c3 c4 c5
 clear b0
 have d1 : decide ((1 : Int) ≤ kd) = true := by simp; omega
 have d2 : decide (kd ≤ (6 : Int)) = true := by simp; omega
 have d3 : decide ((0 : Int) ≤ ct) = true := by simp; omega
 have d4 : decide (ct ≤ (65535 : Int)) = true := by simp; omega
 have d5 : decide ((pg : Int) ≤ (2147483647 : Int)) = true := by simp; omega
 have d6 : decide ((lk : Int) ≤ (2147483647 : Int)) = true := by simp; omega
 have d7 : decide ((tx : Int) ≤ (4611686018427387904 : Int)) = false := by simp; omega
 go_enter Tryz.func156, Tryz.ntmps156
 go_wp2_with fail
 go_quiet (first | (go_at_call 71; exact Calls.quiet_of_same (dgood_is _ _ _ hg)) | (go_at_call 122; exact Calls.quiet_of_same (room_is _ _ hg)))
 go_wp2
 go_ret
 exact ⟨rfl, below_drewN HB.out _⟩
theorem valid_8 (size kd ct : Int) (pg lk tx : Nat) (bd : ByteArray) (w : World) (hg : goodSize size = true) (h1 : 1 ≤ kd) (h2 : kd ≤ 6) (h3 : 0 ≤ ct) (h4 : ct ≤ 65535) (h5 : pg ≤ 2147483647) (h6 : lk ≤ 2147483647) (h7 : tx ≤ 4611686018427387904) (h8 : ¬ ((bd.size : Int) = size - 24)) :
  Calls Tryz.prog 156 #[.int .i64 size, .agg #[.int .i64 kd, .int .i64 ct, .int .u32 pg, .int .u32 lk, .int .u64 tx, .string bd]] w fun e w' => e = .returned (.bool false) ∧ Below w.heap.size w w' := by
 have b0 : Blk (w.alloc (.cells #[.int .i64 kd, .int .i64 ct, .int .u32 pg, .int .u32 lk, .int .u64 tx, .string bd] 41)) w.heap.size 41 #[.int .i64 kd, .int .i64 ct, .int .u32 pg, .int .u32 lk, .int .u64 tx, .string bd] := Blk.new _ _ _
 have HB := Lib.hid (show Below w.heap.size w (w.alloc (.cells #[.int .i64 kd, .int .i64 ct, .int .u32 pg, .int .u32 lk, .int .u64 tx, .string bd] 41)) from (Below.refl _ _).alloc (Nat.le_refl _) _)
 have c0 := b0.cell 0
 have c1 := b0.cell 1
 have c2 := b0.cell 2
 have c3 := b0.cell 3
 have c4 := b0.cell 4
 have c5 := b0.cell 5
 simp at c0 c1 c2 c3 c4 c5
 clear b0
 have d1 : decide ((1 : Int) ≤ kd) = true := by simp; omega
 have d2 : decide (kd ≤ (6 : Int)) = true := by simp; omega
 have d3 : decide ((0 : Int) ≤ ct) = true := by simp; omega
 have d4 : decide (ct ≤ (65535 : Int)) = true := by simp; omega
 have d5 : decide ((pg : Int) ≤ (2147483647 : Int)) = true := by simp; omega
 have d6 : decide ((lk : Int) ≤ (2147483647 : Int)) = true := by simp; omega
 have d7 : decide ((tx : Int) ≤ (4611686018427387904 : Int)) = true := by simp; omega
 have d8 : ((bd.size : Int) == size - 24) = false := by simp; omega
 go_enter Tryz.func156, Tryz.ntmps156
 go_wp2_with fail
 go_quiet (first | (go_at_call 71; exact Calls.quiet_of_same (dgood_is _ _ _ hg)) | (go_at_call 122; exact Calls.quiet_of_same (room_is _ _ hg)))
 go_wp2
 go_ret
 exact ⟨rfl, below_drewN HB.out _⟩
theorem valid_9 (size kd ct : Int) (pg lk tx : Nat) (bd : ByteArray) (w : World) (hg : goodSize size = true) (h1 : 1 ≤ kd) (h2 : kd ≤ 6) (h3 : 0 ≤ ct) (h4 : ct ≤ 65535) (h5 : pg ≤ 2147483647) (h6 : lk ≤ 2147483647) (h7 : tx ≤ 4611686018427387904) (h8 : (bd.size : Int) = size - 24) :
  Calls Tryz.prog 156 #[.int .i64 size, .agg #[.int .i64 kd, .int .i64 ct, .int .u32 pg, .int .u32 lk, .int .u64 tx, .string bd]] w fun e w' => e = .returned (.bool true) ∧ Below w.heap.size w w' := by
 have b0 : Blk (w.alloc (.cells #[.int .i64 kd, .int .i64 ct, .int .u32 pg, .int .u32 lk, .int .u64 tx, .string bd] 41)) w.heap.size 41 #[.int .i64 kd, .int .i64 ct, .int .u32 pg, .int .u32 lk, .int .u64 tx, .string bd] := Blk.new _ _ _
 have HB := Lib.hid (show Below w.heap.size w (w.alloc (.cells #[.int .i64 kd, .int .i64 ct, .int .u32 pg, .int .u32 lk, .int .u64 tx, .string bd] 41)) from (Below.refl _ _).alloc (Nat.le_refl _) _)
 have c0 := b0.cell 0
 have c1 := b0.cell 1
 have c2 := b0.cell 2
 have c3 := b0.cell 3
 have c4 := b0.cell 4
 have c5 := b0.cell 5
 simp at c0 c1 c2 c3 c4 c5
 clear b0
 have d1 : decide ((1 : Int) ≤ kd) = true := by simp; omega
 have d2 : decide (kd ≤ (6 : Int)) = true := by simp; omega
 have d3 : decide ((0 : Int) ≤ ct) = true := by simp; omega
 have d4 : decide (ct ≤ (65535 : Int)) = true := by simp; omega
 have d5 : decide ((pg : Int) ≤ (2147483647 : Int)) = true := by simp; omega
 have d6 : decide ((lk : Int) ≤ (2147483647 : Int)) = true := by simp; omega
 have d7 : decide ((tx : Int) ≤ (4611686018427387904 : Int)) = true := by simp; omega
 have d8 : ((bd.size : Int) == size - 24) = true := by simp; omega
 have d8 : ((bd.size : Int) == size - 24) = true := by simpa using h8
 go_enter Tryz.func156, Tryz.ntmps156
 go_wp2_with fail
 go_quiet (first | (go_at_call 71; exact Calls.quiet_of_same (dgood_is _ _ _ hg)) | (go_at_call 122; exact Calls.quiet_of_same (room_is _ _ hg)))
 go_wp2
 go_ret
 exact ⟨rfl, below_drewN HB.out _⟩
theorem valid_any (size kd ct : Int) (pg lk tx : Nat) (bd : ByteArray) (w : World) :
  Calls Tryz.prog 156 #[.int .i64 size, .agg #[.int .i64 kd, .int .i64 ct, .int .u32 pg, .int .u32 lk, .int .u64 tx, .string bd]] w fun e w' => e = .returned (.bool (mayPg size kd ct pg lk tx bd)) ∧ Below w.heap.size w w' := by
 by_cases hg : goodSize size = true
 case neg =>
  rw [show mayPg size kd ct pg lk tx bd = false by simp [mayPg, show goodSize size = false by simpa using hg]]
  exact valid_0 size kd ct pg lk tx bd w  (by simpa using hg)
 by_cases h1 : 1 ≤ kd
 case neg =>
  rw [show mayPg size kd ct pg lk tx bd = false by simp [mayPg, hg, h1]]
  exact valid_1 size kd ct pg lk tx bd w hg h1
 by_cases h2 : kd ≤ 6
 case neg =>
  rw [show mayPg size kd ct pg lk tx bd = false by simp [mayPg, hg, h1, h2]]
  exact valid_2 size kd ct pg lk tx bd w hg h1 h2
 by_cases h3 : 0 ≤ ct
 case neg =>
  rw [show mayPg size kd ct pg lk tx bd = false by simp [mayPg, hg, h1, h2, h3]]
  exact valid_3 size kd ct pg lk tx bd w hg h1 h2 h3
 by_cases h4 : ct ≤ 65535
 case neg =>
  rw [show mayPg size kd ct pg lk tx bd = false by simp [mayPg, hg, h1, h2, h3, h4]]
  exact valid_4 size kd ct pg lk tx bd w hg h1 h2 h3 h4
 by_cases h5 : pg ≤ 2147483647
 case neg =>
  rw [show mayPg size kd ct pg lk tx bd = false by simp [mayPg, hg, h1, h2, h3, h4, h5]]
  exact valid_5 size kd ct pg lk tx bd w hg h1 h2 h3 h4 h5
 by_cases h6 : lk ≤ 2147483647
 case neg =>
  rw [show mayPg size kd ct pg lk tx bd = false by simp [mayPg, hg, h1, h2, h3, h4, h5, h6]]
  exact valid_6 size kd ct pg lk tx bd w hg h1 h2 h3 h4 h5 h6
 by_cases h7 : tx ≤ 4611686018427387904
 case neg =>
  rw [show mayPg size kd ct pg lk tx bd = false by simp [mayPg, hg, h1, h2, h3, h4, h5, h6, h7]]
  exact valid_7 size kd ct pg lk tx bd w hg h1 h2 h3 h4 h5 h6 h7
 by_cases h8 : (bd.size : Int) = size - 24
 case neg =>
  rw [show mayPg size kd ct pg lk tx bd = false by simp [mayPg, hg, h1, h2, h3, h4, h5, h6, h7, h8]]
  exact valid_8 size kd ct pg lk tx bd w hg h1 h2 h3 h4 h5 h6 h7 h8
 rw [show mayPg size kd ct pg lk tx bd = true by simp [mayPg, hg, h1, h2, h3, h4, h5, h6, h7, h8]]
 exact valid_9 size kd ct pg lk tx bd w hg h1 h2 h3 h4 h5 h6 h7 h8
end Go.Proofs.YtmmjckokjmpfpaaGreat

namespace Go.Proofs.YtmmjckokjmpfpaaGreat
open Go.RowKit
open Go.Lib
attribute [local go_sem ↓] Go.wp_at_zero Go.wp_at_succ

def headL (kd ct pg lk tx : Nat) : List UInt8 := Go.leBytes 1 kd ++ Go.leBytes 1 1 ++ Go.leBytes 2 ct ++ Go.leBytes 4 pg ++ Go.leBytes 4 lk ++ Go.leBytes 8 tx
theorem headL_len (kd ct pg lk tx : Nat) : (headL kd ct pg lk tx).length = 20 := by simp [headL, leB_len]
theorem reads_nil (w : World) : Reads w w.heap.size 1 none 0 (bcells []) := Reads.none_
theorem u64_nat (n : Nat) (h : n < 18446744073709551616) : IntKind.u64.wrap (n : Int) = (n : Int) := by rw [IntKind.wrap_u64]; omega

theorem put_reads (A : Option Addr) (n c num k : Nat) (l : List UInt8) (w : World) (hr : Reads w w.heap.size 1 A n (bcells l)) (hn : n + 8 ≤ 140737488355328) (h1 : 1 ≤ k) (h2 : k ≤ 8) :
  Calls Tryz.prog 166 #[.slice A n c, .int .u64 num, .int .i64 k] w fun e w' => ∃ A' c', e = .returned (.slice A' (n + k) c') ∧ Reads w' w'.heap.size 1 A' (n + k) (bcells (l ++ Go.leBytes k num)) ∧ Below w.heap.size w w' :=
 (put_yes A n c num k l w hr hn h1 h2).mono fun _ _ ⟨v, he, ho, hb⟩ => by
  obtain ⟨A', c', rfl, _⟩ := own_form ho
  exact ⟨A', c', he, Reads.of_own ho, hb⟩

end Go.Proofs.YtmmjckokjmpfpaaGreat

namespace Go.Proofs.YtmmjckokjmpfpaaGreat
open Go.RowKit
open Go.Lib
attribute [local go_sem ↓] Go.wp_at_zero Go.wp_at_succ

def restL (kd ct pg lk tx : Nat) (bd : ByteArray) : List UInt8 := headL kd ct pg lk tx ++ bd.data.toList
def pageB (kd ct pg lk tx : Nat) (bd : ByteArray) : ByteArray := ⟨(Go.leBytes 4 (crcM 0 (restL kd ct pg lk tx bd)) ++ restL kd ct pg lk tx bd).toArray⟩
theorem pageB_list (kd ct pg lk tx : Nat) (bd : ByteArray) : (pageB kd ct pg lk tx bd).data.toList = Go.leBytes 4 (crcM 0 (restL kd ct pg lk tx bd)) ++ restL kd ct pg lk tx bd := by simp [pageB]
theorem restL_len (kd ct pg lk tx : Nat) (bd : ByteArray) : (restL kd ct pg lk tx bd).length = 20 + bd.size := by rw [restL, List.length_append, headL_len, size_list]
theorem pageB_size (kd ct pg lk tx : Nat) (bd : ByteArray) : (pageB kd ct pg lk tx bd).size = 24 + bd.size := by rw [← size_list, pageB_list, List.length_append, leB_len, restL_len]; omega

end Go.Proofs.YtmmjckokjmpfpaaGreat

namespace Go.Proofs.YtmmjckokjmpfpaaGreat
open Go.RowKit
open Go.Lib

theorem wrong_is (W : World) (v : Value) : (Instr.typeAssert (.iface 204 v) 20 204 true).run Tryz.prog W = .ok (.tuple #[v, .bool true]) W := by kernel_rfl
theorem catch_wrong (p : Addr) (x n : Int) (older : List PanicEntry) (w : World) (hc : w.cell? p = some (.int .i64 x)) (hz : w.frozen? p = false) :
  CallsD Tryz.prog 132 #[.pointer (some p)] (.panicking ({ v := .iface 204 (.int .i64 n), recovered := false } :: older)) w fun e u' w' =>
   e = .returned (.tuple #[]) ∧ u' = .panicking ({ v := .iface 204 (.int .i64 n), recovered := true } :: older) ∧ w' = w.setCell p (.int .i64 n) := by
 refine callsD_of_wpS Tryz.func132 rfl fun c₀ cs hu => ?_
 apply wpS_seq
 apply wpS_region
 simp [wpOpsS, go_sem, recoverD, hu, Tryz.ntmps132, Exit.thenS]
 refine wpS_of_wp ?_
 have hwr := wrong_is
 rw [show (#[Value.pointer (some p)] ++ (Array.replicate 10 undef).setIfInBounds 3 (Value.iface 204 (Value.int IntKind.i64 n))) = #[.pointer (some p), undef, undef, undef, Value.iface 204 (Value.int IntKind.i64 n), undef, undef, undef, undef, undef, undef] from rfl]
 go_wp2
 simp [bodyPostS, results, Tryz.results132]
theorem catch_idle (p : Addr) (w : World) :
  CallsD Tryz.prog 132 #[.pointer (some p)] .returning w fun e u' w' => e = .returned (.tuple #[]) ∧ u' = .returning ∧ w' = w := by
 refine callsD_of_wpS Tryz.func132 rfl fun c₀ cs hu => ?_
 apply wpS_seq
 apply wpS_region
 simp [wpOpsS, go_sem, recoverD, hu, Tryz.ntmps132, Exit.thenS]
 refine wpS_of_wp ?_
 rw [show (#[Value.pointer (some p)] ++ (Array.replicate 10 undef).setIfInBounds 3 Value.nilIface) = #[.pointer (some p), undef, undef, undef, Value.nilIface, undef, undef, undef, undef, undef, undef] from rfl]
 go_wp2
 cases c₀
 simp_all [bodyPostS, results, Tryz.results132]
end Go.Proofs.YtmmjckokjmpfpaaGreat

namespace Go.Proofs
open Go.Shelf
def Tryz.laysM316_ren : Go.Shelf.Ren := ⟨fun | 316 => 150 | n => n, fun | 9 => 9 | 3 => 3 | 4 => 4 | 37 => 102 | 0 => 0 | 127 => 201 | 5 => 5 | n => n, fun | n => n⟩
theorem Tryz.laysM316 : Go.Proofs.LaysM.n316 Tryz.prog Tryz.laysM316_ren := {
 mixed := by kernel_rfl
 f316 := Tryz.func150.trans (congrArg some (by kernel_rfl))
 t0 := Tryz.underlying0
 a0 := Tryz.isAgg0
 z0 := Tryz.sizeOf0
 v0 := Tryz.zeroValue0
 t3 := Tryz.underlying3
 a3 := Tryz.isAgg3
 z3 := Tryz.sizeOf3
 v3 := Tryz.zeroValue3
 t4 := Tryz.underlying4
 a4 := Tryz.isAgg4
 z4 := Tryz.sizeOf4
 v4 := Tryz.zeroValue4
 t9 := Tryz.underlying9
 a9 := Tryz.isAgg9
 z9 := Tryz.sizeOf9
 v9 := Tryz.zeroValue9
 t37 := Tryz.underlying102
 a37 := Tryz.isAgg102
 z37 := Tryz.sizeOf102
 v37 := Tryz.zeroValue102
 t127 := Tryz.underlying201
 a127 := Tryz.isAgg201
 z127 := Tryz.sizeOf201
 v127 := Tryz.zeroValue201
 t5 := Tryz.underlying5
 a5 := Tryz.isAgg5
 z5 := Tryz.sizeOf5
 v5 := Tryz.zeroValue5
 i0 := by kernel_rfl
 i3 := by kernel_rfl
 i4 := by kernel_rfl
 i5 := by kernel_rfl
 i9 := by kernel_rfl
 i37 := by kernel_rfl
 i127 := by kernel_rfl }
open Go.RowKit in
theorem Tryz.stringslite_Clone (s : ByteArray) (w : World) (hlim : s.size ≤ 281474976710656) :
  Calls Tryz.prog 150 #[.string s] w fun e w' => e = .returned (.string s) ∧ Below w.heap.size w w' := Any.stringslite_Clone Tryz.laysM316 s w hlim
end Go.Proofs

namespace Go.Proofs.YtmmjckokjmpfpaaGreat
open Go.RowKit

theorem sclone_any (s : ByteArray) (w : World) (hs : s.size ≤ 281474976710656) :
  Calls Tryz.prog 128 #[.string s] w fun e w' => e = .returned (.string s) ∧ Below w.heap.size w w' := by
 go_enter Tryz.func128, Tryz.ntmps128
 go_wp2_with (go_at_call 150; refine (Tryz.stringslite_Clone _ _ hs).mono ?_; rintro e w' ⟨rfl, hb⟩)
 go_ret
 exact ⟨rfl, hb⟩
end Go.Proofs.YtmmjckokjmpfpaaGreat

namespace Go.Proofs.YtmmjckokjmpfpaaGreat
open Go.RowKit
open Go.Lib
attribute [local go_sem ↓] Go.wp_at_zero Go.wp_at_succ

theorem wpAnyH_takeL {P : Program} {md : Region.Mode} {l : List Oper} {Q : Exit → Act → World → Prop} {S : World → Prop} {i : Nat} {oi : Oper} {v : Value} {fuel : Nat} {listed : Array Bool} {a : Act} {w : World} (hi : l[i]? = some oi)
  (hs : Region.noSelect l.toArray = true) (hf : Region.free md l.toArray listed i = true) (hr : (Region.ready md l.toArray listed).contains i = true)
  (hQ : ∀ c a w, Q (.panic c) (a.put oi.dst v) w → Q (.panic c) a w) (hy : YieldsIf P l.toArray S oi v a) (hS : S w)
  (h : wpAnyH P md l.toArray Q S fuel (listed.setIfInBounds i true) (a.put oi.dst v) w) : wpAnyH P md l.toArray Q S (fuel + 1) listed a w :=
 wpAnyH_take (by simpa using hi) hs hf hr hQ hy hS h
theorem AllReadyH.consL {P : Program} {md : Region.Mode} {l : List Oper} {Q : Exit → Act → World → Prop} {S : World → Prop} {fuel : Nat} {listed : Array Bool} {a : Act} {w : World} {i : Nat} {o : Oper} {rs : List Nat} (ho : l[i]? = some o)
  (h : ∀ K' : Act → World → Prop, Shut (∀ a w, S w → (S w → wpAnyH P md l.toArray Q S fuel (listed.setIfInBounds i true) a w) → K' a w) → if Region.wanted o (yielded l.toArray a.tmps) = true then Oper.wp P o a w K' Q else K' (a.put o.dst undef) w)
  (hs : AllReadyH P md l.toArray Q S fuel listed a w rs) : AllReadyH P md l.toArray Q S fuel listed a w (i :: rs) :=
 AllReadyH.cons (by simpa using ho) h hs

theorem tkL {P : Program} {md : Region.Mode} {l : List Oper} {Q : Exit → Act → World → Prop} {S : World → Prop} {i : Nat} {oi : Oper} {v : Value} {fuel : Nat} {listed : Array Bool} {a : Act} {w : World}
    (hy : ∀ w', S w' → (execOp a.eval oi).run P w' = .ok (.value v) w') (hS : S w) (h : wpAnyH P md l.toArray Q S fuel (listed.setIfInBounds i true) (a.put oi.dst v) w)
    (hi : l[i]? = some oi := by rfl) (hs : Region.noSelect l.toArray = true := by kernel_rfl) (hf : Region.free md l.toArray listed i = true := by kernel_rfl) (hr : (Region.ready md l.toArray listed).contains i = true := by kernel_rfl)
    (hQ : ∀ c a w, Q (.panic c) (a.put oi.dst v) w → Q (.panic c) a w := by exact fun _ _ _ h => h) (hw : Region.wanted oi (yielded l.toArray a.tmps) = true := by rfl) : wpAnyH P md l.toArray Q S (fuel + 1) listed a w :=
  wpAnyH_takeL hi hs hf hr hQ (.inl ⟨hw, hy⟩) hS h
theorem tkA {P : Program} {md : Region.Mode} {l : List Oper} {Q : Exit → Act → World → Prop} {S : World → Prop} {i : Nat} {oi : Oper} {v : Value} {fuel : Nat} {listed : Array Bool} {a : Act} {w : World}
    (h : wpAnyH P md l.toArray Q S fuel (listed.setIfInBounds i true) (a.put oi.dst v) w)
    (hi : l[i]? = some oi := by rfl) (hy : ∀ w', S w' → (execOp a.eval oi).run P w' = .ok (.value v) w' := by (intro wz hSz; (try dsimp only at hSz); go_simp; (try with_reducible rfl))) (hS : S w := by first | exact hHeld | trivial | assumption)
    (hs : Region.noSelect l.toArray = true := by kernel_rfl) (hf : Region.free md l.toArray listed i = true := by kernel_rfl) (hr : (Region.ready md l.toArray listed).contains i = true := by kernel_rfl)
    (hQ : ∀ c a w, Q (.panic c) (a.put oi.dst v) w → Q (.panic c) a w := by exact fun _ _ _ h => h) (hw : Region.wanted oi (yielded l.toArray a.tmps) = true := by rfl) : wpAnyH P md l.toArray Q S (fuel + 1) listed a w :=
  wpAnyH_takeL hi hs hf hr hQ (.inl ⟨hw, hy⟩) hS h
theorem tkU {P : Program} {md : Region.Mode} {l : List Oper} {Q : Exit → Act → World → Prop} {S : World → Prop} {i : Nat} {oi : Oper} {fuel : Nat} {listed : Array Bool} {a : Act} {w : World}
    (h : wpAnyH P md l.toArray Q S fuel (listed.setIfInBounds i true) (a.put oi.dst undef) w)
    (hi : l[i]? = some oi := by rfl) (hS : S w := by first | exact hHeld | trivial | assumption)
    (hs : Region.noSelect l.toArray = true := by kernel_rfl) (hf : Region.free md l.toArray listed i = true := by kernel_rfl) (hr : (Region.ready md l.toArray listed).contains i = true := by kernel_rfl)
    (hQ : ∀ c a w, Q (.panic c) (a.put oi.dst undef) w → Q (.panic c) a w := by exact fun _ _ _ h => h) (hw : Region.wanted oi (yielded l.toArray a.tmps) = false := by rfl) : wpAnyH P md l.toArray Q S (fuel + 1) listed a w :=
  wpAnyH_takeL hi hs hf hr hQ (.inr ⟨hw, rfl⟩) hS h
theorem tkC {P : Program} {md : Region.Mode} {l : List Oper} {Q : Exit → Act → World → Prop} {S : World → Prop} {fuel : Nat} {listed : Array Bool} {a : Act} {w : World} {i : Nat} {o : Oper}
    (h : ∀ K' : Act → World → Prop, Shut (∀ a w, S w → (S w → wpAnyH P md l.toArray Q S fuel (listed.setIfInBounds i true) a w) → K' a w) → if Region.wanted o (yielded l.toArray a.tmps) = true then Oper.wp P o a w K' Q else K' (a.put o.dst undef) w) (ho : l[i]? = some o := by rfl) : AllReadyH P md l.toArray Q S fuel listed a w [i] :=
  AllReadyH.consL ho h AllReadyH.nil
theorem tkP : (∀ (t : Array Value) (ds : List Deferred) (d : Tmp) (v : Value), Act.put ⟨t, ds⟩ (some d) v = ⟨t.setIfInBounds d v, ds⟩) ∧ (∀ (a : Act) (v : Value), Act.put a none v = a) ∧ (∀ (l : List Value) (i : Nat) (v : Value), l.toArray.setIfInBounds i v = (l.set i v).toArray) ∧ (∀ (a b : Value) (l : List Value), (a :: l).set 0 b = b :: l) ∧ (∀ (a b : Value) (l : List Value) (i : Nat), (a :: l).set (i + 1) b = a :: l.set i b) :=
  ⟨fun _ _ _ _ => rfl, fun _ _ => rfl, fun l i v => by simp, fun _ _ _ => rfl, fun _ _ _ _ => rfl⟩
end Go.Proofs.YtmmjckokjmpfpaaGreat

namespace Go.Proofs.YtmmjckokjmpfpaaGreat
open Go.RowKit
open Go.Lib

theorem pg_cells {w : World} {g : Nat} {a0 a1 a2 a3 a4 a5 : Value} (h : Blk w g 41 #[a0, a1, a2, a3, a4, a5]) : w.cell? ⟨g, 0, none⟩ = some a0 ∧ w.cell? ⟨g, 1, none⟩ = some a1 ∧ w.cell? ⟨g, 2, none⟩ = some a2 ∧ w.cell? ⟨g, 3, none⟩ = some a3 ∧ w.cell? ⟨g, 4, none⟩ = some a4 ∧ w.cell? ⟨g, 5, none⟩ = some a5 := ⟨h.cell 0, h.cell 1, h.cell 2, h.cell 3, h.cell 4, h.cell 5⟩
theorem six_far {w : World} {g b : Nat} {t : TypeId} {cs : Array Value} {a0 a1 a2 a3 a4 a5 : Value} (h : Blk w g t cs) (hne : g ≠ b) : Blk ((((((w.setCell ⟨b, 0, none⟩ a0).setCell ⟨b, 1, none⟩ a1).setCell ⟨b, 2, none⟩ a2).setCell ⟨b, 3, none⟩ a3).setCell ⟨b, 4, none⟩ a4).setCell ⟨b, 5, none⟩ a5) g t cs :=
 (((((h.far hne a0).far hne a1).far hne a2).far hne a3).far hne a4).far hne a5
theorem six_at {w : World} {b : Nat} {t : TypeId} {z0 z1 z2 z3 z4 z5 a0 a1 a2 a3 a4 a5 : Value} (h : Blk w b t #[z0, z1, z2, z3, z4, z5]) : Blk ((((((w.setCell ⟨b, 0, none⟩ a0).setCell ⟨b, 1, none⟩ a1).setCell ⟨b, 2, none⟩ a2).setCell ⟨b, 3, none⟩ a3).setCell ⟨b, 4, none⟩ a4).setCell ⟨b, 5, none⟩ a5) b t #[a0, a1, a2, a3, a4, a5] :=
 (((((h.set_ 0 a0).set_ 1 a1).set_ 2 a2).set_ 3 a3).set_ 4 a4).set_ 5 a5
theorem six_below {w0 w : World} {B b : Nat} {a0 a1 a2 a3 a4 a5 : Value} (h : Below B w0 w) (hb : B ≤ b) : Below B w0 ((((((w.setCell ⟨b, 0, none⟩ a0).setCell ⟨b, 1, none⟩ a1).setCell ⟨b, 2, none⟩ a2).setCell ⟨b, 3, none⟩ a3).setCell ⟨b, 4, none⟩ a4).setCell ⟨b, 5, none⟩ a5) :=
 (((((h.setCell hb a0).setCell hb a1).setCell hb a2).setCell hb a3).setCell hb a4).setCell hb a5
theorem lt_alloc {n : Nat} {w : World} (h : n < w.heap.size) (o : Obj) : n < (w.alloc o).heap.size := by simp; omega
theorem new_below {w w2 : World} {cs : Array Value} {t : TypeId} (hb : Below (w.alloc (.cells cs t)).heap.size (w.alloc (.cells cs t)) w2) : Blk w2 w.heap.size t cs := (Blk.new w t cs).below hb (by simp)

theorem infoPg : (Tryz.prog.info? 41).map (fun i => (i.zero, i.size)) = some (some (.agg #[.int .i64 0, .int .i64 0, .int .u32 0, .int .u32 0, .int .u64 0, .string ByteArray.empty]), 6) := by kernel_rfl

theorem read_row {fn : Func} {p u : Tmp} {ty : TypeId} (h : fn.results = #[.cell p ty, .tmp u]) (tmps : Array Value) (P : Program) (w : World) (g : Nat) (cs : Array Value)
  (hp : tmps.getD p undef = .pointer (some ⟨g, 0, none⟩)) (hl : (loadVar ty ⟨g, 0, none⟩).run P w = .ok (.agg cs) w) :
  (results fn tmps).run P w = .ok (.tuple #[.agg cs, tmps.getD u undef]) w := by
 rw [results_cell_tmp h, hp]
 simp [asAddr, hl]
theorem load_page {w : World} {g : Nat} {a0 a1 a2 a3 a4 a5 : Value} (h : Blk w g 41 #[a0, a1, a2, a3, a4, a5]) : (loadVar 41 ⟨g, 0, none⟩).run Tryz.prog w = .ok (.agg #[a0, a1, a2, a3, a4, a5]) w := by
 obtain ⟨hz, hi⟩ := zero_of_info infoPg
 exact run_loadVar_row w g 41 41 #[a0, a1, a2, a3, a4, a5] (0, 0) _ h Tryz.underlying41 rfl hi

end Go.Proofs.YtmmjckokjmpfpaaGreat

