/-
  Contracts of package frame's valid: which pages are valid.
-/
import Derived.Test.YtfmalohaaibhiaaFrame
namespace Go.Proofs.Ytfmalohaaibhiaa
open Go.RowKit
open Go.Lib
set_option linter.unusedVariables false
set_option linter.unusedSimpArgs false
attribute [local go_sem ↓] Go.wp_at_zero Go.wp_at_succ

/-- A page is valid for a page size. -/
def mayPg (size kd ct : Int) (pg lk tx : Nat) (bd : ByteArray) : Bool := goodSize size && (decide (1 ≤ kd) && (decide (kd ≤ 6) && (decide (0 ≤ ct) && (decide (ct ≤ 65535) && (decide (pg ≤ 2147483647) && (decide (lk ≤ 2147483647) && (decide (tx ≤ 4611686018427387904) && decide ((bd.size : Int) = size - 24))))))))
theorem dgood_is (n : Int) (b : Bool) (w : World) (h : goodSize n = b) : Calls Try.prog 44 #[.int .i64 n] w fun e w' => e = .returned (.bool b) ∧ w' = w :=
  (dgood_any n w).mono fun _ _ ⟨a, b⟩ => ⟨by rw [← h]; exact a, b.symm⟩
theorem room_is (n : Int) (w : World) (h : goodSize n = true) : Calls Try.prog 32 #[.int .i64 n] w fun e w' => e = .returned (.int .i64 (n - 24)) ∧ w' = w :=
  (room_yes n w h).mono fun _ _ ⟨a, b⟩ => ⟨a, b.symm⟩
theorem valid_0 (size kd ct : Int) (pg lk tx : Nat) (bd : ByteArray) (w : World) (hg : goodSize size = false) :
    Calls Try.prog 69 #[.int .i64 size, .agg #[.int .i64 kd, .int .i64 ct, .int .u32 pg, .int .u32 lk, .int .u64 tx, .string bd]] w fun e w' => e = .returned (.bool false) ∧ Below w.heap.size w w' := by
  have b0 : Blk (w.alloc (.cells #[.int .i64 kd, .int .i64 ct, .int .u32 pg, .int .u32 lk, .int .u64 tx, .string bd] 26)) w.heap.size 26 #[.int .i64 kd, .int .i64 ct, .int .u32 pg, .int .u32 lk, .int .u64 tx, .string bd] := Blk.new _ _ _
  have HB := Lib.hid (show Below w.heap.size w (w.alloc (.cells #[.int .i64 kd, .int .i64 ct, .int .u32 pg, .int .u32 lk, .int .u64 tx, .string bd] 26)) from (Below.refl _ _).alloc (Nat.le_refl _) _)
  have c0 := b0.cell 0
  have c1 := b0.cell 1
  have c2 := b0.cell 2
  have c3 := b0.cell 3
  have c4 := b0.cell 4
  have c5 := b0.cell 5
  simp at c0 c1 c2 c3 c4 c5
  clear b0
  go_enter Try.func69, Try.ntmps69
  go_wp2_with fail
  go_quiet (first | (go_at_call 44; exact Calls.quiet_of_same (dgood_is _ _ _ hg)) | (go_at_call 32; exact Calls.quiet_of_same (room_is _ _ hg)))
  go_wp2
  go_ret
  exact ⟨rfl, below_drewN HB.out _⟩
theorem valid_1 (size kd ct : Int) (pg lk tx : Nat) (bd : ByteArray) (w : World) (hg : goodSize size = true) (h1 : ¬ (1 ≤ kd)) :
    Calls Try.prog 69 #[.int .i64 size, .agg #[.int .i64 kd, .int .i64 ct, .int .u32 pg, .int .u32 lk, .int .u64 tx, .string bd]] w fun e w' => e = .returned (.bool false) ∧ Below w.heap.size w w' := by
  have b0 : Blk (w.alloc (.cells #[.int .i64 kd, .int .i64 ct, .int .u32 pg, .int .u32 lk, .int .u64 tx, .string bd] 26)) w.heap.size 26 #[.int .i64 kd, .int .i64 ct, .int .u32 pg, .int .u32 lk, .int .u64 tx, .string bd] := Blk.new _ _ _
  have HB := Lib.hid (show Below w.heap.size w (w.alloc (.cells #[.int .i64 kd, .int .i64 ct, .int .u32 pg, .int .u32 lk, .int .u64 tx, .string bd] 26)) from (Below.refl _ _).alloc (Nat.le_refl _) _)
  have c0 := b0.cell 0
  have c1 := b0.cell 1
  have c2 := b0.cell 2
  have c3 := b0.cell 3
  have c4 := b0.cell 4
  have c5 := b0.cell 5
  simp at c0 c1 c2 c3 c4 c5
  clear b0
  have d1 : decide ((1 : Int) ≤ kd) = false := by simp; omega
  go_enter Try.func69, Try.ntmps69
  go_wp2_with fail
  go_quiet (first | (go_at_call 44; exact Calls.quiet_of_same (dgood_is _ _ _ hg)) | (go_at_call 32; exact Calls.quiet_of_same (room_is _ _ hg)))
  go_wp2
  go_ret
  exact ⟨rfl, below_drewN HB.out _⟩
theorem valid_2 (size kd ct : Int) (pg lk tx : Nat) (bd : ByteArray) (w : World) (hg : goodSize size = true) (h1 : 1 ≤ kd) (h2 : ¬ (kd ≤ 6)) :
    Calls Try.prog 69 #[.int .i64 size, .agg #[.int .i64 kd, .int .i64 ct, .int .u32 pg, .int .u32 lk, .int .u64 tx, .string bd]] w fun e w' => e = .returned (.bool false) ∧ Below w.heap.size w w' := by
  have b0 : Blk (w.alloc (.cells #[.int .i64 kd, .int .i64 ct, .int .u32 pg, .int .u32 lk, .int .u64 tx, .string bd] 26)) w.heap.size 26 #[.int .i64 kd, .int .i64 ct, .int .u32 pg, .int .u32 lk, .int .u64 tx, .string bd] := Blk.new _ _ _
  have HB := Lib.hid (show Below w.heap.size w (w.alloc (.cells #[.int .i64 kd, .int .i64 ct, .int .u32 pg, .int .u32 lk, .int .u64 tx, .string bd] 26)) from (Below.refl _ _).alloc (Nat.le_refl _) _)
  have c0 := b0.cell 0
  have c1 := b0.cell 1
  have c2 := b0.cell 2
  have c3 := b0.cell 3
  have c4 := b0.cell 4
  have c5 := b0.cell 5
  simp at c0 c1 c2 c3 c4 c5
  clear b0
  have d1 : decide ((1 : Int) ≤ kd) = true := by simp; omega
  have d2 : decide (kd ≤ (6 : Int)) = false := by simp; omega
  go_enter Try.func69, Try.ntmps69
  go_wp2_with fail
  go_quiet (first | (go_at_call 44; exact Calls.quiet_of_same (dgood_is _ _ _ hg)) | (go_at_call 32; exact Calls.quiet_of_same (room_is _ _ hg)))
  go_wp2
  go_ret
  exact ⟨rfl, below_drewN HB.out _⟩
theorem valid_3 (size kd ct : Int) (pg lk tx : Nat) (bd : ByteArray) (w : World) (hg : goodSize size = true) (h1 : 1 ≤ kd) (h2 : kd ≤ 6) (h3 : ¬ (0 ≤ ct)) :
    Calls Try.prog 69 #[.int .i64 size, .agg #[.int .i64 kd, .int .i64 ct, .int .u32 pg, .int .u32 lk, .int .u64 tx, .string bd]] w fun e w' => e = .returned (.bool false) ∧ Below w.heap.size w w' := by
  have b0 : Blk (w.alloc (.cells #[.int .i64 kd, .int .i64 ct, .int .u32 pg, .int .u32 lk, .int .u64 tx, .string bd] 26)) w.heap.size 26 #[.int .i64 kd, .int .i64 ct, .int .u32 pg, .int .u32 lk, .int .u64 tx, .string bd] := Blk.new _ _ _
  have HB := Lib.hid (show Below w.heap.size w (w.alloc (.cells #[.int .i64 kd, .int .i64 ct, .int .u32 pg, .int .u32 lk, .int .u64 tx, .string bd] 26)) from (Below.refl _ _).alloc (Nat.le_refl _) _)
  have c0 := b0.cell 0
  have c1 := b0.cell 1
  have c2 := b0.cell 2
  have c3 := b0.cell 3
  have c4 := b0.cell 4
  have c5 := b0.cell 5
  simp at c0 c1 c2 c3 c4 c5
  clear b0
  have d1 : decide ((1 : Int) ≤ kd) = true := by simp; omega
  have d2 : decide (kd ≤ (6 : Int)) = true := by simp; omega
  have d3 : decide ((0 : Int) ≤ ct) = false := by simp; omega
  go_enter Try.func69, Try.ntmps69
  go_wp2_with fail
  go_quiet (first | (go_at_call 44; exact Calls.quiet_of_same (dgood_is _ _ _ hg)) | (go_at_call 32; exact Calls.quiet_of_same (room_is _ _ hg)))
  go_wp2
  go_ret
  exact ⟨rfl, below_drewN HB.out _⟩
theorem valid_4 (size kd ct : Int) (pg lk tx : Nat) (bd : ByteArray) (w : World) (hg : goodSize size = true) (h1 : 1 ≤ kd) (h2 : kd ≤ 6) (h3 : 0 ≤ ct) (h4 : ¬ (ct ≤ 65535)) :
    Calls Try.prog 69 #[.int .i64 size, .agg #[.int .i64 kd, .int .i64 ct, .int .u32 pg, .int .u32 lk, .int .u64 tx, .string bd]] w fun e w' => e = .returned (.bool false) ∧ Below w.heap.size w w' := by
  have b0 : Blk (w.alloc (.cells #[.int .i64 kd, .int .i64 ct, .int .u32 pg, .int .u32 lk, .int .u64 tx, .string bd] 26)) w.heap.size 26 #[.int .i64 kd, .int .i64 ct, .int .u32 pg, .int .u32 lk, .int .u64 tx, .string bd] := Blk.new _ _ _
  have HB := Lib.hid (show Below w.heap.size w (w.alloc (.cells #[.int .i64 kd, .int .i64 ct, .int .u32 pg, .int .u32 lk, .int .u64 tx, .string bd] 26)) from (Below.refl _ _).alloc (Nat.le_refl _) _)
  have c0 := b0.cell 0
  have c1 := b0.cell 1
  have c2 := b0.cell 2
  have c3 := b0.cell 3
  have c4 := b0.cell 4
  have c5 := b0.cell 5
  simp at c0 c1 c2 c3 c4 c5
  clear b0
  have d1 : decide ((1 : Int) ≤ kd) = true := by simp; omega
  have d2 : decide (kd ≤ (6 : Int)) = true := by simp; omega
  have d3 : decide ((0 : Int) ≤ ct) = true := by simp; omega
  have d4 : decide (ct ≤ (65535 : Int)) = false := by simp; omega
  go_enter Try.func69, Try.ntmps69
  go_wp2_with fail
  go_quiet (first | (go_at_call 44; exact Calls.quiet_of_same (dgood_is _ _ _ hg)) | (go_at_call 32; exact Calls.quiet_of_same (room_is _ _ hg)))
  go_wp2
  go_ret
  exact ⟨rfl, below_drewN HB.out _⟩
theorem valid_5 (size kd ct : Int) (pg lk tx : Nat) (bd : ByteArray) (w : World) (hg : goodSize size = true) (h1 : 1 ≤ kd) (h2 : kd ≤ 6) (h3 : 0 ≤ ct) (h4 : ct ≤ 65535) (h5 : ¬ (pg ≤ 2147483647)) :
    Calls Try.prog 69 #[.int .i64 size, .agg #[.int .i64 kd, .int .i64 ct, .int .u32 pg, .int .u32 lk, .int .u64 tx, .string bd]] w fun e w' => e = .returned (.bool false) ∧ Below w.heap.size w w' := by
  have b0 : Blk (w.alloc (.cells #[.int .i64 kd, .int .i64 ct, .int .u32 pg, .int .u32 lk, .int .u64 tx, .string bd] 26)) w.heap.size 26 #[.int .i64 kd, .int .i64 ct, .int .u32 pg, .int .u32 lk, .int .u64 tx, .string bd] := Blk.new _ _ _
  have HB := Lib.hid (show Below w.heap.size w (w.alloc (.cells #[.int .i64 kd, .int .i64 ct, .int .u32 pg, .int .u32 lk, .int .u64 tx, .string bd] 26)) from (Below.refl _ _).alloc (Nat.le_refl _) _)
  have c0 := b0.cell 0
  have c1 := b0.cell 1
  have c2 := b0.cell 2
  have c3 := b0.cell 3
  have c4 := b0.cell 4
  have c5 := b0.cell 5
  simp at c0 c1 c2 c3 c4 c5
  clear b0
  have d1 : decide ((1 : Int) ≤ kd) = true := by simp; omega
  have d2 : decide (kd ≤ (6 : Int)) = true := by simp; omega
  have d3 : decide ((0 : Int) ≤ ct) = true := by simp; omega
  have d4 : decide (ct ≤ (65535 : Int)) = true := by simp; omega
  have d5 : decide ((pg : Int) ≤ (2147483647 : Int)) = false := by simp; omega
  go_enter Try.func69, Try.ntmps69
  go_wp2_with fail
  go_quiet (first | (go_at_call 44; exact Calls.quiet_of_same (dgood_is _ _ _ hg)) | (go_at_call 32; exact Calls.quiet_of_same (room_is _ _ hg)))
  go_wp2
  go_ret
  exact ⟨rfl, below_drewN HB.out _⟩
theorem valid_6 (size kd ct : Int) (pg lk tx : Nat) (bd : ByteArray) (w : World) (hg : goodSize size = true) (h1 : 1 ≤ kd) (h2 : kd ≤ 6) (h3 : 0 ≤ ct) (h4 : ct ≤ 65535) (h5 : pg ≤ 2147483647) (h6 : ¬ (lk ≤ 2147483647)) :
    Calls Try.prog 69 #[.int .i64 size, .agg #[.int .i64 kd, .int .i64 ct, .int .u32 pg, .int .u32 lk, .int .u64 tx, .string bd]] w fun e w' => e = .returned (.bool false) ∧ Below w.heap.size w w' := by
  have b0 : Blk (w.alloc (.cells #[.int .i64 kd, .int .i64 ct, .int .u32 pg, .int .u32 lk, .int .u64 tx, .string bd] 26)) w.heap.size 26 #[.int .i64 kd, .int .i64 ct, .int .u32 pg, .int .u32 lk, .int .u64 tx, .string bd] := Blk.new _ _ _
  have HB := Lib.hid (show Below w.heap.size w (w.alloc (.cells #[.int .i64 kd, .int .i64 ct, .int .u32 pg, .int .u32 lk, .int .u64 tx, .string bd] 26)) from (Below.refl _ _).alloc (Nat.le_refl _) _)
  have c0 := b0.cell 0
  have c1 := b0.cell 1
  have c2 := b0.cell 2
  have c3 := b0.cell 3
  have c4 := b0.cell 4
  have c5 := b0.cell 5
  simp at c0 c1 c2 c3 c4 c5
  clear b0
  have d1 : decide ((1 : Int) ≤ kd) = true := by simp; omega
  have d2 : decide (kd ≤ (6 : Int)) = true := by simp; omega
  have d3 : decide ((0 : Int) ≤ ct) = true := by simp; omega
  have d4 : decide (ct ≤ (65535 : Int)) = true := by simp; omega
  have d5 : decide ((pg : Int) ≤ (2147483647 : Int)) = true := by simp; omega
  have d6 : decide ((lk : Int) ≤ (2147483647 : Int)) = false := by simp; omega
  go_enter Try.func69, Try.ntmps69
  go_wp2_with fail
  go_quiet (first | (go_at_call 44; exact Calls.quiet_of_same (dgood_is _ _ _ hg)) | (go_at_call 32; exact Calls.quiet_of_same (room_is _ _ hg)))
  go_wp2
  go_ret
  exact ⟨rfl, below_drewN HB.out _⟩
theorem valid_7 (size kd ct : Int) (pg lk tx : Nat) (bd : ByteArray) (w : World) (hg : goodSize size = true) (h1 : 1 ≤ kd) (h2 : kd ≤ 6) (h3 : 0 ≤ ct) (h4 : ct ≤ 65535) (h5 : pg ≤ 2147483647) (h6 : lk ≤ 2147483647) (h7 : ¬ (tx ≤ 4611686018427387904)) :
    Calls Try.prog 69 #[.int .i64 size, .agg #[.int .i64 kd, .int .i64 ct, .int .u32 pg, .int .u32 lk, .int .u64 tx, .string bd]] w fun e w' => e = .returned (.bool false) ∧ Below w.heap.size w w' := by
  have b0 : Blk (w.alloc (.cells #[.int .i64 kd, .int .i64 ct, .int .u32 pg, .int .u32 lk, .int .u64 tx, .string bd] 26)) w.heap.size 26 #[.int .i64 kd, .int .i64 ct, .int .u32 pg, .int .u32 lk, .int .u64 tx, .string bd] := Blk.new _ _ _
  have HB := Lib.hid (show Below w.heap.size w (w.alloc (.cells #[.int .i64 kd, .int .i64 ct, .int .u32 pg, .int .u32 lk, .int .u64 tx, .string bd] 26)) from (Below.refl _ _).alloc (Nat.le_refl _) _)
  have c0 := b0.cell 0
  have c1 := b0.cell 1
  have c2 := b0.cell 2
  have c3 := b0.cell 3
  have c4 := b0.cell 4
  have c5 := b0.cell 5
  simp at c0 c1 c2 c3 c4 c5
  clear b0
  have d1 : decide ((1 : Int) ≤ kd) = true := by simp; omega
  have d2 : decide (kd ≤ (6 : Int)) = true := by simp; omega
  have d3 : decide ((0 : Int) ≤ ct) = true := by simp; omega
  have d4 : decide (ct ≤ (65535 : Int)) = true := by simp; omega
  have d5 : decide ((pg : Int) ≤ (2147483647 : Int)) = true := by simp; omega
  have d6 : decide ((lk : Int) ≤ (2147483647 : Int)) = true := by simp; omega
  have d7 : decide ((tx : Int) ≤ (4611686018427387904 : Int)) = false := by simp; omega
  go_enter Try.func69, Try.ntmps69
  go_wp2_with fail
  go_quiet (first | (go_at_call 44; exact Calls.quiet_of_same (dgood_is _ _ _ hg)) | (go_at_call 32; exact Calls.quiet_of_same (room_is _ _ hg)))
  go_wp2
  go_ret
  exact ⟨rfl, below_drewN HB.out _⟩
theorem valid_8 (size kd ct : Int) (pg lk tx : Nat) (bd : ByteArray) (w : World) (hg : goodSize size = true) (h1 : 1 ≤ kd) (h2 : kd ≤ 6) (h3 : 0 ≤ ct) (h4 : ct ≤ 65535) (h5 : pg ≤ 2147483647) (h6 : lk ≤ 2147483647) (h7 : tx ≤ 4611686018427387904) (h8 : ¬ ((bd.size : Int) = size - 24)) :
    Calls Try.prog 69 #[.int .i64 size, .agg #[.int .i64 kd, .int .i64 ct, .int .u32 pg, .int .u32 lk, .int .u64 tx, .string bd]] w fun e w' => e = .returned (.bool false) ∧ Below w.heap.size w w' := by
  have b0 : Blk (w.alloc (.cells #[.int .i64 kd, .int .i64 ct, .int .u32 pg, .int .u32 lk, .int .u64 tx, .string bd] 26)) w.heap.size 26 #[.int .i64 kd, .int .i64 ct, .int .u32 pg, .int .u32 lk, .int .u64 tx, .string bd] := Blk.new _ _ _
  have HB := Lib.hid (show Below w.heap.size w (w.alloc (.cells #[.int .i64 kd, .int .i64 ct, .int .u32 pg, .int .u32 lk, .int .u64 tx, .string bd] 26)) from (Below.refl _ _).alloc (Nat.le_refl _) _)
  have c0 := b0.cell 0
  have c1 := b0.cell 1
  have c2 := b0.cell 2
  have c3 := b0.cell 3
  have c4 := b0.cell 4
  have c5 := b0.cell 5
  simp at c0 c1 c2 c3 c4 c5
  clear b0
  have d1 : decide ((1 : Int) ≤ kd) = true := by simp; omega
  have d2 : decide (kd ≤ (6 : Int)) = true := by simp; omega
  have d3 : decide ((0 : Int) ≤ ct) = true := by simp; omega
  have d4 : decide (ct ≤ (65535 : Int)) = true := by simp; omega
  have d5 : decide ((pg : Int) ≤ (2147483647 : Int)) = true := by simp; omega
  have d6 : decide ((lk : Int) ≤ (2147483647 : Int)) = true := by simp; omega
  have d7 : decide ((tx : Int) ≤ (4611686018427387904 : Int)) = true := by simp; omega
  have d8 : ((bd.size : Int) == size - 24) = false := by simp; omega
  go_enter Try.func69, Try.ntmps69
  go_wp2_with fail
  go_quiet (first | (go_at_call 44; exact Calls.quiet_of_same (dgood_is _ _ _ hg)) | (go_at_call 32; exact Calls.quiet_of_same (room_is _ _ hg)))
  go_wp2
  go_ret
  exact ⟨rfl, below_drewN HB.out _⟩
theorem valid_9 (size kd ct : Int) (pg lk tx : Nat) (bd : ByteArray) (w : World) (hg : goodSize size = true) (h1 : 1 ≤ kd) (h2 : kd ≤ 6) (h3 : 0 ≤ ct) (h4 : ct ≤ 65535) (h5 : pg ≤ 2147483647) (h6 : lk ≤ 2147483647) (h7 : tx ≤ 4611686018427387904) (h8 : (bd.size : Int) = size - 24) :
    Calls Try.prog 69 #[.int .i64 size, .agg #[.int .i64 kd, .int .i64 ct, .int .u32 pg, .int .u32 lk, .int .u64 tx, .string bd]] w fun e w' => e = .returned (.bool true) ∧ Below w.heap.size w w' := by
  have b0 : Blk (w.alloc (.cells #[.int .i64 kd, .int .i64 ct, .int .u32 pg, .int .u32 lk, .int .u64 tx, .string bd] 26)) w.heap.size 26 #[.int .i64 kd, .int .i64 ct, .int .u32 pg, .int .u32 lk, .int .u64 tx, .string bd] := Blk.new _ _ _
  have HB := Lib.hid (show Below w.heap.size w (w.alloc (.cells #[.int .i64 kd, .int .i64 ct, .int .u32 pg, .int .u32 lk, .int .u64 tx, .string bd] 26)) from (Below.refl _ _).alloc (Nat.le_refl _) _)
  have c0 := b0.cell 0
  have c1 := b0.cell 1
  have c2 := b0.cell 2
  have c3 := b0.cell 3
  have c4 := b0.cell 4
  have c5 := b0.cell 5
  simp at c0 c1 c2 c3 c4 c5
  clear b0
  have d1 : decide ((1 : Int) ≤ kd) = true := by simp; omega
  have d2 : decide (kd ≤ (6 : Int)) = true := by simp; omega
  have d3 : decide ((0 : Int) ≤ ct) = true := by simp; omega
  have d4 : decide (ct ≤ (65535 : Int)) = true := by simp; omega
  have d5 : decide ((pg : Int) ≤ (2147483647 : Int)) = true := by simp; omega
  have d6 : decide ((lk : Int) ≤ (2147483647 : Int)) = true := by simp; omega
  have d7 : decide ((tx : Int) ≤ (4611686018427387904 : Int)) = true := by simp; omega
  have d8 : ((bd.size : Int) == size - 24) = true := by simp; omega
  have d8 : ((bd.size : Int) == size - 24) = true := by simpa using h8
  go_enter Try.func69, Try.ntmps69
  go_wp2_with fail
  go_quiet (first | (go_at_call 44; exact Calls.quiet_of_same (dgood_is _ _ _ hg)) | (go_at_call 32; exact Calls.quiet_of_same (room_is _ _ hg)))
  go_wp2
  go_ret
  exact ⟨rfl, below_drewN HB.out _⟩
theorem valid_any (size kd ct : Int) (pg lk tx : Nat) (bd : ByteArray) (w : World) :
    Calls Try.prog 69 #[.int .i64 size, .agg #[.int .i64 kd, .int .i64 ct, .int .u32 pg, .int .u32 lk, .int .u64 tx, .string bd]] w fun e w' => e = .returned (.bool (mayPg size kd ct pg lk tx bd)) ∧ Below w.heap.size w w' := by
  by_cases hg : goodSize size = true
  case neg =>
    rw [show mayPg size kd ct pg lk tx bd = false by simp [mayPg, show goodSize size = false by simpa using hg]]
    exact valid_0 size kd ct pg lk tx bd w  (by simpa using hg)
  by_cases h1 : 1 ≤ kd
  case neg =>
    rw [show mayPg size kd ct pg lk tx bd = false by simp [mayPg, hg, h1]]
    exact valid_1 size kd ct pg lk tx bd w hg h1
  by_cases h2 : kd ≤ 6
  case neg =>
    rw [show mayPg size kd ct pg lk tx bd = false by simp [mayPg, hg, h1, h2]]
    exact valid_2 size kd ct pg lk tx bd w hg h1 h2
  by_cases h3 : 0 ≤ ct
  case neg =>
    rw [show mayPg size kd ct pg lk tx bd = false by simp [mayPg, hg, h1, h2, h3]]
    exact valid_3 size kd ct pg lk tx bd w hg h1 h2 h3
  by_cases h4 : ct ≤ 65535
  case neg =>
    rw [show mayPg size kd ct pg lk tx bd = false by simp [mayPg, hg, h1, h2, h3, h4]]
    exact valid_4 size kd ct pg lk tx bd w hg h1 h2 h3 h4
  by_cases h5 : pg ≤ 2147483647
  case neg =>
    rw [show mayPg size kd ct pg lk tx bd = false by simp [mayPg, hg, h1, h2, h3, h4, h5]]
    exact valid_5 size kd ct pg lk tx bd w hg h1 h2 h3 h4 h5
  by_cases h6 : lk ≤ 2147483647
  case neg =>
    rw [show mayPg size kd ct pg lk tx bd = false by simp [mayPg, hg, h1, h2, h3, h4, h5, h6]]
    exact valid_6 size kd ct pg lk tx bd w hg h1 h2 h3 h4 h5 h6
  by_cases h7 : tx ≤ 4611686018427387904
  case neg =>
    rw [show mayPg size kd ct pg lk tx bd = false by simp [mayPg, hg, h1, h2, h3, h4, h5, h6, h7]]
    exact valid_7 size kd ct pg lk tx bd w hg h1 h2 h3 h4 h5 h6 h7
  by_cases h8 : (bd.size : Int) = size - 24
  case neg =>
    rw [show mayPg size kd ct pg lk tx bd = false by simp [mayPg, hg, h1, h2, h3, h4, h5, h6, h7, h8]]
    exact valid_8 size kd ct pg lk tx bd w hg h1 h2 h3 h4 h5 h6 h7 h8
  rw [show mayPg size kd ct pg lk tx bd = true by simp [mayPg, hg, h1, h2, h3, h4, h5, h6, h7, h8]]
  exact valid_9 size kd ct pg lk tx bd w hg h1 h2 h3 h4 h5 h6 h7 h8
end Go.Proofs.Ytfmalohaaibhiaa
