/-
  Texts that the main proof rests on, put together: FrameValid, FramePut. No statement is proved here.
-/
import Derived.Test.YtabhhccdbfjigaaJ5
namespace Go.Proofs.Ytabhhccdbfjigaa
open Go.RowKit
open Go.Lib
set_option linter.unusedVariables false
set_option linter.unusedSimpArgs false
attribute [local go_sem ↓] Go.wp_at_zero Go.wp_at_succ

/-- A page is valid for a page size. -/
def mayPg (size kd ct : Int) (pg lk tx : Nat) (bd : ByteArray) : Bool := goodSize size && (decide (1 ≤ kd) && (decide (kd ≤ 6) && (decide (0 ≤ ct) && (decide (ct ≤ 65535) && (decide (pg ≤ 2147483647) && (decide (lk ≤ 2147483647) && (decide (tx ≤ 4611686018427387904) && decide ((bd.size : Int) = size - 24))))))))
theorem dgood_is (n : Int) (b : Bool) (w : World) (h : goodSize n = b) : Calls Try.prog 29 #[.int .i64 n] w fun e w' => e = .returned (.bool b) ∧ w' = w :=
  (dgood_any n w).mono fun _ _ ⟨a, b⟩ => ⟨by rw [← h]; exact a, b.symm⟩
theorem room_is (n : Int) (w : World) (h : goodSize n = true) : Calls Try.prog 61 #[.int .i64 n] w fun e w' => e = .returned (.int .i64 (n - 24)) ∧ w' = w :=
  (room_yes n w h).mono fun _ _ ⟨a, b⟩ => ⟨a, b.symm⟩
theorem valid_0 (size kd ct : Int) (pg lk tx : Nat) (bd : ByteArray) (w : World) (hg : goodSize size = false) :
    Calls Try.prog 62 #[.int .i64 size, .agg #[.int .i64 kd, .int .i64 ct, .int .u32 pg, .int .u32 lk, .int .u64 tx, .string bd]] w fun e w' => e = .returned (.bool false) ∧ Below w.heap.size w w' := by
  have b0 : Blk (w.alloc (.cells #[.int .i64 kd, .int .i64 ct, .int .u32 pg, .int .u32 lk, .int .u64 tx, .string bd] 40)) w.heap.size 40 #[.int .i64 kd, .int .i64 ct, .int .u32 pg, .int .u32 lk, .int .u64 tx, .string bd] := Blk.new _ _ _
  have HB := Lib.hid (show Below w.heap.size w (w.alloc (.cells #[.int .i64 kd, .int .i64 ct, .int .u32 pg, .int .u32 lk, .int .u64 tx, .string bd] 40)) from (Below.refl _ _).alloc (Nat.le_refl _) _)
  have c0 := b0.cell 0
  have c1 := b0.cell 1
  have c2 := b0.cell 2
  have c3 := b0.cell 3
  have c4 := b0.cell 4
  have c5 := b0.cell 5
  simp at c0 c1 c2 c3 c4 c5
  clear b0
  go_enter Try.func62, Try.ntmps62
  go_wp2_with fail
  go_quiet (first | (go_at_call 29; exact Calls.quiet_of_same (dgood_is _ _ _ hg)) | (go_at_call 61; exact Calls.quiet_of_same (room_is _ _ hg)))
  go_wp2
  go_ret
  exact ⟨rfl, below_drewN HB.out _⟩
theorem valid_1 (size kd ct : Int) (pg lk tx : Nat) (bd : ByteArray) (w : World) (hg : goodSize size = true) (h1 : ¬ (1 ≤ kd)) :
    Calls Try.prog 62 #[.int .i64 size, .agg #[.int .i64 kd, .int .i64 ct, .int .u32 pg, .int .u32 lk, .int .u64 tx, .string bd]] w fun e w' => e = .returned (.bool false) ∧ Below w.heap.size w w' := by
  have b0 : Blk (w.alloc (.cells #[.int .i64 kd, .int .i64 ct, .int .u32 pg, .int .u32 lk, .int .u64 tx, .string bd] 40)) w.heap.size 40 #[.int .i64 kd, .int .i64 ct, .int .u32 pg, .int .u32 lk, .int .u64 tx, .string bd] := Blk.new _ _ _
  have HB := Lib.hid (show Below w.heap.size w (w.alloc (.cells #[.int .i64 kd, .int .i64 ct, .int .u32 pg, .int .u32 lk, .int .u64 tx, .string bd] 40)) from (Below.refl _ _).alloc (Nat.le_refl _) _)
  have c0 := b0.cell 0
  have c1 := b0.cell 1
  have c2 := b0.cell 2
  have c3 := b0.cell 3
  have c4 := b0.cell 4
  have c5 := b0.cell 5
  simp at c0 c1 c2 c3 c4 c5
  clear b0
  have d1 : decide ((1 : Int) ≤ kd) = false := by simp; omega
  go_enter Try.func62, Try.ntmps62
  go_wp2_with fail
  go_quiet (first | (go_at_call 29; exact Calls.quiet_of_same (dgood_is _ _ _ hg)) | (go_at_call 61; exact Calls.quiet_of_same (room_is _ _ hg)))
  go_wp2
  go_ret
  exact ⟨rfl, below_drewN HB.out _⟩
theorem valid_2 (size kd ct : Int) (pg lk tx : Nat) (bd : ByteArray) (w : World) (hg : goodSize size = true) (h1 : 1 ≤ kd) (h2 : ¬ (kd ≤ 6)) :
    Calls Try.prog 62 #[.int .i64 size, .agg #[.int .i64 kd, .int .i64 ct, .int .u32 pg, .int .u32 lk, .int .u64 tx, .string bd]] w fun e w' => e = .returned (.bool false) ∧ Below w.heap.size w w' := by
  have b0 : Blk (w.alloc (.cells #[.int .i64 kd, .int .i64 ct, .int .u32 pg, .int .u32 lk, .int .u64 tx, .string bd] 40)) w.heap.size 40 #[.int .i64 kd, .int .i64 ct, .int .u32 pg, .int .u32 lk, .int .u64 tx, .string bd] := Blk.new _ _ _
  have HB := Lib.hid (show Below w.heap.size w (w.alloc (.cells #[.int .i64 kd, .int .i64 ct, .int .u32 pg, .int .u32 lk, .int .u64 tx, .string bd] 40)) from (Below.refl _ _).alloc (Nat.le_refl _) _)
  have c0 := b0.cell 0
  have c1 := b0.cell 1
  have c2 := b0.cell 2
  have c3 := b0.cell 3
  have c4 := b0.cell 4
  have c5 := b0.cell 5
  simp at c0 c1 c2 c3 c4 c5
  clear b0
  have d1 : decide ((1 : Int) ≤ kd) = true := by simp; omega
  have d2 : decide (kd ≤ (6 : Int)) = false := by simp; omega
  go_enter Try.func62, Try.ntmps62
  go_wp2_with fail
  go_quiet (first | (go_at_call 29; exact Calls.quiet_of_same (dgood_is _ _ _ hg)) | (go_at_call 61; exact Calls.quiet_of_same (room_is _ _ hg)))
  go_wp2
  go_ret
  exact ⟨rfl, below_drewN HB.out _⟩
theorem valid_3 (size kd ct : Int) (pg lk tx : Nat) (bd : ByteArray) (w : World) (hg : goodSize size = true) (h1 : 1 ≤ kd) (h2 : kd ≤ 6) (h3 : ¬ (0 ≤ ct)) :
    Calls Try.prog 62 #[.int .i64 size, .agg #[.int .i64 kd, .int .i64 ct, .int .u32 pg, .int .u32 lk, .int .u64 tx, .string bd]] w fun e w' => e = .returned (.bool false) ∧ Below w.heap.size w w' := by
  have b0 : Blk (w.alloc (.cells #[.int .i64 kd, .int .i64 ct, .int .u32 pg, .int .u32 lk, .int .u64 tx, .string bd] 40)) w.heap.size 40 #[.int .i64 kd, .int .i64 ct, .int .u32 pg, .int .u32 lk, .int .u64 tx, .string bd] := Blk.new _ _ _
  have HB := Lib.hid (show Below w.heap.size w (w.alloc (.cells #[.int .i64 kd, .int .i64 ct, .int .u32 pg, .int .u32 lk, .int .u64 tx, .string bd] 40)) from (Below.refl _ _).alloc (Nat.le_refl _) _)
  have c0 := b0.cell 0
  have c1 := b0.cell 1
  have c2 := b0.cell 2
  have c3 := b0.cell 3
  have c4 := b0.cell 4
  have c5 := b0.cell 5
  simp at c0 c1 c2 c3 c4 c5
  clear b0
  have d1 : decide ((1 : Int) ≤ kd) = true := by simp; omega
  have d2 : decide (kd ≤ (6 : Int)) = true := by simp; omega
  have d3 : decide ((0 : Int) ≤ ct) = false := by simp; omega
  go_enter Try.func62, Try.ntmps62
  go_wp2_with fail
  go_quiet (first | (go_at_call 29; exact Calls.quiet_of_same (dgood_is _ _ _ hg)) | (go_at_call 61; exact Calls.quiet_of_same (room_is _ _ hg)))
  go_wp2
  go_ret
  exact ⟨rfl, below_drewN HB.out _⟩
theorem valid_4 (size kd ct : Int) (pg lk tx : Nat) (bd : ByteArray) (w : World) (hg : goodSize size = true) (h1 : 1 ≤ kd) (h2 : kd ≤ 6) (h3 : 0 ≤ ct) (h4 : ¬ (ct ≤ 65535)) :
    Calls Try.prog 62 #[.int .i64 size, .agg #[.int .i64 kd, .int .i64 ct, .int .u32 pg, .int .u32 lk, .int .u64 tx, .string bd]] w fun e w' => e = .returned (.bool false) ∧ Below w.heap.size w w' := by
  have b0 : Blk (w.alloc (.cells #[.int .i64 kd, .int .i64 ct, .int .u32 pg, .int .u32 lk, .int .u64 tx, .string bd] 40)) w.heap.size 40 #[.int .i64 kd, .int .i64 ct, .int .u32 pg, .int .u32 lk, .int .u64 tx, .string bd] := Blk.new _ _ _
  have HB := Lib.hid (show Below w.heap.size w (w.alloc (.cells #[.int .i64 kd, .int .i64 ct, .int .u32 pg, .int .u32 lk, .int .u64 tx, .string bd] 40)) from (Below.refl _ _).alloc (Nat.le_refl _) _)
  have c0 := b0.cell 0
  have c1 := b0.cell 1
  have c2 := b0.cell 2
  have c3 := b0.cell 3
  have c4 := b0.cell 4
  have c5 := b0.cell 5
  simp at c0 c1 c2 c3 c4 c5
  clear b0
  have d1 : decide ((1 : Int) ≤ kd) = true := by simp; omega
  have d2 : decide (kd ≤ (6 : Int)) = true := by simp; omega
  have d3 : decide ((0 : Int) ≤ ct) = true := by simp; omega
  have d4 : decide (ct ≤ (65535 : Int)) = false := by simp; omega
  go_enter Try.func62, Try.ntmps62
  go_wp2_with fail
  go_quiet (first | (go_at_call 29; exact Calls.quiet_of_same (dgood_is _ _ _ hg)) | (go_at_call 61; exact Calls.quiet_of_same (room_is _ _ hg)))
  go_wp2
  go_ret
  exact ⟨rfl, below_drewN HB.out _⟩
theorem valid_5 (size kd ct : Int) (pg lk tx : Nat) (bd : ByteArray) (w : World) (hg : goodSize size = true) (h1 : 1 ≤ kd) (h2 : kd ≤ 6) (h3 : 0 ≤ ct) (h4 : ct ≤ 65535) (h5 : ¬ (pg ≤ 2147483647)) :
    Calls Try.prog 62 #[.int .i64 size, .agg #[.int .i64 kd, .int .i64 ct, .int .u32 pg, .int .u32 lk, .int .u64 tx, .string bd]] w fun e w' => e = .returned (.bool false) ∧ Below w.heap.size w w' := by
  have b0 : Blk (w.alloc (.cells #[.int .i64 kd, .int .i64 ct, .int .u32 pg, .int .u32 lk, .int .u64 tx, .string bd] 40)) w.heap.size 40 #[.int .i64 kd, .int .i64 ct, .int .u32 pg, .int .u32 lk, .int .u64 tx, .string bd] := Blk.new _ _ _
  have HB := Lib.hid (show Below w.heap.size w (w.alloc (.cells #[.int .i64 kd, .int .i64 ct, .int .u32 pg, .int .u32 lk, .int .u64 tx, .string bd] 40)) from (Below.refl _ _).alloc (Nat.le_refl _) _)
  have c0 := b0.cell 0
  have c1 := b0.cell 1
  have c2 := b0.cell 2
  have c3 := b0.cell 3
  have c4 := b0.cell 4
  have c5 := b0.cell 5
  simp at c0 c1 c2 c3 c4 c5
  clear b0
  have d1 : decide ((1 : Int) ≤ kd) = true := by simp; omega
  have d2 : decide (kd ≤ (6 : Int)) = true := by simp; omega
  have d3 : decide ((0 : Int) ≤ ct) = true := by simp; omega
  have d4 : decide (ct ≤ (65535 : Int)) = true := by simp; omega
  have d5 : decide ((pg : Int) ≤ (2147483647 : Int)) = false := by simp; omega
  go_enter Try.func62, Try.ntmps62
  go_wp2_with fail
  go_quiet (first | (go_at_call 29; exact Calls.quiet_of_same (dgood_is _ _ _ hg)) | (go_at_call 61; exact Calls.quiet_of_same (room_is _ _ hg)))
  go_wp2
  go_ret
  exact ⟨rfl, below_drewN HB.out _⟩
theorem valid_6 (size kd ct : Int) (pg lk tx : Nat) (bd : ByteArray) (w : World) (hg : goodSize size = true) (h1 : 1 ≤ kd) (h2 : kd ≤ 6) (h3 : 0 ≤ ct) (h4 : ct ≤ 65535) (h5 : pg ≤ 2147483647) (h6 : ¬ (lk ≤ 2147483647)) :
    Calls Try.prog 62 #[.int .i64 size, .agg #[.int .i64 kd, .int .i64 ct, .int .u32 pg, .int .u32 lk, .int .u64 tx, .string bd]] w fun e w' => e = .returned (.bool false) ∧ Below w.heap.size w w' := by
  have b0 : Blk (w.alloc (.cells #[.int .i64 kd, .int .i64 ct, .int .u32 pg, .int .u32 lk, .int .u64 tx, .string bd] 40)) w.heap.size 40 #[.int .i64 kd, .int .i64 ct, .int .u32 pg, .int .u32 lk, .int .u64 tx, .string bd] := Blk.new _ _ _
  have HB := Lib.hid (show Below w.heap.size w (w.alloc (.cells #[.int .i64 kd, .int .i64 ct, .int .u32 pg, .int .u32 lk, .int .u64 tx, .string bd] 40)) from (Below.refl _ _).alloc (Nat.le_refl _) _)
  have c0 := b0.cell 0
  have c1 := b0.cell 1
  have c2 := b0.cell 2
  have c3 := b0.cell 3
  have c4 := b0.cell 4
  have c5 := b0.cell 5
  simp at c0 c1 c2 c3 c4 c5
  clear b0
  have d1 : decide ((1 : Int) ≤ kd) = true := by simp; omega
  have d2 : decide (kd ≤ (6 : Int)) = true := by simp; omega
  have d3 : decide ((0 : Int) ≤ ct) = true := by simp; omega
  have d4 : decide (ct ≤ (65535 : Int)) = true := by simp; omega
  have d5 : decide ((pg : Int) ≤ (2147483647 : Int)) = true := by simp; omega
  have d6 : decide ((lk : Int) ≤ (2147483647 : Int)) = false := by simp; omega
  go_enter Try.func62, Try.ntmps62
  go_wp2_with fail
  go_quiet (first | (go_at_call 29; exact Calls.quiet_of_same (dgood_is _ _ _ hg)) | (go_at_call 61; exact Calls.quiet_of_same (room_is _ _ hg)))
  go_wp2
  go_ret
  exact ⟨rfl, below_drewN HB.out _⟩
theorem valid_7 (size kd ct : Int) (pg lk tx : Nat) (bd : ByteArray) (w : World) (hg : goodSize size = true) (h1 : 1 ≤ kd) (h2 : kd ≤ 6) (h3 : 0 ≤ ct) (h4 : ct ≤ 65535) (h5 : pg ≤ 2147483647) (h6 : lk ≤ 2147483647) (h7 : ¬ (tx ≤ 4611686018427387904)) :
    Calls Try.prog 62 #[.int .i64 size, .agg #[.int .i64 kd, .int .i64 ct, .int .u32 pg, .int .u32 lk, .int .u64 tx, .string bd]] w fun e w' => e = .returned (.bool false) ∧ Below w.heap.size w w' := by
  have b0 : Blk (w.alloc (.cells #[.int .i64 kd, .int .i64 ct, .int .u32 pg, .int .u32 lk, .int .u64 tx, .string bd] 40)) w.heap.size 40 #[.int .i64 kd, .int .i64 ct, .int .u32 pg, .int .u32 lk, .int .u64 tx, .string bd] := Blk.new _ _ _
  have HB := Lib.hid (show Below w.heap.size w (w.alloc (.cells #[.int .i64 kd, .int .i64 ct, .int .u32 pg, .int .u32 lk, .int .u64 tx, .string bd] 40)) from (Below.refl _ _).alloc (Nat.le_refl _) _)
  have c0 := b0.cell 0
  have c1 := b0.cell 1
  have c2 := b0.cell 2
  have c3 := b0.cell 3
  have c4 := b0.cell 4
  have c5 := b0.cell 5
  simp at c0 c1 c2 c3 c4 c5
  clear b0
  have d1 : decide ((1 : Int) ≤ kd) = true := by simp; omega
  have d2 : decide (kd ≤ (6 : Int)) = true := by simp; omega
  have d3 : decide ((0 : Int) ≤ ct) = true := by simp; omega
  have d4 : decide (ct ≤ (65535 : Int)) = true := by simp; omega
  have d5 : decide ((pg : Int) ≤ (2147483647 : Int)) = true := by simp; omega
  have d6 : decide ((lk : Int) ≤ (2147483647 : Int)) = true := by simp; omega
  have d7 : decide ((tx : Int) ≤ (4611686018427387904 : Int)) = false := by simp; omega
  go_enter Try.func62, Try.ntmps62
  go_wp2_with fail
  go_quiet (first | (go_at_call 29; exact Calls.quiet_of_same (dgood_is _ _ _ hg)) | (go_at_call 61; exact Calls.quiet_of_same (room_is _ _ hg)))
  go_wp2
  go_ret
  exact ⟨rfl, below_drewN HB.out _⟩
theorem valid_8 (size kd ct : Int) (pg lk tx : Nat) (bd : ByteArray) (w : World) (hg : goodSize size = true) (h1 : 1 ≤ kd) (h2 : kd ≤ 6) (h3 : 0 ≤ ct) (h4 : ct ≤ 65535) (h5 : pg ≤ 2147483647) (h6 : lk ≤ 2147483647) (h7 : tx ≤ 4611686018427387904) (h8 : ¬ ((bd.size : Int) = size - 24)) :
    Calls Try.prog 62 #[.int .i64 size, .agg #[.int .i64 kd, .int .i64 ct, .int .u32 pg, .int .u32 lk, .int .u64 tx, .string bd]] w fun e w' => e = .returned (.bool false) ∧ Below w.heap.size w w' := by
  have b0 : Blk (w.alloc (.cells #[.int .i64 kd, .int .i64 ct, .int .u32 pg, .int .u32 lk, .int .u64 tx, .string bd] 40)) w.heap.size 40 #[.int .i64 kd, .int .i64 ct, .int .u32 pg, .int .u32 lk, .int .u64 tx, .string bd] := Blk.new _ _ _
  have HB := Lib.hid (show Below w.heap.size w (w.alloc (.cells #[.int .i64 kd, .int .i64 ct, .int .u32 pg, .int .u32 lk, .int .u64 tx, .string bd] 40)) from (Below.refl _ _).alloc (Nat.le_refl _) _)
  have c0 := b0.cell 0
  have c1 := b0.cell 1
  have c2 := b0.cell 2
  have c3 := b0.cell 3
  have c4 := b0.cell 4
  have c5 := b0.cell 5
  simp at c0 c1 c2 c3 c4 c5
  clear b0
  have d1 : decide ((1 : Int) ≤ kd) = true := by simp; omega
  have d2 : decide (kd ≤ (6 : Int)) = true := by simp; omega
  have d3 : decide ((0 : Int) ≤ ct) = true := by simp; omega
  have d4 : decide (ct ≤ (65535 : Int)) = true := by simp; omega
  have d5 : decide ((pg : Int) ≤ (2147483647 : Int)) = true := by simp; omega
  have d6 : decide ((lk : Int) ≤ (2147483647 : Int)) = true := by simp; omega
  have d7 : decide ((tx : Int) ≤ (4611686018427387904 : Int)) = true := by simp; omega
  have d8 : ((bd.size : Int) == size - 24) = false := by simp; omega
  go_enter Try.func62, Try.ntmps62
  go_wp2_with fail
  go_quiet (first | (go_at_call 29; exact Calls.quiet_of_same (dgood_is _ _ _ hg)) | (go_at_call 61; exact Calls.quiet_of_same (room_is _ _ hg)))
  go_wp2
  go_ret
  exact ⟨rfl, below_drewN HB.out _⟩
theorem valid_9 (size kd ct : Int) (pg lk tx : Nat) (bd : ByteArray) (w : World) (hg : goodSize size = true) (h1 : 1 ≤ kd) (h2 : kd ≤ 6) (h3 : 0 ≤ ct) (h4 : ct ≤ 65535) (h5 : pg ≤ 2147483647) (h6 : lk ≤ 2147483647) (h7 : tx ≤ 4611686018427387904) (h8 : (bd.size : Int) = size - 24) :
    Calls Try.prog 62 #[.int .i64 size, .agg #[.int .i64 kd, .int .i64 ct, .int .u32 pg, .int .u32 lk, .int .u64 tx, .string bd]] w fun e w' => e = .returned (.bool true) ∧ Below w.heap.size w w' := by
  have b0 : Blk (w.alloc (.cells #[.int .i64 kd, .int .i64 ct, .int .u32 pg, .int .u32 lk, .int .u64 tx, .string bd] 40)) w.heap.size 40 #[.int .i64 kd, .int .i64 ct, .int .u32 pg, .int .u32 lk, .int .u64 tx, .string bd] := Blk.new _ _ _
  have HB := Lib.hid (show Below w.heap.size w (w.alloc (.cells #[.int .i64 kd, .int .i64 ct, .int .u32 pg, .int .u32 lk, .int .u64 tx, .string bd] 40)) from (Below.refl _ _).alloc (Nat.le_refl _) _)
  have c0 := b0.cell 0
  have c1 := b0.cell 1
  have c2 := b0.cell 2
  have c3 := b0.cell 3
  have c4 := b0.cell 4
  have c5 := b0.cell 5
  simp at c0 c1 c2 c3 c4 c5
  clear b0
  have d1 : decide ((1 : Int) ≤ kd) = true := by simp; omega
  have d2 : decide (kd ≤ (6 : Int)) = true := by simp; omega
  have d3 : decide ((0 : Int) ≤ ct) = true := by simp; omega
  have d4 : decide (ct ≤ (65535 : Int)) = true := by simp; omega
  have d5 : decide ((pg : Int) ≤ (2147483647 : Int)) = true := by simp; omega
  have d6 : decide ((lk : Int) ≤ (2147483647 : Int)) = true := by simp; omega
  have d7 : decide ((tx : Int) ≤ (4611686018427387904 : Int)) = true := by simp; omega
  have d8 : ((bd.size : Int) == size - 24) = true := by simp; omega
  have d8 : ((bd.size : Int) == size - 24) = true := by simpa using h8
  go_enter Try.func62, Try.ntmps62
  go_wp2_with fail
  go_quiet (first | (go_at_call 29; exact Calls.quiet_of_same (dgood_is _ _ _ hg)) | (go_at_call 61; exact Calls.quiet_of_same (room_is _ _ hg)))
  go_wp2
  go_ret
  exact ⟨rfl, below_drewN HB.out _⟩
theorem valid_any (size kd ct : Int) (pg lk tx : Nat) (bd : ByteArray) (w : World) :
    Calls Try.prog 62 #[.int .i64 size, .agg #[.int .i64 kd, .int .i64 ct, .int .u32 pg, .int .u32 lk, .int .u64 tx, .string bd]] w fun e w' => e = .returned (.bool (mayPg size kd ct pg lk tx bd)) ∧ Below w.heap.size w w' := by
  by_cases hg : goodSize size = true
  case neg =>
    rw [show mayPg size kd ct pg lk tx bd = false by simp [mayPg, show goodSize size = false by simpa using hg]]
    exact valid_0 size kd ct pg lk tx bd w  (by simpa using hg)
  by_cases h1 : 1 ≤ kd
  case neg =>
    rw [show mayPg size kd ct pg lk tx bd = false by simp [mayPg, hg, h1]]
    exact valid_1 size kd ct pg lk tx bd w hg h1
  by_cases h2 : kd ≤ 6
  case neg =>
    rw [show mayPg size kd ct pg lk tx bd = false by simp [mayPg, hg, h1, h2]]
    exact valid_2 size kd ct pg lk tx bd w hg h1 h2
  by_cases h3 : 0 ≤ ct
  case neg =>
    rw [show mayPg size kd ct pg lk tx bd = false by simp [mayPg, hg, h1, h2, h3]]
    exact valid_3 size kd ct pg lk tx bd w hg h1 h2 h3
  by_cases h4 : ct ≤ 65535
  case neg =>
    rw [show mayPg size kd ct pg lk tx bd = false by simp [mayPg, hg, h1, h2, h3, h4]]
    exact valid_4 size kd ct pg lk tx bd w hg h1 h2 h3 h4
  by_cases h5 : pg ≤ 2147483647
  case neg =>
    rw [show mayPg size kd ct pg lk tx bd = false by simp [mayPg, hg, h1, h2, h3, h4, h5]]
    exact valid_5 size kd ct pg lk tx bd w hg h1 h2 h3 h4 h5
  by_cases h6 : lk ≤ 2147483647
  case neg =>
    rw [show mayPg size kd ct pg lk tx bd = false by simp [mayPg, hg, h1, h2, h3, h4, h5, h6]]
    exact valid_6 size kd ct pg lk tx bd w hg h1 h2 h3 h4 h5 h6
  by_cases h7 : tx ≤ 4611686018427387904
  case neg =>
    rw [show mayPg size kd ct pg lk tx bd = false by simp [mayPg, hg, h1, h2, h3, h4, h5, h6, h7]]
    exact valid_7 size kd ct pg lk tx bd w hg h1 h2 h3 h4 h5 h6 h7
  by_cases h8 : (bd.size : Int) = size - 24
  case neg =>
    rw [show mayPg size kd ct pg lk tx bd = false by simp [mayPg, hg, h1, h2, h3, h4, h5, h6, h7, h8]]
    exact valid_8 size kd ct pg lk tx bd w hg h1 h2 h3 h4 h5 h6 h7 h8
  rw [show mayPg size kd ct pg lk tx bd = true by simp [mayPg, hg, h1, h2, h3, h4, h5, h6, h7, h8]]
  exact valid_9 size kd ct pg lk tx bd w hg h1 h2 h3 h4 h5 h6 h7 h8
end Go.Proofs.Ytabhhccdbfjigaa
namespace Go.Proofs.Ytabhhccdbfjigaa
open Go.RowKit
open Go.Lib
set_option linter.unusedVariables false
set_option linter.unusedSimpArgs false
attribute [local go_sem ↓] Go.wp_at_zero Go.wp_at_succ

/-- What stands between the checksum and the body. -/
def headL (kd ct pg lk tx : Nat) : List UInt8 := leBytes 1 kd ++ leBytes 1 1 ++ leBytes 2 ct ++ leBytes 4 pg ++ leBytes 4 lk ++ leBytes 8 tx
theorem headL_len (kd ct pg lk tx : Nat) : (headL kd ct pg lk tx).length = 20 := by simp [headL, leB_len]
theorem reads_nil (w : World) : Reads w w.heap.size 1 none 0 (bcells []) := Reads.none_
theorem u64_nat (n : Nat) (h : n < 18446744073709551616) : IntKind.u64.wrap (n : Int) = (n : Int) := by rw [IntKind.wrap_u64]; omega

theorem put_reads (A : Option Addr) (n c num k : Nat) (l : List UInt8) (w : World) (hr : Reads w w.heap.size 1 A n (bcells l)) (hn : n + 8 ≤ 140737488355328) (h1 : 1 ≤ k) (h2 : k ≤ 8) :
    Calls Try.prog 64 #[.slice A n c, .int .u64 num, .int .i64 k] w fun e w' => ∃ A' c', e = .returned (.slice A' (n + k) c') ∧ Reads w' w'.heap.size 1 A' (n + k) (bcells (l ++ leBytes k num)) ∧ Below w.heap.size w w' :=
  (put_yes A n c num k l w hr hn h1 h2).mono fun _ _ ⟨v, he, ho, hb⟩ => by
    obtain ⟨A', c', rfl, _⟩ := own_form ho
    exact ⟨A', c', he, Reads.of_own ho, hb⟩

set_option maxHeartbeats 3200000 in
theorem header_any (kd ct pg lk tx : Nat) (bd : ByteArray) (w : World) (h1 : kd < 18446744073709551616) (h2 : ct < 18446744073709551616) (h3 : pg < 18446744073709551616) (h4 : lk < 18446744073709551616) :
    Calls Try.prog 63 #[.agg #[.int .i64 kd, .int .i64 ct, .int .u32 pg, .int .u32 lk, .int .u64 tx, .string bd]] w fun e w' => e = .returned (.string ⟨(headL kd ct pg lk tx).toArray⟩) ∧ Below w.heap.size w w' := by
  have b0 : Blk (w.alloc (.cells #[.int .i64 kd, .int .i64 ct, .int .u32 pg, .int .u32 lk, .int .u64 tx, .string bd] 40)) w.heap.size 40 #[.int .i64 kd, .int .i64 ct, .int .u32 pg, .int .u32 lk, .int .u64 tx, .string bd] := Blk.new _ _ _
  have B0 := Lib.hid b0
  clear b0
  have hb0 : Below w.heap.size w (w.alloc (.cells #[.int .i64 kd, .int .i64 ct, .int .u32 pg, .int .u32 lk, .int .u64 tx, .string bd] 40)) := (Below.refl _ _).alloc (Nat.le_refl _) _
  have hlt : w.heap.size < (w.alloc (.cells #[.int .i64 kd, .int .i64 ct, .int .u32 pg, .int .u32 lk, .int .u64 tx, .string bd] 40)).heap.size := by simp
  obtain ⟨w0, hw0⟩ : ∃ w0, w0 = w.alloc (.cells #[.int .i64 kd, .int .i64 ct, .int .u32 pg, .int .u32 lk, .int .u64 tx, .string bd] 40) := ⟨_, rfl⟩
  rw [← hw0] at B0 hb0 hlt
  have e1 := u64_nat kd h1
  have e2 := u64_nat ct h2
  have e3 := u64_nat pg h3
  have e4 := u64_nat lk h4
  have b0 := B0.out
  have c0 := b0.cell 0
  have c1 := b0.cell 1
  have c2 := b0.cell 2
  have c3 := b0.cell 3
  have c4 := b0.cell 4
  simp at c0 c1 c2 c3 c4
  clear b0
  go_enter Try.func63, Try.ntmps63
  go_wp2_with fail
  rw [← hw0]
  clear hw0
  refine (put_reads none 0 0 kd 1 [] _ (reads_nil _) (by omega) (by omega) (by omega)).mono ?_
  rintro e w1 ⟨A1, c1_, rfl, hr1, hb1⟩
  rw [List.nil_append] at hr1
  have R1 := Lib.hid hr1
  replace B0 := Lib.hid (B0.out.below hb1 hlt)
  replace hlt := Nat.lt_of_lt_of_le hlt hb1.size
  replace hb0 := hb0.trans (hb1.mono hb0.size)
  clear c0 c1 c2 c3 c4 hb1 hr1
  have b0 := B0.out
  have c0 := b0.cell 0
  have c1 := b0.cell 1
  have c2 := b0.cell 2
  have c3 := b0.cell 3
  have c4 := b0.cell 4
  simp at c0 c1 c2 c3 c4
  clear b0
  go_wp2_with fail
  refine (put_reads A1 1 c1_ 1 1 (leBytes 1 kd) _ R1.out (by omega) (by omega) (by omega)).mono ?_
  rintro e w2 ⟨A2, c2_, rfl, hr2, hb2⟩
  have R2 := Lib.hid hr2
  replace B0 := Lib.hid (B0.out.below hb2 hlt)
  replace hlt := Nat.lt_of_lt_of_le hlt hb2.size
  replace hb0 := hb0.trans (hb2.mono hb0.size)
  clear c0 c1 c2 c3 c4 hb2 hr2
  have b0 := B0.out
  have c0 := b0.cell 0
  have c1 := b0.cell 1
  have c2 := b0.cell 2
  have c3 := b0.cell 3
  have c4 := b0.cell 4
  simp at c0 c1 c2 c3 c4
  clear b0
  go_wp2_with fail
  refine (put_reads A2 2 c2_ ct 2 ((leBytes 1 kd) ++ leBytes 1 1) _ R2.out (by omega) (by omega) (by omega)).mono ?_
  rintro e w3 ⟨A3, c3_, rfl, hr3, hb3⟩
  have R3 := Lib.hid hr3
  replace B0 := Lib.hid (B0.out.below hb3 hlt)
  replace hlt := Nat.lt_of_lt_of_le hlt hb3.size
  replace hb0 := hb0.trans (hb3.mono hb0.size)
  clear c0 c1 c2 c3 c4 hb3 hr3
  have b0 := B0.out
  have c0 := b0.cell 0
  have c1 := b0.cell 1
  have c2 := b0.cell 2
  have c3 := b0.cell 3
  have c4 := b0.cell 4
  simp at c0 c1 c2 c3 c4
  clear b0
  go_wp2_with fail
  refine (put_reads A3 4 c3_ pg 4 (((leBytes 1 kd) ++ leBytes 1 1) ++ leBytes 2 ct) _ R3.out (by omega) (by omega) (by omega)).mono ?_
  rintro e w4 ⟨A4, c4_, rfl, hr4, hb4⟩
  have R4 := Lib.hid hr4
  replace B0 := Lib.hid (B0.out.below hb4 hlt)
  replace hlt := Nat.lt_of_lt_of_le hlt hb4.size
  replace hb0 := hb0.trans (hb4.mono hb0.size)
  clear c0 c1 c2 c3 c4 hb4 hr4
  have b0 := B0.out
  have c0 := b0.cell 0
  have c1 := b0.cell 1
  have c2 := b0.cell 2
  have c3 := b0.cell 3
  have c4 := b0.cell 4
  simp at c0 c1 c2 c3 c4
  clear b0
  go_wp2_with fail
  refine (put_reads A4 8 c4_ lk 4 ((((leBytes 1 kd) ++ leBytes 1 1) ++ leBytes 2 ct) ++ leBytes 4 pg) _ R4.out (by omega) (by omega) (by omega)).mono ?_
  rintro e w5 ⟨A5, c5_, rfl, hr5, hb5⟩
  have R5 := Lib.hid hr5
  replace B0 := Lib.hid (B0.out.below hb5 hlt)
  replace hlt := Nat.lt_of_lt_of_le hlt hb5.size
  replace hb0 := hb0.trans (hb5.mono hb0.size)
  clear c0 c1 c2 c3 c4 hb5 hr5
  have b0 := B0.out
  have c0 := b0.cell 0
  have c1 := b0.cell 1
  have c2 := b0.cell 2
  have c3 := b0.cell 3
  have c4 := b0.cell 4
  simp at c0 c1 c2 c3 c4
  clear b0
  go_wp2_with fail
  refine (put_reads A5 12 c5_ tx 8 (((((leBytes 1 kd) ++ leBytes 1 1) ++ leBytes 2 ct) ++ leBytes 4 pg) ++ leBytes 4 lk) _ R5.out (by omega) (by omega) (by omega)).mono ?_
  rintro e w6 ⟨A6, c6_, rfl, hr6, hb6⟩
  have R6 := Lib.hid hr6
  replace hb0 := hb0.trans (hb6.mono hb0.size)
  have hcv := run_string_reads w6 60 9 5 c6_ Try.underlying60 Try.underlying5 Try.underlying9 R6.out
  clear c0 c1 c2 c3 c4 hr6 hb6
  go_wp2_with fail
  go_ret
  exact ⟨rfl, hb0⟩
end Go.Proofs.Ytabhhccdbfjigaa
