/-
  Texts that the main proof rests on, put together: Ref4May, Ref1. No statement is proved here.
-/
import Derived.Test.YtabhhccdbfjigaaJ6
import Derived.Test.YtabhhccdbfjigaaJ2
namespace Go.Proofs.Ytabhhccdbfjigaa
open Go.RowKit
open Go.Lib
set_option linter.unusedVariables false
set_option linter.unusedSimpArgs false
attribute [local go_sem ↓] Go.wp_at_zero Go.wp_at_succ

theorem rgood_any (n : Int) (w : World) :
    Calls Try.prog 49 #[.int .i64 n] w fun e w' => e = .returned (.bool (goodSize n)) ∧ w = w' := by
  by_cases h1 : 128 ≤ n
  · by_cases h2 : n ≤ 4096
    · have h0 : 0 ≤ n := by omega
      by_cases h3 : n % 64 = 0
      · have h4 : (n % 64 == 0) = true := by simpa using h3
        have HG := Lib.hid (show goodSize n = true by simp [goodSize, h1, h2, h3])
        clear h3
        go_enter Try.func49, Try.ntmps49
        go_wp2
        go_ret
        exact ⟨by rw [HG.out]; rfl, rfl⟩
      · have h4 : (n % 64 == 0) = false := by simpa using h3
        have HG := Lib.hid (show goodSize n = false by simp [goodSize, h1, h2, h4])
        clear h3
        go_enter Try.func49, Try.ntmps49
        go_wp2
        go_ret
        exact ⟨by rw [HG.out]; rfl, rfl⟩
    · have HG := Lib.hid (show goodSize n = false by simp [goodSize, h2])
      go_enter Try.func49, Try.ntmps49
      go_wp2
      go_ret
      exact ⟨by rw [HG.out]; rfl, rfl⟩
  · have HG := Lib.hid (show goodSize n = false by simp [goodSize, h1])
    go_enter Try.func49, Try.ntmps49
    go_wp2
    go_ret
    exact ⟨by rw [HG.out]; rfl, rfl⟩

theorem rroom_yes (size : Int) (w : World) (h : goodSize size = true) :
    Calls Try.prog 23 #[.int .i64 size] w fun e w' => e = .returned (.int .i64 (size - 24)) ∧ w = w' := by
  obtain ⟨n, rfl, h1, h2, h3⟩ := good_nat h
  go_enter Try.func23, Try.ntmps23
  go_wp2_with (go_at_call 49; refine (rgood_any _ _).mono ?_; rw [h]; rintro e w' ⟨rfl, rfl⟩)
  go_ret
  exact ⟨rfl, rfl⟩
theorem rroom_no (size : Int) (w : World) (h : goodSize size = false) :
    Calls Try.prog 23 #[.int .i64 size] w fun e w' => e = .returned (.int .i64 0) ∧ w = w' := by
  go_enter Try.func23, Try.ntmps23
  go_wp2_with (go_at_call 49; refine (rgood_any _ _).mono ?_; rw [h]; rintro e w' ⟨rfl, rfl⟩)
  go_ret
  exact ⟨rfl, rfl⟩
theorem rgood_is (n : Int) (b : Bool) (w : World) (h : goodSize n = b) : Calls Try.prog 49 #[.int .i64 n] w fun e w' => e = .returned (.bool b) ∧ w' = w :=
  (rgood_any n w).mono fun _ _ ⟨a, b⟩ => ⟨by rw [← h]; exact a, b.symm⟩
theorem rroom_is (n : Int) (w : World) (h : goodSize n = true) : Calls Try.prog 23 #[.int .i64 n] w fun e w' => e = .returned (.int .i64 (n - 24)) ∧ w' = w :=
  (rroom_yes n w h).mono fun _ _ ⟨a, b⟩ => ⟨a, b.symm⟩
theorem rmay_0 (size kd ct : Int) (pg lk tx : Nat) (bd : ByteArray) (w : World) (hg : goodSize size = false) :
    Calls Try.prog 84 #[.int .i64 size, .agg #[.int .i64 kd, .int .i64 ct, .int .u32 pg, .int .u32 lk, .int .u64 tx, .string bd]] w fun e w' => e = .returned (.bool false) ∧ Below w.heap.size w w' := by
  have b0 : Blk (w.alloc (.cells #[.int .i64 kd, .int .i64 ct, .int .u32 pg, .int .u32 lk, .int .u64 tx, .string bd] 40)) w.heap.size 40 #[.int .i64 kd, .int .i64 ct, .int .u32 pg, .int .u32 lk, .int .u64 tx, .string bd] := Blk.new _ _ _
  have HB := Lib.hid (show Below w.heap.size w (w.alloc (.cells #[.int .i64 kd, .int .i64 ct, .int .u32 pg, .int .u32 lk, .int .u64 tx, .string bd] 40)) from (Below.refl _ _).alloc (Nat.le_refl _) _)
  have c0 := b0.cell 0
  have c1 := b0.cell 1
  have c2 := b0.cell 2
  have c3 := b0.cell 3
  have c4 := b0.cell 4
  have c5 := b0.cell 5
  simp at c0 c1 c2 c3 c4 c5
  clear b0
  go_enter Try.func84, Try.ntmps84
  go_wp2_with fail
  go_quiet (first | (go_at_call 49; exact Calls.quiet_of_same (rgood_is _ _ _ hg)) | (go_at_call 23; exact Calls.quiet_of_same (rroom_is _ _ hg)))
  go_wp2
  go_ret
  exact ⟨rfl, below_drewN HB.out _⟩
theorem rmay_1 (size kd ct : Int) (pg lk tx : Nat) (bd : ByteArray) (w : World) (hg : goodSize size = true) (h1 : ¬ (1 ≤ kd)) :
    Calls Try.prog 84 #[.int .i64 size, .agg #[.int .i64 kd, .int .i64 ct, .int .u32 pg, .int .u32 lk, .int .u64 tx, .string bd]] w fun e w' => e = .returned (.bool false) ∧ Below w.heap.size w w' := by
  have b0 : Blk (w.alloc (.cells #[.int .i64 kd, .int .i64 ct, .int .u32 pg, .int .u32 lk, .int .u64 tx, .string bd] 40)) w.heap.size 40 #[.int .i64 kd, .int .i64 ct, .int .u32 pg, .int .u32 lk, .int .u64 tx, .string bd] := Blk.new _ _ _
  have HB := Lib.hid (show Below w.heap.size w (w.alloc (.cells #[.int .i64 kd, .int .i64 ct, .int .u32 pg, .int .u32 lk, .int .u64 tx, .string bd] 40)) from (Below.refl _ _).alloc (Nat.le_refl _) _)
  have c0 := b0.cell 0
  have c1 := b0.cell 1
  have c2 := b0.cell 2
  have c3 := b0.cell 3
  have c4 := b0.cell 4
  have c5 := b0.cell 5
  simp at c0 c1 c2 c3 c4 c5
  clear b0
  have d1 : decide ((1 : Int) ≤ kd) = false := by simp; omega
  go_enter Try.func84, Try.ntmps84
  go_wp2_with fail
  go_quiet (first | (go_at_call 49; exact Calls.quiet_of_same (rgood_is _ _ _ hg)) | (go_at_call 23; exact Calls.quiet_of_same (rroom_is _ _ hg)))
  go_wp2
  go_ret
  exact ⟨rfl, below_drewN HB.out _⟩
theorem rmay_2 (size kd ct : Int) (pg lk tx : Nat) (bd : ByteArray) (w : World) (hg : goodSize size = true) (h1 : 1 ≤ kd) (h2 : ¬ (kd ≤ 6)) :
    Calls Try.prog 84 #[.int .i64 size, .agg #[.int .i64 kd, .int .i64 ct, .int .u32 pg, .int .u32 lk, .int .u64 tx, .string bd]] w fun e w' => e = .returned (.bool false) ∧ Below w.heap.size w w' := by
  have b0 : Blk (w.alloc (.cells #[.int .i64 kd, .int .i64 ct, .int .u32 pg, .int .u32 lk, .int .u64 tx, .string bd] 40)) w.heap.size 40 #[.int .i64 kd, .int .i64 ct, .int .u32 pg, .int .u32 lk, .int .u64 tx, .string bd] := Blk.new _ _ _
  have HB := Lib.hid (show Below w.heap.size w (w.alloc (.cells #[.int .i64 kd, .int .i64 ct, .int .u32 pg, .int .u32 lk, .int .u64 tx, .string bd] 40)) from (Below.refl _ _).alloc (Nat.le_refl _) _)
  have c0 := b0.cell 0
  have c1 := b0.cell 1
  have c2 := b0.cell 2
  have c3 := b0.cell 3
  have c4 := b0.cell 4
  have c5 := b0.cell 5
  simp at c0 c1 c2 c3 c4 c5
  clear b0
  have d1 : decide ((1 : Int) ≤ kd) = true := by simp; omega
  have d2 : decide (kd ≤ (6 : Int)) = false := by simp; omega
  go_enter Try.func84, Try.ntmps84
  go_wp2_with fail
  go_quiet (first | (go_at_call 49; exact Calls.quiet_of_same (rgood_is _ _ _ hg)) | (go_at_call 23; exact Calls.quiet_of_same (rroom_is _ _ hg)))
  go_wp2
  go_ret
  exact ⟨rfl, below_drewN HB.out _⟩
theorem rmay_3 (size kd ct : Int) (pg lk tx : Nat) (bd : ByteArray) (w : World) (hg : goodSize size = true) (h1 : 1 ≤ kd) (h2 : kd ≤ 6) (h3 : ¬ (0 ≤ ct)) :
    Calls Try.prog 84 #[.int .i64 size, .agg #[.int .i64 kd, .int .i64 ct, .int .u32 pg, .int .u32 lk, .int .u64 tx, .string bd]] w fun e w' => e = .returned (.bool false) ∧ Below w.heap.size w w' := by
  have b0 : Blk (w.alloc (.cells #[.int .i64 kd, .int .i64 ct, .int .u32 pg, .int .u32 lk, .int .u64 tx, .string bd] 40)) w.heap.size 40 #[.int .i64 kd, .int .i64 ct, .int .u32 pg, .int .u32 lk, .int .u64 tx, .string bd] := Blk.new _ _ _
  have HB := Lib.hid (show Below w.heap.size w (w.alloc (.cells #[.int .i64 kd, .int .i64 ct, .int .u32 pg, .int .u32 lk, .int .u64 tx, .string bd] 40)) from (Below.refl _ _).alloc (Nat.le_refl _) _)
  have c0 := b0.cell 0
  have c1 := b0.cell 1
  have c2 := b0.cell 2
  have c3 := b0.cell 3
  have c4 := b0.cell 4
  have c5 := b0.cell 5
  simp at c0 c1 c2 c3 c4 c5
  clear b0
  have d1 : decide ((1 : Int) ≤ kd) = true := by simp; omega
  have d2 : decide (kd ≤ (6 : Int)) = true := by simp; omega
  have d3 : decide ((0 : Int) ≤ ct) = false := by simp; omega
  go_enter Try.func84, Try.ntmps84
  go_wp2_with fail
  go_quiet (first | (go_at_call 49; exact Calls.quiet_of_same (rgood_is _ _ _ hg)) | (go_at_call 23; exact Calls.quiet_of_same (rroom_is _ _ hg)))
  go_wp2
  go_ret
  exact ⟨rfl, below_drewN HB.out _⟩
theorem rmay_4 (size kd ct : Int) (pg lk tx : Nat) (bd : ByteArray) (w : World) (hg : goodSize size = true) (h1 : 1 ≤ kd) (h2 : kd ≤ 6) (h3 : 0 ≤ ct) (h4 : ¬ (ct ≤ 65535)) :
    Calls Try.prog 84 #[.int .i64 size, .agg #[.int .i64 kd, .int .i64 ct, .int .u32 pg, .int .u32 lk, .int .u64 tx, .string bd]] w fun e w' => e = .returned (.bool false) ∧ Below w.heap.size w w' := by
  have b0 : Blk (w.alloc (.cells #[.int .i64 kd, .int .i64 ct, .int .u32 pg, .int .u32 lk, .int .u64 tx, .string bd] 40)) w.heap.size 40 #[.int .i64 kd, .int .i64 ct, .int .u32 pg, .int .u32 lk, .int .u64 tx, .string bd] := Blk.new _ _ _
  have HB := Lib.hid (show Below w.heap.size w (w.alloc (.cells #[.int .i64 kd, .int .i64 ct, .int .u32 pg, .int .u32 lk, .int .u64 tx, .string bd] 40)) from (Below.refl _ _).alloc (Nat.le_refl _) _)
  have c0 := b0.cell 0
  have c1 := b0.cell 1
  have c2 := b0.cell 2
  have c3 := b0.cell 3
  have c4 := b0.cell 4
  have c5 := b0.cell 5
  simp at c0 c1 c2 c3 c4 c5
  clear b0
  have d1 : decide ((1 : Int) ≤ kd) = true := by simp; omega
  have d2 : decide (kd ≤ (6 : Int)) = true := by simp; omega
  have d3 : decide ((0 : Int) ≤ ct) = true := by simp; omega
  have d4 : decide (ct ≤ (65535 : Int)) = false := by simp; omega
  go_enter Try.func84, Try.ntmps84
  go_wp2_with fail
  go_quiet (first | (go_at_call 49; exact Calls.quiet_of_same (rgood_is _ _ _ hg)) | (go_at_call 23; exact Calls.quiet_of_same (rroom_is _ _ hg)))
  go_wp2
  go_ret
  exact ⟨rfl, below_drewN HB.out _⟩
theorem rmay_5 (size kd ct : Int) (pg lk tx : Nat) (bd : ByteArray) (w : World) (hg : goodSize size = true) (h1 : 1 ≤ kd) (h2 : kd ≤ 6) (h3 : 0 ≤ ct) (h4 : ct ≤ 65535) (h5 : ¬ (pg ≤ 2147483647)) :
    Calls Try.prog 84 #[.int .i64 size, .agg #[.int .i64 kd, .int .i64 ct, .int .u32 pg, .int .u32 lk, .int .u64 tx, .string bd]] w fun e w' => e = .returned (.bool false) ∧ Below w.heap.size w w' := by
  have b0 : Blk (w.alloc (.cells #[.int .i64 kd, .int .i64 ct, .int .u32 pg, .int .u32 lk, .int .u64 tx, .string bd] 40)) w.heap.size 40 #[.int .i64 kd, .int .i64 ct, .int .u32 pg, .int .u32 lk, .int .u64 tx, .string bd] := Blk.new _ _ _
  have HB := Lib.hid (show Below w.heap.size w (w.alloc (.cells #[.int .i64 kd, .int .i64 ct, .int .u32 pg, .int .u32 lk, .int .u64 tx, .string bd] 40)) from (Below.refl _ _).alloc (Nat.le_refl _) _)
  have c0 := b0.cell 0
  have c1 := b0.cell 1
  have c2 := b0.cell 2
  have c3 := b0.cell 3
  have c4 := b0.cell 4
  have c5 := b0.cell 5
  simp at c0 c1 c2 c3 c4 c5
  clear b0
  have d1 : decide ((1 : Int) ≤ kd) = true := by simp; omega
  have d2 : decide (kd ≤ (6 : Int)) = true := by simp; omega
  have d3 : decide ((0 : Int) ≤ ct) = true := by simp; omega
  have d4 : decide (ct ≤ (65535 : Int)) = true := by simp; omega
  have d5 : decide ((pg : Int) ≤ (2147483647 : Int)) = false := by simp; omega
  go_enter Try.func84, Try.ntmps84
  go_wp2_with fail
  go_quiet (first | (go_at_call 49; exact Calls.quiet_of_same (rgood_is _ _ _ hg)) | (go_at_call 23; exact Calls.quiet_of_same (rroom_is _ _ hg)))
  go_wp2
  go_ret
  exact ⟨rfl, below_drewN HB.out _⟩
theorem rmay_6 (size kd ct : Int) (pg lk tx : Nat) (bd : ByteArray) (w : World) (hg : goodSize size = true) (h1 : 1 ≤ kd) (h2 : kd ≤ 6) (h3 : 0 ≤ ct) (h4 : ct ≤ 65535) (h5 : pg ≤ 2147483647) (h6 : ¬ (lk ≤ 2147483647)) :
    Calls Try.prog 84 #[.int .i64 size, .agg #[.int .i64 kd, .int .i64 ct, .int .u32 pg, .int .u32 lk, .int .u64 tx, .string bd]] w fun e w' => e = .returned (.bool false) ∧ Below w.heap.size w w' := by
  have b0 : Blk (w.alloc (.cells #[.int .i64 kd, .int .i64 ct, .int .u32 pg, .int .u32 lk, .int .u64 tx, .string bd] 40)) w.heap.size 40 #[.int .i64 kd, .int .i64 ct, .int .u32 pg, .int .u32 lk, .int .u64 tx, .string bd] := Blk.new _ _ _
  have HB := Lib.hid (show Below w.heap.size w (w.alloc (.cells #[.int .i64 kd, .int .i64 ct, .int .u32 pg, .int .u32 lk, .int .u64 tx, .string bd] 40)) from (Below.refl _ _).alloc (Nat.le_refl _) _)
  have c0 := b0.cell 0
  have c1 := b0.cell 1
  have c2 := b0.cell 2
  have c3 := b0.cell 3
  have c4 := b0.cell 4
  have c5 := b0.cell 5
  simp at c0 c1 c2 c3 c4 c5
  clear b0
  have d1 : decide ((1 : Int) ≤ kd) = true := by simp; omega
  have d2 : decide (kd ≤ (6 : Int)) = true := by simp; omega
  have d3 : decide ((0 : Int) ≤ ct) = true := by simp; omega
  have d4 : decide (ct ≤ (65535 : Int)) = true := by simp; omega
  have d5 : decide ((pg : Int) ≤ (2147483647 : Int)) = true := by simp; omega
  have d6 : decide ((lk : Int) ≤ (2147483647 : Int)) = false := by simp; omega
  go_enter Try.func84, Try.ntmps84
  go_wp2_with fail
  go_quiet (first | (go_at_call 49; exact Calls.quiet_of_same (rgood_is _ _ _ hg)) | (go_at_call 23; exact Calls.quiet_of_same (rroom_is _ _ hg)))
  go_wp2
  go_ret
  exact ⟨rfl, below_drewN HB.out _⟩
theorem rmay_7 (size kd ct : Int) (pg lk tx : Nat) (bd : ByteArray) (w : World) (hg : goodSize size = true) (h1 : 1 ≤ kd) (h2 : kd ≤ 6) (h3 : 0 ≤ ct) (h4 : ct ≤ 65535) (h5 : pg ≤ 2147483647) (h6 : lk ≤ 2147483647) (h7 : ¬ (tx ≤ 4611686018427387904)) :
    Calls Try.prog 84 #[.int .i64 size, .agg #[.int .i64 kd, .int .i64 ct, .int .u32 pg, .int .u32 lk, .int .u64 tx, .string bd]] w fun e w' => e = .returned (.bool false) ∧ Below w.heap.size w w' := by
  have b0 : Blk (w.alloc (.cells #[.int .i64 kd, .int .i64 ct, .int .u32 pg, .int .u32 lk, .int .u64 tx, .string bd] 40)) w.heap.size 40 #[.int .i64 kd, .int .i64 ct, .int .u32 pg, .int .u32 lk, .int .u64 tx, .string bd] := Blk.new _ _ _
  have HB := Lib.hid (show Below w.heap.size w (w.alloc (.cells #[.int .i64 kd, .int .i64 ct, .int .u32 pg, .int .u32 lk, .int .u64 tx, .string bd] 40)) from (Below.refl _ _).alloc (Nat.le_refl _) _)
  have c0 := b0.cell 0
  have c1 := b0.cell 1
  have c2 := b0.cell 2
  have c3 := b0.cell 3
  have c4 := b0.cell 4
  have c5 := b0.cell 5
  simp at c0 c1 c2 c3 c4 c5
  clear b0
  have d1 : decide ((1 : Int) ≤ kd) = true := by simp; omega
  have d2 : decide (kd ≤ (6 : Int)) = true := by simp; omega
  have d3 : decide ((0 : Int) ≤ ct) = true := by simp; omega
  have d4 : decide (ct ≤ (65535 : Int)) = true := by simp; omega
  have d5 : decide ((pg : Int) ≤ (2147483647 : Int)) = true := by simp; omega
  have d6 : decide ((lk : Int) ≤ (2147483647 : Int)) = true := by simp; omega
  have d7 : decide ((tx : Int) ≤ (4611686018427387904 : Int)) = false := by simp; omega
  go_enter Try.func84, Try.ntmps84
  go_wp2_with fail
  go_quiet (first | (go_at_call 49; exact Calls.quiet_of_same (rgood_is _ _ _ hg)) | (go_at_call 23; exact Calls.quiet_of_same (rroom_is _ _ hg)))
  go_wp2
  go_ret
  exact ⟨rfl, below_drewN HB.out _⟩
theorem rmay_8 (size kd ct : Int) (pg lk tx : Nat) (bd : ByteArray) (w : World) (hg : goodSize size = true) (h1 : 1 ≤ kd) (h2 : kd ≤ 6) (h3 : 0 ≤ ct) (h4 : ct ≤ 65535) (h5 : pg ≤ 2147483647) (h6 : lk ≤ 2147483647) (h7 : tx ≤ 4611686018427387904) (h8 : ¬ ((bd.size : Int) = size - 24)) :
    Calls Try.prog 84 #[.int .i64 size, .agg #[.int .i64 kd, .int .i64 ct, .int .u32 pg, .int .u32 lk, .int .u64 tx, .string bd]] w fun e w' => e = .returned (.bool false) ∧ Below w.heap.size w w' := by
  have b0 : Blk (w.alloc (.cells #[.int .i64 kd, .int .i64 ct, .int .u32 pg, .int .u32 lk, .int .u64 tx, .string bd] 40)) w.heap.size 40 #[.int .i64 kd, .int .i64 ct, .int .u32 pg, .int .u32 lk, .int .u64 tx, .string bd] := Blk.new _ _ _
  have HB := Lib.hid (show Below w.heap.size w (w.alloc (.cells #[.int .i64 kd, .int .i64 ct, .int .u32 pg, .int .u32 lk, .int .u64 tx, .string bd] 40)) from (Below.refl _ _).alloc (Nat.le_refl _) _)
  have c0 := b0.cell 0
  have c1 := b0.cell 1
  have c2 := b0.cell 2
  have c3 := b0.cell 3
  have c4 := b0.cell 4
  have c5 := b0.cell 5
  simp at c0 c1 c2 c3 c4 c5
  clear b0
  have d1 : decide ((1 : Int) ≤ kd) = true := by simp; omega
  have d2 : decide (kd ≤ (6 : Int)) = true := by simp; omega
  have d3 : decide ((0 : Int) ≤ ct) = true := by simp; omega
  have d4 : decide (ct ≤ (65535 : Int)) = true := by simp; omega
  have d5 : decide ((pg : Int) ≤ (2147483647 : Int)) = true := by simp; omega
  have d6 : decide ((lk : Int) ≤ (2147483647 : Int)) = true := by simp; omega
  have d7 : decide ((tx : Int) ≤ (4611686018427387904 : Int)) = true := by simp; omega
  have d8 : ((bd.size : Int) == size - 24) = false := by simp; omega
  go_enter Try.func84, Try.ntmps84
  go_wp2_with fail
  go_quiet (first | (go_at_call 49; exact Calls.quiet_of_same (rgood_is _ _ _ hg)) | (go_at_call 23; exact Calls.quiet_of_same (rroom_is _ _ hg)))
  go_wp2
  go_ret
  exact ⟨rfl, below_drewN HB.out _⟩
theorem rmay_9 (size kd ct : Int) (pg lk tx : Nat) (bd : ByteArray) (w : World) (hg : goodSize size = true) (h1 : 1 ≤ kd) (h2 : kd ≤ 6) (h3 : 0 ≤ ct) (h4 : ct ≤ 65535) (h5 : pg ≤ 2147483647) (h6 : lk ≤ 2147483647) (h7 : tx ≤ 4611686018427387904) (h8 : (bd.size : Int) = size - 24) :
    Calls Try.prog 84 #[.int .i64 size, .agg #[.int .i64 kd, .int .i64 ct, .int .u32 pg, .int .u32 lk, .int .u64 tx, .string bd]] w fun e w' => e = .returned (.bool true) ∧ Below w.heap.size w w' := by
  have b0 : Blk (w.alloc (.cells #[.int .i64 kd, .int .i64 ct, .int .u32 pg, .int .u32 lk, .int .u64 tx, .string bd] 40)) w.heap.size 40 #[.int .i64 kd, .int .i64 ct, .int .u32 pg, .int .u32 lk, .int .u64 tx, .string bd] := Blk.new _ _ _
  have HB := Lib.hid (show Below w.heap.size w (w.alloc (.cells #[.int .i64 kd, .int .i64 ct, .int .u32 pg, .int .u32 lk, .int .u64 tx, .string bd] 40)) from (Below.refl _ _).alloc (Nat.le_refl _) _)
  have c0 := b0.cell 0
  have c1 := b0.cell 1
  have c2 := b0.cell 2
  have c3 := b0.cell 3
  have c4 := b0.cell 4
  have c5 := b0.cell 5
  simp at c0 c1 c2 c3 c4 c5
  clear b0
  have d1 : decide ((1 : Int) ≤ kd) = true := by simp; omega
  have d2 : decide (kd ≤ (6 : Int)) = true := by simp; omega
  have d3 : decide ((0 : Int) ≤ ct) = true := by simp; omega
  have d4 : decide (ct ≤ (65535 : Int)) = true := by simp; omega
  have d5 : decide ((pg : Int) ≤ (2147483647 : Int)) = true := by simp; omega
  have d6 : decide ((lk : Int) ≤ (2147483647 : Int)) = true := by simp; omega
  have d7 : decide ((tx : Int) ≤ (4611686018427387904 : Int)) = true := by simp; omega
  have d8 : ((bd.size : Int) == size - 24) = true := by simp; omega
  have d8 : ((bd.size : Int) == size - 24) = true := by simpa using h8
  go_enter Try.func84, Try.ntmps84
  go_wp2_with fail
  go_quiet (first | (go_at_call 49; exact Calls.quiet_of_same (rgood_is _ _ _ hg)) | (go_at_call 23; exact Calls.quiet_of_same (rroom_is _ _ hg)))
  go_wp2
  go_ret
  exact ⟨rfl, below_drewN HB.out _⟩
theorem rmay_any (size kd ct : Int) (pg lk tx : Nat) (bd : ByteArray) (w : World) :
    Calls Try.prog 84 #[.int .i64 size, .agg #[.int .i64 kd, .int .i64 ct, .int .u32 pg, .int .u32 lk, .int .u64 tx, .string bd]] w fun e w' => e = .returned (.bool (mayPg size kd ct pg lk tx bd)) ∧ Below w.heap.size w w' := by
  by_cases hg : goodSize size = true
  case neg =>
    rw [show mayPg size kd ct pg lk tx bd = false by simp [mayPg, show goodSize size = false by simpa using hg]]
    exact rmay_0 size kd ct pg lk tx bd w  (by simpa using hg)
  by_cases h1 : 1 ≤ kd
  case neg =>
    rw [show mayPg size kd ct pg lk tx bd = false by simp [mayPg, hg, h1]]
    exact rmay_1 size kd ct pg lk tx bd w hg h1
  by_cases h2 : kd ≤ 6
  case neg =>
    rw [show mayPg size kd ct pg lk tx bd = false by simp [mayPg, hg, h1, h2]]
    exact rmay_2 size kd ct pg lk tx bd w hg h1 h2
  by_cases h3 : 0 ≤ ct
  case neg =>
    rw [show mayPg size kd ct pg lk tx bd = false by simp [mayPg, hg, h1, h2, h3]]
    exact rmay_3 size kd ct pg lk tx bd w hg h1 h2 h3
  by_cases h4 : ct ≤ 65535
  case neg =>
    rw [show mayPg size kd ct pg lk tx bd = false by simp [mayPg, hg, h1, h2, h3, h4]]
    exact rmay_4 size kd ct pg lk tx bd w hg h1 h2 h3 h4
  by_cases h5 : pg ≤ 2147483647
  case neg =>
    rw [show mayPg size kd ct pg lk tx bd = false by simp [mayPg, hg, h1, h2, h3, h4, h5]]
    exact rmay_5 size kd ct pg lk tx bd w hg h1 h2 h3 h4 h5
  by_cases h6 : lk ≤ 2147483647
  case neg =>
    rw [show mayPg size kd ct pg lk tx bd = false by simp [mayPg, hg, h1, h2, h3, h4, h5, h6]]
    exact rmay_6 size kd ct pg lk tx bd w hg h1 h2 h3 h4 h5 h6
  by_cases h7 : tx ≤ 4611686018427387904
  case neg =>
    rw [show mayPg size kd ct pg lk tx bd = false by simp [mayPg, hg, h1, h2, h3, h4, h5, h6, h7]]
    exact rmay_7 size kd ct pg lk tx bd w hg h1 h2 h3 h4 h5 h6 h7
  by_cases h8 : (bd.size : Int) = size - 24
  case neg =>
    rw [show mayPg size kd ct pg lk tx bd = false by simp [mayPg, hg, h1, h2, h3, h4, h5, h6, h7, h8]]
    exact rmay_8 size kd ct pg lk tx bd w hg h1 h2 h3 h4 h5 h6 h7 h8
  rw [show mayPg size kd ct pg lk tx bd = true by simp [mayPg, hg, h1, h2, h3, h4, h5, h6, h7, h8]]
  exact rmay_9 size kd ct pg lk tx bd w hg h1 h2 h3 h4 h5 h6 h7 h8
end Go.Proofs.Ytabhhccdbfjigaa
namespace Go.Proofs.Ytabhhccdbfjigaa
open Go.RowKit Go.Lib
set_option linter.unusedVariables false
set_option linter.unusedSimpArgs false
set_option maxRecDepth 100000

theorem rput_yes (A : Option Addr) (n c num k : Nat) (l : List UInt8) (w : World) (hr : Reads w w.heap.size 1 A n (bcells l)) (hn : n + 8 ≤ 140737488355328) (h1 : 1 ≤ k) (h2 : k ≤ 8) :
    Calls Try.prog 83 #[.slice A n c, .int .u64 num, .int .i64 k] w fun e w' => ∃ v, e = .returned v ∧ w'.ownsRow w.heap.size 5 1 v (n + k) (bcells (l ++ leBytes k num)) ∧ Below w.heap.size w w' := by
  obtain ⟨i0, hi0, hz0, hz1, hz2⟩ := info_parts infoU8
  have h1' : (1 : Int) ≤ k := by omega
  have h2' : (k : Int) ≤ 8 := by omega
  have hown1 : (w.alloc (.cells #[] 5)).ownsRow w.heap.size 5 1 (.slice (some ⟨w.heap.size, 0, none⟩) 0 0) 0 [] := World.ownsRow_made w #[] 0 (Nat.le_refl _) (by simp [maxLen]) rfl
  have hb1 : Below w.heap.size w (w.alloc (.cells #[] 5)) := (Below.refl _ _).alloc (Nat.le_refl _) _
  have HO := Lib.hid hown1
  have HB := Lib.hid hb1
  clear hown1 hb1
  go_enter Try.func83, Try.ntmps83
  go_wp2_with (at_builtin; refine wpList_append_any _ rfl (.tmp 9) (.tmp 10) _ rfl w.heap.size 5 i0 _ 1 1 Try.underlying60 hi0 hz0 hz1 hz2 rfl (by omega) _ 0 [] rfl HO.out w.heap.size A n c _ rfl (hr.below HB.out) (bcells_one _) (by unfold maxLen; omega) (by omega) HB.out.size ?_; intro v2 w2 hown2 hg2 hat2)
  have hb2 : Below w.heap.size w w2 := HB.out.grown hg2 HB.out.size (by rintro g ⟨⟩; exact Nat.le_refl _)
  clear hg2 hat2 HO HB
  go_loopw [7, 8] (fun v i wr => ∃ j : Nat, j ≤ k ∧ i = .int .i64 j ∧ wr.ownsRow w.heap.size 5 1 v (n + j) (bcells (l ++ leBytes j num)) ∧ Below w.heap.size w wr) (fun _ i _ => k - (RowKit.intOf i).toNat)
  case atStart => exact ⟨0, Nat.zero_le _, rfl, by simpa [leBytes] using hown2, hb2⟩
  case round =>
    obtain ⟨j, hj, rfl, hown, hbr⟩ := hrel
    by_cases hlt : j < k
    · go_wp2_with (first
        | (at_builtin; refine wpList_append_any _ rfl (.tmp 24) (.tmp 31) _ rfl w.heap.size 5 i0 _ 1 1 Try.underlying60 hi0 hz0 hz1 hz2 rfl (by omega) _ (n + j) _ rfl (hown.alloc _) (wr.heap.size + 1) (some ⟨wr.heap.size, 0, none⟩) 1 1 [Value.int .u8 ((num : Int) / 2 ^ (8 * j) % 256)] rfl (reads_new _ _ _ _) (oneCell_one rfl) (by unfold maxLen; omega) (by omega) (by have := hbr.size; simp; omega) ?_; intro v3 w3 hown3 hg3 hat3))
      go_roundw
      case rel =>
        refine ⟨j + 1, by omega, by go_num, ?_, ?_⟩
        · rw [leBytes_snoc, ← List.append_assoc, bcells_append, ← byte_cell]
          exact hown3
        · exact (hbr.alloc hbr.size _).grown hg3 (by have := hbr.size; simp; omega) (fun g hg => (hown.lt g hg).1)
      case measure => simp [RowKit.intOf]; omega
    · go_wp2
      go_ret
      have : j = k := by omega
      subst this
      exact ⟨_, rfl, hown, hbr⟩
theorem rput_no (A : Option Addr) (n c num : Nat) (wd : Int) (l : List UInt8) (w : World) (hr : Reads w w.heap.size 1 A n (bcells l)) (hn : n + 8 ≤ 140737488355328) (hw : ¬ (1 ≤ wd ∧ wd ≤ 8)) :
    Calls Try.prog 83 #[.slice A n c, .int .u64 num, .int .i64 wd] w fun e w' => ∃ v, e = .returned v ∧ w'.ownsRow w.heap.size 5 1 v n (bcells l) ∧ Below w.heap.size w w' := by
  obtain ⟨i0, hi0, hz0, hz1, hz2⟩ := info_parts infoU8
  have hown1 : (w.alloc (.cells #[] 5)).ownsRow w.heap.size 5 1 (.slice (some ⟨w.heap.size, 0, none⟩) 0 0) 0 [] := World.ownsRow_made w #[] 0 (Nat.le_refl _) (by simp [maxLen]) rfl
  have hb1 : Below w.heap.size w (w.alloc (.cells #[] 5)) := (Below.refl _ _).alloc (Nat.le_refl _) _
  have HO := Lib.hid hown1
  have HB := Lib.hid hb1
  clear hown1 hb1
  have h8 : wd < 1 ∨ 8 < wd := by omega
  clear hw
  rcases h8 with h8 | h8
  · go_enter Try.func83, Try.ntmps83
    go_wp2_with (at_builtin; refine wpList_append_any _ rfl (.tmp 9) (.tmp 10) _ rfl w.heap.size 5 i0 _ 1 1 Try.underlying60 hi0 hz0 hz1 hz2 rfl (by omega) _ 0 [] rfl HO.out w.heap.size A n c _ rfl (hr.below HB.out) (bcells_one _) (by unfold maxLen; omega) (by omega) HB.out.size ?_; intro v2 w2 hown2 hg2 hat2)
    go_ret
    exact ⟨_, rfl, by simpa using hown2, HB.out.grown hg2 HB.out.size (by rintro g ⟨⟩; exact Nat.le_refl _)⟩
  · have h9 : ¬ wd < 1 := by omega
    go_enter Try.func83, Try.ntmps83
    go_wp2_with (at_builtin; refine wpList_append_any _ rfl (.tmp 9) (.tmp 10) _ rfl w.heap.size 5 i0 _ 1 1 Try.underlying60 hi0 hz0 hz1 hz2 rfl (by omega) _ 0 [] rfl HO.out w.heap.size A n c _ rfl (hr.below HB.out) (bcells_one _) (by unfold maxLen; omega) (by omega) HB.out.size ?_; intro v2 w2 hown2 hg2 hat2)
    go_ret
    exact ⟨_, rfl, by simpa using hown2, HB.out.grown hg2 HB.out.size (by rintro g ⟨⟩; exact Nat.le_refl _)⟩
theorem rput_reads (A : Option Addr) (n c num k : Nat) (l : List UInt8) (w : World) (hr : Reads w w.heap.size 1 A n (bcells l)) (hn : n + 8 ≤ 140737488355328) (h1 : 1 ≤ k) (h2 : k ≤ 8) :
    Calls Try.prog 83 #[.slice A n c, .int .u64 num, .int .i64 k] w fun e w' => ∃ A' c', e = .returned (.slice A' (n + k) c') ∧ Reads w' w'.heap.size 1 A' (n + k) (bcells (l ++ leBytes k num)) ∧ Below w.heap.size w w' :=
  (rput_yes A n c num k l w hr hn h1 h2).mono fun _ _ ⟨v, he, ho, hb⟩ => by
    obtain ⟨A', c', rfl, _⟩ := own_form ho
    exact ⟨A', c', he, Reads.of_own ho, hb⟩
end Go.Proofs.Ytabhhccdbfjigaa
