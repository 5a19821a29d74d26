/-
  Contracts of free.Page: the page of free numbers. (Written by wip/tools/gen_fnpage.py.)
-/
import Derived.Test.YtabhhccdbfjigaaJ36
import Derived.Test.YtabhhccdbfjigaaJ13
import Derived.Test.YtabhhccdbfjigaaJ6
import Derived.Test.YtabhhccdbfjigaaJ7
import Derived.Test.YtabhhccdbfjigaaJ16
namespace Go.Proofs.Ytabhhccdbfjigaa
open Go.RowKit
open Go.Lib hiding intOf
set_option linter.unusedVariables false
set_option linter.unusedSimpArgs false
attribute [local go_sem ↓] Go.wp_at_zero Go.wp_at_succ

set_option maxRecDepth 100000 in
set_option maxHeartbeats 6400000 in
theorem fpage10_A1 (size : Int) (n next tx : Nat) (A : Option Addr) (m c : Nat) (l : List Nat) (w : World) (hr : Reads w w.heap.size 1 A m (ucells l)) (hm : m ≤ 1000000) (h0 : next = 0) (hv : fitU size l = false) :
    Calls Try.prog 41 #[.int .i64 size, .int .u32 n, .int .u32 next, .int .u64 tx, .slice A m c] w fun e w' => e = .returned (.tuple #[.agg #[.int .i64 0, .int .i64 0, .int .u32 0, .int .u32 0, .int .u64 0, .string ByteArray.empty], .int .i64 2]) ∧ Below w.heap.size w w' := by
  have hx1 : (next == 0) = true := by simp; omega
  have hx2 : ((next : Int) == 0) = true := by simp; omega
  clear h0
  have HV := Lib.hid hv
  clear hv
  obtain ⟨hzp, hi⟩ := zero_of_info infoPg
  have HI := Lib.hid hi
  obtain ⟨w0, hw0⟩ : ∃ x, x = w.alloc (.cells #[.int .i64 0, .int .i64 0, .int .u32 0, .int .u32 0, .int .u64 0, .string ByteArray.empty] 40) := ⟨_, rfl⟩
  have R0 := Lib.hid (show Blk w0 w.heap.size 40 #[.int .i64 0, .int .i64 0, .int .u32 0, .int .u32 0, .int .u64 0, .string ByteArray.empty] by rw [hw0]; exact Blk.new _ _ _)
  have HB := Lib.hid (show Below w.heap.size w w0 by rw [hw0]; exact (Below.refl _ _).alloc (Nat.le_refl _) _)
  have HR := Lib.hid hr
  have HM9 := Lib.hid hm
  have HL := Lib.hid (ulen hr)
  clear hr hm
  clear hi
  go_enter Try.func41, Try.ntmps41
  go_upto_region 1 with fail
  rw [← hw0]
  clear hw0
  go_wp2_with fail
  refine (fvalid_any size A m c l _ ((HR.out.below HB.out).more HB.out.size) HM9.out).mono ?_
  rw [HV.out]
  rintro e w1 ⟨rfl, hb⟩
  replace R0 := Lib.hid (R0.out.below hb R0.out.lt)
  replace HB := Lib.hid (HB.out.trans (hb.mono HB.out.size))
  clear hb
  have k0 := R0.out.cell 0
  have k1 := R0.out.cell 1
  have k2 := R0.out.cell 2
  have k3 := R0.out.cell 3
  have k4 := R0.out.cell 4
  have k5 := R0.out.cell 5
  have f0 := R0.out.frozen 0
  have f1 := R0.out.frozen 1
  have f2 := R0.out.frozen 2
  have f3 := R0.out.frozen 3
  have f4 := R0.out.frozen 4
  have f5 := R0.out.frozen 5
  simp at k0 k1 k2 k3 k4 k5
  go_wp2_with fail
  exact bodyPost_ret (read_row rfl _ _ _ w.heap.size #[.int .i64 0, .int .i64 0, .int .u32 0, .int .u32 0, .int .u64 0, .string ByteArray.empty] rfl (load_page (six_at R0.out))) rfl ⟨rfl, six_below HB.out (Nat.le_refl _)⟩
set_option maxRecDepth 100000 in
set_option maxHeartbeats 6400000 in
theorem fpage10_A2 (size : Int) (n next tx : Nat) (A : Option Addr) (m c : Nat) (l : List Nat) (w : World) (hr : Reads w w.heap.size 1 A m (ucells l)) (hm : m ≤ 1000000) (h0 : next = 0) (hv : fitU size l = true) (hn : numB n = false) :
    Calls Try.prog 41 #[.int .i64 size, .int .u32 n, .int .u32 next, .int .u64 tx, .slice A m c] w fun e w' => e = .returned (.tuple #[.agg #[.int .i64 0, .int .i64 0, .int .u32 0, .int .u32 0, .int .u64 0, .string ByteArray.empty], .int .i64 2]) ∧ Below w.heap.size w w' := by
  have hx1 : (next == 0) = true := by simp; omega
  have hx2 : ((next : Int) == 0) = true := by simp; omega
  clear h0
  have HV := Lib.hid hv
  clear hv
  have HN := fun w => (fnum_any n w).mono (R' := fun e w' => e = .returned (.bool (numB n)) ∧ w = w') fun _ _ ⟨a, b⟩ => ⟨a, b.symm⟩
  rw [hn] at HN
  clear hn
  obtain ⟨hzp, hi⟩ := zero_of_info infoPg
  have HI := Lib.hid hi
  obtain ⟨w0, hw0⟩ : ∃ x, x = w.alloc (.cells #[.int .i64 0, .int .i64 0, .int .u32 0, .int .u32 0, .int .u64 0, .string ByteArray.empty] 40) := ⟨_, rfl⟩
  have R0 := Lib.hid (show Blk w0 w.heap.size 40 #[.int .i64 0, .int .i64 0, .int .u32 0, .int .u32 0, .int .u64 0, .string ByteArray.empty] by rw [hw0]; exact Blk.new _ _ _)
  have HB := Lib.hid (show Below w.heap.size w w0 by rw [hw0]; exact (Below.refl _ _).alloc (Nat.le_refl _) _)
  have HR := Lib.hid hr
  have HM9 := Lib.hid hm
  have HL := Lib.hid (ulen hr)
  clear hr hm
  clear hi
  go_enter Try.func41, Try.ntmps41
  go_upto_region 1 with fail
  rw [← hw0]
  clear hw0
  go_wp2_with fail
  refine (fvalid_any size A m c l _ ((HR.out.below HB.out).more HB.out.size) HM9.out).mono ?_
  rw [HV.out]
  rintro e w1 ⟨rfl, hb⟩
  replace R0 := Lib.hid (R0.out.below hb R0.out.lt)
  replace HB := Lib.hid (HB.out.trans (hb.mono HB.out.size))
  clear hb
  have k0 := R0.out.cell 0
  have k1 := R0.out.cell 1
  have k2 := R0.out.cell 2
  have k3 := R0.out.cell 3
  have k4 := R0.out.cell 4
  have k5 := R0.out.cell 5
  have f0 := R0.out.frozen 0
  have f1 := R0.out.frozen 1
  have f2 := R0.out.frozen 2
  have f3 := R0.out.frozen 3
  have f4 := R0.out.frozen 4
  have f5 := R0.out.frozen 5
  simp at k0 k1 k2 k3 k4 k5
  go_wp2_with (go_at_call 74; (first | (with_reducible refine (HN _).mono ?_)); rintro e w' ⟨rfl, rfl⟩)
  exact bodyPost_ret (read_row rfl _ _ _ w.heap.size #[.int .i64 0, .int .i64 0, .int .u32 0, .int .u32 0, .int .u64 0, .string ByteArray.empty] rfl (load_page (six_at R0.out))) rfl ⟨rfl, six_below HB.out (Nat.le_refl _)⟩
set_option maxRecDepth 100000 in
set_option maxHeartbeats 6400000 in
theorem fpage10_A4 (size : Int) (n next tx : Nat) (A : Option Addr) (m c : Nat) (l : List Nat) (w : World) (hr : Reads w w.heap.size 1 A m (ucells l)) (hm : m ≤ 1000000) (h0 : next = 0) (hv : fitU size l = true) (hn : numB n = true) (h4 : ¬ tx ≤ 4611686018427387904) :
    Calls Try.prog 41 #[.int .i64 size, .int .u32 n, .int .u32 next, .int .u64 tx, .slice A m c] w fun e w' => e = .returned (.tuple #[.agg #[.int .i64 0, .int .i64 0, .int .u32 0, .int .u32 0, .int .u64 0, .string ByteArray.empty], .int .i64 2]) ∧ Below w.heap.size w w' := by
  have hx1 : (next == 0) = true := by simp; omega
  have hx2 : ((next : Int) == 0) = true := by simp; omega
  clear h0
  have HV := Lib.hid hv
  clear hv
  have HN := fun w => (fnum_any n w).mono (R' := fun e w' => e = .returned (.bool (numB n)) ∧ w = w') fun _ _ ⟨a, b⟩ => ⟨a, b.symm⟩
  rw [hn] at HN
  have htx : decide ((4611686018427387904 : Int) < tx) = true := by simp; omega
  clear hn h4
  obtain ⟨hzp, hi⟩ := zero_of_info infoPg
  have HI := Lib.hid hi
  obtain ⟨w0, hw0⟩ : ∃ x, x = w.alloc (.cells #[.int .i64 0, .int .i64 0, .int .u32 0, .int .u32 0, .int .u64 0, .string ByteArray.empty] 40) := ⟨_, rfl⟩
  have R0 := Lib.hid (show Blk w0 w.heap.size 40 #[.int .i64 0, .int .i64 0, .int .u32 0, .int .u32 0, .int .u64 0, .string ByteArray.empty] by rw [hw0]; exact Blk.new _ _ _)
  have HB := Lib.hid (show Below w.heap.size w w0 by rw [hw0]; exact (Below.refl _ _).alloc (Nat.le_refl _) _)
  have HR := Lib.hid hr
  have HM9 := Lib.hid hm
  have HL := Lib.hid (ulen hr)
  clear hr hm
  clear hi
  go_enter Try.func41, Try.ntmps41
  go_upto_region 1 with fail
  rw [← hw0]
  clear hw0
  go_wp2_with fail
  refine (fvalid_any size A m c l _ ((HR.out.below HB.out).more HB.out.size) HM9.out).mono ?_
  rw [HV.out]
  rintro e w1 ⟨rfl, hb⟩
  replace R0 := Lib.hid (R0.out.below hb R0.out.lt)
  replace HB := Lib.hid (HB.out.trans (hb.mono HB.out.size))
  clear hb
  have k0 := R0.out.cell 0
  have k1 := R0.out.cell 1
  have k2 := R0.out.cell 2
  have k3 := R0.out.cell 3
  have k4 := R0.out.cell 4
  have k5 := R0.out.cell 5
  have f0 := R0.out.frozen 0
  have f1 := R0.out.frozen 1
  have f2 := R0.out.frozen 2
  have f3 := R0.out.frozen 3
  have f4 := R0.out.frozen 4
  have f5 := R0.out.frozen 5
  simp at k0 k1 k2 k3 k4 k5
  go_wp2_with (go_at_call 74; (first | (with_reducible refine (HN _).mono ?_)); rintro e w' ⟨rfl, rfl⟩)
  exact bodyPost_ret (read_row rfl _ _ _ w.heap.size #[.int .i64 0, .int .i64 0, .int .u32 0, .int .u32 0, .int .u64 0, .string ByteArray.empty] rfl (load_page (six_at R0.out))) rfl ⟨rfl, six_below HB.out (Nat.le_refl _)⟩
set_option maxRecDepth 100000 in
set_option maxHeartbeats 6400000 in
theorem fpage10_B1 (size : Int) (n next tx : Nat) (A : Option Addr) (m c : Nat) (l : List Nat) (w : World) (hr : Reads w w.heap.size 1 A m (ucells l)) (hm : m ≤ 1000000) (h0 : next ≠ 0) (hnx : numB next = false) (hv : fitU size l = false) :
    Calls Try.prog 41 #[.int .i64 size, .int .u32 n, .int .u32 next, .int .u64 tx, .slice A m c] w fun e w' => e = .returned (.tuple #[.agg #[.int .i64 0, .int .i64 0, .int .u32 0, .int .u32 0, .int .u64 0, .string ByteArray.empty], .int .i64 2]) ∧ Below w.heap.size w w' := by
  have hx1 : (next == 0) = false := by simp; omega
  have hx2 : ((next : Int) == 0) = false := by simp; omega
  have HX := fun w => (fnum_any next w).mono (R' := fun e w' => e = .returned (.bool (numB next)) ∧ w = w') fun _ _ ⟨a, b⟩ => ⟨a, b.symm⟩
  rw [hnx] at HX
  clear h0 hnx
  have HV := Lib.hid hv
  clear hv
  obtain ⟨hzp, hi⟩ := zero_of_info infoPg
  have HI := Lib.hid hi
  obtain ⟨w0, hw0⟩ : ∃ x, x = w.alloc (.cells #[.int .i64 0, .int .i64 0, .int .u32 0, .int .u32 0, .int .u64 0, .string ByteArray.empty] 40) := ⟨_, rfl⟩
  have R0 := Lib.hid (show Blk w0 w.heap.size 40 #[.int .i64 0, .int .i64 0, .int .u32 0, .int .u32 0, .int .u64 0, .string ByteArray.empty] by rw [hw0]; exact Blk.new _ _ _)
  have HB := Lib.hid (show Below w.heap.size w w0 by rw [hw0]; exact (Below.refl _ _).alloc (Nat.le_refl _) _)
  have HR := Lib.hid hr
  have HM9 := Lib.hid hm
  have HL := Lib.hid (ulen hr)
  clear hr hm
  clear hi
  go_enter Try.func41, Try.ntmps41
  go_upto_region 1 with fail
  rw [← hw0]
  clear hw0
  go_wp2_with (go_at_call 74; (first | (with_reducible refine (HX _).mono ?_)); rintro e w' ⟨rfl, rfl⟩)
  refine (fvalid_any size A m c l _ ((HR.out.below HB.out).more HB.out.size) HM9.out).mono ?_
  rw [HV.out]
  rintro e w1 ⟨rfl, hb⟩
  replace R0 := Lib.hid (R0.out.below hb R0.out.lt)
  replace HB := Lib.hid (HB.out.trans (hb.mono HB.out.size))
  clear hb
  have k0 := R0.out.cell 0
  have k1 := R0.out.cell 1
  have k2 := R0.out.cell 2
  have k3 := R0.out.cell 3
  have k4 := R0.out.cell 4
  have k5 := R0.out.cell 5
  have f0 := R0.out.frozen 0
  have f1 := R0.out.frozen 1
  have f2 := R0.out.frozen 2
  have f3 := R0.out.frozen 3
  have f4 := R0.out.frozen 4
  have f5 := R0.out.frozen 5
  simp at k0 k1 k2 k3 k4 k5
  go_wp2_with fail
  exact bodyPost_ret (read_row rfl _ _ _ w.heap.size #[.int .i64 0, .int .i64 0, .int .u32 0, .int .u32 0, .int .u64 0, .string ByteArray.empty] rfl (load_page (six_at R0.out))) rfl ⟨rfl, six_below HB.out (Nat.le_refl _)⟩
set_option maxRecDepth 100000 in
set_option maxHeartbeats 6400000 in
theorem fpage10_B2 (size : Int) (n next tx : Nat) (A : Option Addr) (m c : Nat) (l : List Nat) (w : World) (hr : Reads w w.heap.size 1 A m (ucells l)) (hm : m ≤ 1000000) (h0 : next ≠ 0) (hnx : numB next = false) (hv : fitU size l = true) (hn : numB n = false) :
    Calls Try.prog 41 #[.int .i64 size, .int .u32 n, .int .u32 next, .int .u64 tx, .slice A m c] w fun e w' => e = .returned (.tuple #[.agg #[.int .i64 0, .int .i64 0, .int .u32 0, .int .u32 0, .int .u64 0, .string ByteArray.empty], .int .i64 2]) ∧ Below w.heap.size w w' := by
  have hx1 : (next == 0) = false := by simp; omega
  have hx2 : ((next : Int) == 0) = false := by simp; omega
  have HX := fun w => (fnum_any next w).mono (R' := fun e w' => e = .returned (.bool (numB next)) ∧ w = w') fun _ _ ⟨a, b⟩ => ⟨a, b.symm⟩
  rw [hnx] at HX
  clear h0 hnx
  have HV := Lib.hid hv
  clear hv
  have HN := fun w => (fnum_any n w).mono (R' := fun e w' => e = .returned (.bool (numB n)) ∧ w = w') fun _ _ ⟨a, b⟩ => ⟨a, b.symm⟩
  rw [hn] at HN
  clear hn
  obtain ⟨hzp, hi⟩ := zero_of_info infoPg
  have HI := Lib.hid hi
  obtain ⟨w0, hw0⟩ : ∃ x, x = w.alloc (.cells #[.int .i64 0, .int .i64 0, .int .u32 0, .int .u32 0, .int .u64 0, .string ByteArray.empty] 40) := ⟨_, rfl⟩
  have R0 := Lib.hid (show Blk w0 w.heap.size 40 #[.int .i64 0, .int .i64 0, .int .u32 0, .int .u32 0, .int .u64 0, .string ByteArray.empty] by rw [hw0]; exact Blk.new _ _ _)
  have HB := Lib.hid (show Below w.heap.size w w0 by rw [hw0]; exact (Below.refl _ _).alloc (Nat.le_refl _) _)
  have HR := Lib.hid hr
  have HM9 := Lib.hid hm
  have HL := Lib.hid (ulen hr)
  clear hr hm
  clear hi
  go_enter Try.func41, Try.ntmps41
  go_upto_region 1 with fail
  rw [← hw0]
  clear hw0
  go_wp2_with (go_at_call 74; (first | (with_reducible refine (HX _).mono ?_)); rintro e w' ⟨rfl, rfl⟩)
  refine (fvalid_any size A m c l _ ((HR.out.below HB.out).more HB.out.size) HM9.out).mono ?_
  rw [HV.out]
  rintro e w1 ⟨rfl, hb⟩
  replace R0 := Lib.hid (R0.out.below hb R0.out.lt)
  replace HB := Lib.hid (HB.out.trans (hb.mono HB.out.size))
  clear hb
  have k0 := R0.out.cell 0
  have k1 := R0.out.cell 1
  have k2 := R0.out.cell 2
  have k3 := R0.out.cell 3
  have k4 := R0.out.cell 4
  have k5 := R0.out.cell 5
  have f0 := R0.out.frozen 0
  have f1 := R0.out.frozen 1
  have f2 := R0.out.frozen 2
  have f3 := R0.out.frozen 3
  have f4 := R0.out.frozen 4
  have f5 := R0.out.frozen 5
  simp at k0 k1 k2 k3 k4 k5
  go_wp2_with (go_at_call 74; (first | (with_reducible refine (HN _).mono ?_)); rintro e w' ⟨rfl, rfl⟩)
  exact bodyPost_ret (read_row rfl _ _ _ w.heap.size #[.int .i64 0, .int .i64 0, .int .u32 0, .int .u32 0, .int .u64 0, .string ByteArray.empty] rfl (load_page (six_at R0.out))) rfl ⟨rfl, six_below HB.out (Nat.le_refl _)⟩
set_option maxRecDepth 100000 in
set_option maxHeartbeats 6400000 in
theorem fpage10_B3 (size : Int) (n next tx : Nat) (A : Option Addr) (m c : Nat) (l : List Nat) (w : World) (hr : Reads w w.heap.size 1 A m (ucells l)) (hm : m ≤ 1000000) (h0 : next ≠ 0) (hnx : numB next = false) (hv : fitU size l = true) (hn : numB n = true) :
    Calls Try.prog 41 #[.int .i64 size, .int .u32 n, .int .u32 next, .int .u64 tx, .slice A m c] w fun e w' => e = .returned (.tuple #[.agg #[.int .i64 0, .int .i64 0, .int .u32 0, .int .u32 0, .int .u64 0, .string ByteArray.empty], .int .i64 2]) ∧ Below w.heap.size w w' := by
  have hx1 : (next == 0) = false := by simp; omega
  have hx2 : ((next : Int) == 0) = false := by simp; omega
  have HX := fun w => (fnum_any next w).mono (R' := fun e w' => e = .returned (.bool (numB next)) ∧ w = w') fun _ _ ⟨a, b⟩ => ⟨a, b.symm⟩
  rw [hnx] at HX
  clear h0 hnx
  have HV := Lib.hid hv
  clear hv
  have HN := fun w => (fnum_any n w).mono (R' := fun e w' => e = .returned (.bool (numB n)) ∧ w = w') fun _ _ ⟨a, b⟩ => ⟨a, b.symm⟩
  rw [hn] at HN
  clear hn
  obtain ⟨hzp, hi⟩ := zero_of_info infoPg
  have HI := Lib.hid hi
  obtain ⟨w0, hw0⟩ : ∃ x, x = w.alloc (.cells #[.int .i64 0, .int .i64 0, .int .u32 0, .int .u32 0, .int .u64 0, .string ByteArray.empty] 40) := ⟨_, rfl⟩
  have R0 := Lib.hid (show Blk w0 w.heap.size 40 #[.int .i64 0, .int .i64 0, .int .u32 0, .int .u32 0, .int .u64 0, .string ByteArray.empty] by rw [hw0]; exact Blk.new _ _ _)
  have HB := Lib.hid (show Below w.heap.size w w0 by rw [hw0]; exact (Below.refl _ _).alloc (Nat.le_refl _) _)
  have HR := Lib.hid hr
  have HM9 := Lib.hid hm
  have HL := Lib.hid (ulen hr)
  clear hr hm
  clear hi
  go_enter Try.func41, Try.ntmps41
  go_upto_region 1 with fail
  rw [← hw0]
  clear hw0
  go_wp2_with (go_at_call 74; (first | (with_reducible refine (HX _).mono ?_)); rintro e w' ⟨rfl, rfl⟩)
  refine (fvalid_any size A m c l _ ((HR.out.below HB.out).more HB.out.size) HM9.out).mono ?_
  rw [HV.out]
  rintro e w1 ⟨rfl, hb⟩
  replace R0 := Lib.hid (R0.out.below hb R0.out.lt)
  replace HB := Lib.hid (HB.out.trans (hb.mono HB.out.size))
  clear hb
  have k0 := R0.out.cell 0
  have k1 := R0.out.cell 1
  have k2 := R0.out.cell 2
  have k3 := R0.out.cell 3
  have k4 := R0.out.cell 4
  have k5 := R0.out.cell 5
  have f0 := R0.out.frozen 0
  have f1 := R0.out.frozen 1
  have f2 := R0.out.frozen 2
  have f3 := R0.out.frozen 3
  have f4 := R0.out.frozen 4
  have f5 := R0.out.frozen 5
  simp at k0 k1 k2 k3 k4 k5
  go_wp2_with (go_at_call 74; (first | (with_reducible refine (HN _).mono ?_)); rintro e w' ⟨rfl, rfl⟩)
  exact bodyPost_ret (read_row rfl _ _ _ w.heap.size #[.int .i64 0, .int .i64 0, .int .u32 0, .int .u32 0, .int .u64 0, .string ByteArray.empty] rfl (load_page (six_at R0.out))) rfl ⟨rfl, six_below HB.out (Nat.le_refl _)⟩
set_option maxRecDepth 100000 in
set_option maxHeartbeats 6400000 in
theorem fpage10_C1 (size : Int) (n next tx : Nat) (A : Option Addr) (m c : Nat) (l : List Nat) (w : World) (hr : Reads w w.heap.size 1 A m (ucells l)) (hm : m ≤ 1000000) (h0 : next ≠ 0) (hnx : numB next = true) (hv : fitU size l = false) :
    Calls Try.prog 41 #[.int .i64 size, .int .u32 n, .int .u32 next, .int .u64 tx, .slice A m c] w fun e w' => e = .returned (.tuple #[.agg #[.int .i64 0, .int .i64 0, .int .u32 0, .int .u32 0, .int .u64 0, .string ByteArray.empty], .int .i64 2]) ∧ Below w.heap.size w w' := by
  have hx1 : (next == 0) = false := by simp; omega
  have hx2 : ((next : Int) == 0) = false := by simp; omega
  have HX := fun w => (fnum_any next w).mono (R' := fun e w' => e = .returned (.bool (numB next)) ∧ w = w') fun _ _ ⟨a, b⟩ => ⟨a, b.symm⟩
  rw [hnx] at HX
  clear h0 hnx
  have HV := Lib.hid hv
  clear hv
  obtain ⟨hzp, hi⟩ := zero_of_info infoPg
  have HI := Lib.hid hi
  obtain ⟨w0, hw0⟩ : ∃ x, x = w.alloc (.cells #[.int .i64 0, .int .i64 0, .int .u32 0, .int .u32 0, .int .u64 0, .string ByteArray.empty] 40) := ⟨_, rfl⟩
  have R0 := Lib.hid (show Blk w0 w.heap.size 40 #[.int .i64 0, .int .i64 0, .int .u32 0, .int .u32 0, .int .u64 0, .string ByteArray.empty] by rw [hw0]; exact Blk.new _ _ _)
  have HB := Lib.hid (show Below w.heap.size w w0 by rw [hw0]; exact (Below.refl _ _).alloc (Nat.le_refl _) _)
  have HR := Lib.hid hr
  have HM9 := Lib.hid hm
  have HL := Lib.hid (ulen hr)
  clear hr hm
  clear hi
  go_enter Try.func41, Try.ntmps41
  go_upto_region 1 with fail
  rw [← hw0]
  clear hw0
  go_wp2_with (go_at_call 74; (first | (with_reducible refine (HX _).mono ?_)); rintro e w' ⟨rfl, rfl⟩)
  refine (fvalid_any size A m c l _ ((HR.out.below HB.out).more HB.out.size) HM9.out).mono ?_
  rw [HV.out]
  rintro e w1 ⟨rfl, hb⟩
  replace R0 := Lib.hid (R0.out.below hb R0.out.lt)
  replace HB := Lib.hid (HB.out.trans (hb.mono HB.out.size))
  clear hb
  have k0 := R0.out.cell 0
  have k1 := R0.out.cell 1
  have k2 := R0.out.cell 2
  have k3 := R0.out.cell 3
  have k4 := R0.out.cell 4
  have k5 := R0.out.cell 5
  have f0 := R0.out.frozen 0
  have f1 := R0.out.frozen 1
  have f2 := R0.out.frozen 2
  have f3 := R0.out.frozen 3
  have f4 := R0.out.frozen 4
  have f5 := R0.out.frozen 5
  simp at k0 k1 k2 k3 k4 k5
  go_wp2_with fail
  exact bodyPost_ret (read_row rfl _ _ _ w.heap.size #[.int .i64 0, .int .i64 0, .int .u32 0, .int .u32 0, .int .u64 0, .string ByteArray.empty] rfl (load_page (six_at R0.out))) rfl ⟨rfl, six_below HB.out (Nat.le_refl _)⟩
set_option maxRecDepth 100000 in
set_option maxHeartbeats 6400000 in
theorem fpage10_C2 (size : Int) (n next tx : Nat) (A : Option Addr) (m c : Nat) (l : List Nat) (w : World) (hr : Reads w w.heap.size 1 A m (ucells l)) (hm : m ≤ 1000000) (h0 : next ≠ 0) (hnx : numB next = true) (hv : fitU size l = true) (hn : numB n = false) :
    Calls Try.prog 41 #[.int .i64 size, .int .u32 n, .int .u32 next, .int .u64 tx, .slice A m c] w fun e w' => e = .returned (.tuple #[.agg #[.int .i64 0, .int .i64 0, .int .u32 0, .int .u32 0, .int .u64 0, .string ByteArray.empty], .int .i64 2]) ∧ Below w.heap.size w w' := by
  have hx1 : (next == 0) = false := by simp; omega
  have hx2 : ((next : Int) == 0) = false := by simp; omega
  have HX := fun w => (fnum_any next w).mono (R' := fun e w' => e = .returned (.bool (numB next)) ∧ w = w') fun _ _ ⟨a, b⟩ => ⟨a, b.symm⟩
  rw [hnx] at HX
  clear h0 hnx
  have HV := Lib.hid hv
  clear hv
  have HN := fun w => (fnum_any n w).mono (R' := fun e w' => e = .returned (.bool (numB n)) ∧ w = w') fun _ _ ⟨a, b⟩ => ⟨a, b.symm⟩
  rw [hn] at HN
  clear hn
  obtain ⟨hzp, hi⟩ := zero_of_info infoPg
  have HI := Lib.hid hi
  obtain ⟨w0, hw0⟩ : ∃ x, x = w.alloc (.cells #[.int .i64 0, .int .i64 0, .int .u32 0, .int .u32 0, .int .u64 0, .string ByteArray.empty] 40) := ⟨_, rfl⟩
  have R0 := Lib.hid (show Blk w0 w.heap.size 40 #[.int .i64 0, .int .i64 0, .int .u32 0, .int .u32 0, .int .u64 0, .string ByteArray.empty] by rw [hw0]; exact Blk.new _ _ _)
  have HB := Lib.hid (show Below w.heap.size w w0 by rw [hw0]; exact (Below.refl _ _).alloc (Nat.le_refl _) _)
  have HR := Lib.hid hr
  have HM9 := Lib.hid hm
  have HL := Lib.hid (ulen hr)
  clear hr hm
  clear hi
  go_enter Try.func41, Try.ntmps41
  go_upto_region 1 with fail
  rw [← hw0]
  clear hw0
  go_wp2_with (go_at_call 74; (first | (with_reducible refine (HX _).mono ?_)); rintro e w' ⟨rfl, rfl⟩)
  refine (fvalid_any size A m c l _ ((HR.out.below HB.out).more HB.out.size) HM9.out).mono ?_
  rw [HV.out]
  rintro e w1 ⟨rfl, hb⟩
  replace R0 := Lib.hid (R0.out.below hb R0.out.lt)
  replace HB := Lib.hid (HB.out.trans (hb.mono HB.out.size))
  clear hb
  have k0 := R0.out.cell 0
  have k1 := R0.out.cell 1
  have k2 := R0.out.cell 2
  have k3 := R0.out.cell 3
  have k4 := R0.out.cell 4
  have k5 := R0.out.cell 5
  have f0 := R0.out.frozen 0
  have f1 := R0.out.frozen 1
  have f2 := R0.out.frozen 2
  have f3 := R0.out.frozen 3
  have f4 := R0.out.frozen 4
  have f5 := R0.out.frozen 5
  simp at k0 k1 k2 k3 k4 k5
  go_wp2_with (go_at_call 74; (first | (with_reducible refine (HN _).mono ?_)); rintro e w' ⟨rfl, rfl⟩)
  exact bodyPost_ret (read_row rfl _ _ _ w.heap.size #[.int .i64 0, .int .i64 0, .int .u32 0, .int .u32 0, .int .u64 0, .string ByteArray.empty] rfl (load_page (six_at R0.out))) rfl ⟨rfl, six_below HB.out (Nat.le_refl _)⟩
set_option maxRecDepth 100000 in
set_option maxHeartbeats 6400000 in
theorem fpage10_C4 (size : Int) (n next tx : Nat) (A : Option Addr) (m c : Nat) (l : List Nat) (w : World) (hr : Reads w w.heap.size 1 A m (ucells l)) (hm : m ≤ 1000000) (h0 : next ≠ 0) (hnx : numB next = true) (hv : fitU size l = true) (hn : numB n = true) (h4 : ¬ tx ≤ 4611686018427387904) :
    Calls Try.prog 41 #[.int .i64 size, .int .u32 n, .int .u32 next, .int .u64 tx, .slice A m c] w fun e w' => e = .returned (.tuple #[.agg #[.int .i64 0, .int .i64 0, .int .u32 0, .int .u32 0, .int .u64 0, .string ByteArray.empty], .int .i64 2]) ∧ Below w.heap.size w w' := by
  have hx1 : (next == 0) = false := by simp; omega
  have hx2 : ((next : Int) == 0) = false := by simp; omega
  have HX := fun w => (fnum_any next w).mono (R' := fun e w' => e = .returned (.bool (numB next)) ∧ w = w') fun _ _ ⟨a, b⟩ => ⟨a, b.symm⟩
  rw [hnx] at HX
  clear h0 hnx
  have HV := Lib.hid hv
  clear hv
  have HN := fun w => (fnum_any n w).mono (R' := fun e w' => e = .returned (.bool (numB n)) ∧ w = w') fun _ _ ⟨a, b⟩ => ⟨a, b.symm⟩
  rw [hn] at HN
  have htx : decide ((4611686018427387904 : Int) < tx) = true := by simp; omega
  clear hn h4
  obtain ⟨hzp, hi⟩ := zero_of_info infoPg
  have HI := Lib.hid hi
  obtain ⟨w0, hw0⟩ : ∃ x, x = w.alloc (.cells #[.int .i64 0, .int .i64 0, .int .u32 0, .int .u32 0, .int .u64 0, .string ByteArray.empty] 40) := ⟨_, rfl⟩
  have R0 := Lib.hid (show Blk w0 w.heap.size 40 #[.int .i64 0, .int .i64 0, .int .u32 0, .int .u32 0, .int .u64 0, .string ByteArray.empty] by rw [hw0]; exact Blk.new _ _ _)
  have HB := Lib.hid (show Below w.heap.size w w0 by rw [hw0]; exact (Below.refl _ _).alloc (Nat.le_refl _) _)
  have HR := Lib.hid hr
  have HM9 := Lib.hid hm
  have HL := Lib.hid (ulen hr)
  clear hr hm
  clear hi
  go_enter Try.func41, Try.ntmps41
  go_upto_region 1 with fail
  rw [← hw0]
  clear hw0
  go_wp2_with (go_at_call 74; (first | (with_reducible refine (HX _).mono ?_)); rintro e w' ⟨rfl, rfl⟩)
  refine (fvalid_any size A m c l _ ((HR.out.below HB.out).more HB.out.size) HM9.out).mono ?_
  rw [HV.out]
  rintro e w1 ⟨rfl, hb⟩
  replace R0 := Lib.hid (R0.out.below hb R0.out.lt)
  replace HB := Lib.hid (HB.out.trans (hb.mono HB.out.size))
  clear hb
  have k0 := R0.out.cell 0
  have k1 := R0.out.cell 1
  have k2 := R0.out.cell 2
  have k3 := R0.out.cell 3
  have k4 := R0.out.cell 4
  have k5 := R0.out.cell 5
  have f0 := R0.out.frozen 0
  have f1 := R0.out.frozen 1
  have f2 := R0.out.frozen 2
  have f3 := R0.out.frozen 3
  have f4 := R0.out.frozen 4
  have f5 := R0.out.frozen 5
  simp at k0 k1 k2 k3 k4 k5
  go_wp2_with (go_at_call 74; (first | (with_reducible refine (HN _).mono ?_)); rintro e w' ⟨rfl, rfl⟩)
  exact bodyPost_ret (read_row rfl _ _ _ w.heap.size #[.int .i64 0, .int .i64 0, .int .u32 0, .int .u32 0, .int .u64 0, .string ByteArray.empty] rfl (load_page (six_at R0.out))) rfl ⟨rfl, six_below HB.out (Nat.le_refl _)⟩
set_option maxRecDepth 100000 in
set_option maxHeartbeats 6400000 in
theorem fpage10_A5 (size : Int) (n next tx : Nat) (A : Option Addr) (m c : Nat) (l : List Nat) (w : World) (hr : Reads w w.heap.size 1 A m (ucells l)) (hm : m ≤ 1000000) (h0 : next = 0) (hv : fitU size l = true) (hn : numB n = true) (h4 : tx ≤ 4611686018427387904) (hg : goodSize size = false) :
    Calls Try.prog 41 #[.int .i64 size, .int .u32 n, .int .u32 next, .int .u64 tx, .slice A m c] w fun e w' => e = .returned (.tuple #[.agg #[.int .i64 0, .int .i64 0, .int .u32 0, .int .u32 0, .int .u64 0, .string ByteArray.empty], .int .i64 2]) ∧ Below w.heap.size w w' := by
  have hal : allU l = true := by unfold fitU at hv; rw [Bool.and_eq_true] at hv; exact hv.1
  have HLT := Lib.hid (fun a (ha : a ∈ l) => allU_lt hal ha)
  have HBd := fun (A' : Option Addr) (k c' : Nat) (w : World) => fbody_bad size A' k c' w hg
  have hx1 : (next == 0) = true := by simp; omega
  have hx2 : ((next : Int) == 0) = true := by simp; omega
  clear h0
  have HV := Lib.hid hv
  clear hv
  have HN := fun w => (fnum_any n w).mono (R' := fun e w' => e = .returned (.bool (numB n)) ∧ w = w') fun _ _ ⟨a, b⟩ => ⟨a, b.symm⟩
  rw [hn] at HN
  have htx : decide ((4611686018427387904 : Int) < tx) = false := by simp; omega
  clear hn h4 hg hal
  obtain ⟨hzp, hi⟩ := zero_of_info infoPg
  have HI := Lib.hid hi
  obtain ⟨w0, hw0⟩ : ∃ x, x = w.alloc (.cells #[.int .i64 0, .int .i64 0, .int .u32 0, .int .u32 0, .int .u64 0, .string ByteArray.empty] 40) := ⟨_, rfl⟩
  have R0 := Lib.hid (show Blk w0 w.heap.size 40 #[.int .i64 0, .int .i64 0, .int .u32 0, .int .u32 0, .int .u64 0, .string ByteArray.empty] by rw [hw0]; exact Blk.new _ _ _)
  have HB := Lib.hid (show Below w.heap.size w w0 by rw [hw0]; exact (Below.refl _ _).alloc (Nat.le_refl _) _)
  have HR := Lib.hid hr
  have HM9 := Lib.hid hm
  have HL := Lib.hid (ulen hr)
  clear hr hm
  clear hi
  go_enter Try.func41, Try.ntmps41
  go_upto_region 1 with fail
  rw [← hw0]
  clear hw0
  go_wp2_with fail
  refine (fvalid_any size A m c l _ ((HR.out.below HB.out).more HB.out.size) HM9.out).mono ?_
  rw [HV.out]
  rintro e w1 ⟨rfl, hb⟩
  replace R0 := Lib.hid (R0.out.below hb R0.out.lt)
  replace HB := Lib.hid (HB.out.trans (hb.mono HB.out.size))
  clear hb
  go_wp2_with (go_at_call 74; (first | (with_reducible refine (HN _).mono ?_)); rintro e w' ⟨rfl, rfl⟩)
  refine (flisted_any A m c l _ ((HR.out.below HB.out).more HB.out.size) HM9.out HLT.out).mono ?_
  rintro e w2 ⟨A', c', rfl, _, hb⟩
  replace R0 := Lib.hid (R0.out.below hb R0.out.lt)
  replace HB := Lib.hid (HB.out.trans (hb.mono HB.out.size))
  clear hb
  have k0 := R0.out.cell 0
  have k1 := R0.out.cell 1
  have k2 := R0.out.cell 2
  have k3 := R0.out.cell 3
  have k4 := R0.out.cell 4
  have k5 := R0.out.cell 5
  have f0 := R0.out.frozen 0
  have f1 := R0.out.frozen 1
  have f2 := R0.out.frozen 2
  have f3 := R0.out.frozen 3
  have f4 := R0.out.frozen 4
  have f5 := R0.out.frozen 5
  simp at k0 k1 k2 k3 k4 k5
  go_wp2_with (go_at_call 76; refine (HBd A' _ c' _).mono ?_; rintro e w' ⟨rfl, rfl⟩)
  exact bodyPost_ret (read_row rfl _ _ _ w.heap.size #[.int .i64 0, .int .i64 0, .int .u32 0, .int .u32 0, .int .u64 0, .string ByteArray.empty] rfl (load_page (six_at R0.out))) rfl ⟨rfl, six_below HB.out (Nat.le_refl _)⟩
set_option maxRecDepth 100000 in
set_option maxHeartbeats 6400000 in
theorem fpage10_C5 (size : Int) (n next tx : Nat) (A : Option Addr) (m c : Nat) (l : List Nat) (w : World) (hr : Reads w w.heap.size 1 A m (ucells l)) (hm : m ≤ 1000000) (h0 : next ≠ 0) (hnx : numB next = true) (hv : fitU size l = true) (hn : numB n = true) (h4 : tx ≤ 4611686018427387904) (hg : goodSize size = false) :
    Calls Try.prog 41 #[.int .i64 size, .int .u32 n, .int .u32 next, .int .u64 tx, .slice A m c] w fun e w' => e = .returned (.tuple #[.agg #[.int .i64 0, .int .i64 0, .int .u32 0, .int .u32 0, .int .u64 0, .string ByteArray.empty], .int .i64 2]) ∧ Below w.heap.size w w' := by
  have hal : allU l = true := by unfold fitU at hv; rw [Bool.and_eq_true] at hv; exact hv.1
  have HLT := Lib.hid (fun a (ha : a ∈ l) => allU_lt hal ha)
  have HBd := fun (A' : Option Addr) (k c' : Nat) (w : World) => fbody_bad size A' k c' w hg
  have hx1 : (next == 0) = false := by simp; omega
  have hx2 : ((next : Int) == 0) = false := by simp; omega
  have HX := fun w => (fnum_any next w).mono (R' := fun e w' => e = .returned (.bool (numB next)) ∧ w = w') fun _ _ ⟨a, b⟩ => ⟨a, b.symm⟩
  rw [hnx] at HX
  clear h0 hnx
  have HV := Lib.hid hv
  clear hv
  have HN := fun w => (fnum_any n w).mono (R' := fun e w' => e = .returned (.bool (numB n)) ∧ w = w') fun _ _ ⟨a, b⟩ => ⟨a, b.symm⟩
  rw [hn] at HN
  have htx : decide ((4611686018427387904 : Int) < tx) = false := by simp; omega
  clear hn h4 hg hal
  obtain ⟨hzp, hi⟩ := zero_of_info infoPg
  have HI := Lib.hid hi
  obtain ⟨w0, hw0⟩ : ∃ x, x = w.alloc (.cells #[.int .i64 0, .int .i64 0, .int .u32 0, .int .u32 0, .int .u64 0, .string ByteArray.empty] 40) := ⟨_, rfl⟩
  have R0 := Lib.hid (show Blk w0 w.heap.size 40 #[.int .i64 0, .int .i64 0, .int .u32 0, .int .u32 0, .int .u64 0, .string ByteArray.empty] by rw [hw0]; exact Blk.new _ _ _)
  have HB := Lib.hid (show Below w.heap.size w w0 by rw [hw0]; exact (Below.refl _ _).alloc (Nat.le_refl _) _)
  have HR := Lib.hid hr
  have HM9 := Lib.hid hm
  have HL := Lib.hid (ulen hr)
  clear hr hm
  clear hi
  go_enter Try.func41, Try.ntmps41
  go_upto_region 1 with fail
  rw [← hw0]
  clear hw0
  go_wp2_with (go_at_call 74; (first | (with_reducible refine (HX _).mono ?_)); rintro e w' ⟨rfl, rfl⟩)
  refine (fvalid_any size A m c l _ ((HR.out.below HB.out).more HB.out.size) HM9.out).mono ?_
  rw [HV.out]
  rintro e w1 ⟨rfl, hb⟩
  replace R0 := Lib.hid (R0.out.below hb R0.out.lt)
  replace HB := Lib.hid (HB.out.trans (hb.mono HB.out.size))
  clear hb
  go_wp2_with (go_at_call 74; (first | (with_reducible refine (HN _).mono ?_)); rintro e w' ⟨rfl, rfl⟩)
  refine (flisted_any A m c l _ ((HR.out.below HB.out).more HB.out.size) HM9.out HLT.out).mono ?_
  rintro e w2 ⟨A', c', rfl, _, hb⟩
  replace R0 := Lib.hid (R0.out.below hb R0.out.lt)
  replace HB := Lib.hid (HB.out.trans (hb.mono HB.out.size))
  clear hb
  have k0 := R0.out.cell 0
  have k1 := R0.out.cell 1
  have k2 := R0.out.cell 2
  have k3 := R0.out.cell 3
  have k4 := R0.out.cell 4
  have k5 := R0.out.cell 5
  have f0 := R0.out.frozen 0
  have f1 := R0.out.frozen 1
  have f2 := R0.out.frozen 2
  have f3 := R0.out.frozen 3
  have f4 := R0.out.frozen 4
  have f5 := R0.out.frozen 5
  simp at k0 k1 k2 k3 k4 k5
  go_wp2_with (go_at_call 76; refine (HBd A' _ c' _).mono ?_; rintro e w' ⟨rfl, rfl⟩)
  exact bodyPost_ret (read_row rfl _ _ _ w.heap.size #[.int .i64 0, .int .i64 0, .int .u32 0, .int .u32 0, .int .u64 0, .string ByteArray.empty] rfl (load_page (six_at R0.out))) rfl ⟨rfl, six_below HB.out (Nat.le_refl _)⟩
theorem fpage10_no (size : Int) (n next tx : Nat) (A : Option Addr) (m c : Nat) (l : List Nat) (w : World) (hr : Reads w w.heap.size 1 A m (ucells l)) (hm : m ≤ 1000000) (h : mayP10 size n next tx l = false) :
    Calls Try.prog 41 #[.int .i64 size, .int .u32 n, .int .u32 next, .int .u64 tx, .slice A m c] w fun e w' => e = .returned (.tuple #[.agg #[.int .i64 0, .int .i64 0, .int .u32 0, .int .u32 0, .int .u64 0, .string ByteArray.empty], .int .i64 2]) ∧ Below w.heap.size w w' := by
  rcases hv : fitU size l with _ | _
  · by_cases h0 : next = 0
    · exact fpage10_A1 size n next tx A m c l w hr hm h0 hv
    rcases hnx : numB next with _ | _
    · exact fpage10_B1 size n next tx A m c l w hr hm h0 hnx hv
    · exact fpage10_C1 size n next tx A m c l w hr hm h0 hnx hv
  rcases hn : numB n with _ | _
  · by_cases h0 : next = 0
    · exact fpage10_A2 size n next tx A m c l w hr hm h0 hv hn
    rcases hnx : numB next with _ | _
    · exact fpage10_B2 size n next tx A m c l w hr hm h0 hnx hv hn
    · exact fpage10_C2 size n next tx A m c l w hr hm h0 hnx hv hn
  have hv2 := hv
  unfold fitU at hv2
  rw [Bool.and_eq_true, Bool.and_eq_true] at hv2
  obtain ⟨h1, h2, h3⟩ := hv2
  by_cases h0 : next = 0
  · by_cases h4 : tx ≤ 4611686018427387904
    · rcases hg : goodSize size with _ | _
      · exact fpage10_A5 size n next tx A m c l w hr hm h0 hv hn h4 hg
      · exfalso
        rw [mayP10, hg, h1, h2, h3, hn, decide_eq_true h0, decide_eq_true h4] at h
        cases h
    · exact fpage10_A4 size n next tx A m c l w hr hm h0 hv hn h4
  rcases hnx : numB next with _ | _
  · exact fpage10_B3 size n next tx A m c l w hr hm h0 hnx hv hn
  by_cases h4 : tx ≤ 4611686018427387904
  · rcases hg : goodSize size with _ | _
    · exact fpage10_C5 size n next tx A m c l w hr hm h0 hnx hv hn h4 hg
    · exfalso
      rw [mayP10, hg, h1, h2, h3, hn, hnx, decide_eq_true h4] at h
      simp at h
  · exact fpage10_C4 size n next tx A m c l w hr hm h0 hnx hv hn h4
set_option maxRecDepth 100000 in
set_option maxHeartbeats 6400000 in
theorem fpage10_yesA (size : Int) (z n next tx : Nat) (A : Option Addr) (m c : Nat) (l : List Nat) (w : World) (hr : Reads w w.heap.size 1 A m (ucells l)) (hm : m ≤ 1000000) (B : ByteArray) (hsz : size = z) (h0 : next = 0) (hv : fitU size l = true) (hn : numB n = true) (h4 : tx ≤ 4611686018427387904) (hg : goodSize z = true) (h3 : 4 * m ≤ z - 24) (hB : B = freeBody z l) :
    Calls Try.prog 41 #[.int .i64 size, .int .u32 n, .int .u32 next, .int .u64 tx, .slice A m c] w fun e w' => e = .returned (.tuple #[.agg #[.int .i64 6, .int .i64 m, .int .u32 n, .int .u32 next, .int .u64 tx, .string B], .int .i64 0]) ∧ Below w.heap.size w w' := by
  have hal : allU l = true := by unfold fitU at hv; rw [Bool.and_eq_true] at hv; exact hv.1
  have hlm := ulen hr
  have HLT := Lib.hid (fun a (ha : a ∈ l) => allU_lt hal ha)
  have HBd := fun (A' : Option Addr) (c' : Nat) (w' : World) (h' : Reads w' w'.heap.size 1 A' (4 * m) (bcells (bytesU l))) => fbody_ok z A' (4 * m) c' (bytesU l) w' hg h' h3
  have hcb : (⟨(bytesU l ++ List.replicate (z - 24 - 4 * m) 0).toArray⟩ : ByteArray) = B := by rw [hB, freeBody, hlm]
  rw [hcb, ← hsz] at HBd
  have hx1 : (next == 0) = true := by simp; omega
  have hx2 : ((next : Int) == 0) = true := by simp; omega
  clear h0
  have HV := Lib.hid hv
  clear hv
  have HN := fun w => (fnum_any n w).mono (R' := fun e w' => e = .returned (.bool (numB n)) ∧ w = w') fun _ _ ⟨a, b⟩ => ⟨a, b.symm⟩
  rw [hn] at HN
  have htx : decide ((4611686018427387904 : Int) < tx) = false := by simp; omega
  clear hn h4 hg hal hcb hB h3 hsz hlm
  obtain ⟨hzp, hi⟩ := zero_of_info infoPg
  have HI := Lib.hid hi
  obtain ⟨w0, hw0⟩ : ∃ x, x = w.alloc (.cells #[.int .i64 0, .int .i64 0, .int .u32 0, .int .u32 0, .int .u64 0, .string ByteArray.empty] 40) := ⟨_, rfl⟩
  have R0 := Lib.hid (show Blk w0 w.heap.size 40 #[.int .i64 0, .int .i64 0, .int .u32 0, .int .u32 0, .int .u64 0, .string ByteArray.empty] by rw [hw0]; exact Blk.new _ _ _)
  have HB := Lib.hid (show Below w.heap.size w w0 by rw [hw0]; exact (Below.refl _ _).alloc (Nat.le_refl _) _)
  have HR := Lib.hid hr
  have HM9 := Lib.hid hm
  have HL := Lib.hid (ulen hr)
  clear hr hm
  clear hi
  go_enter Try.func41, Try.ntmps41
  go_upto_region 1 with fail
  rw [← hw0]
  clear hw0
  go_wp2_with fail
  refine (fvalid_any size A m c l _ ((HR.out.below HB.out).more HB.out.size) HM9.out).mono ?_
  rw [HV.out]
  rintro e w1 ⟨rfl, hb⟩
  replace R0 := Lib.hid (R0.out.below hb R0.out.lt)
  replace HB := Lib.hid (HB.out.trans (hb.mono HB.out.size))
  clear hb
  go_wp2_with (go_at_call 74; (first | (with_reducible refine (HN _).mono ?_)); rintro e w' ⟨rfl, rfl⟩)
  refine (flisted_any A m c l _ ((HR.out.below HB.out).more HB.out.size) HM9.out HLT.out).mono ?_
  rintro e w2 ⟨A', c', rfl, hrd, hb⟩
  replace R0 := Lib.hid (R0.out.below hb R0.out.lt)
  replace HB := Lib.hid (HB.out.trans (hb.mono HB.out.size))
  have HRD := Lib.hid hrd
  clear hb hrd
  go_wp2_with fail
  refine (HBd A' c' _ HRD.out).mono ?_
  rintro e w3 ⟨rfl, hb⟩
  replace R0 := Lib.hid (R0.out.below hb R0.out.lt)
  replace HB := Lib.hid (HB.out.trans (hb.mono HB.out.size))
  clear hb HBd HRD
  have k0 := R0.out.cell 0
  have k1 := R0.out.cell 1
  have k2 := R0.out.cell 2
  have k3 := R0.out.cell 3
  have k4 := R0.out.cell 4
  have k5 := R0.out.cell 5
  have f0 := R0.out.frozen 0
  have f1 := R0.out.frozen 1
  have f2 := R0.out.frozen 2
  have f3 := R0.out.frozen 3
  have f4 := R0.out.frozen 4
  have f5 := R0.out.frozen 5
  simp at k0 k1 k2 k3 k4 k5
  go_wp2_with fail
  exact bodyPost_ret (read_row rfl _ _ _ w.heap.size #[.int .i64 6, .int .i64 m, .int .u32 n, .int .u32 next, .int .u64 tx, .string B] rfl (load_page (six_at R0.out))) rfl ⟨rfl, six_below HB.out (Nat.le_refl _)⟩
set_option maxRecDepth 100000 in
set_option maxHeartbeats 6400000 in
theorem fpage10_yesC (size : Int) (z n next tx : Nat) (A : Option Addr) (m c : Nat) (l : List Nat) (w : World) (hr : Reads w w.heap.size 1 A m (ucells l)) (hm : m ≤ 1000000) (B : ByteArray) (hsz : size = z) (h0 : next ≠ 0) (hnx : numB next = true) (hv : fitU size l = true) (hn : numB n = true) (h4 : tx ≤ 4611686018427387904) (hg : goodSize z = true) (h3 : 4 * m ≤ z - 24) (hB : B = freeBody z l) :
    Calls Try.prog 41 #[.int .i64 size, .int .u32 n, .int .u32 next, .int .u64 tx, .slice A m c] w fun e w' => e = .returned (.tuple #[.agg #[.int .i64 6, .int .i64 m, .int .u32 n, .int .u32 next, .int .u64 tx, .string B], .int .i64 0]) ∧ Below w.heap.size w w' := by
  have hal : allU l = true := by unfold fitU at hv; rw [Bool.and_eq_true] at hv; exact hv.1
  have hlm := ulen hr
  have HLT := Lib.hid (fun a (ha : a ∈ l) => allU_lt hal ha)
  have HBd := fun (A' : Option Addr) (c' : Nat) (w' : World) (h' : Reads w' w'.heap.size 1 A' (4 * m) (bcells (bytesU l))) => fbody_ok z A' (4 * m) c' (bytesU l) w' hg h' h3
  have hcb : (⟨(bytesU l ++ List.replicate (z - 24 - 4 * m) 0).toArray⟩ : ByteArray) = B := by rw [hB, freeBody, hlm]
  rw [hcb, ← hsz] at HBd
  have hx1 : (next == 0) = false := by simp; omega
  have hx2 : ((next : Int) == 0) = false := by simp; omega
  have HX := fun w => (fnum_any next w).mono (R' := fun e w' => e = .returned (.bool (numB next)) ∧ w = w') fun _ _ ⟨a, b⟩ => ⟨a, b.symm⟩
  rw [hnx] at HX
  clear h0 hnx
  have HV := Lib.hid hv
  clear hv
  have HN := fun w => (fnum_any n w).mono (R' := fun e w' => e = .returned (.bool (numB n)) ∧ w = w') fun _ _ ⟨a, b⟩ => ⟨a, b.symm⟩
  rw [hn] at HN
  have htx : decide ((4611686018427387904 : Int) < tx) = false := by simp; omega
  clear hn h4 hg hal hcb hB h3 hsz hlm
  obtain ⟨hzp, hi⟩ := zero_of_info infoPg
  have HI := Lib.hid hi
  obtain ⟨w0, hw0⟩ : ∃ x, x = w.alloc (.cells #[.int .i64 0, .int .i64 0, .int .u32 0, .int .u32 0, .int .u64 0, .string ByteArray.empty] 40) := ⟨_, rfl⟩
  have R0 := Lib.hid (show Blk w0 w.heap.size 40 #[.int .i64 0, .int .i64 0, .int .u32 0, .int .u32 0, .int .u64 0, .string ByteArray.empty] by rw [hw0]; exact Blk.new _ _ _)
  have HB := Lib.hid (show Below w.heap.size w w0 by rw [hw0]; exact (Below.refl _ _).alloc (Nat.le_refl _) _)
  have HR := Lib.hid hr
  have HM9 := Lib.hid hm
  have HL := Lib.hid (ulen hr)
  clear hr hm
  clear hi
  go_enter Try.func41, Try.ntmps41
  go_upto_region 1 with fail
  rw [← hw0]
  clear hw0
  go_wp2_with (go_at_call 74; (first | (with_reducible refine (HX _).mono ?_)); rintro e w' ⟨rfl, rfl⟩)
  refine (fvalid_any size A m c l _ ((HR.out.below HB.out).more HB.out.size) HM9.out).mono ?_
  rw [HV.out]
  rintro e w1 ⟨rfl, hb⟩
  replace R0 := Lib.hid (R0.out.below hb R0.out.lt)
  replace HB := Lib.hid (HB.out.trans (hb.mono HB.out.size))
  clear hb
  go_wp2_with (go_at_call 74; (first | (with_reducible refine (HN _).mono ?_)); rintro e w' ⟨rfl, rfl⟩)
  refine (flisted_any A m c l _ ((HR.out.below HB.out).more HB.out.size) HM9.out HLT.out).mono ?_
  rintro e w2 ⟨A', c', rfl, hrd, hb⟩
  replace R0 := Lib.hid (R0.out.below hb R0.out.lt)
  replace HB := Lib.hid (HB.out.trans (hb.mono HB.out.size))
  have HRD := Lib.hid hrd
  clear hb hrd
  go_wp2_with fail
  refine (HBd A' c' _ HRD.out).mono ?_
  rintro e w3 ⟨rfl, hb⟩
  replace R0 := Lib.hid (R0.out.below hb R0.out.lt)
  replace HB := Lib.hid (HB.out.trans (hb.mono HB.out.size))
  clear hb HBd HRD
  have k0 := R0.out.cell 0
  have k1 := R0.out.cell 1
  have k2 := R0.out.cell 2
  have k3 := R0.out.cell 3
  have k4 := R0.out.cell 4
  have k5 := R0.out.cell 5
  have f0 := R0.out.frozen 0
  have f1 := R0.out.frozen 1
  have f2 := R0.out.frozen 2
  have f3 := R0.out.frozen 3
  have f4 := R0.out.frozen 4
  have f5 := R0.out.frozen 5
  simp at k0 k1 k2 k3 k4 k5
  go_wp2_with fail
  exact bodyPost_ret (read_row rfl _ _ _ w.heap.size #[.int .i64 6, .int .i64 m, .int .u32 n, .int .u32 next, .int .u64 tx, .string B] rfl (load_page (six_at R0.out))) rfl ⟨rfl, six_below HB.out (Nat.le_refl _)⟩
theorem fpage10_yes (z n next tx : Nat) (A : Option Addr) (m c : Nat) (l : List Nat) (w : World) (hr : Reads w w.heap.size 1 A m (ucells l)) (h : mayP10 z n next tx l = true) :
    Calls Try.prog 41 #[.int .i64 z, .int .u32 n, .int .u32 next, .int .u64 tx, .slice A m c] w fun e w' => e = .returned (.tuple #[.agg #[.int .i64 6, .int .i64 m, .int .u32 n, .int .u32 next, .int .u64 tx, .string (freeBody z l)], .int .i64 0]) ∧ Below w.heap.size w w' := by
  obtain ⟨hg, h1, h2, h3, hn, h5, h4⟩ := mayP10_parts h
  have hl := ulen hr
  have hgp := good_nat hg
  obtain ⟨z', hzz, hz1, hz2, _⟩ := hgp
  have hmo := mostN_good hg
  have hv : fitU z l = true := by
    unfold fitU
    rw [h1, h2, hmo, decide_eq_true h3]
    rfl
  by_cases h0 : next = 0
  · exact fpage10_yesA z z n next tx A m c l w hr (by omega) _ rfl h0 hv hn h4 hg (by omega) rfl
  · rcases h5 with h5 | h5
    · exact absurd h5 h0
    · exact fpage10_yesC z z n next tx A m c l w hr (by omega) _ rfl h0 h5 hv hn h4 hg (by omega) rfl
end Go.Proofs.Ytabhhccdbfjigaa
