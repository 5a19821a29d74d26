/-
  Contract of the reference's Page of layer 10: the page of free numbers. (Written by wip/tools/gen_ref10page.py.)
-/
import Derived.Test.YtabhhccdbfjigaaJ19
namespace Go.Proofs.Ytabhhccdbfjigaa
open Go.RowKit
open Go.Lib hiding intOf
set_option linter.unusedVariables false
set_option linter.unusedSimpArgs false
attribute [local go_sem ↓] Go.wp_at_zero Go.wp_at_succ

set_option maxRecDepth 100000 in
set_option maxHeartbeats 6400000 in
theorem rpage10_no0 (size : Int) (n next tx : Nat) (A : Option Addr) (m c : Nat) (l : List Nat) (w : World) (hr : Reads w w.heap.size 1 A m (ucells l)) (hm : m ≤ maxLen) (hg : goodSize size = false) :
    Calls Try.prog 56 #[.int .i64 size, .int .u32 n, .int .u32 next, .int .u64 tx, .slice A m c] w fun e w' => e = .returned (.tuple #[.agg #[.int .i64 0, .int .i64 0, .int .u32 0, .int .u32 0, .int .u64 0, .string ByteArray.empty], .int .i64 2]) ∧ Below w.heap.size w w' := by
  have HG := fun w => rgood_any size w
  rw [hg] at HG
  clear hg
  obtain ⟨hzp, hi⟩ := zero_of_info infoPg
  have HI := Lib.hid hi
  obtain ⟨w0, hw0⟩ : ∃ x, x = w.alloc (.cells #[.int .i64 0, .int .i64 0, .int .u32 0, .int .u32 0, .int .u64 0, .string ByteArray.empty] 40) := ⟨_, rfl⟩
  have R0 := Lib.hid (show Blk w0 w.heap.size 40 #[.int .i64 0, .int .i64 0, .int .u32 0, .int .u32 0, .int .u64 0, .string ByteArray.empty] by rw [hw0]; exact Blk.new _ _ _)
  have HB := Lib.hid (show Below w.heap.size w w0 by rw [hw0]; exact (Below.refl _ _).alloc (Nat.le_refl _) _)
  have HR := Lib.hid (hr.below HB.out)
  have HM9 := Lib.hid hm
  have HL := Lib.hid (ulen hr)
  clear hr hm
  clear hi
  go_enter Try.func56, Try.ntmps56
  go_upto_region 1 with fail
  rw [← hw0]
  clear hw0
  have k0 := R0.out.cell 0
  have k1 := R0.out.cell 1
  have k2 := R0.out.cell 2
  have k3 := R0.out.cell 3
  have k4 := R0.out.cell 4
  have k5 := R0.out.cell 5
  have f0 := R0.out.frozen 0
  have f1 := R0.out.frozen 1
  have f2 := R0.out.frozen 2
  have f3 := R0.out.frozen 3
  have f4 := R0.out.frozen 4
  have f5 := R0.out.frozen 5
  simp at k0 k1 k2 k3 k4 k5
  go_wp2_with (go_at_call 49; refine (HG _).mono ?_; rintro e w' ⟨rfl, rfl⟩)
  exact bodyPost_ret (read_row rfl _ _ _ w.heap.size #[.int .i64 0, .int .i64 0, .int .u32 0, .int .u32 0, .int .u64 0, .string ByteArray.empty] rfl (load_page (six_at R0.out))) rfl ⟨rfl, six_below HB.out (Nat.le_refl _)⟩
set_option maxRecDepth 100000 in
set_option maxHeartbeats 6400000 in
theorem rpage10_no1 (size : Int) (n next tx : Nat) (A : Option Addr) (m c : Nat) (l : List Nat) (w : World) (hr : Reads w w.heap.size 1 A m (ucells l)) (hm : m ≤ maxLen) (hg : goodSize size = true) (h1 : (allU l && ascU l) = false) :
    Calls Try.prog 56 #[.int .i64 size, .int .u32 n, .int .u32 next, .int .u64 tx, .slice A m c] w fun e w' => e = .returned (.tuple #[.agg #[.int .i64 0, .int .i64 0, .int .u32 0, .int .u32 0, .int .u64 0, .string ByteArray.empty], .int .i64 2]) ∧ Below w.heap.size w w' := by
  have HG := fun w => rgood_any size w
  rw [hg] at HG
  have HAL := Lib.hid h1
  clear hg h1
  obtain ⟨hzp, hi⟩ := zero_of_info infoPg
  have HI := Lib.hid hi
  obtain ⟨w0, hw0⟩ : ∃ x, x = w.alloc (.cells #[.int .i64 0, .int .i64 0, .int .u32 0, .int .u32 0, .int .u64 0, .string ByteArray.empty] 40) := ⟨_, rfl⟩
  have R0 := Lib.hid (show Blk w0 w.heap.size 40 #[.int .i64 0, .int .i64 0, .int .u32 0, .int .u32 0, .int .u64 0, .string ByteArray.empty] by rw [hw0]; exact Blk.new _ _ _)
  have HB := Lib.hid (show Below w.heap.size w w0 by rw [hw0]; exact (Below.refl _ _).alloc (Nat.le_refl _) _)
  have HR := Lib.hid (hr.below HB.out)
  have HM9 := Lib.hid hm
  have HL := Lib.hid (ulen hr)
  clear hr hm
  clear hi
  go_enter Try.func56, Try.ntmps56
  go_upto_region 1 with fail
  rw [← hw0]
  clear hw0
  go_wp2_with (go_at_call 49; refine (HG _).mono ?_; rintro e w' ⟨rfl, rfl⟩)
  refine (rnumbers_any A m c l _ HR.out HM9.out).mono ?_
  rw [HAL.out]
  rintro e w1 ⟨rfl, q, hq⟩
  have hb : Below w0.heap.size w0 w1 := by rw [hq]; exact below_drewN (Below.refl _ _) q
  replace R0 := Lib.hid (R0.out.below hb R0.out.lt)
  replace HR := Lib.hid (HR.out.below (hb.mono HB.out.size))
  replace HB := Lib.hid (HB.out.trans (hb.mono HB.out.size))
  clear hb hq
  have k0 := R0.out.cell 0
  have k1 := R0.out.cell 1
  have k2 := R0.out.cell 2
  have k3 := R0.out.cell 3
  have k4 := R0.out.cell 4
  have k5 := R0.out.cell 5
  have f0 := R0.out.frozen 0
  have f1 := R0.out.frozen 1
  have f2 := R0.out.frozen 2
  have f3 := R0.out.frozen 3
  have f4 := R0.out.frozen 4
  have f5 := R0.out.frozen 5
  simp at k0 k1 k2 k3 k4 k5
  go_wp2_with fail
  exact bodyPost_ret (read_row rfl _ _ _ w.heap.size #[.int .i64 0, .int .i64 0, .int .u32 0, .int .u32 0, .int .u64 0, .string ByteArray.empty] rfl (load_page (six_at R0.out))) rfl ⟨rfl, six_below HB.out (Nat.le_refl _)⟩
set_option maxRecDepth 100000 in
set_option maxHeartbeats 6400000 in
theorem rpage10_no2 (size : Int) (n next tx : Nat) (A : Option Addr) (m c : Nat) (l : List Nat) (w : World) (hr : Reads w w.heap.size 1 A m (ucells l)) (hm : m ≤ maxLen) (hg : goodSize size = true) (h1 : (allU l && ascU l) = true) (h2 : ¬ m ≤ mostN size) :
    Calls Try.prog 56 #[.int .i64 size, .int .u32 n, .int .u32 next, .int .u64 tx, .slice A m c] w fun e w' => e = .returned (.tuple #[.agg #[.int .i64 0, .int .i64 0, .int .u32 0, .int .u32 0, .int .u64 0, .string ByteArray.empty], .int .i64 2]) ∧ Below w.heap.size w w' := by
  have HG := fun w => rgood_any size w
  rw [hg] at HG
  have HAL := Lib.hid h1
  have HM := fun w => rmost10_any size w
  obtain ⟨mo, hmo⟩ : ∃ mo, mo = mostN size := ⟨_, rfl⟩
  rw [← hmo] at HM h2
  have hlo : decide ((mo : Int) < (m : Int)) = true := by simp; omega
  have hlo2 : decide (mo < m) = true := by simp; omega
  clear hg h1 h2 hmo
  obtain ⟨hzp, hi⟩ := zero_of_info infoPg
  have HI := Lib.hid hi
  obtain ⟨w0, hw0⟩ : ∃ x, x = w.alloc (.cells #[.int .i64 0, .int .i64 0, .int .u32 0, .int .u32 0, .int .u64 0, .string ByteArray.empty] 40) := ⟨_, rfl⟩
  have R0 := Lib.hid (show Blk w0 w.heap.size 40 #[.int .i64 0, .int .i64 0, .int .u32 0, .int .u32 0, .int .u64 0, .string ByteArray.empty] by rw [hw0]; exact Blk.new _ _ _)
  have HB := Lib.hid (show Below w.heap.size w w0 by rw [hw0]; exact (Below.refl _ _).alloc (Nat.le_refl _) _)
  have HR := Lib.hid (hr.below HB.out)
  have HM9 := Lib.hid hm
  have HL := Lib.hid (ulen hr)
  clear hr hm
  clear hi
  go_enter Try.func56, Try.ntmps56
  go_upto_region 1 with fail
  rw [← hw0]
  clear hw0
  go_wp2_with (go_at_call 49; refine (HG _).mono ?_; rintro e w' ⟨rfl, rfl⟩)
  refine (rnumbers_any A m c l _ HR.out HM9.out).mono ?_
  rw [HAL.out]
  rintro e w1 ⟨rfl, q, hq⟩
  have hb : Below w0.heap.size w0 w1 := by rw [hq]; exact below_drewN (Below.refl _ _) q
  replace R0 := Lib.hid (R0.out.below hb R0.out.lt)
  replace HR := Lib.hid (HR.out.below (hb.mono HB.out.size))
  replace HB := Lib.hid (HB.out.trans (hb.mono HB.out.size))
  clear hb hq
  have k0 := R0.out.cell 0
  have k1 := R0.out.cell 1
  have k2 := R0.out.cell 2
  have k3 := R0.out.cell 3
  have k4 := R0.out.cell 4
  have k5 := R0.out.cell 5
  have f0 := R0.out.frozen 0
  have f1 := R0.out.frozen 1
  have f2 := R0.out.frozen 2
  have f3 := R0.out.frozen 3
  have f4 := R0.out.frozen 4
  have f5 := R0.out.frozen 5
  simp at k0 k1 k2 k3 k4 k5
  go_wp2_with (go_at_call 55; refine (HM _).mono ?_; rintro e w' ⟨rfl, rfl⟩)
  exact bodyPost_ret (read_row rfl _ _ _ w.heap.size #[.int .i64 0, .int .i64 0, .int .u32 0, .int .u32 0, .int .u64 0, .string ByteArray.empty] rfl (load_page (six_at R0.out))) rfl ⟨rfl, six_below HB.out (Nat.le_refl _)⟩
set_option maxRecDepth 100000 in
set_option maxHeartbeats 6400000 in
theorem rpage10_no3 (size : Int) (n next tx : Nat) (A : Option Addr) (m c : Nat) (l : List Nat) (w : World) (hr : Reads w w.heap.size 1 A m (ucells l)) (hm : m ≤ maxLen) (hg : goodSize size = true) (h1 : (allU l && ascU l) = true) (h2 : m ≤ mostN size) (hn : numB n = false) :
    Calls Try.prog 56 #[.int .i64 size, .int .u32 n, .int .u32 next, .int .u64 tx, .slice A m c] w fun e w' => e = .returned (.tuple #[.agg #[.int .i64 0, .int .i64 0, .int .u32 0, .int .u32 0, .int .u64 0, .string ByteArray.empty], .int .i64 2]) ∧ Below w.heap.size w w' := by
  have HG := fun w => rgood_any size w
  rw [hg] at HG
  have HAL := Lib.hid h1
  have HM := fun w => rmost10_any size w
  obtain ⟨mo, hmo⟩ : ∃ mo, mo = mostN size := ⟨_, rfl⟩
  rw [← hmo] at HM h2
  have hlo : decide ((mo : Int) < (m : Int)) = false := by simp; omega
  have hlo2 : decide (mo < m) = false := by simp; omega
  have HN := fun w => (rnumB_any n w).mono (R' := fun e w' => e = .returned (.bool (numB n)) ∧ w = w') fun _ _ ⟨a, b⟩ => ⟨a, b.symm⟩
  rw [hn] at HN
  clear hg h1 h2 hmo hn
  obtain ⟨hzp, hi⟩ := zero_of_info infoPg
  have HI := Lib.hid hi
  obtain ⟨w0, hw0⟩ : ∃ x, x = w.alloc (.cells #[.int .i64 0, .int .i64 0, .int .u32 0, .int .u32 0, .int .u64 0, .string ByteArray.empty] 40) := ⟨_, rfl⟩
  have R0 := Lib.hid (show Blk w0 w.heap.size 40 #[.int .i64 0, .int .i64 0, .int .u32 0, .int .u32 0, .int .u64 0, .string ByteArray.empty] by rw [hw0]; exact Blk.new _ _ _)
  have HB := Lib.hid (show Below w.heap.size w w0 by rw [hw0]; exact (Below.refl _ _).alloc (Nat.le_refl _) _)
  have HR := Lib.hid (hr.below HB.out)
  have HM9 := Lib.hid hm
  have HL := Lib.hid (ulen hr)
  clear hr hm
  clear hi
  go_enter Try.func56, Try.ntmps56
  go_upto_region 1 with fail
  rw [← hw0]
  clear hw0
  go_wp2_with (go_at_call 49; refine (HG _).mono ?_; rintro e w' ⟨rfl, rfl⟩)
  refine (rnumbers_any A m c l _ HR.out HM9.out).mono ?_
  rw [HAL.out]
  rintro e w1 ⟨rfl, q, hq⟩
  have hb : Below w0.heap.size w0 w1 := by rw [hq]; exact below_drewN (Below.refl _ _) q
  replace R0 := Lib.hid (R0.out.below hb R0.out.lt)
  replace HR := Lib.hid (HR.out.below (hb.mono HB.out.size))
  replace HB := Lib.hid (HB.out.trans (hb.mono HB.out.size))
  clear hb hq
  have k0 := R0.out.cell 0
  have k1 := R0.out.cell 1
  have k2 := R0.out.cell 2
  have k3 := R0.out.cell 3
  have k4 := R0.out.cell 4
  have k5 := R0.out.cell 5
  have f0 := R0.out.frozen 0
  have f1 := R0.out.frozen 1
  have f2 := R0.out.frozen 2
  have f3 := R0.out.frozen 3
  have f4 := R0.out.frozen 4
  have f5 := R0.out.frozen 5
  simp at k0 k1 k2 k3 k4 k5
  go_wp2_with (first | (go_at_call 55; refine (HM _).mono ?_; rintro e w' ⟨rfl, rfl⟩) | (go_at_call 59; (first | (with_reducible refine (HN _).mono ?_)); rintro e w' ⟨rfl, rfl⟩))
  exact bodyPost_ret (read_row rfl _ _ _ w.heap.size #[.int .i64 0, .int .i64 0, .int .u32 0, .int .u32 0, .int .u64 0, .string ByteArray.empty] rfl (load_page (six_at R0.out))) rfl ⟨rfl, six_below HB.out (Nat.le_refl _)⟩
set_option maxRecDepth 100000 in
set_option maxHeartbeats 6400000 in
theorem rpage10_no4 (size : Int) (n next tx : Nat) (A : Option Addr) (m c : Nat) (l : List Nat) (w : World) (hr : Reads w w.heap.size 1 A m (ucells l)) (hm : m ≤ maxLen) (hg : goodSize size = true) (h1 : (allU l && ascU l) = true) (h2 : m ≤ mostN size) (hn : numB n = true) (h0 : next ≠ 0) (hnx : numB next = false) :
    Calls Try.prog 56 #[.int .i64 size, .int .u32 n, .int .u32 next, .int .u64 tx, .slice A m c] w fun e w' => e = .returned (.tuple #[.agg #[.int .i64 0, .int .i64 0, .int .u32 0, .int .u32 0, .int .u64 0, .string ByteArray.empty], .int .i64 2]) ∧ Below w.heap.size w w' := by
  have HG := fun w => rgood_any size w
  rw [hg] at HG
  have HAL := Lib.hid h1
  have HM := fun w => rmost10_any size w
  obtain ⟨mo, hmo⟩ : ∃ mo, mo = mostN size := ⟨_, rfl⟩
  rw [← hmo] at HM h2
  have hlo : decide ((mo : Int) < (m : Int)) = false := by simp; omega
  have hlo2 : decide (mo < m) = false := by simp; omega
  have HN := fun w => (rnumB_any n w).mono (R' := fun e w' => e = .returned (.bool (numB n)) ∧ w = w') fun _ _ ⟨a, b⟩ => ⟨a, b.symm⟩
  rw [hn] at HN
  have HX := fun w => (rnumB_any next w).mono (R' := fun e w' => e = .returned (.bool (numB next)) ∧ w = w') fun _ _ ⟨a, b⟩ => ⟨a, b.symm⟩
  rw [hnx] at HX
  have hx0 : ((next : Int) != 0) = true := by simp; omega
  have hx1 : (next != 0) = true := by simp; omega
  have hx2 : ((next : Int) == 0) = false := by simp; omega
  clear hg h1 h2 hmo hn h0 hnx
  obtain ⟨hzp, hi⟩ := zero_of_info infoPg
  have HI := Lib.hid hi
  obtain ⟨w0, hw0⟩ : ∃ x, x = w.alloc (.cells #[.int .i64 0, .int .i64 0, .int .u32 0, .int .u32 0, .int .u64 0, .string ByteArray.empty] 40) := ⟨_, rfl⟩
  have R0 := Lib.hid (show Blk w0 w.heap.size 40 #[.int .i64 0, .int .i64 0, .int .u32 0, .int .u32 0, .int .u64 0, .string ByteArray.empty] by rw [hw0]; exact Blk.new _ _ _)
  have HB := Lib.hid (show Below w.heap.size w w0 by rw [hw0]; exact (Below.refl _ _).alloc (Nat.le_refl _) _)
  have HR := Lib.hid (hr.below HB.out)
  have HM9 := Lib.hid hm
  have HL := Lib.hid (ulen hr)
  clear hr hm
  clear hi
  go_enter Try.func56, Try.ntmps56
  go_upto_region 1 with fail
  rw [← hw0]
  clear hw0
  go_wp2_with (go_at_call 49; refine (HG _).mono ?_; rintro e w' ⟨rfl, rfl⟩)
  refine (rnumbers_any A m c l _ HR.out HM9.out).mono ?_
  rw [HAL.out]
  rintro e w1 ⟨rfl, q, hq⟩
  have hb : Below w0.heap.size w0 w1 := by rw [hq]; exact below_drewN (Below.refl _ _) q
  replace R0 := Lib.hid (R0.out.below hb R0.out.lt)
  replace HR := Lib.hid (HR.out.below (hb.mono HB.out.size))
  replace HB := Lib.hid (HB.out.trans (hb.mono HB.out.size))
  clear hb hq
  have k0 := R0.out.cell 0
  have k1 := R0.out.cell 1
  have k2 := R0.out.cell 2
  have k3 := R0.out.cell 3
  have k4 := R0.out.cell 4
  have k5 := R0.out.cell 5
  have f0 := R0.out.frozen 0
  have f1 := R0.out.frozen 1
  have f2 := R0.out.frozen 2
  have f3 := R0.out.frozen 3
  have f4 := R0.out.frozen 4
  have f5 := R0.out.frozen 5
  simp at k0 k1 k2 k3 k4 k5
  go_wp2_with (first | (go_at_call 55; refine (HM _).mono ?_; rintro e w' ⟨rfl, rfl⟩) | (go_at_call 59; (first | (with_reducible refine (HN _).mono ?_) | (with_reducible refine (HX _).mono ?_)); rintro e w' ⟨rfl, rfl⟩))
  exact bodyPost_ret (read_row rfl _ _ _ w.heap.size #[.int .i64 0, .int .i64 0, .int .u32 0, .int .u32 0, .int .u64 0, .string ByteArray.empty] rfl (load_page (six_at R0.out))) rfl ⟨rfl, six_below HB.out (Nat.le_refl _)⟩
set_option maxRecDepth 100000 in
set_option maxHeartbeats 6400000 in
theorem rpage10_no5 (size : Int) (n next tx : Nat) (A : Option Addr) (m c : Nat) (l : List Nat) (w : World) (hr : Reads w w.heap.size 1 A m (ucells l)) (hm : m ≤ maxLen) (hg : goodSize size = true) (h1 : (allU l && ascU l) = true) (h2 : m ≤ mostN size) (hn : numB n = true) (h0 : next = 0) (h4 : ¬ tx ≤ 4611686018427387904) :
    Calls Try.prog 56 #[.int .i64 size, .int .u32 n, .int .u32 next, .int .u64 tx, .slice A m c] w fun e w' => e = .returned (.tuple #[.agg #[.int .i64 0, .int .i64 0, .int .u32 0, .int .u32 0, .int .u64 0, .string ByteArray.empty], .int .i64 2]) ∧ Below w.heap.size w w' := by
  have HG := fun w => rgood_any size w
  rw [hg] at HG
  have HAL := Lib.hid h1
  have HM := fun w => rmost10_any size w
  obtain ⟨mo, hmo⟩ : ∃ mo, mo = mostN size := ⟨_, rfl⟩
  rw [← hmo] at HM h2
  have hlo : decide ((mo : Int) < (m : Int)) = false := by simp; omega
  have hlo2 : decide (mo < m) = false := by simp; omega
  have HN := fun w => (rnumB_any n w).mono (R' := fun e w' => e = .returned (.bool (numB n)) ∧ w = w') fun _ _ ⟨a, b⟩ => ⟨a, b.symm⟩
  rw [hn] at HN
  have hx0 : ((next : Int) != 0) = false := by simp; omega
  have hx1 : (next != 0) = false := by simp; omega
  have hx2 : ((next : Int) == 0) = true := by simp; omega
  have htx : decide ((4611686018427387904 : Int) < tx) = true := by simp; omega
  clear hg h1 h2 hmo hn h0 h4
  obtain ⟨hzp, hi⟩ := zero_of_info infoPg
  have HI := Lib.hid hi
  obtain ⟨w0, hw0⟩ : ∃ x, x = w.alloc (.cells #[.int .i64 0, .int .i64 0, .int .u32 0, .int .u32 0, .int .u64 0, .string ByteArray.empty] 40) := ⟨_, rfl⟩
  have R0 := Lib.hid (show Blk w0 w.heap.size 40 #[.int .i64 0, .int .i64 0, .int .u32 0, .int .u32 0, .int .u64 0, .string ByteArray.empty] by rw [hw0]; exact Blk.new _ _ _)
  have HB := Lib.hid (show Below w.heap.size w w0 by rw [hw0]; exact (Below.refl _ _).alloc (Nat.le_refl _) _)
  have HR := Lib.hid (hr.below HB.out)
  have HM9 := Lib.hid hm
  have HL := Lib.hid (ulen hr)
  clear hr hm
  clear hi
  go_enter Try.func56, Try.ntmps56
  go_upto_region 1 with fail
  rw [← hw0]
  clear hw0
  go_wp2_with (go_at_call 49; refine (HG _).mono ?_; rintro e w' ⟨rfl, rfl⟩)
  refine (rnumbers_any A m c l _ HR.out HM9.out).mono ?_
  rw [HAL.out]
  rintro e w1 ⟨rfl, q, hq⟩
  have hb : Below w0.heap.size w0 w1 := by rw [hq]; exact below_drewN (Below.refl _ _) q
  replace R0 := Lib.hid (R0.out.below hb R0.out.lt)
  replace HR := Lib.hid (HR.out.below (hb.mono HB.out.size))
  replace HB := Lib.hid (HB.out.trans (hb.mono HB.out.size))
  clear hb hq
  have k0 := R0.out.cell 0
  have k1 := R0.out.cell 1
  have k2 := R0.out.cell 2
  have k3 := R0.out.cell 3
  have k4 := R0.out.cell 4
  have k5 := R0.out.cell 5
  have f0 := R0.out.frozen 0
  have f1 := R0.out.frozen 1
  have f2 := R0.out.frozen 2
  have f3 := R0.out.frozen 3
  have f4 := R0.out.frozen 4
  have f5 := R0.out.frozen 5
  simp at k0 k1 k2 k3 k4 k5
  go_wp2_with (first | (go_at_call 55; refine (HM _).mono ?_; rintro e w' ⟨rfl, rfl⟩) | (go_at_call 59; (first | (with_reducible refine (HN _).mono ?_)); rintro e w' ⟨rfl, rfl⟩))
  exact bodyPost_ret (read_row rfl _ _ _ w.heap.size #[.int .i64 0, .int .i64 0, .int .u32 0, .int .u32 0, .int .u64 0, .string ByteArray.empty] rfl (load_page (six_at R0.out))) rfl ⟨rfl, six_below HB.out (Nat.le_refl _)⟩
set_option maxRecDepth 100000 in
set_option maxHeartbeats 6400000 in
theorem rpage10_no6 (size : Int) (n next tx : Nat) (A : Option Addr) (m c : Nat) (l : List Nat) (w : World) (hr : Reads w w.heap.size 1 A m (ucells l)) (hm : m ≤ maxLen) (hg : goodSize size = true) (h1 : (allU l && ascU l) = true) (h2 : m ≤ mostN size) (hn : numB n = true) (h0 : next ≠ 0) (hnx : numB next = true) (h4 : ¬ tx ≤ 4611686018427387904) :
    Calls Try.prog 56 #[.int .i64 size, .int .u32 n, .int .u32 next, .int .u64 tx, .slice A m c] w fun e w' => e = .returned (.tuple #[.agg #[.int .i64 0, .int .i64 0, .int .u32 0, .int .u32 0, .int .u64 0, .string ByteArray.empty], .int .i64 2]) ∧ Below w.heap.size w w' := by
  have HG := fun w => rgood_any size w
  rw [hg] at HG
  have HAL := Lib.hid h1
  have HM := fun w => rmost10_any size w
  obtain ⟨mo, hmo⟩ : ∃ mo, mo = mostN size := ⟨_, rfl⟩
  rw [← hmo] at HM h2
  have hlo : decide ((mo : Int) < (m : Int)) = false := by simp; omega
  have hlo2 : decide (mo < m) = false := by simp; omega
  have HN := fun w => (rnumB_any n w).mono (R' := fun e w' => e = .returned (.bool (numB n)) ∧ w = w') fun _ _ ⟨a, b⟩ => ⟨a, b.symm⟩
  rw [hn] at HN
  have HX := fun w => (rnumB_any next w).mono (R' := fun e w' => e = .returned (.bool (numB next)) ∧ w = w') fun _ _ ⟨a, b⟩ => ⟨a, b.symm⟩
  rw [hnx] at HX
  have hx0 : ((next : Int) != 0) = true := by simp; omega
  have hx1 : (next != 0) = true := by simp; omega
  have hx2 : ((next : Int) == 0) = false := by simp; omega
  have htx : decide ((4611686018427387904 : Int) < tx) = true := by simp; omega
  clear hg h1 h2 hmo hn h0 hnx h4
  obtain ⟨hzp, hi⟩ := zero_of_info infoPg
  have HI := Lib.hid hi
  obtain ⟨w0, hw0⟩ : ∃ x, x = w.alloc (.cells #[.int .i64 0, .int .i64 0, .int .u32 0, .int .u32 0, .int .u64 0, .string ByteArray.empty] 40) := ⟨_, rfl⟩
  have R0 := Lib.hid (show Blk w0 w.heap.size 40 #[.int .i64 0, .int .i64 0, .int .u32 0, .int .u32 0, .int .u64 0, .string ByteArray.empty] by rw [hw0]; exact Blk.new _ _ _)
  have HB := Lib.hid (show Below w.heap.size w w0 by rw [hw0]; exact (Below.refl _ _).alloc (Nat.le_refl _) _)
  have HR := Lib.hid (hr.below HB.out)
  have HM9 := Lib.hid hm
  have HL := Lib.hid (ulen hr)
  clear hr hm
  clear hi
  go_enter Try.func56, Try.ntmps56
  go_upto_region 1 with fail
  rw [← hw0]
  clear hw0
  go_wp2_with (go_at_call 49; refine (HG _).mono ?_; rintro e w' ⟨rfl, rfl⟩)
  refine (rnumbers_any A m c l _ HR.out HM9.out).mono ?_
  rw [HAL.out]
  rintro e w1 ⟨rfl, q, hq⟩
  have hb : Below w0.heap.size w0 w1 := by rw [hq]; exact below_drewN (Below.refl _ _) q
  replace R0 := Lib.hid (R0.out.below hb R0.out.lt)
  replace HR := Lib.hid (HR.out.below (hb.mono HB.out.size))
  replace HB := Lib.hid (HB.out.trans (hb.mono HB.out.size))
  clear hb hq
  have k0 := R0.out.cell 0
  have k1 := R0.out.cell 1
  have k2 := R0.out.cell 2
  have k3 := R0.out.cell 3
  have k4 := R0.out.cell 4
  have k5 := R0.out.cell 5
  have f0 := R0.out.frozen 0
  have f1 := R0.out.frozen 1
  have f2 := R0.out.frozen 2
  have f3 := R0.out.frozen 3
  have f4 := R0.out.frozen 4
  have f5 := R0.out.frozen 5
  simp at k0 k1 k2 k3 k4 k5
  go_wp2_with (first | (go_at_call 55; refine (HM _).mono ?_; rintro e w' ⟨rfl, rfl⟩) | (go_at_call 59; (first | (with_reducible refine (HN _).mono ?_) | (with_reducible refine (HX _).mono ?_)); rintro e w' ⟨rfl, rfl⟩))
  exact bodyPost_ret (read_row rfl _ _ _ w.heap.size #[.int .i64 0, .int .i64 0, .int .u32 0, .int .u32 0, .int .u64 0, .string ByteArray.empty] rfl (load_page (six_at R0.out))) rfl ⟨rfl, six_below HB.out (Nat.le_refl _)⟩
theorem rpage10_no (size : Int) (n next tx : Nat) (A : Option Addr) (m c : Nat) (l : List Nat) (w : World) (hr : Reads w w.heap.size 1 A m (ucells l)) (hm : m ≤ maxLen) (h : mayP10 size n next tx l = false) :
    Calls Try.prog 56 #[.int .i64 size, .int .u32 n, .int .u32 next, .int .u64 tx, .slice A m c] w fun e w' => e = .returned (.tuple #[.agg #[.int .i64 0, .int .i64 0, .int .u32 0, .int .u32 0, .int .u64 0, .string ByteArray.empty], .int .i64 2]) ∧ Below w.heap.size w w' := by
  have hl := ulen hr
  rcases hg : goodSize size with _ | _
  · exact rpage10_no0 size n next tx A m c l w hr hm hg
  rcases h1 : (allU l && ascU l) with _ | _
  · exact rpage10_no1 size n next tx A m c l w hr hm hg h1
  by_cases h2 : m ≤ mostN size
  rotate_left
  · exact rpage10_no2 size n next tx A m c l w hr hm hg h1 h2
  rcases hn : numB n with _ | _
  · exact rpage10_no3 size n next tx A m c l w hr hm hg h1 h2 hn
  have h12 := h1
  rw [Bool.and_eq_true] at h12
  by_cases h0 : next = 0
  · by_cases h4 : tx ≤ 4611686018427387904
    · exfalso
      rw [mayP10, hg, h12.1, h12.2, hn, hl, decide_eq_true h2, decide_eq_true h0, decide_eq_true h4] at h
      cases h
    · exact rpage10_no5 size n next tx A m c l w hr hm hg h1 h2 hn h0 h4
  · rcases hnx : numB next with _ | _
    · exact rpage10_no4 size n next tx A m c l w hr hm hg h1 h2 hn h0 hnx
    by_cases h4 : tx ≤ 4611686018427387904
    · exfalso
      rw [mayP10, hg, h12.1, h12.2, hn, hl, hnx, decide_eq_true h2, decide_eq_true h4] at h
      simp at h
    · exact rpage10_no6 size n next tx A m c l w hr hm hg h1 h2 hn h0 hnx h4
set_option maxRecDepth 100000 in
set_option maxHeartbeats 6400000 in
theorem rpage10_yesa (size z n next tx : Nat) (A : Option Addr) (m c : Nat) (l : List Nat) (B : ByteArray) (w : World) (hsz : size = z) (hr : Reads w w.heap.size 1 A m (ucells l)) (hg : goodSize size = true) (h1 : (allU l && ascU l) = true) (h2 : m ≤ mostN size) (h3 : 4 * m ≤ z - 24) (hz9 : z ≤ 4096) (hn : numB n = true) (h4 : tx ≤ 4611686018427387904) (hB : B = freeBody z l) (h0 : next = 0) :
    Calls Try.prog 56 #[.int .i64 size, .int .u32 n, .int .u32 next, .int .u64 tx, .slice A m c] w fun e w' => e = .returned (.tuple #[.agg #[.int .i64 6, .int .i64 m, .int .u32 n, .int .u32 next, .int .u64 tx, .string B], .int .i64 0]) ∧ Below w.heap.size w w' := by
  have hm : m ≤ maxLen := by unfold maxLen; omega
  have hal : allU l = true := by rw [Bool.and_eq_true] at h1; exact h1.1
  have hlm := ulen hr
  have HG := fun w => rgood_any size w
  rw [hg] at HG
  have HAL := Lib.hid h1
  have HM := fun w => rmost10_any size w
  obtain ⟨mo, hmo⟩ : ∃ mo, mo = mostN size := ⟨_, rfl⟩
  rw [← hmo] at HM h2
  have hlo : decide ((mo : Int) < (m : Int)) = false := by simp; omega
  have hlo2 : decide (mo < m) = false := by simp; omega
  have HN := fun w => (rnumB_any n w).mono (R' := fun e w' => e = .returned (.bool (numB n)) ∧ w = w') fun _ _ ⟨a, b⟩ => ⟨a, b.symm⟩
  rw [hn] at HN
  have htx : decide ((4611686018427387904 : Int) < tx) = false := by simp; omega
  have hx0 : ((next : Int) != 0) = false := by simp; omega
  have hx1 : (next != 0) = false := by simp; omega
  have hx2 : ((next : Int) == 0) = true := by simp; omega
  clear h0
  have HBd := fun (A' : Option Addr) (c' : Nat) (w' : World) (h' : Reads w' w'.heap.size 1 A' (4 * m) (bcells (bytesU l))) => rbody_ok size A' (4 * m) c' (bytesU l) B w' hg h' (by omega) (by rw [hB, ← hsz, freeBody, hlm])
  have HLT := Lib.hid (fun i (hi : i < m) => allU_lt hal (List.mem_of_getElem? (nthU_at (show i < l.length by omega))))
  have hm3 : 4 * m ≤ 4096 := by omega
  obtain ⟨hzp, hi⟩ := zero_of_info infoPg
  have HI := Lib.hid hi
  obtain ⟨w0, hw0⟩ : ∃ x, x = w.alloc (.cells #[.int .i64 0, .int .i64 0, .int .u32 0, .int .u32 0, .int .u64 0, .string ByteArray.empty] 40) := ⟨_, rfl⟩
  have R0 := Lib.hid (show Blk w0 w.heap.size 40 #[.int .i64 0, .int .i64 0, .int .u32 0, .int .u32 0, .int .u64 0, .string ByteArray.empty] by rw [hw0]; exact Blk.new _ _ _)
  have HB := Lib.hid (show Below w.heap.size w w0 by rw [hw0]; exact (Below.refl _ _).alloc (Nat.le_refl _) _)
  have HR := Lib.hid (hr.below HB.out)
  have HM9 := Lib.hid hm
  have HL := Lib.hid (ulen hr)
  clear hr hm
  clear hi hg h1 h2 h3 hn h4 hB hmo hal hlm hsz hz9
  go_enter Try.func56, Try.ntmps56
  go_upto_region 1 with fail
  rw [← hw0]
  clear hw0
  go_wp2_with (go_at_call 49; refine (HG _).mono ?_; rintro e w' ⟨rfl, rfl⟩)
  refine (rnumbers_any A m c l _ HR.out HM9.out).mono ?_
  rw [HAL.out]
  rintro e w1 ⟨rfl, q, hq⟩
  have hb : Below w0.heap.size w0 w1 := by rw [hq]; exact below_drewN (Below.refl _ _) q
  replace R0 := Lib.hid (R0.out.below hb R0.out.lt)
  replace HR := Lib.hid (HR.out.below (hb.mono HB.out.size))
  replace HB := Lib.hid (HB.out.trans (hb.mono HB.out.size))
  clear hb hq
  have k0 := R0.out.cell 0
  have k1 := R0.out.cell 1
  have k2 := R0.out.cell 2
  have k3 := R0.out.cell 3
  have k4 := R0.out.cell 4
  have k5 := R0.out.cell 5
  have f0 := R0.out.frozen 0
  have f1 := R0.out.frozen 1
  have f2 := R0.out.frozen 2
  have f3 := R0.out.frozen 3
  have f4 := R0.out.frozen 4
  have f5 := R0.out.frozen 5
  simp at k0 k1 k2 k3 k4 k5
  skip
  go_wp2_with (first | (go_at_call 55; refine (HM _).mono ?_; rintro e w' ⟨rfl, rfl⟩) | (go_at_call 59; (first | (with_reducible refine (HN _).mono ?_)); rintro e w' ⟨rfl, rfl⟩))
  clear HM HN htx hlo hlo2 hx0 hx1 hx2 k0 k1 k2 k3 k4 k5 f0 f1 f2 f3 f4 f5
  go_loopw [12, 13] (fun b i wr => ∃ (k : Nat) (A' : Option Addr) (c' : Nat), k ≤ m ∧ i = .int .i64 k ∧ b = .slice A' (4 * k) c' ∧ Hid (Reads wr wr.heap.size 1 A' (4 * k) (bcells (bytesU (l.take k)))) ∧ Hid (Reads wr w.heap.size 1 A m (ucells l)) ∧ Hid (Blk wr w.heap.size 40 #[.int .i64 0, .int .i64 0, .int .u32 0, .int .u32 0, .int .u64 0, .string ByteArray.empty]) ∧ Hid (Below w.heap.size w wr)) (fun _ i _ => m - (intOf i).toNat)
  case atStart => exact ⟨0, none, 0, Nat.zero_le _, rfl, rfl, Lib.hid (by simpa [bytesU, bcells] using Reads.none_), HR, R0, HB⟩
  case round =>
    clear HR R0 HB
    obtain ⟨k, A', c', hk, rfl, rfl, HD, HR, R0, HB⟩ := hrel
    by_cases hlt : k < m
    · obtain ⟨ad, rfl, hab, hc0⟩ := ureads_at HR.out hlt
      have hv := HLT.out k hlt
      have HAT := Lib.hid (nthU_at (show k < l.length by rw [HL.out]; exact hlt))
      obtain ⟨a, ha⟩ : ∃ a, a = nthU l k := ⟨_, rfl⟩
      rw [← ha] at hc0 hv HAT
      have hwa : IntKind.u64.wrap (a : Int) = (a : Int) := u64_nat a (by omega)
      have hk0 : (0 : Int) ≤ k := by omega
      have hk1 : (k : Int) < m := by omega
      clear ha hab hv
      go_wp2_with fail
      refine (rput_yes A' (4 * k) c' a 4 _ _ HD.out (by omega) (by decide) (by decide)).mono ?_
      rintro e w2 ⟨v2, rfl, hown, hb⟩
      obtain ⟨A2, c2, rfl, _, _, _⟩ := own_form hown
      have hd2 := Reads.of_own hown
      rw [← bytesU_snoc, show l.take k ++ [a] = l.take (k + 1) by
        have h := HAT.out
        obtain ⟨h1, h2⟩ := List.getElem?_eq_some_iff.1 h
        rw [List.take_succ_eq_append_getElem h1, h2], show 4 * k + 4 = 4 * (k + 1) by omega] at hd2
      have HD2 := Lib.hid hd2
      have HR2 := Lib.hid (HR.out.below (hb.mono HB.out.size))
      have R2 := Lib.hid (R0.out.below hb R0.out.lt)
      have HB2 := Lib.hid (HB.out.trans (hb.mono HB.out.size))
      have hse : 4 * k + 4 = 4 * (k + 1) := by omega
      rw [hse]
      have HSE := Lib.hid hse
      clear hb hown hd2 hse HD HR R0 HB hc0
      go_wp2_with fail
      go_roundw
      case rel =>
        first
          | exact ⟨k + 1, A2, c2, by omega, by go_num, rfl, HD2, HR2, R2, HB2⟩
          | ((repeat apply Exists.intro); exact ⟨⟨k + 1, A2, c2, by omega, by go_num, rfl, HD2, HR2, R2, HB2⟩, rfl⟩)
      case measure => simp [intOf]; omega
    · obtain rfl : k = m := by omega
      have ht : l.take k = l := List.take_of_length_le (by rw [HL.out]; exact Nat.le_refl _)
      rw [ht] at HD
      clear hlt ht
      go_wp2_with fail
      refine (HBd A' c' _ HD.out).mono ?_
      rintro e w2 ⟨rfl, hb⟩
      replace R0 := Lib.hid (R0.out.below hb R0.out.lt)
      replace HB := Lib.hid (HB.out.trans (hb.mono HB.out.size))
      clear hb HBd
      have k0 := R0.out.cell 0
      have k1 := R0.out.cell 1
      have k2 := R0.out.cell 2
      have k3 := R0.out.cell 3
      have k4 := R0.out.cell 4
      have k5 := R0.out.cell 5
      have f0 := R0.out.frozen 0
      have f1 := R0.out.frozen 1
      have f2 := R0.out.frozen 2
      have f3 := R0.out.frozen 3
      have f4 := R0.out.frozen 4
      have f5 := R0.out.frozen 5
      simp at k0 k1 k2 k3 k4 k5
      go_wp2_with fail
      exact bodyPost_ret (read_row rfl _ _ _ w.heap.size #[.int .i64 6, .int .i64 k, .int .u32 n, .int .u32 next, .int .u64 tx, .string B] rfl (load_page (six_at R0.out))) rfl ⟨rfl, six_below HB.out (Nat.le_refl _)⟩
set_option maxRecDepth 100000 in
set_option maxHeartbeats 6400000 in
theorem rpage10_yesb (size z n next tx : Nat) (A : Option Addr) (m c : Nat) (l : List Nat) (B : ByteArray) (w : World) (hsz : size = z) (hr : Reads w w.heap.size 1 A m (ucells l)) (hg : goodSize size = true) (h1 : (allU l && ascU l) = true) (h2 : m ≤ mostN size) (h3 : 4 * m ≤ z - 24) (hz9 : z ≤ 4096) (hn : numB n = true) (h4 : tx ≤ 4611686018427387904) (hB : B = freeBody z l) (h0 : next ≠ 0) (hnx : numB next = true) :
    Calls Try.prog 56 #[.int .i64 size, .int .u32 n, .int .u32 next, .int .u64 tx, .slice A m c] w fun e w' => e = .returned (.tuple #[.agg #[.int .i64 6, .int .i64 m, .int .u32 n, .int .u32 next, .int .u64 tx, .string B], .int .i64 0]) ∧ Below w.heap.size w w' := by
  have hm : m ≤ maxLen := by unfold maxLen; omega
  have hal : allU l = true := by rw [Bool.and_eq_true] at h1; exact h1.1
  have hlm := ulen hr
  have HG := fun w => rgood_any size w
  rw [hg] at HG
  have HAL := Lib.hid h1
  have HM := fun w => rmost10_any size w
  obtain ⟨mo, hmo⟩ : ∃ mo, mo = mostN size := ⟨_, rfl⟩
  rw [← hmo] at HM h2
  have hlo : decide ((mo : Int) < (m : Int)) = false := by simp; omega
  have hlo2 : decide (mo < m) = false := by simp; omega
  have HN := fun w => (rnumB_any n w).mono (R' := fun e w' => e = .returned (.bool (numB n)) ∧ w = w') fun _ _ ⟨a, b⟩ => ⟨a, b.symm⟩
  rw [hn] at HN
  have htx : decide ((4611686018427387904 : Int) < tx) = false := by simp; omega
  have HX := fun w => (rnumB_any next w).mono (R' := fun e w' => e = .returned (.bool (numB next)) ∧ w = w') fun _ _ ⟨a, b⟩ => ⟨a, b.symm⟩
  rw [hnx] at HX
  have hx0 : ((next : Int) != 0) = true := by simp; omega
  have hx1 : (next != 0) = true := by simp; omega
  have hx2 : ((next : Int) == 0) = false := by simp; omega
  clear h0 hnx
  have HBd := fun (A' : Option Addr) (c' : Nat) (w' : World) (h' : Reads w' w'.heap.size 1 A' (4 * m) (bcells (bytesU l))) => rbody_ok size A' (4 * m) c' (bytesU l) B w' hg h' (by omega) (by rw [hB, ← hsz, freeBody, hlm])
  have HLT := Lib.hid (fun i (hi : i < m) => allU_lt hal (List.mem_of_getElem? (nthU_at (show i < l.length by omega))))
  have hm3 : 4 * m ≤ 4096 := by omega
  obtain ⟨hzp, hi⟩ := zero_of_info infoPg
  have HI := Lib.hid hi
  obtain ⟨w0, hw0⟩ : ∃ x, x = w.alloc (.cells #[.int .i64 0, .int .i64 0, .int .u32 0, .int .u32 0, .int .u64 0, .string ByteArray.empty] 40) := ⟨_, rfl⟩
  have R0 := Lib.hid (show Blk w0 w.heap.size 40 #[.int .i64 0, .int .i64 0, .int .u32 0, .int .u32 0, .int .u64 0, .string ByteArray.empty] by rw [hw0]; exact Blk.new _ _ _)
  have HB := Lib.hid (show Below w.heap.size w w0 by rw [hw0]; exact (Below.refl _ _).alloc (Nat.le_refl _) _)
  have HR := Lib.hid (hr.below HB.out)
  have HM9 := Lib.hid hm
  have HL := Lib.hid (ulen hr)
  clear hr hm
  clear hi hg h1 h2 h3 hn h4 hB hmo hal hlm hsz hz9
  go_enter Try.func56, Try.ntmps56
  go_upto_region 1 with fail
  rw [← hw0]
  clear hw0
  go_wp2_with (go_at_call 49; refine (HG _).mono ?_; rintro e w' ⟨rfl, rfl⟩)
  refine (rnumbers_any A m c l _ HR.out HM9.out).mono ?_
  rw [HAL.out]
  rintro e w1 ⟨rfl, q, hq⟩
  have hb : Below w0.heap.size w0 w1 := by rw [hq]; exact below_drewN (Below.refl _ _) q
  replace R0 := Lib.hid (R0.out.below hb R0.out.lt)
  replace HR := Lib.hid (HR.out.below (hb.mono HB.out.size))
  replace HB := Lib.hid (HB.out.trans (hb.mono HB.out.size))
  clear hb hq
  have k0 := R0.out.cell 0
  have k1 := R0.out.cell 1
  have k2 := R0.out.cell 2
  have k3 := R0.out.cell 3
  have k4 := R0.out.cell 4
  have k5 := R0.out.cell 5
  have f0 := R0.out.frozen 0
  have f1 := R0.out.frozen 1
  have f2 := R0.out.frozen 2
  have f3 := R0.out.frozen 3
  have f4 := R0.out.frozen 4
  have f5 := R0.out.frozen 5
  simp at k0 k1 k2 k3 k4 k5
  skip
  go_wp2_with (first | (go_at_call 55; refine (HM _).mono ?_; rintro e w' ⟨rfl, rfl⟩) | (go_at_call 59; (first | (with_reducible refine (HN _).mono ?_) | (with_reducible refine (HX _).mono ?_)); rintro e w' ⟨rfl, rfl⟩))
  clear HM HN htx hlo hlo2 hx0 hx1 hx2 k0 k1 k2 k3 k4 k5 f0 f1 f2 f3 f4 f5
  go_loopw [12, 13] (fun b i wr => ∃ (k : Nat) (A' : Option Addr) (c' : Nat), k ≤ m ∧ i = .int .i64 k ∧ b = .slice A' (4 * k) c' ∧ Hid (Reads wr wr.heap.size 1 A' (4 * k) (bcells (bytesU (l.take k)))) ∧ Hid (Reads wr w.heap.size 1 A m (ucells l)) ∧ Hid (Blk wr w.heap.size 40 #[.int .i64 0, .int .i64 0, .int .u32 0, .int .u32 0, .int .u64 0, .string ByteArray.empty]) ∧ Hid (Below w.heap.size w wr)) (fun _ i _ => m - (intOf i).toNat)
  case atStart => exact ⟨0, none, 0, Nat.zero_le _, rfl, rfl, Lib.hid (by simpa [bytesU, bcells] using Reads.none_), HR, R0, HB⟩
  case round =>
    clear HR R0 HB
    obtain ⟨k, A', c', hk, rfl, rfl, HD, HR, R0, HB⟩ := hrel
    by_cases hlt : k < m
    · obtain ⟨ad, rfl, hab, hc0⟩ := ureads_at HR.out hlt
      have hv := HLT.out k hlt
      have HAT := Lib.hid (nthU_at (show k < l.length by rw [HL.out]; exact hlt))
      obtain ⟨a, ha⟩ : ∃ a, a = nthU l k := ⟨_, rfl⟩
      rw [← ha] at hc0 hv HAT
      have hwa : IntKind.u64.wrap (a : Int) = (a : Int) := u64_nat a (by omega)
      have hk0 : (0 : Int) ≤ k := by omega
      have hk1 : (k : Int) < m := by omega
      clear ha hab hv
      go_wp2_with fail
      refine (rput_yes A' (4 * k) c' a 4 _ _ HD.out (by omega) (by decide) (by decide)).mono ?_
      rintro e w2 ⟨v2, rfl, hown, hb⟩
      obtain ⟨A2, c2, rfl, _, _, _⟩ := own_form hown
      have hd2 := Reads.of_own hown
      rw [← bytesU_snoc, show l.take k ++ [a] = l.take (k + 1) by
        have h := HAT.out
        obtain ⟨h1, h2⟩ := List.getElem?_eq_some_iff.1 h
        rw [List.take_succ_eq_append_getElem h1, h2], show 4 * k + 4 = 4 * (k + 1) by omega] at hd2
      have HD2 := Lib.hid hd2
      have HR2 := Lib.hid (HR.out.below (hb.mono HB.out.size))
      have R2 := Lib.hid (R0.out.below hb R0.out.lt)
      have HB2 := Lib.hid (HB.out.trans (hb.mono HB.out.size))
      have hse : 4 * k + 4 = 4 * (k + 1) := by omega
      rw [hse]
      have HSE := Lib.hid hse
      clear hb hown hd2 hse HD HR R0 HB hc0
      go_wp2_with fail
      go_roundw
      case rel =>
        first
          | exact ⟨k + 1, A2, c2, by omega, by go_num, rfl, HD2, HR2, R2, HB2⟩
          | ((repeat apply Exists.intro); exact ⟨⟨k + 1, A2, c2, by omega, by go_num, rfl, HD2, HR2, R2, HB2⟩, rfl⟩)
      case measure => simp [intOf]; omega
    · obtain rfl : k = m := by omega
      have ht : l.take k = l := List.take_of_length_le (by rw [HL.out]; exact Nat.le_refl _)
      rw [ht] at HD
      clear hlt ht
      go_wp2_with fail
      refine (HBd A' c' _ HD.out).mono ?_
      rintro e w2 ⟨rfl, hb⟩
      replace R0 := Lib.hid (R0.out.below hb R0.out.lt)
      replace HB := Lib.hid (HB.out.trans (hb.mono HB.out.size))
      clear hb HBd
      have k0 := R0.out.cell 0
      have k1 := R0.out.cell 1
      have k2 := R0.out.cell 2
      have k3 := R0.out.cell 3
      have k4 := R0.out.cell 4
      have k5 := R0.out.cell 5
      have f0 := R0.out.frozen 0
      have f1 := R0.out.frozen 1
      have f2 := R0.out.frozen 2
      have f3 := R0.out.frozen 3
      have f4 := R0.out.frozen 4
      have f5 := R0.out.frozen 5
      simp at k0 k1 k2 k3 k4 k5
      go_wp2_with fail
      exact bodyPost_ret (read_row rfl _ _ _ w.heap.size #[.int .i64 6, .int .i64 k, .int .u32 n, .int .u32 next, .int .u64 tx, .string B] rfl (load_page (six_at R0.out))) rfl ⟨rfl, six_below HB.out (Nat.le_refl _)⟩
theorem rpage10_yes (z n next tx : Nat) (A : Option Addr) (m c : Nat) (l : List Nat) (w : World) (hr : Reads w w.heap.size 1 A m (ucells l)) (h : mayP10 z n next tx l = true) :
    Calls Try.prog 56 #[.int .i64 z, .int .u32 n, .int .u32 next, .int .u64 tx, .slice A m c] w fun e w' => e = .returned (.tuple #[.agg #[.int .i64 6, .int .i64 m, .int .u32 n, .int .u32 next, .int .u64 tx, .string (freeBody z l)], .int .i64 0]) ∧ Below w.heap.size w w' := by
  obtain ⟨hg, h1, h2, h3, hn, h5, h4⟩ := mayP10_parts h
  have hl := ulen hr
  have hgp := good_nat hg
  obtain ⟨z', hzz, hz1, hz2, _⟩ := hgp
  have hmo := mostN_good hg
  have h12 : (allU l && ascU l) = true := by rw [h1, h2]; rfl
  by_cases h0 : next = 0
  · exact rpage10_yesa z z n next tx A m c l _ w rfl hr hg h12 (by omega) (by omega) (by omega) hn h4 rfl h0
  · rcases h5 with h5 | h5
    · exact absurd h5 h0
    · exact rpage10_yesb z z n next tx A m c l _ w rfl hr hg h12 (by omega) (by omega) (by omega) hn h4 rfl h0 h5
end Go.Proofs.Ytabhhccdbfjigaa
