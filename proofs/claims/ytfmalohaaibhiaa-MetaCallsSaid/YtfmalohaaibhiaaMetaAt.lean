/-
  Contract of package meta's at: the meta of a page of an image, or the zero meta.
-/
import Derived.Test.YtfmalohaaibhiaaMetaLaw
import Derived.Deep.RegionHeld3
namespace Go.Proofs.Ytfmalohaaibhiaa
open Go.RowKit
open Go.Lib
set_option linter.unusedVariables false
set_option linter.unusedSimpArgs false
attribute [local go_sem ↓] Go.wp_at_zero Go.wp_at_succ

/-- The bytes of page n. -/
def blkAt (z : Nat) (s : ByteArray) (n : Nat) : ByteArray := s.extract (n * z) (n * z + z)
/-- Page n of the image is the page of a valid meta. -/
def metaOk (z : Nat) (s : ByteArray) (n : Nat) : Bool :=
  goodSize z && (decide (n < s.size / z) && (blockOk z n (blkAt z s n) && isM z (numAt (blkAt z s n) 4 1) (numAt (blkAt z s n) 6 2) (numAt (blkAt z s n) 8 4) (numAt (blkAt z s n) 12 4) (numAt (blkAt z s n) 16 8) ((blkAt z s n).extract 24 (blkAt z s n).size)))
/-- What is read of page n: a meta's numbers and whether it is right, or zeros. -/
def MetaAt (size : Int) (s : ByteArray) (n : Nat) (tx : Nat) (z : Int) (rt fr ps : Nat) (r : Bool) : Prop :=
  (∃ q : Nat, size = q ∧ metaOk q s n = true ∧ tx = numAt (blkAt q s n) 16 8 ∧ z = size ∧ rt = numAt ((blkAt q s n).extract 24 (blkAt q s n).size) 10 4 ∧ fr = numAt ((blkAt q s n).extract 24 (blkAt q s n).size) 14 4 ∧ ps = numAt ((blkAt q s n).extract 24 (blkAt q s n).size) 18 4 ∧ r = true) ∨
  ((∀ q : Nat, size = q → metaOk q s n = false) ∧ tx = 0 ∧ z = 0 ∧ rt = 0 ∧ fr = 0 ∧ ps = 0 ∧ r = false)
theorem metaAt_ex (size : Int) (s : ByteArray) (n : Nat) : ∃ tx z rt fr ps r, MetaAt size s n tx z rt fr ps r := by
  by_cases h : ∃ q : Nat, size = q ∧ metaOk q s n = true
  · obtain ⟨q, h1, h2⟩ := h
    exact ⟨_, _, _, _, _, _, .inl ⟨q, h1, h2, rfl, rfl, rfl, rfl, rfl, rfl⟩⟩
  · refine ⟨_, _, _, _, _, _, .inr ⟨fun q hq => ?_, rfl, rfl, rfl, rfl, rfl, rfl⟩⟩
    rw [Bool.eq_false_iff]
    exact fun h2 => h ⟨q, hq, h2⟩
theorem metaOk_may {z : Nat} {s : ByteArray} {n : Nat} (h : metaOk z s n = true) : mayM (numAt (blkAt z s n) 16 8) z (numAt ((blkAt z s n).extract 24 (blkAt z s n).size) 10 4) (numAt ((blkAt z s n).extract 24 (blkAt z s n).size) 14 4) (numAt ((blkAt z s n).extract 24 (blkAt z s n).size) 18 4) = true := by
  simp only [metaOk, isM, Bool.and_eq_true] at h
  exact h.2.2.2.2.2.1

set_option maxRecDepth 100000 in
set_option maxHeartbeats 1600000 in
theorem mat_err (size : Int) (s : ByteArray) (n : Nat) (err : Int) (w : World) (he : err ≠ 0)
    (hrd : ∀ w : World, Calls Try.prog 50 #[.int .i64 size, .string s, .int .u32 n] w fun e w' => e = .returned (.tuple #[.agg #[.int .i64 0, .int .i64 0, .int .u32 0, .int .u32 0, .int .u64 0, .string ByteArray.empty], .int .i64 err]) ∧ Below w.heap.size w w') :
    Calls Try.prog 31 #[.int .i64 size, .string s, .int .u32 n] w fun e w' => e = .returned (.agg #[.int .u64 0, .int .i64 0, .int .u32 0, .int .u32 0, .int .u32 0]) ∧ Below w.heap.size w w' := by
  have q1 : (err != 0) = true := by simpa using he
  have q2 : (err == 0) = false := by simpa using he
  obtain ⟨hz, hi⟩ := zero_of_info infoMt
  have HI := Lib.hid hi
  clear hi he
  obtain ⟨w0, hw0⟩ : ∃ w0, w0 = w.alloc (.cells #[.int .u64 0, .int .i64 0, .int .u32 0, .int .u32 0, .int .u32 0] 31) := ⟨_, rfl⟩
  have R0 := Lib.hid (show Blk w0 w.heap.size 31 #[.int .u64 0, .int .i64 0, .int .u32 0, .int .u32 0, .int .u32 0] by rw [hw0]; exact Blk.new _ _ _)
  have HB := Lib.hid (show Below w.heap.size w w0 by rw [hw0]; exact (Below.refl _ _).alloc (Nat.le_refl _) _)
  go_enter Try.func31, Try.ntmps31
  go_wp2_with fail
  rw [← hw0]
  clear hw0
  refine (hrd _).mono ?_
  rintro e w1 ⟨rfl, hb⟩
  replace R0 := Lib.hid (R0.out.below hb R0.out.lt)
  replace HB := Lib.hid (HB.out.trans (hb.mono HB.out.size))
  clear hb hrd
  obtain ⟨w2, hw2⟩ : ∃ w2, w2 = w1.alloc (.cells #[.int .i64 0, .int .i64 0, .int .u32 0, .int .u32 0, .int .u64 0, .string ByteArray.empty] 26) := ⟨_, rfl⟩
  replace R0 := Lib.hid (show Blk w2 _ _ _ by rw [hw2]; exact R0.out.alloc _)
  replace HB := Lib.hid (show Below w.heap.size w w2 by rw [hw2]; exact HB.out.alloc HB.out.size _)
  have k0 := R0.out.cell 0
  have k1 := R0.out.cell 1
  have k2 := R0.out.cell 2
  have k3 := R0.out.cell 3
  have k4 := R0.out.cell 4
  have f0 := R0.out.frozen 0
  have f1 := R0.out.frozen 1
  have f2 := R0.out.frozen 2
  have f3 := R0.out.frozen 3
  have f4 := R0.out.frozen 4
  rw [hw2] at k0 k1 k2 k3 k4 f0 f1 f2 f3 f4
  simp at k0 k1 k2 k3 k4
  go_wp2_with fail
  rw [← hw2]
  exact bodyPost_ret (results_cell_row rfl _ _ w.heap.size 31 #[.int .u64 0, .int .i64 0, .int .u32 0, .int .u32 0, .int .u32 0] (0, 0) _ rfl (five_at R0.out) Try.underlying31 rfl HI.out) rfl ⟨rfl, five_below HB.out (Nat.le_refl _)⟩

set_option maxRecDepth 100000 in
set_option maxHeartbeats 1600000 in
theorem mat_ok (size : Int) (s : ByteArray) (n : Nat) (kd ct : Int) (pg lk ty : Nat) (bd : ByteArray) (tx : Nat) (z : Int) (rt fr ps : Nat) (x : Int) (w : World)
    (hrd : ∀ w : World, Calls Try.prog 50 #[.int .i64 size, .string s, .int .u32 n] w fun e w' => e = .returned (.tuple #[.agg #[.int .i64 kd, .int .i64 ct, .int .u32 pg, .int .u32 lk, .int .u64 ty, .string bd], .int .i64 0]) ∧ Below w.heap.size w w')
    (hof : ∀ w : World, Calls Try.prog 12 #[.int .i64 size, .agg #[.int .i64 kd, .int .i64 ct, .int .u32 pg, .int .u32 lk, .int .u64 ty, .string bd]] w fun e w' => e = .returned (.tuple #[.agg #[.int .u64 tx, .int .i64 z, .int .u32 rt, .int .u32 fr, .int .u32 ps], .int .i64 x]) ∧ Below w.heap.size w w') :
    Calls Try.prog 31 #[.int .i64 size, .string s, .int .u32 n] w fun e w' => e = .returned (.agg #[.int .u64 tx, .int .i64 z, .int .u32 rt, .int .u32 fr, .int .u32 ps]) ∧ Below w.heap.size w w' := by
  obtain ⟨hz, hi⟩ := zero_of_info infoMt
  have HI := Lib.hid hi
  clear hi
  obtain ⟨w0, hw0⟩ : ∃ w0, w0 = w.alloc (.cells #[.int .u64 0, .int .i64 0, .int .u32 0, .int .u32 0, .int .u32 0] 31) := ⟨_, rfl⟩
  have R0 := Lib.hid (show Blk w0 w.heap.size 31 #[.int .u64 0, .int .i64 0, .int .u32 0, .int .u32 0, .int .u32 0] by rw [hw0]; exact Blk.new _ _ _)
  have HB := Lib.hid (show Below w.heap.size w w0 by rw [hw0]; exact (Below.refl _ _).alloc (Nat.le_refl _) _)
  go_enter Try.func31, Try.ntmps31
  go_wp2_with fail
  rw [← hw0]
  clear hw0
  refine (hrd _).mono ?_
  rintro e w1 ⟨rfl, hb⟩
  replace R0 := Lib.hid (R0.out.below hb R0.out.lt)
  replace HB := Lib.hid (HB.out.trans (hb.mono HB.out.size))
  clear hb hrd
  obtain ⟨w2, hw2⟩ : ∃ w2, w2 = w1.alloc (.cells #[.int .i64 kd, .int .i64 ct, .int .u32 pg, .int .u32 lk, .int .u64 ty, .string bd] 26) := ⟨_, rfl⟩
  have P0 := Lib.hid (show Blk w2 w1.heap.size 26 #[.int .i64 kd, .int .i64 ct, .int .u32 pg, .int .u32 lk, .int .u64 ty, .string bd] by rw [hw2]; exact Blk.new _ _ _)
  replace R0 := Lib.hid (show Blk w2 _ _ _ by rw [hw2]; exact R0.out.alloc _)
  replace HB := Lib.hid (show Below w.heap.size w w2 by rw [hw2]; exact HB.out.alloc HB.out.size _)
  have p0 := P0.out.cell 0
  have p1 := P0.out.cell 1
  have p2 := P0.out.cell 2
  have p3 := P0.out.cell 3
  have p4 := P0.out.cell 4
  have p5 := P0.out.cell 5
  rw [hw2] at p0 p1 p2 p3 p4 p5
  simp at p0 p1 p2 p3 p4 p5
  go_wp2_with fail
  rw [← hw2]
  clear hw2 p0 p1 p2 p3 p4 p5
  refine (hof _).mono ?_
  rintro e w3 ⟨rfl, hb⟩
  replace R0 := Lib.hid (R0.out.below hb R0.out.lt)
  replace HB := Lib.hid (HB.out.trans (hb.mono HB.out.size))
  clear hb hof
  obtain ⟨w4, hw4⟩ : ∃ w4, w4 = w3.alloc (.cells #[.int .u64 tx, .int .i64 z, .int .u32 rt, .int .u32 fr, .int .u32 ps] 31) := ⟨_, rfl⟩
  have M0 := Lib.hid (show Blk w4 w3.heap.size 31 #[.int .u64 tx, .int .i64 z, .int .u32 rt, .int .u32 fr, .int .u32 ps] by rw [hw4]; exact Blk.new _ _ _)
  replace R0 := Lib.hid (show Blk w4 _ _ _ by rw [hw4]; exact R0.out.alloc _)
  replace HB := Lib.hid (show Below w.heap.size w w4 by rw [hw4]; exact HB.out.alloc HB.out.size _)
  have m0 := M0.out.cell 0
  have m1 := M0.out.cell 1
  have m2 := M0.out.cell 2
  have m3 := M0.out.cell 3
  have m4 := M0.out.cell 4
  have k0 := R0.out.cell 0
  have k1 := R0.out.cell 1
  have k2 := R0.out.cell 2
  have k3 := R0.out.cell 3
  have k4 := R0.out.cell 4
  have f0 := R0.out.frozen 0
  have f1 := R0.out.frozen 1
  have f2 := R0.out.frozen 2
  have f3 := R0.out.frozen 3
  have f4 := R0.out.frozen 4
  rw [hw4] at m0 m1 m2 m3 m4 k0 k1 k2 k3 k4 f0 f1 f2 f3 f4
  simp at m0 m1 m2 m3 m4 k0 k1 k2 k3 k4
  go_wp2_with fail
  rw [← hw4]
  exact bodyPost_ret (results_cell_row rfl _ _ w.heap.size 31 #[.int .u64 tx, .int .i64 z, .int .u32 rt, .int .u32 fr, .int .u32 ps] (0, 0) _ rfl (five_at R0.out) Try.underlying31 rfl HI.out) rfl ⟨rfl, five_below HB.out (Nat.le_refl _)⟩

theorem mrd_right (q n : Nat) (s B : ByteArray) (hB : B = blkAt q s n) (w : World) (hg : goodSize q = true) (hs : s.size ≤ maxLen) (h2 : n < s.size / q) (h3 : blockOk q n B = true) :
    Calls Try.prog 50 #[.int .i64 q, .string s, .int .u32 n] w fun e w' => e = .returned (.tuple #[.agg #[.int .i64 (numAt B 4 1), .int .i64 (numAt B 6 2), .int .u32 (numAt B 8 4), .int .u32 (numAt B 12 4), .int .u64 (numAt B 16 8), .string (B.extract 24 B.size)], .int .i64 0]) ∧ Below w.heap.size w w' := by
  refine fread_get q n s (numAt B 4 1) (numAt B 6 2) (numAt B 8 4) (numAt B 12 4) (numAt B 16 8) (B.extract 24 B.size) 0 w hg hs h2 fun w => ?_
  rw [show s.extract (n * q) (n * q + q) = B from hB.symm]
  exact get_right q n B w h3
theorem mrd_wrong (q n : Nat) (s B : ByteArray) (hB : B = blkAt q s n) (w : World) (hg : goodSize q = true) (hs : s.size ≤ maxLen) (h2 : n < s.size / q) (h3 : blockOk q n B = false) :
    Calls Try.prog 50 #[.int .i64 q, .string s, .int .u32 n] w fun e w' => e = .returned (.tuple #[.agg #[.int .i64 0, .int .i64 0, .int .u32 0, .int .u32 0, .int .u64 0, .string ByteArray.empty], .int .i64 4]) ∧ Below w.heap.size w w' := by
  have := fread_get q n s 0 0 0 0 0 ByteArray.empty 4 w hg hs h2 fun w => (by
    rw [show s.extract (n * q) (n * q + q) = B from hB.symm]
    exact get_wrong q n B w hg h3)
  exact this
set_option maxHeartbeats 1600000 in
theorem mat_any (size : Int) (s : ByteArray) (n : Nat) (tx : Nat) (z : Int) (rt fr ps : Nat) (r : Bool) (w : World) (h : MetaAt size s n tx z rt fr ps r) (hs : s.size ≤ maxLen) (hn : n < 4294967296) :
    Calls Try.prog 31 #[.int .i64 size, .string s, .int .u32 n] w fun e w' => e = .returned (.agg #[.int .u64 tx, .int .i64 z, .int .u32 rt, .int .u32 fr, .int .u32 ps]) ∧ Below w.heap.size w w' := by
  rcases h with ⟨q, rfl, h1, h5, h6, h7, h8, h9, _⟩ | ⟨h1, rfl, rfl, rfl, rfl, rfl, rfl⟩
  · obtain ⟨B, hB⟩ : ∃ B, B = blkAt q s n := ⟨_, rfl⟩
    rw [metaOk, ← hB] at h1
    rw [← hB] at h5 h7 h8 h9
    simp only [Bool.and_eq_true, decide_eq_true_eq] at h1
    obtain ⟨hg, h2, h3, h4⟩ := h1
    obtain ⟨D, hD⟩ : ∃ D, D = B.extract 24 B.size := ⟨_, rfl⟩
    have HR := fun w => mrd_right q n s B hB w hg hs h2 h3
    have HO := fun w => of_yes q _ _ _ _ _ _ w h4
    rw [← hD] at HR HO h7 h8 h9
    rw [h5, h6, h7, h8, h9]
    exact mat_ok q s n (numAt B 4 1) (numAt B 6 2) (numAt B 8 4) (numAt B 12 4) (numAt B 16 8) D (numAt B 16 8) q (numAt D 10 4) (numAt D 14 4) (numAt D 18 4) 0 w HR HO
  · rcases hg : goodSize size with _ | _
    · exact mat_err size s n 2 w (by decide) fun w => fread_bad size s n w hg
    obtain ⟨q, rfl, _, _, _⟩ := good_nat hg
    replace h1 := h1 q rfl
    by_cases h2 : n < s.size / q
    case neg => exact mat_err q s n 5 w (by decide) fun w => fread_none q n s w hg hs h2 hn
    obtain ⟨B, hB⟩ : ∃ B, B = blkAt q s n := ⟨_, rfl⟩
    rw [metaOk, ← hB] at h1
    rcases h3 : blockOk q n B with _ | _
    · exact mat_err q s n 4 w (by decide) fun w => mrd_wrong q n s B hB w hg hs h2 h3
    obtain ⟨D, hD⟩ : ∃ D, D = B.extract 24 B.size := ⟨_, rfl⟩
    have HR := fun w => mrd_right q n s B hB w hg hs h2 h3
    rw [← hD] at HR h1
    rcases h4 : isM q (numAt B 4 1) (numAt B 6 2) (numAt B 8 4) (numAt B 12 4) (numAt B 16 8) D with _ | _
    · exact mat_ok q s n (numAt B 4 1) (numAt B 6 2) (numAt B 8 4) (numAt B 12 4) (numAt B 16 8) D 0 0 0 0 0 4 w HR (fun w => of_no q _ _ _ _ _ _ w h4)
    · rw [hg, h3, h4] at h1
      simp [h2] at h1
end Go.Proofs.Ytfmalohaaibhiaa
