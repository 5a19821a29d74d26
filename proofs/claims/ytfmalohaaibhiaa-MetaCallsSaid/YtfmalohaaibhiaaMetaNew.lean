/-
  Contract of package meta's Newest: which of the two metas counts.
-/
import Derived.Test.YtfmalohaaibhiaaMetaBoth
namespace Go.Proofs.Ytfmalohaaibhiaa
open Go.RowKit
open Go.Lib
set_option linter.unusedVariables false
set_option linter.unusedSimpArgs false
attribute [local go_sem ↓] Go.wp_at_zero Go.wp_at_succ

theorem ix0 (v0 v1 v2 v3 v4 v5 v6 v7 v8 v9 : Value) (w : World) : (Instr.index 36 (.agg #[v0, v1, v2, v3, v4, v5, v6, v7, v8, v9]) (.int .i64 0)).run Try.prog w = .ok (.agg #[v0, v1, v2, v3, v4]) w := by
  kernel_rfl
theorem ix1 (v0 v1 v2 v3 v4 v5 v6 v7 v8 v9 : Value) (w : World) : (Instr.index 36 (.agg #[v0, v1, v2, v3, v4, v5, v6, v7, v8, v9]) (.int .i64 1)).run Try.prog w = .ok (.agg #[v5, v6, v7, v8, v9]) w := by
  kernel_rfl

theorem mnew_arg (size : Int) (s : ByteArray) (w : World) (hg : goodSize size = false) :
    Calls Try.prog 15 #[.int .i64 size, .string s] w fun e w' => e = .returned (.tuple #[.agg #[.int .u64 0, .int .i64 0, .int .u32 0, .int .u32 0, .int .u32 0], .int .i64 2]) ∧ Below w.heap.size w w' := by
  obtain ⟨hz, hi⟩ := zero_of_info infoMt
  have HI := Lib.hid hi
  clear hi
  obtain ⟨w0, hw0⟩ : ∃ w0, w0 = w.alloc (.cells #[.int .u64 0, .int .i64 0, .int .u32 0, .int .u32 0, .int .u32 0] 31) := ⟨_, rfl⟩
  have R0 := Lib.hid (show Blk w0 w.heap.size 31 #[.int .u64 0, .int .i64 0, .int .u32 0, .int .u32 0, .int .u32 0] by rw [hw0]; exact Blk.new _ _ _)
  have HB := Lib.hid (show Below w.heap.size w w0 by rw [hw0]; exact (Below.refl _ _).alloc (Nat.le_refl _) _)
  go_enter Try.func15, Try.ntmps15
  go_wp2_with fail
  rw [← hw0]
  clear hw0
  refine (roomn_is size _ hg).mono ?_
  rintro e wa ⟨rfl, rfl⟩
  have k0 := R0.out.cell 0
  have k1 := R0.out.cell 1
  have k2 := R0.out.cell 2
  have k3 := R0.out.cell 3
  have k4 := R0.out.cell 4
  have f0 := R0.out.frozen 0
  have f1 := R0.out.frozen 1
  have f2 := R0.out.frozen 2
  have f3 := R0.out.frozen 3
  have f4 := R0.out.frozen 4
  simp at k0 k1 k2 k3 k4
  go_wp2_with fail
  exact bodyPost_ret (read_row rfl _ _ _ w.heap.size #[.int .u64 0, .int .i64 0, .int .u32 0, .int .u32 0, .int .u32 0] rfl (load_meta (five_at R0.out))) rfl ⟨rfl, five_below HB.out (Nat.le_refl _)⟩
set_option maxRecDepth 100000 in
set_option maxHeartbeats 6400000 in
theorem mnew_none (size : Int) (s : ByteArray) (t0 : Nat) (z0 : Int) (r0 f0 p0 : Nat) (t1 : Nat) (z1 : Int) (r1 f1 p1 : Nat) (w : World) (hg : goodSize size = true) (h0 : MetaAt size s 0 t0 z0 r0 f0 p0 false) (h1 : MetaAt size s 1 t1 z1 r1 f1 p1 false) (hs : s.size ≤ maxLen) :
    Calls Try.prog 15 #[.int .i64 size, .string s] w fun e w' => e = .returned (.tuple #[.agg #[.int .u64 0, .int .i64 0, .int .u32 0, .int .u32 0, .int .u32 0], .int .i64 5]) ∧ Below w.heap.size w w' := by
  have HBo := fun w => mboth_any size s t0 z0 r0 f0 p0 false t1 z1 r1 f1 p1 false w h0 h1 hs
  obtain ⟨zn, hzn, hzn1, hzn2, _⟩ := good_nat hg
  have hq : ((size - 24 : Int) == 0) = false := by simp; omega
  have heq := fun w => meta_same 0 0 0 0 0 w
  have gz0 : decide ((0 : Int) ≤ (t0 : Int)) = true := by simp
  have gz1 : decide ((0 : Int) ≤ (t1 : Int)) = true := by simp
  have hx0 := ix0
  have hx1 := ix1
  have HG := Lib.hid hg
  clear h0 h1 hs hzn hzn1 hzn2 hg
  obtain ⟨hz, hi⟩ := zero_of_info infoMt
  have HI := Lib.hid hi
  clear hi
  obtain ⟨hz2, hi2⟩ := zero_of_info infoM2
  have HI2 := Lib.hid hi2
  clear hi2
  obtain ⟨hz3, hi3⟩ := zero_of_info infoB2
  have HI3 := Lib.hid hi3
  clear hi3
  obtain ⟨w0, hw0⟩ : ∃ w0, w0 = w.alloc (.cells #[.int .u64 0, .int .i64 0, .int .u32 0, .int .u32 0, .int .u32 0] 31) := ⟨_, rfl⟩
  have R0 := Lib.hid (show Blk w0 w.heap.size 31 #[.int .u64 0, .int .i64 0, .int .u32 0, .int .u32 0, .int .u32 0] by rw [hw0]; exact Blk.new _ _ _)
  have HB := Lib.hid (show Below w.heap.size w w0 by rw [hw0]; exact (Below.refl _ _).alloc (Nat.le_refl _) _)
  have hsz : w0.heap.size = w.heap.size + 1 := by rw [hw0]; simp
  go_enter Try.func15, Try.ntmps15
  go_wp2_with fail
  rw [← hw0]
  clear hw0
  refine (room_is size _ HG.out).mono ?_
  rintro e wa ⟨rfl, rfl⟩
  obtain ⟨w1, hw1⟩ : ∃ w1, w1 = wa.alloc (.cells #[.int .u64 0, .int .i64 0, .int .u32 0, .int .u32 0, .int .u32 0] 31) := ⟨_, rfl⟩
  have N0 := Lib.hid (show Blk w1 wa.heap.size 31 #[.int .u64 0, .int .i64 0, .int .u32 0, .int .u32 0, .int .u32 0] by rw [hw1]; exact Blk.new _ _ _)
  replace R0 := Lib.hid (show Blk w1 _ _ _ by rw [hw1]; exact R0.out.alloc _)
  replace HB := Lib.hid (show Below w.heap.size w w1 by rw [hw1]; exact HB.out.alloc HB.out.size _)
  go_wp2_with fail
  rw [← hw1]
  clear hw1
  refine (HBo _).mono ?_
  rintro e w2 ⟨rfl, hb⟩
  replace R0 := Lib.hid (R0.out.below hb R0.out.lt)
  replace N0 := Lib.hid (N0.out.below hb N0.out.lt)
  replace HB := Lib.hid (HB.out.trans (hb.mono HB.out.size))
  clear hb HBo
  rw [hsz] at N0
  have hN2 := Lib.hid (show w.heap.size + 1 < w2.heap.size from N0.out.lt)
  obtain ⟨nb, hnb⟩ : ∃ nb, nb = w.heap.size + 1 := ⟨_, rfl⟩
  obtain ⟨w3, hw3⟩ : ∃ w3, w3 = (w2.alloc (.cells #[.int .u64 t0, .int .i64 z0, .int .u32 r0, .int .u32 f0, .int .u32 p0, .int .u64 t1, .int .i64 z1, .int .u32 r1, .int .u32 f1, .int .u32 p1] 36)).alloc (.cells #[.bool false, .bool false] 37) := ⟨_, rfl⟩
  have A0 := Lib.hid (show Blk w3 w2.heap.size 36 #[.int .u64 t0, .int .i64 z0, .int .u32 r0, .int .u32 f0, .int .u32 p0, .int .u64 t1, .int .i64 z1, .int .u32 r1, .int .u32 f1, .int .u32 p1] by rw [hw3]; exact (Blk.new _ _ _).alloc _)
  have B0 := Lib.hid (show Blk w3 (w2.heap.size + 1) 37 #[.bool false, .bool false] by rw [hw3, show w2.heap.size + 1 = (w2.alloc (.cells #[.int .u64 t0, .int .i64 z0, .int .u32 r0, .int .u32 f0, .int .u32 p0, .int .u64 t1, .int .i64 z1, .int .u32 r1, .int .u32 f1, .int .u32 p1] 36)).heap.size by simp]; exact Blk.new _ _ _)
  replace R0 := Lib.hid (show Blk w3 _ _ _ by rw [hw3]; exact (R0.out.alloc _).alloc _)
  replace N0 := Lib.hid (show Blk w3 _ _ _ by rw [hw3]; exact (N0.out.alloc _).alloc _)
  replace HB := Lib.hid (show Below w.heap.size w w3 by rw [hw3]; exact (HB.out.alloc HB.out.size _).alloc (HB.out.alloc HB.out.size _).size _)
  have a0 := A0.out.cell 0
  have a1 := A0.out.cell 1
  have a2 := A0.out.cell 2
  have a3 := A0.out.cell 3
  have a4 := A0.out.cell 4
  have a5 := A0.out.cell 5
  have a6 := A0.out.cell 6
  have a7 := A0.out.cell 7
  have a8 := A0.out.cell 8
  have a9 := A0.out.cell 9
  rw [hw3] at a0 a1 a2 a3 a4 a5 a6 a7 a8 a9
  simp at a0 a1 a2 a3 a4 a5 a6 a7 a8 a9
  go_wp2_with fail
  rw [← hw3]
  clear hw3 hnb a0 a1 a2 a3 a4 a5 a6 a7 a8 a9
  refine wp_loop_rounds 3 ?_
  obtain ⟨wm0, hwm0⟩ : ∃ wm0, wm0 = w3.alloc (.cells #[.int .u64 t0, .int .i64 z0, .int .u32 r0, .int .u32 f0, .int .u32 p0] 31) := ⟨_, rfl⟩
  have M0 := Lib.hid (show Blk wm0 w3.heap.size 31 #[.int .u64 t0, .int .i64 z0, .int .u32 r0, .int .u32 f0, .int .u32 p0] by rw [hwm0]; exact Blk.new _ _ _)
  have hlt0 := N0.out.lt
  have nb0 := N0.out.cell 0
  have vb0 := N0.out.frozen 0
  have nb1 := N0.out.cell 1
  have vb1 := N0.out.frozen 1
  have nb2 := N0.out.cell 2
  have vb2 := N0.out.frozen 2
  have nb3 := N0.out.cell 3
  have vb3 := N0.out.frozen 3
  have nb4 := N0.out.cell 4
  have vb4 := N0.out.frozen 4
  have bb := B0.out.cell 0
  simp at nb0 nb1 nb2 nb3 nb4 bb
  have N0w := Lib.hid (show Blk wm0 _ _ _ by rw [hwm0]; exact N0.out.alloc _)
  have B0w := Lib.hid (show Blk wm0 _ _ _ by rw [hwm0]; exact B0.out.alloc _)
  have m0 := M0.out.cell 0
  have n0 := N0w.out.cell 0
  have v0 := N0w.out.frozen 0
  have m1 := M0.out.cell 1
  have n1 := N0w.out.cell 1
  have v1 := N0w.out.frozen 1
  have m2 := M0.out.cell 2
  have n2 := N0w.out.cell 2
  have v2 := N0w.out.frozen 2
  have m3 := M0.out.cell 3
  have n3 := N0w.out.cell 3
  have v3 := N0w.out.frozen 3
  have m4 := M0.out.cell 4
  have n4 := N0w.out.cell 4
  have v4 := N0w.out.frozen 4
  have b0 := B0w.out.cell 0
  rw [hwm0] at m0 n0 m1 n1 m2 n2 m3 n3 m4 n4 b0 v0 v1 v2 v3 v4
  simp at m0 n0 m1 n1 m2 n2 m3 n3 m4 n4 b0
  rw [rounds_succ]
  go_wp2_with fail
  rw [← hwm0]
  clear m0 n0 m1 n1 m2 n2 m3 n3 m4 n4 b0 v0 v1 v2 v3 v4 hlt0 M0 N0w B0w nb0 nb1 nb2 nb3 nb4 vb0 vb1 vb2 vb3 vb4 bb
  replace R0 := Lib.hid (show Blk wm0 _ _ _ by rw [hwm0]; exact R0.out.alloc _)
  replace N0 := Lib.hid (show Blk wm0 _ _ _ by rw [hwm0]; exact N0.out.alloc _)
  replace B0 := Lib.hid (show Blk wm0 _ _ _ by rw [hwm0]; exact B0.out.alloc _)
  replace HB := Lib.hid (show Below w.heap.size w wm0 by rw [hwm0]; exact HB.out.alloc HB.out.size _)
  clear hwm0
  obtain ⟨wm1, hwm1⟩ : ∃ wm1, wm1 = wm0.alloc (.cells #[.int .u64 t1, .int .i64 z1, .int .u32 r1, .int .u32 f1, .int .u32 p1] 31) := ⟨_, rfl⟩
  have M1 := Lib.hid (show Blk wm1 wm0.heap.size 31 #[.int .u64 t1, .int .i64 z1, .int .u32 r1, .int .u32 f1, .int .u32 p1] by rw [hwm1]; exact Blk.new _ _ _)
  have hlt1 := N0.out.lt
  have nb0 := N0.out.cell 0
  have vb0 := N0.out.frozen 0
  have nb1 := N0.out.cell 1
  have vb1 := N0.out.frozen 1
  have nb2 := N0.out.cell 2
  have vb2 := N0.out.frozen 2
  have nb3 := N0.out.cell 3
  have vb3 := N0.out.frozen 3
  have nb4 := N0.out.cell 4
  have vb4 := N0.out.frozen 4
  have bb := B0.out.cell 1
  simp at nb0 nb1 nb2 nb3 nb4 bb
  have N0w := Lib.hid (show Blk wm1 _ _ _ by rw [hwm1]; exact N0.out.alloc _)
  have B0w := Lib.hid (show Blk wm1 _ _ _ by rw [hwm1]; exact B0.out.alloc _)
  have m0 := M1.out.cell 0
  have n0 := N0w.out.cell 0
  have v0 := N0w.out.frozen 0
  have m1 := M1.out.cell 1
  have n1 := N0w.out.cell 1
  have v1 := N0w.out.frozen 1
  have m2 := M1.out.cell 2
  have n2 := N0w.out.cell 2
  have v2 := N0w.out.frozen 2
  have m3 := M1.out.cell 3
  have n3 := N0w.out.cell 3
  have v3 := N0w.out.frozen 3
  have m4 := M1.out.cell 4
  have n4 := N0w.out.cell 4
  have v4 := N0w.out.frozen 4
  have b1 := B0w.out.cell 1
  rw [hwm1] at m0 n0 m1 n1 m2 n2 m3 n3 m4 n4 b1 v0 v1 v2 v3 v4
  simp at m0 n0 m1 n1 m2 n2 m3 n3 m4 n4 b1
  rw [rounds_succ]
  go_wp2_with fail
  rw [← hwm1]
  clear m0 n0 m1 n1 m2 n2 m3 n3 m4 n4 b1 v0 v1 v2 v3 v4 hlt1 M1 N0w B0w nb0 nb1 nb2 nb3 nb4 vb0 vb1 vb2 vb3 vb4 bb
  replace R0 := Lib.hid (show Blk wm1 _ _ _ by rw [hwm1]; exact R0.out.alloc _)
  replace N0 := Lib.hid (show Blk wm1 _ _ _ by rw [hwm1]; exact N0.out.alloc _)
  replace B0 := Lib.hid (show Blk wm1 _ _ _ by rw [hwm1]; exact B0.out.alloc _)
  replace HB := Lib.hid (show Below w.heap.size w wm1 by rw [hwm1]; exact HB.out.alloc HB.out.size _)
  clear hwm1
  rw [rounds_succ]
  have n0 := N0.out.cell 0
  have k0 := R0.out.cell 0
  have v0 := R0.out.frozen 0
  have n1 := N0.out.cell 1
  have k1 := R0.out.cell 1
  have v1 := R0.out.frozen 1
  have n2 := N0.out.cell 2
  have k2 := R0.out.cell 2
  have v2 := R0.out.frozen 2
  have n3 := N0.out.cell 3
  have k3 := R0.out.cell 3
  have v3 := R0.out.frozen 3
  have n4 := N0.out.cell 4
  have k4 := R0.out.cell 4
  have v4 := R0.out.frozen 4
  simp at n0 k0 n1 k1 n2 k2 n3 k3 n4 k4
  go_wp2_with fail
  exact bodyPost_ret (read_row rfl _ _ _ w.heap.size #[.int .u64 0, .int .i64 0, .int .u32 0, .int .u32 0, .int .u32 0] rfl (load_meta (five_at R0.out))) rfl ⟨rfl, five_below HB.out (Nat.le_refl _)⟩
set_option maxRecDepth 100000 in
set_option maxHeartbeats 6400000 in
theorem mnew_a (size : Int) (s : ByteArray) (t0 : Nat) (z0 : Int) (r0 f0 p0 : Nat) (t1 : Nat) (z1 : Int) (r1 f1 p1 : Nat) (w : World) (hg : goodSize size = true) (h0 : MetaAt size s 0 t0 z0 r0 f0 p0 true) (h1 : MetaAt size s 1 t1 z1 r1 f1 p1 false) (hs : s.size ≤ maxLen) :
    Calls Try.prog 15 #[.int .i64 size, .string s] w fun e w' => e = .returned (.tuple #[.agg #[.int .u64 t0, .int .i64 z0, .int .u32 r0, .int .u32 f0, .int .u32 p0], .int .i64 0]) ∧ Below w.heap.size w w' := by
  have HBo := fun w => mboth_any size s t0 z0 r0 f0 p0 true t1 z1 r1 f1 p1 false w h0 h1 hs
  obtain ⟨zn, hzn, hzn1, hzn2, _⟩ := good_nat hg
  have hq : ((size - 24 : Int) == 0) = false := by simp; omega
  have hne : z0 ≠ 0 := h0.size.elim (fun h => h.2.2) (fun h => absurd h.1 (by decide))
  have heq := fun w => meta_diff_eql t0 z0 r0 f0 p0 0 0 0 0 0 w fun h => hne h.2.1
  clear hne
  have gz0 : decide ((0 : Int) ≤ (t0 : Int)) = true := by simp
  have gz1 : decide ((0 : Int) ≤ (t1 : Int)) = true := by simp
  have hx0 := ix0
  have hx1 := ix1
  have HG := Lib.hid hg
  clear h0 h1 hs hzn hzn1 hzn2 hg
  obtain ⟨hz, hi⟩ := zero_of_info infoMt
  have HI := Lib.hid hi
  clear hi
  obtain ⟨hz2, hi2⟩ := zero_of_info infoM2
  have HI2 := Lib.hid hi2
  clear hi2
  obtain ⟨hz3, hi3⟩ := zero_of_info infoB2
  have HI3 := Lib.hid hi3
  clear hi3
  obtain ⟨w0, hw0⟩ : ∃ w0, w0 = w.alloc (.cells #[.int .u64 0, .int .i64 0, .int .u32 0, .int .u32 0, .int .u32 0] 31) := ⟨_, rfl⟩
  have R0 := Lib.hid (show Blk w0 w.heap.size 31 #[.int .u64 0, .int .i64 0, .int .u32 0, .int .u32 0, .int .u32 0] by rw [hw0]; exact Blk.new _ _ _)
  have HB := Lib.hid (show Below w.heap.size w w0 by rw [hw0]; exact (Below.refl _ _).alloc (Nat.le_refl _) _)
  have hsz : w0.heap.size = w.heap.size + 1 := by rw [hw0]; simp
  go_enter Try.func15, Try.ntmps15
  go_wp2_with fail
  rw [← hw0]
  clear hw0
  refine (room_is size _ HG.out).mono ?_
  rintro e wa ⟨rfl, rfl⟩
  obtain ⟨w1, hw1⟩ : ∃ w1, w1 = wa.alloc (.cells #[.int .u64 0, .int .i64 0, .int .u32 0, .int .u32 0, .int .u32 0] 31) := ⟨_, rfl⟩
  have N0 := Lib.hid (show Blk w1 wa.heap.size 31 #[.int .u64 0, .int .i64 0, .int .u32 0, .int .u32 0, .int .u32 0] by rw [hw1]; exact Blk.new _ _ _)
  replace R0 := Lib.hid (show Blk w1 _ _ _ by rw [hw1]; exact R0.out.alloc _)
  replace HB := Lib.hid (show Below w.heap.size w w1 by rw [hw1]; exact HB.out.alloc HB.out.size _)
  go_wp2_with fail
  rw [← hw1]
  clear hw1
  refine (HBo _).mono ?_
  rintro e w2 ⟨rfl, hb⟩
  replace R0 := Lib.hid (R0.out.below hb R0.out.lt)
  replace N0 := Lib.hid (N0.out.below hb N0.out.lt)
  replace HB := Lib.hid (HB.out.trans (hb.mono HB.out.size))
  clear hb HBo
  rw [hsz] at N0
  have hN2 := Lib.hid (show w.heap.size + 1 < w2.heap.size from N0.out.lt)
  obtain ⟨nb, hnb⟩ : ∃ nb, nb = w.heap.size + 1 := ⟨_, rfl⟩
  obtain ⟨w3, hw3⟩ : ∃ w3, w3 = (w2.alloc (.cells #[.int .u64 t0, .int .i64 z0, .int .u32 r0, .int .u32 f0, .int .u32 p0, .int .u64 t1, .int .i64 z1, .int .u32 r1, .int .u32 f1, .int .u32 p1] 36)).alloc (.cells #[.bool true, .bool false] 37) := ⟨_, rfl⟩
  have A0 := Lib.hid (show Blk w3 w2.heap.size 36 #[.int .u64 t0, .int .i64 z0, .int .u32 r0, .int .u32 f0, .int .u32 p0, .int .u64 t1, .int .i64 z1, .int .u32 r1, .int .u32 f1, .int .u32 p1] by rw [hw3]; exact (Blk.new _ _ _).alloc _)
  have B0 := Lib.hid (show Blk w3 (w2.heap.size + 1) 37 #[.bool true, .bool false] by rw [hw3, show w2.heap.size + 1 = (w2.alloc (.cells #[.int .u64 t0, .int .i64 z0, .int .u32 r0, .int .u32 f0, .int .u32 p0, .int .u64 t1, .int .i64 z1, .int .u32 r1, .int .u32 f1, .int .u32 p1] 36)).heap.size by simp]; exact Blk.new _ _ _)
  replace R0 := Lib.hid (show Blk w3 _ _ _ by rw [hw3]; exact (R0.out.alloc _).alloc _)
  replace N0 := Lib.hid (show Blk w3 _ _ _ by rw [hw3]; exact (N0.out.alloc _).alloc _)
  replace HB := Lib.hid (show Below w.heap.size w w3 by rw [hw3]; exact (HB.out.alloc HB.out.size _).alloc (HB.out.alloc HB.out.size _).size _)
  have a0 := A0.out.cell 0
  have a1 := A0.out.cell 1
  have a2 := A0.out.cell 2
  have a3 := A0.out.cell 3
  have a4 := A0.out.cell 4
  have a5 := A0.out.cell 5
  have a6 := A0.out.cell 6
  have a7 := A0.out.cell 7
  have a8 := A0.out.cell 8
  have a9 := A0.out.cell 9
  rw [hw3] at a0 a1 a2 a3 a4 a5 a6 a7 a8 a9
  simp at a0 a1 a2 a3 a4 a5 a6 a7 a8 a9
  go_wp2_with fail
  rw [← hw3]
  clear hw3 hnb a0 a1 a2 a3 a4 a5 a6 a7 a8 a9
  refine wp_loop_rounds 3 ?_
  obtain ⟨wm0, hwm0⟩ : ∃ wm0, wm0 = w3.alloc (.cells #[.int .u64 t0, .int .i64 z0, .int .u32 r0, .int .u32 f0, .int .u32 p0] 31) := ⟨_, rfl⟩
  have M0 := Lib.hid (show Blk wm0 w3.heap.size 31 #[.int .u64 t0, .int .i64 z0, .int .u32 r0, .int .u32 f0, .int .u32 p0] by rw [hwm0]; exact Blk.new _ _ _)
  have hlt0 := N0.out.lt
  have nb0 := N0.out.cell 0
  have vb0 := N0.out.frozen 0
  have nb1 := N0.out.cell 1
  have vb1 := N0.out.frozen 1
  have nb2 := N0.out.cell 2
  have vb2 := N0.out.frozen 2
  have nb3 := N0.out.cell 3
  have vb3 := N0.out.frozen 3
  have nb4 := N0.out.cell 4
  have vb4 := N0.out.frozen 4
  have bb := B0.out.cell 0
  simp at nb0 nb1 nb2 nb3 nb4 bb
  have N0w := Lib.hid (show Blk wm0 _ _ _ by rw [hwm0]; exact N0.out.alloc _)
  have B0w := Lib.hid (show Blk wm0 _ _ _ by rw [hwm0]; exact B0.out.alloc _)
  have m0 := M0.out.cell 0
  have n0 := N0w.out.cell 0
  have v0 := N0w.out.frozen 0
  have m1 := M0.out.cell 1
  have n1 := N0w.out.cell 1
  have v1 := N0w.out.frozen 1
  have m2 := M0.out.cell 2
  have n2 := N0w.out.cell 2
  have v2 := N0w.out.frozen 2
  have m3 := M0.out.cell 3
  have n3 := N0w.out.cell 3
  have v3 := N0w.out.frozen 3
  have m4 := M0.out.cell 4
  have n4 := N0w.out.cell 4
  have v4 := N0w.out.frozen 4
  have b0 := B0w.out.cell 0
  rw [hwm0] at m0 n0 m1 n1 m2 n2 m3 n3 m4 n4 b0 v0 v1 v2 v3 v4
  simp at m0 n0 m1 n1 m2 n2 m3 n3 m4 n4 b0
  rw [rounds_succ]
  go_wp2_with fail
  clear m0 n0 m1 n1 m2 n2 m3 n3 m4 n4 b0 v0 v1 v2 v3 v4 hlt0 M0 N0w B0w nb0 nb1 nb2 nb3 nb4 vb0 vb1 vb2 vb3 vb4 bb
  obtain ⟨ws0, hws0⟩ : ∃ ws0, ws0 = (((((w3.setCell ⟨(w.heap.size + 1), 0, none⟩ (.int .u64 t0)).setCell ⟨(w.heap.size + 1), 1, none⟩ (.int .i64 z0)).setCell ⟨(w.heap.size + 1), 2, none⟩ (.int .u32 r0)).setCell ⟨(w.heap.size + 1), 3, none⟩ (.int .u32 f0)).setCell ⟨(w.heap.size + 1), 4, none⟩ (.int .u32 p0)).alloc (.cells #[.int .u64 t0, .int .i64 z0, .int .u32 r0, .int .u32 f0, .int .u32 p0] 31) := ⟨_, rfl⟩
  rw [← hws0]
  replace N0 := Lib.hid (show Blk ws0 (w.heap.size + 1) 31 #[.int .u64 t0, .int .i64 z0, .int .u32 r0, .int .u32 f0, .int .u32 p0] by rw [hws0]; exact (five_at N0.out).alloc _)
  replace R0 := Lib.hid (show Blk ws0 w.heap.size _ _ by rw [hws0]; exact (five_far R0.out (by omega)).alloc _)
  have hbb0 : w2.heap.size + 1 ≠ w.heap.size + 1 := by have := hN2.out; omega
  replace B0 := Lib.hid (show Blk ws0 (w2.heap.size + 1) _ _ by rw [hws0]; exact (five_far B0.out hbb0).alloc _)
  have hb5 := Lib.hid (five_below (a0 := .int .u64 t0) (a1 := .int .i64 z0) (a2 := .int .u32 r0) (a3 := .int .u32 f0) (a4 := .int .u32 p0) HB.out (Nat.le_succ w.heap.size))
  replace HB := Lib.hid (show Below w.heap.size w ws0 by rw [hws0]; exact hb5.out.alloc hb5.out.size _)
  clear hws0 hbb0 hwm0 hb5
  obtain ⟨wm1, hwm1⟩ : ∃ wm1, wm1 = ws0.alloc (.cells #[.int .u64 t1, .int .i64 z1, .int .u32 r1, .int .u32 f1, .int .u32 p1] 31) := ⟨_, rfl⟩
  have M1 := Lib.hid (show Blk wm1 ws0.heap.size 31 #[.int .u64 t1, .int .i64 z1, .int .u32 r1, .int .u32 f1, .int .u32 p1] by rw [hwm1]; exact Blk.new _ _ _)
  have hlt1 := N0.out.lt
  have nb0 := N0.out.cell 0
  have vb0 := N0.out.frozen 0
  have nb1 := N0.out.cell 1
  have vb1 := N0.out.frozen 1
  have nb2 := N0.out.cell 2
  have vb2 := N0.out.frozen 2
  have nb3 := N0.out.cell 3
  have vb3 := N0.out.frozen 3
  have nb4 := N0.out.cell 4
  have vb4 := N0.out.frozen 4
  have bb := B0.out.cell 1
  simp at nb0 nb1 nb2 nb3 nb4 bb
  have N0w := Lib.hid (show Blk wm1 _ _ _ by rw [hwm1]; exact N0.out.alloc _)
  have B0w := Lib.hid (show Blk wm1 _ _ _ by rw [hwm1]; exact B0.out.alloc _)
  have m0 := M1.out.cell 0
  have n0 := N0w.out.cell 0
  have v0 := N0w.out.frozen 0
  have m1 := M1.out.cell 1
  have n1 := N0w.out.cell 1
  have v1 := N0w.out.frozen 1
  have m2 := M1.out.cell 2
  have n2 := N0w.out.cell 2
  have v2 := N0w.out.frozen 2
  have m3 := M1.out.cell 3
  have n3 := N0w.out.cell 3
  have v3 := N0w.out.frozen 3
  have m4 := M1.out.cell 4
  have n4 := N0w.out.cell 4
  have v4 := N0w.out.frozen 4
  have b1 := B0w.out.cell 1
  rw [hwm1] at m0 n0 m1 n1 m2 n2 m3 n3 m4 n4 b1 v0 v1 v2 v3 v4
  simp at m0 n0 m1 n1 m2 n2 m3 n3 m4 n4 b1
  rw [rounds_succ]
  go_wp2_with fail
  rw [← hwm1]
  clear m0 n0 m1 n1 m2 n2 m3 n3 m4 n4 b1 v0 v1 v2 v3 v4 hlt1 M1 N0w B0w nb0 nb1 nb2 nb3 nb4 vb0 vb1 vb2 vb3 vb4 bb
  replace R0 := Lib.hid (show Blk wm1 _ _ _ by rw [hwm1]; exact R0.out.alloc _)
  replace N0 := Lib.hid (show Blk wm1 _ _ _ by rw [hwm1]; exact N0.out.alloc _)
  replace B0 := Lib.hid (show Blk wm1 _ _ _ by rw [hwm1]; exact B0.out.alloc _)
  replace HB := Lib.hid (show Below w.heap.size w wm1 by rw [hwm1]; exact HB.out.alloc HB.out.size _)
  clear hwm1
  rw [rounds_succ]
  have n0 := N0.out.cell 0
  have k0 := R0.out.cell 0
  have v0 := R0.out.frozen 0
  have n1 := N0.out.cell 1
  have k1 := R0.out.cell 1
  have v1 := R0.out.frozen 1
  have n2 := N0.out.cell 2
  have k2 := R0.out.cell 2
  have v2 := R0.out.frozen 2
  have n3 := N0.out.cell 3
  have k3 := R0.out.cell 3
  have v3 := R0.out.frozen 3
  have n4 := N0.out.cell 4
  have k4 := R0.out.cell 4
  have v4 := R0.out.frozen 4
  simp at n0 k0 n1 k1 n2 k2 n3 k3 n4 k4
  go_wp2_with fail
  exact bodyPost_ret (read_row rfl _ _ _ w.heap.size #[.int .u64 t0, .int .i64 z0, .int .u32 r0, .int .u32 f0, .int .u32 p0] rfl (load_meta (five_at R0.out))) rfl ⟨rfl, five_below HB.out (Nat.le_refl _)⟩
set_option maxRecDepth 100000 in
set_option maxHeartbeats 6400000 in
theorem mnew_b (size : Int) (s : ByteArray) (t0 : Nat) (z0 : Int) (r0 f0 p0 : Nat) (t1 : Nat) (z1 : Int) (r1 f1 p1 : Nat) (w : World) (hg : goodSize size = true) (h0 : MetaAt size s 0 t0 z0 r0 f0 p0 false) (h1 : MetaAt size s 1 t1 z1 r1 f1 p1 true) (hs : s.size ≤ maxLen) :
    Calls Try.prog 15 #[.int .i64 size, .string s] w fun e w' => e = .returned (.tuple #[.agg #[.int .u64 t1, .int .i64 z1, .int .u32 r1, .int .u32 f1, .int .u32 p1], .int .i64 0]) ∧ Below w.heap.size w w' := by
  have HBo := fun w => mboth_any size s t0 z0 r0 f0 p0 false t1 z1 r1 f1 p1 true w h0 h1 hs
  obtain ⟨zn, hzn, hzn1, hzn2, _⟩ := good_nat hg
  have hq : ((size - 24 : Int) == 0) = false := by simp; omega
  have hne : z1 ≠ 0 := h1.size.elim (fun h => h.2.2) (fun h => absurd h.1 (by decide))
  have heq := fun w => meta_diff_eql t1 z1 r1 f1 p1 0 0 0 0 0 w fun h => hne h.2.1
  clear hne
  have gz0 : decide ((0 : Int) ≤ (t0 : Int)) = true := by simp
  have gz1 : decide ((0 : Int) ≤ (t1 : Int)) = true := by simp
  have hx0 := ix0
  have hx1 := ix1
  have HG := Lib.hid hg
  clear h0 h1 hs hzn hzn1 hzn2 hg
  obtain ⟨hz, hi⟩ := zero_of_info infoMt
  have HI := Lib.hid hi
  clear hi
  obtain ⟨hz2, hi2⟩ := zero_of_info infoM2
  have HI2 := Lib.hid hi2
  clear hi2
  obtain ⟨hz3, hi3⟩ := zero_of_info infoB2
  have HI3 := Lib.hid hi3
  clear hi3
  obtain ⟨w0, hw0⟩ : ∃ w0, w0 = w.alloc (.cells #[.int .u64 0, .int .i64 0, .int .u32 0, .int .u32 0, .int .u32 0] 31) := ⟨_, rfl⟩
  have R0 := Lib.hid (show Blk w0 w.heap.size 31 #[.int .u64 0, .int .i64 0, .int .u32 0, .int .u32 0, .int .u32 0] by rw [hw0]; exact Blk.new _ _ _)
  have HB := Lib.hid (show Below w.heap.size w w0 by rw [hw0]; exact (Below.refl _ _).alloc (Nat.le_refl _) _)
  have hsz : w0.heap.size = w.heap.size + 1 := by rw [hw0]; simp
  go_enter Try.func15, Try.ntmps15
  go_wp2_with fail
  rw [← hw0]
  clear hw0
  refine (room_is size _ HG.out).mono ?_
  rintro e wa ⟨rfl, rfl⟩
  obtain ⟨w1, hw1⟩ : ∃ w1, w1 = wa.alloc (.cells #[.int .u64 0, .int .i64 0, .int .u32 0, .int .u32 0, .int .u32 0] 31) := ⟨_, rfl⟩
  have N0 := Lib.hid (show Blk w1 wa.heap.size 31 #[.int .u64 0, .int .i64 0, .int .u32 0, .int .u32 0, .int .u32 0] by rw [hw1]; exact Blk.new _ _ _)
  replace R0 := Lib.hid (show Blk w1 _ _ _ by rw [hw1]; exact R0.out.alloc _)
  replace HB := Lib.hid (show Below w.heap.size w w1 by rw [hw1]; exact HB.out.alloc HB.out.size _)
  go_wp2_with fail
  rw [← hw1]
  clear hw1
  refine (HBo _).mono ?_
  rintro e w2 ⟨rfl, hb⟩
  replace R0 := Lib.hid (R0.out.below hb R0.out.lt)
  replace N0 := Lib.hid (N0.out.below hb N0.out.lt)
  replace HB := Lib.hid (HB.out.trans (hb.mono HB.out.size))
  clear hb HBo
  rw [hsz] at N0
  have hN2 := Lib.hid (show w.heap.size + 1 < w2.heap.size from N0.out.lt)
  obtain ⟨nb, hnb⟩ : ∃ nb, nb = w.heap.size + 1 := ⟨_, rfl⟩
  obtain ⟨w3, hw3⟩ : ∃ w3, w3 = (w2.alloc (.cells #[.int .u64 t0, .int .i64 z0, .int .u32 r0, .int .u32 f0, .int .u32 p0, .int .u64 t1, .int .i64 z1, .int .u32 r1, .int .u32 f1, .int .u32 p1] 36)).alloc (.cells #[.bool false, .bool true] 37) := ⟨_, rfl⟩
  have A0 := Lib.hid (show Blk w3 w2.heap.size 36 #[.int .u64 t0, .int .i64 z0, .int .u32 r0, .int .u32 f0, .int .u32 p0, .int .u64 t1, .int .i64 z1, .int .u32 r1, .int .u32 f1, .int .u32 p1] by rw [hw3]; exact (Blk.new _ _ _).alloc _)
  have B0 := Lib.hid (show Blk w3 (w2.heap.size + 1) 37 #[.bool false, .bool true] by rw [hw3, show w2.heap.size + 1 = (w2.alloc (.cells #[.int .u64 t0, .int .i64 z0, .int .u32 r0, .int .u32 f0, .int .u32 p0, .int .u64 t1, .int .i64 z1, .int .u32 r1, .int .u32 f1, .int .u32 p1] 36)).heap.size by simp]; exact Blk.new _ _ _)
  replace R0 := Lib.hid (show Blk w3 _ _ _ by rw [hw3]; exact (R0.out.alloc _).alloc _)
  replace N0 := Lib.hid (show Blk w3 _ _ _ by rw [hw3]; exact (N0.out.alloc _).alloc _)
  replace HB := Lib.hid (show Below w.heap.size w w3 by rw [hw3]; exact (HB.out.alloc HB.out.size _).alloc (HB.out.alloc HB.out.size _).size _)
  have a0 := A0.out.cell 0
  have a1 := A0.out.cell 1
  have a2 := A0.out.cell 2
  have a3 := A0.out.cell 3
  have a4 := A0.out.cell 4
  have a5 := A0.out.cell 5
  have a6 := A0.out.cell 6
  have a7 := A0.out.cell 7
  have a8 := A0.out.cell 8
  have a9 := A0.out.cell 9
  rw [hw3] at a0 a1 a2 a3 a4 a5 a6 a7 a8 a9
  simp at a0 a1 a2 a3 a4 a5 a6 a7 a8 a9
  go_wp2_with fail
  rw [← hw3]
  clear hw3 hnb a0 a1 a2 a3 a4 a5 a6 a7 a8 a9
  refine wp_loop_rounds 3 ?_
  obtain ⟨wm0, hwm0⟩ : ∃ wm0, wm0 = w3.alloc (.cells #[.int .u64 t0, .int .i64 z0, .int .u32 r0, .int .u32 f0, .int .u32 p0] 31) := ⟨_, rfl⟩
  have M0 := Lib.hid (show Blk wm0 w3.heap.size 31 #[.int .u64 t0, .int .i64 z0, .int .u32 r0, .int .u32 f0, .int .u32 p0] by rw [hwm0]; exact Blk.new _ _ _)
  have hlt0 := N0.out.lt
  have nb0 := N0.out.cell 0
  have vb0 := N0.out.frozen 0
  have nb1 := N0.out.cell 1
  have vb1 := N0.out.frozen 1
  have nb2 := N0.out.cell 2
  have vb2 := N0.out.frozen 2
  have nb3 := N0.out.cell 3
  have vb3 := N0.out.frozen 3
  have nb4 := N0.out.cell 4
  have vb4 := N0.out.frozen 4
  have bb := B0.out.cell 0
  simp at nb0 nb1 nb2 nb3 nb4 bb
  have N0w := Lib.hid (show Blk wm0 _ _ _ by rw [hwm0]; exact N0.out.alloc _)
  have B0w := Lib.hid (show Blk wm0 _ _ _ by rw [hwm0]; exact B0.out.alloc _)
  have m0 := M0.out.cell 0
  have n0 := N0w.out.cell 0
  have v0 := N0w.out.frozen 0
  have m1 := M0.out.cell 1
  have n1 := N0w.out.cell 1
  have v1 := N0w.out.frozen 1
  have m2 := M0.out.cell 2
  have n2 := N0w.out.cell 2
  have v2 := N0w.out.frozen 2
  have m3 := M0.out.cell 3
  have n3 := N0w.out.cell 3
  have v3 := N0w.out.frozen 3
  have m4 := M0.out.cell 4
  have n4 := N0w.out.cell 4
  have v4 := N0w.out.frozen 4
  have b0 := B0w.out.cell 0
  rw [hwm0] at m0 n0 m1 n1 m2 n2 m3 n3 m4 n4 b0 v0 v1 v2 v3 v4
  simp at m0 n0 m1 n1 m2 n2 m3 n3 m4 n4 b0
  rw [rounds_succ]
  go_wp2_with fail
  rw [← hwm0]
  clear m0 n0 m1 n1 m2 n2 m3 n3 m4 n4 b0 v0 v1 v2 v3 v4 hlt0 M0 N0w B0w nb0 nb1 nb2 nb3 nb4 vb0 vb1 vb2 vb3 vb4 bb
  replace R0 := Lib.hid (show Blk wm0 _ _ _ by rw [hwm0]; exact R0.out.alloc _)
  replace N0 := Lib.hid (show Blk wm0 _ _ _ by rw [hwm0]; exact N0.out.alloc _)
  replace B0 := Lib.hid (show Blk wm0 _ _ _ by rw [hwm0]; exact B0.out.alloc _)
  replace HB := Lib.hid (show Below w.heap.size w wm0 by rw [hwm0]; exact HB.out.alloc HB.out.size _)
  clear hwm0
  obtain ⟨wm1, hwm1⟩ : ∃ wm1, wm1 = wm0.alloc (.cells #[.int .u64 t1, .int .i64 z1, .int .u32 r1, .int .u32 f1, .int .u32 p1] 31) := ⟨_, rfl⟩
  have M1 := Lib.hid (show Blk wm1 wm0.heap.size 31 #[.int .u64 t1, .int .i64 z1, .int .u32 r1, .int .u32 f1, .int .u32 p1] by rw [hwm1]; exact Blk.new _ _ _)
  have hlt1 := N0.out.lt
  have nb0 := N0.out.cell 0
  have vb0 := N0.out.frozen 0
  have nb1 := N0.out.cell 1
  have vb1 := N0.out.frozen 1
  have nb2 := N0.out.cell 2
  have vb2 := N0.out.frozen 2
  have nb3 := N0.out.cell 3
  have vb3 := N0.out.frozen 3
  have nb4 := N0.out.cell 4
  have vb4 := N0.out.frozen 4
  have bb := B0.out.cell 1
  simp at nb0 nb1 nb2 nb3 nb4 bb
  have N0w := Lib.hid (show Blk wm1 _ _ _ by rw [hwm1]; exact N0.out.alloc _)
  have B0w := Lib.hid (show Blk wm1 _ _ _ by rw [hwm1]; exact B0.out.alloc _)
  have m0 := M1.out.cell 0
  have n0 := N0w.out.cell 0
  have v0 := N0w.out.frozen 0
  have m1 := M1.out.cell 1
  have n1 := N0w.out.cell 1
  have v1 := N0w.out.frozen 1
  have m2 := M1.out.cell 2
  have n2 := N0w.out.cell 2
  have v2 := N0w.out.frozen 2
  have m3 := M1.out.cell 3
  have n3 := N0w.out.cell 3
  have v3 := N0w.out.frozen 3
  have m4 := M1.out.cell 4
  have n4 := N0w.out.cell 4
  have v4 := N0w.out.frozen 4
  have b1 := B0w.out.cell 1
  rw [hwm1] at m0 n0 m1 n1 m2 n2 m3 n3 m4 n4 b1 v0 v1 v2 v3 v4
  simp at m0 n0 m1 n1 m2 n2 m3 n3 m4 n4 b1
  rw [rounds_succ]
  go_wp2_with fail
  clear m0 n0 m1 n1 m2 n2 m3 n3 m4 n4 b1 v0 v1 v2 v3 v4 hlt1 M1 N0w B0w nb0 nb1 nb2 nb3 nb4 vb0 vb1 vb2 vb3 vb4 bb
  obtain ⟨ws1, hws1⟩ : ∃ ws1, ws1 = (((((wm0.setCell ⟨(w.heap.size + 1), 0, none⟩ (.int .u64 t1)).setCell ⟨(w.heap.size + 1), 1, none⟩ (.int .i64 z1)).setCell ⟨(w.heap.size + 1), 2, none⟩ (.int .u32 r1)).setCell ⟨(w.heap.size + 1), 3, none⟩ (.int .u32 f1)).setCell ⟨(w.heap.size + 1), 4, none⟩ (.int .u32 p1)).alloc (.cells #[.int .u64 t1, .int .i64 z1, .int .u32 r1, .int .u32 f1, .int .u32 p1] 31) := ⟨_, rfl⟩
  rw [← hws1]
  replace N0 := Lib.hid (show Blk ws1 (w.heap.size + 1) 31 #[.int .u64 t1, .int .i64 z1, .int .u32 r1, .int .u32 f1, .int .u32 p1] by rw [hws1]; exact (five_at N0.out).alloc _)
  replace R0 := Lib.hid (show Blk ws1 w.heap.size _ _ by rw [hws1]; exact (five_far R0.out (by omega)).alloc _)
  have hbb1 : w2.heap.size + 1 ≠ w.heap.size + 1 := by have := hN2.out; omega
  replace B0 := Lib.hid (show Blk ws1 (w2.heap.size + 1) _ _ by rw [hws1]; exact (five_far B0.out hbb1).alloc _)
  have hb5 := Lib.hid (five_below (a0 := .int .u64 t1) (a1 := .int .i64 z1) (a2 := .int .u32 r1) (a3 := .int .u32 f1) (a4 := .int .u32 p1) HB.out (Nat.le_succ w.heap.size))
  replace HB := Lib.hid (show Below w.heap.size w ws1 by rw [hws1]; exact hb5.out.alloc hb5.out.size _)
  clear hws1 hbb1 hwm1 hb5
  rw [rounds_succ]
  have n0 := N0.out.cell 0
  have k0 := R0.out.cell 0
  have v0 := R0.out.frozen 0
  have n1 := N0.out.cell 1
  have k1 := R0.out.cell 1
  have v1 := R0.out.frozen 1
  have n2 := N0.out.cell 2
  have k2 := R0.out.cell 2
  have v2 := R0.out.frozen 2
  have n3 := N0.out.cell 3
  have k3 := R0.out.cell 3
  have v3 := R0.out.frozen 3
  have n4 := N0.out.cell 4
  have k4 := R0.out.cell 4
  have v4 := R0.out.frozen 4
  simp at n0 k0 n1 k1 n2 k2 n3 k3 n4 k4
  go_wp2_with fail
  exact bodyPost_ret (read_row rfl _ _ _ w.heap.size #[.int .u64 t1, .int .i64 z1, .int .u32 r1, .int .u32 f1, .int .u32 p1] rfl (load_meta (five_at R0.out))) rfl ⟨rfl, five_below HB.out (Nat.le_refl _)⟩
set_option maxRecDepth 100000 in
set_option maxHeartbeats 6400000 in
theorem mnew_ab (size : Int) (s : ByteArray) (t0 : Nat) (z0 : Int) (r0 f0 p0 : Nat) (t1 : Nat) (z1 : Int) (r1 f1 p1 : Nat) (w : World) (hg : goodSize size = true) (h0 : MetaAt size s 0 t0 z0 r0 f0 p0 true) (h1 : MetaAt size s 1 t1 z1 r1 f1 p1 true) (hs : s.size ≤ maxLen) (hlt : t0 < t1) :
    Calls Try.prog 15 #[.int .i64 size, .string s] w fun e w' => e = .returned (.tuple #[.agg #[.int .u64 t1, .int .i64 z1, .int .u32 r1, .int .u32 f1, .int .u32 p1], .int .i64 0]) ∧ Below w.heap.size w w' := by
  have HBo := fun w => mboth_any size s t0 z0 r0 f0 p0 true t1 z1 r1 f1 p1 true w h0 h1 hs
  obtain ⟨zn, hzn, hzn1, hzn2, _⟩ := good_nat hg
  have hq : ((size - 24 : Int) == 0) = false := by simp; omega
  have hne : z1 ≠ 0 := h1.size.elim (fun h => h.2.2) (fun h => absurd h.1 (by decide))
  have heq := fun w => meta_diff_eql t1 z1 r1 f1 p1 0 0 0 0 0 w fun h => hne h.2.1
  clear hne
  have g1 : decide ((t0 : Int) ≤ (t1 : Int)) = true := by simp; omega
  have g1' : decide (t0 ≤ t1) = true := by simp; omega
  clear hlt
  have gz0 : decide ((0 : Int) ≤ (t0 : Int)) = true := by simp
  have gz1 : decide ((0 : Int) ≤ (t1 : Int)) = true := by simp
  have hx0 := ix0
  have hx1 := ix1
  have HG := Lib.hid hg
  clear h0 h1 hs hzn hzn1 hzn2 hg
  obtain ⟨hz, hi⟩ := zero_of_info infoMt
  have HI := Lib.hid hi
  clear hi
  obtain ⟨hz2, hi2⟩ := zero_of_info infoM2
  have HI2 := Lib.hid hi2
  clear hi2
  obtain ⟨hz3, hi3⟩ := zero_of_info infoB2
  have HI3 := Lib.hid hi3
  clear hi3
  obtain ⟨w0, hw0⟩ : ∃ w0, w0 = w.alloc (.cells #[.int .u64 0, .int .i64 0, .int .u32 0, .int .u32 0, .int .u32 0] 31) := ⟨_, rfl⟩
  have R0 := Lib.hid (show Blk w0 w.heap.size 31 #[.int .u64 0, .int .i64 0, .int .u32 0, .int .u32 0, .int .u32 0] by rw [hw0]; exact Blk.new _ _ _)
  have HB := Lib.hid (show Below w.heap.size w w0 by rw [hw0]; exact (Below.refl _ _).alloc (Nat.le_refl _) _)
  have hsz : w0.heap.size = w.heap.size + 1 := by rw [hw0]; simp
  go_enter Try.func15, Try.ntmps15
  go_wp2_with fail
  rw [← hw0]
  clear hw0
  refine (room_is size _ HG.out).mono ?_
  rintro e wa ⟨rfl, rfl⟩
  obtain ⟨w1, hw1⟩ : ∃ w1, w1 = wa.alloc (.cells #[.int .u64 0, .int .i64 0, .int .u32 0, .int .u32 0, .int .u32 0] 31) := ⟨_, rfl⟩
  have N0 := Lib.hid (show Blk w1 wa.heap.size 31 #[.int .u64 0, .int .i64 0, .int .u32 0, .int .u32 0, .int .u32 0] by rw [hw1]; exact Blk.new _ _ _)
  replace R0 := Lib.hid (show Blk w1 _ _ _ by rw [hw1]; exact R0.out.alloc _)
  replace HB := Lib.hid (show Below w.heap.size w w1 by rw [hw1]; exact HB.out.alloc HB.out.size _)
  go_wp2_with fail
  rw [← hw1]
  clear hw1
  refine (HBo _).mono ?_
  rintro e w2 ⟨rfl, hb⟩
  replace R0 := Lib.hid (R0.out.below hb R0.out.lt)
  replace N0 := Lib.hid (N0.out.below hb N0.out.lt)
  replace HB := Lib.hid (HB.out.trans (hb.mono HB.out.size))
  clear hb HBo
  rw [hsz] at N0
  have hN2 := Lib.hid (show w.heap.size + 1 < w2.heap.size from N0.out.lt)
  obtain ⟨nb, hnb⟩ : ∃ nb, nb = w.heap.size + 1 := ⟨_, rfl⟩
  obtain ⟨w3, hw3⟩ : ∃ w3, w3 = (w2.alloc (.cells #[.int .u64 t0, .int .i64 z0, .int .u32 r0, .int .u32 f0, .int .u32 p0, .int .u64 t1, .int .i64 z1, .int .u32 r1, .int .u32 f1, .int .u32 p1] 36)).alloc (.cells #[.bool true, .bool true] 37) := ⟨_, rfl⟩
  have A0 := Lib.hid (show Blk w3 w2.heap.size 36 #[.int .u64 t0, .int .i64 z0, .int .u32 r0, .int .u32 f0, .int .u32 p0, .int .u64 t1, .int .i64 z1, .int .u32 r1, .int .u32 f1, .int .u32 p1] by rw [hw3]; exact (Blk.new _ _ _).alloc _)
  have B0 := Lib.hid (show Blk w3 (w2.heap.size + 1) 37 #[.bool true, .bool true] by rw [hw3, show w2.heap.size + 1 = (w2.alloc (.cells #[.int .u64 t0, .int .i64 z0, .int .u32 r0, .int .u32 f0, .int .u32 p0, .int .u64 t1, .int .i64 z1, .int .u32 r1, .int .u32 f1, .int .u32 p1] 36)).heap.size by simp]; exact Blk.new _ _ _)
  replace R0 := Lib.hid (show Blk w3 _ _ _ by rw [hw3]; exact (R0.out.alloc _).alloc _)
  replace N0 := Lib.hid (show Blk w3 _ _ _ by rw [hw3]; exact (N0.out.alloc _).alloc _)
  replace HB := Lib.hid (show Below w.heap.size w w3 by rw [hw3]; exact (HB.out.alloc HB.out.size _).alloc (HB.out.alloc HB.out.size _).size _)
  have a0 := A0.out.cell 0
  have a1 := A0.out.cell 1
  have a2 := A0.out.cell 2
  have a3 := A0.out.cell 3
  have a4 := A0.out.cell 4
  have a5 := A0.out.cell 5
  have a6 := A0.out.cell 6
  have a7 := A0.out.cell 7
  have a8 := A0.out.cell 8
  have a9 := A0.out.cell 9
  rw [hw3] at a0 a1 a2 a3 a4 a5 a6 a7 a8 a9
  simp at a0 a1 a2 a3 a4 a5 a6 a7 a8 a9
  go_wp2_with fail
  rw [← hw3]
  clear hw3 hnb a0 a1 a2 a3 a4 a5 a6 a7 a8 a9
  refine wp_loop_rounds 3 ?_
  obtain ⟨wm0, hwm0⟩ : ∃ wm0, wm0 = w3.alloc (.cells #[.int .u64 t0, .int .i64 z0, .int .u32 r0, .int .u32 f0, .int .u32 p0] 31) := ⟨_, rfl⟩
  have M0 := Lib.hid (show Blk wm0 w3.heap.size 31 #[.int .u64 t0, .int .i64 z0, .int .u32 r0, .int .u32 f0, .int .u32 p0] by rw [hwm0]; exact Blk.new _ _ _)
  have hlt0 := N0.out.lt
  have nb0 := N0.out.cell 0
  have vb0 := N0.out.frozen 0
  have nb1 := N0.out.cell 1
  have vb1 := N0.out.frozen 1
  have nb2 := N0.out.cell 2
  have vb2 := N0.out.frozen 2
  have nb3 := N0.out.cell 3
  have vb3 := N0.out.frozen 3
  have nb4 := N0.out.cell 4
  have vb4 := N0.out.frozen 4
  have bb := B0.out.cell 0
  simp at nb0 nb1 nb2 nb3 nb4 bb
  have N0w := Lib.hid (show Blk wm0 _ _ _ by rw [hwm0]; exact N0.out.alloc _)
  have B0w := Lib.hid (show Blk wm0 _ _ _ by rw [hwm0]; exact B0.out.alloc _)
  have m0 := M0.out.cell 0
  have n0 := N0w.out.cell 0
  have v0 := N0w.out.frozen 0
  have m1 := M0.out.cell 1
  have n1 := N0w.out.cell 1
  have v1 := N0w.out.frozen 1
  have m2 := M0.out.cell 2
  have n2 := N0w.out.cell 2
  have v2 := N0w.out.frozen 2
  have m3 := M0.out.cell 3
  have n3 := N0w.out.cell 3
  have v3 := N0w.out.frozen 3
  have m4 := M0.out.cell 4
  have n4 := N0w.out.cell 4
  have v4 := N0w.out.frozen 4
  have b0 := B0w.out.cell 0
  rw [hwm0] at m0 n0 m1 n1 m2 n2 m3 n3 m4 n4 b0 v0 v1 v2 v3 v4
  simp at m0 n0 m1 n1 m2 n2 m3 n3 m4 n4 b0
  rw [rounds_succ]
  go_wp2_with fail
  clear m0 n0 m1 n1 m2 n2 m3 n3 m4 n4 b0 v0 v1 v2 v3 v4 hlt0 M0 N0w B0w nb0 nb1 nb2 nb3 nb4 vb0 vb1 vb2 vb3 vb4 bb
  obtain ⟨ws0, hws0⟩ : ∃ ws0, ws0 = (((((w3.setCell ⟨(w.heap.size + 1), 0, none⟩ (.int .u64 t0)).setCell ⟨(w.heap.size + 1), 1, none⟩ (.int .i64 z0)).setCell ⟨(w.heap.size + 1), 2, none⟩ (.int .u32 r0)).setCell ⟨(w.heap.size + 1), 3, none⟩ (.int .u32 f0)).setCell ⟨(w.heap.size + 1), 4, none⟩ (.int .u32 p0)).alloc (.cells #[.int .u64 t0, .int .i64 z0, .int .u32 r0, .int .u32 f0, .int .u32 p0] 31) := ⟨_, rfl⟩
  rw [← hws0]
  replace N0 := Lib.hid (show Blk ws0 (w.heap.size + 1) 31 #[.int .u64 t0, .int .i64 z0, .int .u32 r0, .int .u32 f0, .int .u32 p0] by rw [hws0]; exact (five_at N0.out).alloc _)
  replace R0 := Lib.hid (show Blk ws0 w.heap.size _ _ by rw [hws0]; exact (five_far R0.out (by omega)).alloc _)
  have hbb0 : w2.heap.size + 1 ≠ w.heap.size + 1 := by have := hN2.out; omega
  replace B0 := Lib.hid (show Blk ws0 (w2.heap.size + 1) _ _ by rw [hws0]; exact (five_far B0.out hbb0).alloc _)
  have hb5 := Lib.hid (five_below (a0 := .int .u64 t0) (a1 := .int .i64 z0) (a2 := .int .u32 r0) (a3 := .int .u32 f0) (a4 := .int .u32 p0) HB.out (Nat.le_succ w.heap.size))
  replace HB := Lib.hid (show Below w.heap.size w ws0 by rw [hws0]; exact hb5.out.alloc hb5.out.size _)
  clear hws0 hbb0 hwm0 hb5
  obtain ⟨wm1, hwm1⟩ : ∃ wm1, wm1 = ws0.alloc (.cells #[.int .u64 t1, .int .i64 z1, .int .u32 r1, .int .u32 f1, .int .u32 p1] 31) := ⟨_, rfl⟩
  have M1 := Lib.hid (show Blk wm1 ws0.heap.size 31 #[.int .u64 t1, .int .i64 z1, .int .u32 r1, .int .u32 f1, .int .u32 p1] by rw [hwm1]; exact Blk.new _ _ _)
  have hlt1 := N0.out.lt
  have nb0 := N0.out.cell 0
  have vb0 := N0.out.frozen 0
  have nb1 := N0.out.cell 1
  have vb1 := N0.out.frozen 1
  have nb2 := N0.out.cell 2
  have vb2 := N0.out.frozen 2
  have nb3 := N0.out.cell 3
  have vb3 := N0.out.frozen 3
  have nb4 := N0.out.cell 4
  have vb4 := N0.out.frozen 4
  have bb := B0.out.cell 1
  simp at nb0 nb1 nb2 nb3 nb4 bb
  have N0w := Lib.hid (show Blk wm1 _ _ _ by rw [hwm1]; exact N0.out.alloc _)
  have B0w := Lib.hid (show Blk wm1 _ _ _ by rw [hwm1]; exact B0.out.alloc _)
  have m0 := M1.out.cell 0
  have n0 := N0w.out.cell 0
  have v0 := N0w.out.frozen 0
  have m1 := M1.out.cell 1
  have n1 := N0w.out.cell 1
  have v1 := N0w.out.frozen 1
  have m2 := M1.out.cell 2
  have n2 := N0w.out.cell 2
  have v2 := N0w.out.frozen 2
  have m3 := M1.out.cell 3
  have n3 := N0w.out.cell 3
  have v3 := N0w.out.frozen 3
  have m4 := M1.out.cell 4
  have n4 := N0w.out.cell 4
  have v4 := N0w.out.frozen 4
  have b1 := B0w.out.cell 1
  rw [hwm1] at m0 n0 m1 n1 m2 n2 m3 n3 m4 n4 b1 v0 v1 v2 v3 v4
  simp at m0 n0 m1 n1 m2 n2 m3 n3 m4 n4 b1
  rw [rounds_succ]
  go_wp2_with fail
  clear m0 n0 m1 n1 m2 n2 m3 n3 m4 n4 b1 v0 v1 v2 v3 v4 hlt1 M1 N0w B0w nb0 nb1 nb2 nb3 nb4 vb0 vb1 vb2 vb3 vb4 bb
  obtain ⟨ws1, hws1⟩ : ∃ ws1, ws1 = (((((ws0.setCell ⟨(w.heap.size + 1), 0, none⟩ (.int .u64 t1)).setCell ⟨(w.heap.size + 1), 1, none⟩ (.int .i64 z1)).setCell ⟨(w.heap.size + 1), 2, none⟩ (.int .u32 r1)).setCell ⟨(w.heap.size + 1), 3, none⟩ (.int .u32 f1)).setCell ⟨(w.heap.size + 1), 4, none⟩ (.int .u32 p1)).alloc (.cells #[.int .u64 t1, .int .i64 z1, .int .u32 r1, .int .u32 f1, .int .u32 p1] 31) := ⟨_, rfl⟩
  rw [← hws1]
  replace N0 := Lib.hid (show Blk ws1 (w.heap.size + 1) 31 #[.int .u64 t1, .int .i64 z1, .int .u32 r1, .int .u32 f1, .int .u32 p1] by rw [hws1]; exact (five_at N0.out).alloc _)
  replace R0 := Lib.hid (show Blk ws1 w.heap.size _ _ by rw [hws1]; exact (five_far R0.out (by omega)).alloc _)
  have hbb1 : w2.heap.size + 1 ≠ w.heap.size + 1 := by have := hN2.out; omega
  replace B0 := Lib.hid (show Blk ws1 (w2.heap.size + 1) _ _ by rw [hws1]; exact (five_far B0.out hbb1).alloc _)
  have hb5 := Lib.hid (five_below (a0 := .int .u64 t1) (a1 := .int .i64 z1) (a2 := .int .u32 r1) (a3 := .int .u32 f1) (a4 := .int .u32 p1) HB.out (Nat.le_succ w.heap.size))
  replace HB := Lib.hid (show Below w.heap.size w ws1 by rw [hws1]; exact hb5.out.alloc hb5.out.size _)
  clear hws1 hbb1 hwm1 hb5
  rw [rounds_succ]
  have n0 := N0.out.cell 0
  have k0 := R0.out.cell 0
  have v0 := R0.out.frozen 0
  have n1 := N0.out.cell 1
  have k1 := R0.out.cell 1
  have v1 := R0.out.frozen 1
  have n2 := N0.out.cell 2
  have k2 := R0.out.cell 2
  have v2 := R0.out.frozen 2
  have n3 := N0.out.cell 3
  have k3 := R0.out.cell 3
  have v3 := R0.out.frozen 3
  have n4 := N0.out.cell 4
  have k4 := R0.out.cell 4
  have v4 := R0.out.frozen 4
  simp at n0 k0 n1 k1 n2 k2 n3 k3 n4 k4
  go_wp2_with fail
  exact bodyPost_ret (read_row rfl _ _ _ w.heap.size #[.int .u64 t1, .int .i64 z1, .int .u32 r1, .int .u32 f1, .int .u32 p1] rfl (load_meta (five_at R0.out))) rfl ⟨rfl, five_below HB.out (Nat.le_refl _)⟩
set_option maxRecDepth 100000 in
set_option maxHeartbeats 6400000 in
theorem mnew_ba (size : Int) (s : ByteArray) (t0 : Nat) (z0 : Int) (r0 f0 p0 : Nat) (t1 : Nat) (z1 : Int) (r1 f1 p1 : Nat) (w : World) (hg : goodSize size = true) (h0 : MetaAt size s 0 t0 z0 r0 f0 p0 true) (h1 : MetaAt size s 1 t1 z1 r1 f1 p1 true) (hs : s.size ≤ maxLen) (hlt : t1 < t0) :
    Calls Try.prog 15 #[.int .i64 size, .string s] w fun e w' => e = .returned (.tuple #[.agg #[.int .u64 t0, .int .i64 z0, .int .u32 r0, .int .u32 f0, .int .u32 p0], .int .i64 0]) ∧ Below w.heap.size w w' := by
  have HBo := fun w => mboth_any size s t0 z0 r0 f0 p0 true t1 z1 r1 f1 p1 true w h0 h1 hs
  obtain ⟨zn, hzn, hzn1, hzn2, _⟩ := good_nat hg
  have hq : ((size - 24 : Int) == 0) = false := by simp; omega
  have hne : z0 ≠ 0 := h0.size.elim (fun h => h.2.2) (fun h => absurd h.1 (by decide))
  have heq := fun w => meta_diff_eql t0 z0 r0 f0 p0 0 0 0 0 0 w fun h => hne h.2.1
  clear hne
  have g1 : decide ((t0 : Int) ≤ (t1 : Int)) = false := by simp; omega
  have g1' : decide (t0 ≤ t1) = false := by simp; omega
  clear hlt
  have gz0 : decide ((0 : Int) ≤ (t0 : Int)) = true := by simp
  have gz1 : decide ((0 : Int) ≤ (t1 : Int)) = true := by simp
  have hx0 := ix0
  have hx1 := ix1
  have HG := Lib.hid hg
  clear h0 h1 hs hzn hzn1 hzn2 hg
  obtain ⟨hz, hi⟩ := zero_of_info infoMt
  have HI := Lib.hid hi
  clear hi
  obtain ⟨hz2, hi2⟩ := zero_of_info infoM2
  have HI2 := Lib.hid hi2
  clear hi2
  obtain ⟨hz3, hi3⟩ := zero_of_info infoB2
  have HI3 := Lib.hid hi3
  clear hi3
  obtain ⟨w0, hw0⟩ : ∃ w0, w0 = w.alloc (.cells #[.int .u64 0, .int .i64 0, .int .u32 0, .int .u32 0, .int .u32 0] 31) := ⟨_, rfl⟩
  have R0 := Lib.hid (show Blk w0 w.heap.size 31 #[.int .u64 0, .int .i64 0, .int .u32 0, .int .u32 0, .int .u32 0] by rw [hw0]; exact Blk.new _ _ _)
  have HB := Lib.hid (show Below w.heap.size w w0 by rw [hw0]; exact (Below.refl _ _).alloc (Nat.le_refl _) _)
  have hsz : w0.heap.size = w.heap.size + 1 := by rw [hw0]; simp
  go_enter Try.func15, Try.ntmps15
  go_wp2_with fail
  rw [← hw0]
  clear hw0
  refine (room_is size _ HG.out).mono ?_
  rintro e wa ⟨rfl, rfl⟩
  obtain ⟨w1, hw1⟩ : ∃ w1, w1 = wa.alloc (.cells #[.int .u64 0, .int .i64 0, .int .u32 0, .int .u32 0, .int .u32 0] 31) := ⟨_, rfl⟩
  have N0 := Lib.hid (show Blk w1 wa.heap.size 31 #[.int .u64 0, .int .i64 0, .int .u32 0, .int .u32 0, .int .u32 0] by rw [hw1]; exact Blk.new _ _ _)
  replace R0 := Lib.hid (show Blk w1 _ _ _ by rw [hw1]; exact R0.out.alloc _)
  replace HB := Lib.hid (show Below w.heap.size w w1 by rw [hw1]; exact HB.out.alloc HB.out.size _)
  go_wp2_with fail
  rw [← hw1]
  clear hw1
  refine (HBo _).mono ?_
  rintro e w2 ⟨rfl, hb⟩
  replace R0 := Lib.hid (R0.out.below hb R0.out.lt)
  replace N0 := Lib.hid (N0.out.below hb N0.out.lt)
  replace HB := Lib.hid (HB.out.trans (hb.mono HB.out.size))
  clear hb HBo
  rw [hsz] at N0
  have hN2 := Lib.hid (show w.heap.size + 1 < w2.heap.size from N0.out.lt)
  obtain ⟨nb, hnb⟩ : ∃ nb, nb = w.heap.size + 1 := ⟨_, rfl⟩
  obtain ⟨w3, hw3⟩ : ∃ w3, w3 = (w2.alloc (.cells #[.int .u64 t0, .int .i64 z0, .int .u32 r0, .int .u32 f0, .int .u32 p0, .int .u64 t1, .int .i64 z1, .int .u32 r1, .int .u32 f1, .int .u32 p1] 36)).alloc (.cells #[.bool true, .bool true] 37) := ⟨_, rfl⟩
  have A0 := Lib.hid (show Blk w3 w2.heap.size 36 #[.int .u64 t0, .int .i64 z0, .int .u32 r0, .int .u32 f0, .int .u32 p0, .int .u64 t1, .int .i64 z1, .int .u32 r1, .int .u32 f1, .int .u32 p1] by rw [hw3]; exact (Blk.new _ _ _).alloc _)
  have B0 := Lib.hid (show Blk w3 (w2.heap.size + 1) 37 #[.bool true, .bool true] by rw [hw3, show w2.heap.size + 1 = (w2.alloc (.cells #[.int .u64 t0, .int .i64 z0, .int .u32 r0, .int .u32 f0, .int .u32 p0, .int .u64 t1, .int .i64 z1, .int .u32 r1, .int .u32 f1, .int .u32 p1] 36)).heap.size by simp]; exact Blk.new _ _ _)
  replace R0 := Lib.hid (show Blk w3 _ _ _ by rw [hw3]; exact (R0.out.alloc _).alloc _)
  replace N0 := Lib.hid (show Blk w3 _ _ _ by rw [hw3]; exact (N0.out.alloc _).alloc _)
  replace HB := Lib.hid (show Below w.heap.size w w3 by rw [hw3]; exact (HB.out.alloc HB.out.size _).alloc (HB.out.alloc HB.out.size _).size _)
  have a0 := A0.out.cell 0
  have a1 := A0.out.cell 1
  have a2 := A0.out.cell 2
  have a3 := A0.out.cell 3
  have a4 := A0.out.cell 4
  have a5 := A0.out.cell 5
  have a6 := A0.out.cell 6
  have a7 := A0.out.cell 7
  have a8 := A0.out.cell 8
  have a9 := A0.out.cell 9
  rw [hw3] at a0 a1 a2 a3 a4 a5 a6 a7 a8 a9
  simp at a0 a1 a2 a3 a4 a5 a6 a7 a8 a9
  go_wp2_with fail
  rw [← hw3]
  clear hw3 hnb a0 a1 a2 a3 a4 a5 a6 a7 a8 a9
  refine wp_loop_rounds 3 ?_
  obtain ⟨wm0, hwm0⟩ : ∃ wm0, wm0 = w3.alloc (.cells #[.int .u64 t0, .int .i64 z0, .int .u32 r0, .int .u32 f0, .int .u32 p0] 31) := ⟨_, rfl⟩
  have M0 := Lib.hid (show Blk wm0 w3.heap.size 31 #[.int .u64 t0, .int .i64 z0, .int .u32 r0, .int .u32 f0, .int .u32 p0] by rw [hwm0]; exact Blk.new _ _ _)
  have hlt0 := N0.out.lt
  have nb0 := N0.out.cell 0
  have vb0 := N0.out.frozen 0
  have nb1 := N0.out.cell 1
  have vb1 := N0.out.frozen 1
  have nb2 := N0.out.cell 2
  have vb2 := N0.out.frozen 2
  have nb3 := N0.out.cell 3
  have vb3 := N0.out.frozen 3
  have nb4 := N0.out.cell 4
  have vb4 := N0.out.frozen 4
  have bb := B0.out.cell 0
  simp at nb0 nb1 nb2 nb3 nb4 bb
  have N0w := Lib.hid (show Blk wm0 _ _ _ by rw [hwm0]; exact N0.out.alloc _)
  have B0w := Lib.hid (show Blk wm0 _ _ _ by rw [hwm0]; exact B0.out.alloc _)
  have m0 := M0.out.cell 0
  have n0 := N0w.out.cell 0
  have v0 := N0w.out.frozen 0
  have m1 := M0.out.cell 1
  have n1 := N0w.out.cell 1
  have v1 := N0w.out.frozen 1
  have m2 := M0.out.cell 2
  have n2 := N0w.out.cell 2
  have v2 := N0w.out.frozen 2
  have m3 := M0.out.cell 3
  have n3 := N0w.out.cell 3
  have v3 := N0w.out.frozen 3
  have m4 := M0.out.cell 4
  have n4 := N0w.out.cell 4
  have v4 := N0w.out.frozen 4
  have b0 := B0w.out.cell 0
  rw [hwm0] at m0 n0 m1 n1 m2 n2 m3 n3 m4 n4 b0 v0 v1 v2 v3 v4
  simp at m0 n0 m1 n1 m2 n2 m3 n3 m4 n4 b0
  rw [rounds_succ]
  go_wp2_with fail
  clear m0 n0 m1 n1 m2 n2 m3 n3 m4 n4 b0 v0 v1 v2 v3 v4 hlt0 M0 N0w B0w nb0 nb1 nb2 nb3 nb4 vb0 vb1 vb2 vb3 vb4 bb
  obtain ⟨ws0, hws0⟩ : ∃ ws0, ws0 = (((((w3.setCell ⟨(w.heap.size + 1), 0, none⟩ (.int .u64 t0)).setCell ⟨(w.heap.size + 1), 1, none⟩ (.int .i64 z0)).setCell ⟨(w.heap.size + 1), 2, none⟩ (.int .u32 r0)).setCell ⟨(w.heap.size + 1), 3, none⟩ (.int .u32 f0)).setCell ⟨(w.heap.size + 1), 4, none⟩ (.int .u32 p0)).alloc (.cells #[.int .u64 t0, .int .i64 z0, .int .u32 r0, .int .u32 f0, .int .u32 p0] 31) := ⟨_, rfl⟩
  rw [← hws0]
  replace N0 := Lib.hid (show Blk ws0 (w.heap.size + 1) 31 #[.int .u64 t0, .int .i64 z0, .int .u32 r0, .int .u32 f0, .int .u32 p0] by rw [hws0]; exact (five_at N0.out).alloc _)
  replace R0 := Lib.hid (show Blk ws0 w.heap.size _ _ by rw [hws0]; exact (five_far R0.out (by omega)).alloc _)
  have hbb0 : w2.heap.size + 1 ≠ w.heap.size + 1 := by have := hN2.out; omega
  replace B0 := Lib.hid (show Blk ws0 (w2.heap.size + 1) _ _ by rw [hws0]; exact (five_far B0.out hbb0).alloc _)
  have hb5 := Lib.hid (five_below (a0 := .int .u64 t0) (a1 := .int .i64 z0) (a2 := .int .u32 r0) (a3 := .int .u32 f0) (a4 := .int .u32 p0) HB.out (Nat.le_succ w.heap.size))
  replace HB := Lib.hid (show Below w.heap.size w ws0 by rw [hws0]; exact hb5.out.alloc hb5.out.size _)
  clear hws0 hbb0 hwm0 hb5
  obtain ⟨wm1, hwm1⟩ : ∃ wm1, wm1 = ws0.alloc (.cells #[.int .u64 t1, .int .i64 z1, .int .u32 r1, .int .u32 f1, .int .u32 p1] 31) := ⟨_, rfl⟩
  have M1 := Lib.hid (show Blk wm1 ws0.heap.size 31 #[.int .u64 t1, .int .i64 z1, .int .u32 r1, .int .u32 f1, .int .u32 p1] by rw [hwm1]; exact Blk.new _ _ _)
  have hlt1 := N0.out.lt
  have nb0 := N0.out.cell 0
  have vb0 := N0.out.frozen 0
  have nb1 := N0.out.cell 1
  have vb1 := N0.out.frozen 1
  have nb2 := N0.out.cell 2
  have vb2 := N0.out.frozen 2
  have nb3 := N0.out.cell 3
  have vb3 := N0.out.frozen 3
  have nb4 := N0.out.cell 4
  have vb4 := N0.out.frozen 4
  have bb := B0.out.cell 1
  simp at nb0 nb1 nb2 nb3 nb4 bb
  have N0w := Lib.hid (show Blk wm1 _ _ _ by rw [hwm1]; exact N0.out.alloc _)
  have B0w := Lib.hid (show Blk wm1 _ _ _ by rw [hwm1]; exact B0.out.alloc _)
  have m0 := M1.out.cell 0
  have n0 := N0w.out.cell 0
  have v0 := N0w.out.frozen 0
  have m1 := M1.out.cell 1
  have n1 := N0w.out.cell 1
  have v1 := N0w.out.frozen 1
  have m2 := M1.out.cell 2
  have n2 := N0w.out.cell 2
  have v2 := N0w.out.frozen 2
  have m3 := M1.out.cell 3
  have n3 := N0w.out.cell 3
  have v3 := N0w.out.frozen 3
  have m4 := M1.out.cell 4
  have n4 := N0w.out.cell 4
  have v4 := N0w.out.frozen 4
  have b1 := B0w.out.cell 1
  rw [hwm1] at m0 n0 m1 n1 m2 n2 m3 n3 m4 n4 b1 v0 v1 v2 v3 v4
  simp at m0 n0 m1 n1 m2 n2 m3 n3 m4 n4 b1
  rw [rounds_succ]
  go_wp2_with fail
  rw [← hwm1]
  clear m0 n0 m1 n1 m2 n2 m3 n3 m4 n4 b1 v0 v1 v2 v3 v4 hlt1 M1 N0w B0w nb0 nb1 nb2 nb3 nb4 vb0 vb1 vb2 vb3 vb4 bb
  replace R0 := Lib.hid (show Blk wm1 _ _ _ by rw [hwm1]; exact R0.out.alloc _)
  replace N0 := Lib.hid (show Blk wm1 _ _ _ by rw [hwm1]; exact N0.out.alloc _)
  replace B0 := Lib.hid (show Blk wm1 _ _ _ by rw [hwm1]; exact B0.out.alloc _)
  replace HB := Lib.hid (show Below w.heap.size w wm1 by rw [hwm1]; exact HB.out.alloc HB.out.size _)
  clear hwm1
  rw [rounds_succ]
  have n0 := N0.out.cell 0
  have k0 := R0.out.cell 0
  have v0 := R0.out.frozen 0
  have n1 := N0.out.cell 1
  have k1 := R0.out.cell 1
  have v1 := R0.out.frozen 1
  have n2 := N0.out.cell 2
  have k2 := R0.out.cell 2
  have v2 := R0.out.frozen 2
  have n3 := N0.out.cell 3
  have k3 := R0.out.cell 3
  have v3 := R0.out.frozen 3
  have n4 := N0.out.cell 4
  have k4 := R0.out.cell 4
  have v4 := R0.out.frozen 4
  simp at n0 k0 n1 k1 n2 k2 n3 k3 n4 k4
  go_wp2_with fail
  exact bodyPost_ret (read_row rfl _ _ _ w.heap.size #[.int .u64 t0, .int .i64 z0, .int .u32 r0, .int .u32 f0, .int .u32 p0] rfl (load_meta (five_at R0.out))) rfl ⟨rfl, five_below HB.out (Nat.le_refl _)⟩
end Go.Proofs.Ytfmalohaaibhiaa
