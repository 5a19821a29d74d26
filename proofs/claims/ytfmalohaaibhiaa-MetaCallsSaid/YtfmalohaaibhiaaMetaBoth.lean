/-
  Contracts of package meta's Both and Newest.
-/
import Derived.Test.YtfmalohaaibhiaaMetaAt
import Derived.Test.YtfmalohaaibhiaaMetaBack
import Derived.Deep.RegionHeld3
import Derived.LoopN
namespace Go.Proofs.Ytfmalohaaibhiaa
open Go.RowKit
open Go.Lib
set_option linter.unusedVariables false
set_option linter.unusedSimpArgs false
attribute [local go_sem ↓] Go.wp_at_zero Go.wp_at_succ

theorem infoM2 : (Try.prog.info? 36).map (fun i => (i.zero, i.size)) = some (some (.agg #[.int .u64 0, .int .i64 0, .int .u32 0, .int .u32 0, .int .u32 0, .int .u64 0, .int .i64 0, .int .u32 0, .int .u32 0, .int .u32 0]), 10) := by kernel_rfl
theorem infoB2 : (Try.prog.info? 37).map (fun i => (i.zero, i.size)) = some (some (.agg #[.bool false, .bool false]), 2) := by kernel_rfl
theorem ten_lo {w : World} {b : Nat} {t : TypeId} {z0 z1 z2 z3 z4 z5 z6 z7 z8 z9 a0 a1 a2 a3 a4 : Value} (h : Blk w b t #[z0, z1, z2, z3, z4, z5, z6, z7, z8, z9]) : Blk (((((w.setCell ⟨b, 0, none⟩ a0).setCell ⟨b, 1, none⟩ a1).setCell ⟨b, 2, none⟩ a2).setCell ⟨b, 3, none⟩ a3).setCell ⟨b, 4, none⟩ a4) b t #[a0, a1, a2, a3, a4, z5, z6, z7, z8, z9] :=
  ((((h.set_ 0 a0).set_ 1 a1).set_ 2 a2).set_ 3 a3).set_ 4 a4
theorem ten_hi {w : World} {b : Nat} {t : TypeId} {z0 z1 z2 z3 z4 z5 z6 z7 z8 z9 a0 a1 a2 a3 a4 : Value} (h : Blk w b t #[z0, z1, z2, z3, z4, z5, z6, z7, z8, z9]) : Blk (((((w.setCell ⟨b, 5, none⟩ a0).setCell ⟨b, 6, none⟩ a1).setCell ⟨b, 7, none⟩ a2).setCell ⟨b, 8, none⟩ a3).setCell ⟨b, 9, none⟩ a4) b t #[z0, z1, z2, z3, z4, a0, a1, a2, a3, a4] :=
  ((((h.set_ 5 a0).set_ 6 a1).set_ 7 a2).set_ 8 a3).set_ 9 a4
theorem hi_far {w : World} {g b : Nat} {t : TypeId} {cs : Array Value} {a0 a1 a2 a3 a4 : Value} (h : Blk w g t cs) (hne : g ≠ b) : Blk (((((w.setCell ⟨b, 5, none⟩ a0).setCell ⟨b, 6, none⟩ a1).setCell ⟨b, 7, none⟩ a2).setCell ⟨b, 8, none⟩ a3).setCell ⟨b, 9, none⟩ a4) g t cs :=
  ((((h.far hne a0).far hne a1).far hne a2).far hne a3).far hne a4
theorem hi_below {w0 w : World} {B b : Nat} {a0 a1 a2 a3 a4 : Value} (h : Below B w0 w) (hb : B ≤ b) : Below B w0 (((((w.setCell ⟨b, 5, none⟩ a0).setCell ⟨b, 6, none⟩ a1).setCell ⟨b, 7, none⟩ a2).setCell ⟨b, 8, none⟩ a3).setCell ⟨b, 9, none⟩ a4) :=
  ((((h.setCell hb a0).setCell hb a1).setCell hb a2).setCell hb a3).setCell hb a4
theorem meta_diff (a0 a1 a2 a3 a4 b0 b1 b2 b3 b4 : Int) (w : World) (h : ¬ (a0 = b0 ∧ a1 = b1 ∧ a2 = b2 ∧ a3 = b3 ∧ a4 = b4)) : (binOp .neq 31 (.agg #[.int .u64 a0, .int .i64 a1, .int .u32 a2, .int .u32 a3, .int .u32 a4]) (.agg #[.int .u64 b0, .int .i64 b1, .int .u32 b2, .int .u32 b3, .int .u32 b4])).run Try.prog w = .ok (.bool true) w := by
  simp [go_sem]
  intro h0 h1 h2 h3 h4
  exact h ⟨h0, h1, h2, h3, h4⟩
theorem meta_diff_eql (a0 a1 a2 a3 a4 b0 b1 b2 b3 b4 : Int) (w : World) (h : ¬ (a0 = b0 ∧ a1 = b1 ∧ a2 = b2 ∧ a3 = b3 ∧ a4 = b4)) : (binOp .eql 31 (.agg #[.int .u64 a0, .int .i64 a1, .int .u32 a2, .int .u32 a3, .int .u32 a4]) (.agg #[.int .u64 b0, .int .i64 b1, .int .u32 b2, .int .u32 b3, .int .u32 b4])).run Try.prog w = .ok (.bool false) w := by
  simp [go_sem]
  intro h0 h1 h2 h3 h4
  exact h ⟨h0, h1, h2, h3, h4⟩
theorem MetaAt.size {size : Int} {s : ByteArray} {n tx : Nat} {z : Int} {rt fr ps : Nat} {r : Bool} (h : MetaAt size s n tx z rt fr ps r) : (r = true ∧ z = size ∧ z ≠ 0) ∨ (r = false ∧ tx = 0 ∧ z = 0 ∧ rt = 0 ∧ fr = 0 ∧ ps = 0) := by
  rcases h with ⟨q, rfl, h1, _, h6, _, _, _, h9⟩ | ⟨_, h1, h2, h3, h4, h5, h6⟩
  · have hp := good_pos (mayM_good (metaOk_may h1)).2.1
    exact .inl ⟨h9, h6, by omega⟩
  · exact .inr ⟨h6, h1, h2, h3, h4, h5⟩
theorem meta_right {size : Int} {s : ByteArray} {n tx : Nat} {z : Int} {rt fr ps : Nat} {r : Bool} (h : MetaAt size s n tx z rt fr ps r) (w : World) : (binOp .neq 31 (.agg #[.int .u64 tx, .int .i64 z, .int .u32 rt, .int .u32 fr, .int .u32 ps]) (.agg #[.int .u64 0, .int .i64 0, .int .u32 0, .int .u32 0, .int .u32 0])).run Try.prog w = .ok (.bool r) w := by
  rcases h.size with ⟨rfl, _, h3⟩ | ⟨rfl, rfl, rfl, rfl, rfl, rfl⟩
  · exact meta_diff tx z rt fr ps 0 0 0 0 0 w fun h => h3 h.2.1
  · exact meta_noteq 0 0 0 0 0 w
theorem Blk.same {w : World} {g : Nat} {t : TypeId} {cs : Array Value} (h : Blk w g t cs) (i : Nat) (v : Value) (hi : cs[i]? = some v) : Blk (w.setCell ⟨g, i, none⟩ v) g t cs := by
  have h2 := h.set_ i v
  rwa [show cs.setIfInBounds i v = cs by
    obtain ⟨hlt, rfl⟩ := Array.getElem?_eq_some_iff.1 hi
    simp [Array.setIfInBounds, hlt]] at h2
set_option maxHeartbeats 3200000 in
theorem both_a {w : World} {b c : Nat} {t : TypeId} {v0 v1 v2 v3 v4 v5 v6 v7 v8 v9 x0 x1 : Value} (h : Blk w b t #[v0, v1, v2, v3, v4, v5, v6, v7, v8, v9]) (hne : b ≠ c) : Blk (((((((((((((w.setCell ⟨b, 0, none⟩ v0).setCell ⟨b, 1, none⟩ v1).setCell ⟨b, 2, none⟩ v2).setCell ⟨b, 3, none⟩ v3).setCell ⟨b, 4, none⟩ v4).setCell ⟨b, 5, none⟩ v5).setCell ⟨b, 6, none⟩ v6).setCell ⟨b, 7, none⟩ v7).setCell ⟨b, 8, none⟩ v8).setCell ⟨b, 9, none⟩ v9).setCell ⟨c, 0, none⟩ x0).setCell ⟨c, 1, none⟩ x1).drew) b t #[v0, v1, v2, v3, v4, v5, v6, v7, v8, v9] :=
  ((((((((((((h.same 0 v0 rfl).same 1 v1 rfl).same 2 v2 rfl).same 3 v3 rfl).same 4 v4 rfl).same 5 v5 rfl).same 6 v6 rfl).same 7 v7 rfl).same 8 v8 rfl).same 9 v9 rfl).far hne x0).far hne x1).drew
set_option maxHeartbeats 3200000 in
theorem both_b {w : World} {b c : Nat} {t : TypeId} {v0 v1 v2 v3 v4 v5 v6 v7 v8 v9 x0 x1 : Value} (h : Blk w c t #[x0, x1]) (hne : c ≠ b) : Blk (((((((((((((w.setCell ⟨b, 0, none⟩ v0).setCell ⟨b, 1, none⟩ v1).setCell ⟨b, 2, none⟩ v2).setCell ⟨b, 3, none⟩ v3).setCell ⟨b, 4, none⟩ v4).setCell ⟨b, 5, none⟩ v5).setCell ⟨b, 6, none⟩ v6).setCell ⟨b, 7, none⟩ v7).setCell ⟨b, 8, none⟩ v8).setCell ⟨b, 9, none⟩ v9).setCell ⟨c, 0, none⟩ x0).setCell ⟨c, 1, none⟩ x1).drew) c t #[x0, x1] :=
  ((((((((((((h.far hne v0).far hne v1).far hne v2).far hne v3).far hne v4).far hne v5).far hne v6).far hne v7).far hne v8).far hne v9).same 0 x0 rfl).same 1 x1 rfl).drew
set_option maxHeartbeats 3200000 in
theorem both_below {w0 w : World} {B b c : Nat} {v0 v1 v2 v3 v4 v5 v6 v7 v8 v9 x0 x1 : Value} (h : Below B w0 w) (hb : B ≤ b) (hc : B ≤ c) : Below B w0 (((((((((((((w.setCell ⟨b, 0, none⟩ v0).setCell ⟨b, 1, none⟩ v1).setCell ⟨b, 2, none⟩ v2).setCell ⟨b, 3, none⟩ v3).setCell ⟨b, 4, none⟩ v4).setCell ⟨b, 5, none⟩ v5).setCell ⟨b, 6, none⟩ v6).setCell ⟨b, 7, none⟩ v7).setCell ⟨b, 8, none⟩ v8).setCell ⟨b, 9, none⟩ v9).setCell ⟨c, 0, none⟩ x0).setCell ⟨c, 1, none⟩ x1).drew) :=
  ((((((((((((h.setCell hb v0).setCell hb v1).setCell hb v2).setCell hb v3).setCell hb v4).setCell hb v5).setCell hb v6).setCell hb v7).setCell hb v8).setCell hb v9).setCell hc x0).setCell hc x1).drew
/-- Two named results in variables, each of several cells. -/
theorem results_rows {P : Program} {fn : Func} {p q : Tmp} {ty tq : TypeId} (h : fn.results = #[.cell p ty, .cell q tq]) (tmps : Array Value) (w : World) (g g' : Nat) (cs ds : Array Value)
    (hp : tmps.getD p undef = .pointer (some ⟨g, 0, none⟩)) (hq : tmps.getD q undef = .pointer (some ⟨g', 0, none⟩))
    (h1 : (loadVar ty ⟨g, 0, none⟩).run P w = .ok (.agg cs) w) (h2 : (loadVar tq ⟨g', 0, none⟩).run P w = .ok (.agg ds) w) :
    (results fn tmps).run P w = .ok (.tuple #[.agg cs, .agg ds]) w := by
  simp only [Array.getD_eq_getD_getElem?] at hp hq
  simp [results, h, hp, hq, asAddr, h1, h2]
set_option maxRecDepth 100000 in
set_option maxHeartbeats 6400000 in
theorem mboth_any (size : Int) (s : ByteArray) (t0 : Nat) (z0 : Int) (r0 f0 p0 : Nat) (b0 : Bool) (t1 : Nat) (z1 : Int) (r1 f1 p1 : Nat) (b1 : Bool) (w : World) (h0 : MetaAt size s 0 t0 z0 r0 f0 p0 b0) (h1 : MetaAt size s 1 t1 z1 r1 f1 p1 b1) (hs : s.size ≤ maxLen) :
    Calls Try.prog 14 #[.int .i64 size, .string s] w fun e w' => e = .returned (.tuple #[.agg #[.int .u64 t0, .int .i64 z0, .int .u32 r0, .int .u32 f0, .int .u32 p0, .int .u64 t1, .int .i64 z1, .int .u32 r1, .int .u32 f1, .int .u32 p1], .agg #[.bool b0, .bool b1]]) ∧ Below w.heap.size w w' := by
  have HA0 : ∀ w : World, Calls Try.prog 31 #[.int .i64 size, .string s, .int .u32 0] w fun e w' => e = .returned (.agg #[.int .u64 t0, .int .i64 z0, .int .u32 r0, .int .u32 f0, .int .u32 p0]) ∧ Below w.heap.size w w' := fun w => mat_any size s 0 t0 z0 r0 f0 p0 b0 w h0 hs (by decide)
  have HA1 : ∀ w : World, Calls Try.prog 31 #[.int .i64 size, .string s, .int .u32 1] w fun e w' => e = .returned (.agg #[.int .u64 t1, .int .i64 z1, .int .u32 r1, .int .u32 f1, .int .u32 p1]) ∧ Below w.heap.size w w' := fun w => mat_any size s 1 t1 z1 r1 f1 p1 b1 w h1 hs (by decide)
  have hq0 := fun w => meta_right h0 w
  have hq1 := fun w => meta_right h1 w
  clear h0 h1 hs
  obtain ⟨hz, hi⟩ := zero_of_info infoM2
  obtain ⟨hy, hj⟩ := zero_of_info infoB2
  have HI := Lib.hid hi
  have HJ := Lib.hid hj
  clear hi hj
  obtain ⟨w0, hw0⟩ : ∃ w0, w0 = (w.alloc (.cells #[.int .u64 0, .int .i64 0, .int .u32 0, .int .u32 0, .int .u32 0, .int .u64 0, .int .i64 0, .int .u32 0, .int .u32 0, .int .u32 0] 36)).alloc (.cells #[.bool false, .bool false] 37) := ⟨_, rfl⟩
  have A0 := Lib.hid (show Blk w0 w.heap.size 36 #[.int .u64 0, .int .i64 0, .int .u32 0, .int .u32 0, .int .u32 0, .int .u64 0, .int .i64 0, .int .u32 0, .int .u32 0, .int .u32 0] by rw [hw0]; exact (Blk.new _ _ _).alloc _)
  have B0 := Lib.hid (show Blk w0 (w.heap.size + 1) 37 #[.bool false, .bool false] by rw [hw0, show w.heap.size + 1 = (w.alloc (.cells #[.int .u64 0, .int .i64 0, .int .u32 0, .int .u32 0, .int .u32 0, .int .u64 0, .int .i64 0, .int .u32 0, .int .u32 0, .int .u32 0] 36)).heap.size by simp]; exact Blk.new _ _ _)
  have HB := Lib.hid (show Below w.heap.size w w0 by rw [hw0]; exact ((Below.refl _ _).alloc (Nat.le_refl _) _).alloc (by simp) _)
  go_enter Try.func14, Try.ntmps14
  go_wp2_with fail
  refine wp_loop_rounds 3 ?_
  rw [rounds_succ]
  go_wp2_with fail
  rw [← hw0]
  clear hw0
  refine (HA0 _).mono ?_
  rintro e w1 ⟨rfl, hb⟩
  replace A0 := Lib.hid (A0.out.below hb A0.out.lt)
  replace B0 := Lib.hid (B0.out.below hb B0.out.lt)
  replace HB := Lib.hid (HB.out.trans (hb.mono HB.out.size))
  clear hb HA0
  have c0 := A0.out.cell 0
  have c1 := A0.out.cell 1
  have c2 := A0.out.cell 2
  have c3 := A0.out.cell 3
  have c4 := A0.out.cell 4
  have g0 := A0.out.frozen 0
  have g1 := A0.out.frozen 1
  have g2 := A0.out.frozen 2
  have g3 := A0.out.frozen 3
  have g4 := A0.out.frozen 4
  have d0 := B0.out.cell 0
  have h0 := B0.out.frozen 0
  simp at c0 c1 c2 c3 c4 d0
  obtain ⟨w2, hw2⟩ : ∃ w2, w2 = (((((w1.setCell ⟨w.heap.size, 0, none⟩ (.int .u64 t0)).setCell ⟨w.heap.size, 1, none⟩ (.int .i64 z0)).setCell ⟨w.heap.size, 2, none⟩ (.int .u32 r0)).setCell ⟨w.heap.size, 3, none⟩ (.int .u32 f0)).setCell ⟨w.heap.size, 4, none⟩ (.int .u32 p0)) := ⟨_, rfl⟩
  have A1 := Lib.hid (show Blk w2 w.heap.size 36 #[.int .u64 t0, .int .i64 z0, .int .u32 r0, .int .u32 f0, .int .u32 p0, .int .u64 0, .int .i64 0, .int .u32 0, .int .u32 0, .int .u32 0] by rw [hw2]; exact ten_lo A0.out)
  have B1 := Lib.hid (show Blk w2 (w.heap.size + 1) 37 #[.bool false, .bool false] by rw [hw2]; exact five_far B0.out (by omega))
  replace HB := Lib.hid (show Below w.heap.size w w2 by rw [hw2]; exact five_below HB.out (Nat.le_refl _))
  have x0 := A1.out.cell 0
  have x1 := A1.out.cell 1
  have x2 := A1.out.cell 2
  have x3 := A1.out.cell 3
  have x4 := A1.out.cell 4
  have y0 := B1.out.cell 0
  have u0 := B1.out.frozen 0
  rw [hw2] at x0 x1 x2 x3 x4 y0 u0
  simp at x0 x1 x2 x3 x4 y0
  go_wp2_with fail
  rw [← hw2]
  clear hw2 c0 c1 c2 c3 c4 g0 g1 g2 g3 g4 d0 h0 x0 x1 x2 x3 x4 y0 u0 A0 B0
  obtain ⟨w3, hw3⟩ : ∃ w3, w3 = w2.setCell ⟨w.heap.size + 1, 0, none⟩ (.bool b0) := ⟨_, rfl⟩
  rw [← hw3]
  replace A1 := Lib.hid (show Blk w3 w.heap.size 36 #[.int .u64 t0, .int .i64 z0, .int .u32 r0, .int .u32 f0, .int .u32 p0, .int .u64 0, .int .i64 0, .int .u32 0, .int .u32 0, .int .u32 0] by rw [hw3]; exact A1.out.far (by show _ ≠ w.heap.size + 1; omega) _)
  replace B1 := Lib.hid (show Blk w3 (w.heap.size + 1) 37 #[.bool b0, .bool false] by rw [hw3]; exact B1.out.set_ 0 _)
  replace HB := Lib.hid (show Below w.heap.size w w3 by rw [hw3]; exact HB.out.setCell (Nat.le_succ _) _)
  clear hw3
  rw [rounds_succ]
  go_wp2_with fail
  refine (HA1 _).mono ?_
  rintro e w4 ⟨rfl, hb⟩
  replace A1 := Lib.hid (A1.out.below hb A1.out.lt)
  replace B1 := Lib.hid (B1.out.below hb B1.out.lt)
  replace HB := Lib.hid (HB.out.trans (hb.mono HB.out.size))
  clear hb HA1
  have c5 := A1.out.cell 5
  have c6 := A1.out.cell 6
  have c7 := A1.out.cell 7
  have c8 := A1.out.cell 8
  have c9 := A1.out.cell 9
  have g5 := A1.out.frozen 5
  have g6 := A1.out.frozen 6
  have g7 := A1.out.frozen 7
  have g8 := A1.out.frozen 8
  have g9 := A1.out.frozen 9
  have d1 := B1.out.cell 1
  have h1 := B1.out.frozen 1
  simp at c5 c6 c7 c8 c9 d1
  obtain ⟨w5, hw5⟩ : ∃ w5, w5 = (((((w4.setCell ⟨w.heap.size, 5, none⟩ (.int .u64 t1)).setCell ⟨w.heap.size, 6, none⟩ (.int .i64 z1)).setCell ⟨w.heap.size, 7, none⟩ (.int .u32 r1)).setCell ⟨w.heap.size, 8, none⟩ (.int .u32 f1)).setCell ⟨w.heap.size, 9, none⟩ (.int .u32 p1)) := ⟨_, rfl⟩
  have A2 := Lib.hid (show Blk w5 w.heap.size 36 #[.int .u64 t0, .int .i64 z0, .int .u32 r0, .int .u32 f0, .int .u32 p0, .int .u64 t1, .int .i64 z1, .int .u32 r1, .int .u32 f1, .int .u32 p1] by rw [hw5]; exact ten_hi A1.out)
  have B2 := Lib.hid (show Blk w5 (w.heap.size + 1) 37 #[.bool b0, .bool false] by rw [hw5]; exact hi_far B1.out (by omega))
  replace HB := Lib.hid (show Below w.heap.size w w5 by rw [hw5]; exact hi_below HB.out (Nat.le_refl _))
  have x5 := A2.out.cell 5
  have x6 := A2.out.cell 6
  have x7 := A2.out.cell 7
  have x8 := A2.out.cell 8
  have x9 := A2.out.cell 9
  have y1 := B2.out.cell 1
  have u1 := B2.out.frozen 1
  rw [hw5] at x5 x6 x7 x8 x9 y1 u1
  simp at x5 x6 x7 x8 x9 y1
  go_wp2_with fail
  rw [← hw5]
  clear hw5 c5 c6 c7 c8 c9 g5 g6 g7 g8 g9 d1 h1 x5 x6 x7 x8 x9 y1 u1 A1 B1
  obtain ⟨w6, hw6⟩ : ∃ w6, w6 = w5.setCell ⟨w.heap.size + 1, 1, none⟩ (.bool b1) := ⟨_, rfl⟩
  rw [← hw6]
  replace A2 := Lib.hid (show Blk w6 w.heap.size 36 #[.int .u64 t0, .int .i64 z0, .int .u32 r0, .int .u32 f0, .int .u32 p0, .int .u64 t1, .int .i64 z1, .int .u32 r1, .int .u32 f1, .int .u32 p1] by rw [hw6]; exact A2.out.far (by show _ ≠ w.heap.size + 1; omega) _)
  replace B2 := Lib.hid (show Blk w6 (w.heap.size + 1) 37 #[.bool b0, .bool b1] by rw [hw6]; exact B2.out.set_ 1 _)
  replace HB := Lib.hid (show Below w.heap.size w w6 by rw [hw6]; exact HB.out.setCell (Nat.le_succ _) _)
  clear hw6
  rw [rounds_succ]
  go_wp2_with fail
  have c0 := A2.out.cell 0
  have c1 := A2.out.cell 1
  have c2 := A2.out.cell 2
  have c3 := A2.out.cell 3
  have c4 := A2.out.cell 4
  have c5 := A2.out.cell 5
  have c6 := A2.out.cell 6
  have c7 := A2.out.cell 7
  have c8 := A2.out.cell 8
  have c9 := A2.out.cell 9
  have g0 := A2.out.frozen 0
  have g1 := A2.out.frozen 1
  have g2 := A2.out.frozen 2
  have g3 := A2.out.frozen 3
  have g4 := A2.out.frozen 4
  have g5 := A2.out.frozen 5
  have g6 := A2.out.frozen 6
  have g7 := A2.out.frozen 7
  have g8 := A2.out.frozen 8
  have g9 := A2.out.frozen 9
  have d0 := B2.out.cell 0
  have d1 := B2.out.cell 1
  have h0 := B2.out.frozen 0
  have h1 := B2.out.frozen 1
  simp at c0 c1 c2 c3 c4 c5 c6 c7 c8 c9 d0 d1
  go_region
  go_wp2_with fail
  have AF := both_a (x0 := .bool b0) (x1 := .bool b1) A2.out (show w.heap.size ≠ w.heap.size + 1 by omega)
  have BF := both_b (v0 := .int .u64 t0) (v1 := .int .i64 z0) (v2 := .int .u32 r0) (v3 := .int .u32 f0) (v4 := .int .u32 p0) (v5 := .int .u64 t1) (v6 := .int .i64 z1) (v7 := .int .u32 r1) (v8 := .int .u32 f1) (v9 := .int .u32 p1) B2.out (show w.heap.size + 1 ≠ w.heap.size by omega)
  exact bodyPost_ret (results_rows rfl _ _ w.heap.size (w.heap.size + 1) #[.int .u64 t0, .int .i64 z0, .int .u32 r0, .int .u32 f0, .int .u32 p0, .int .u64 t1, .int .i64 z1, .int .u32 r1, .int .u32 f1, .int .u32 p1] #[.bool b0, .bool b1] rfl rfl (run_loadVar_row _ w.heap.size 36 36 _ (0, 0) _ AF Try.underlying36 rfl HI.out) (run_loadVar_row _ (w.heap.size + 1) 37 37 _ (0, 0) _ BF Try.underlying37 rfl HJ.out)) rfl ⟨rfl, both_below HB.out (Nat.le_refl _) (Nat.le_succ _)⟩
end Go.Proofs.Ytfmalohaaibhiaa
