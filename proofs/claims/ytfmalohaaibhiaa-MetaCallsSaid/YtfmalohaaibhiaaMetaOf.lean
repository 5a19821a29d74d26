/-
  Contract of package meta's Of: the meta of which a page is the page, or ErrBad.
-/
import Derived.Test.YtfmalohaaibhiaaMetaRead
import Derived.Deep.RegionHeld3
import Derived.Deep.DrawnRows
namespace Go.Proofs.Ytfmalohaaibhiaa
open Go.RowKit
open Go.Lib
set_option linter.unusedVariables false
set_option linter.unusedSimpArgs false
attribute [local go_sem ↓] Go.wp_at_zero Go.wp_at_succ

theorem bytes_toList (a : ByteArray) : a.toList = a.data.toList := ByteArray.toList_eq a
theorem page_same (a0 a1 a2 a3 a4 : Int) (a5 : ByteArray) (w : World) : (binOp .neq 26 (.agg #[.int .i64 a0, .int .i64 a1, .int .u32 a2, .int .u32 a3, .int .u64 a4, .string a5]) (.agg #[.int .i64 a0, .int .i64 a1, .int .u32 a2, .int .u32 a3, .int .u64 a4, .string a5])).run Try.prog w = .ok (.bool false) w := by
  simp [go_sem]
theorem page_alike (a0 a1 a2 a3 a4 : Int) (a5 : ByteArray) (b0 b1 b2 b3 b4 : Int) (b5 : ByteArray) (w : World) (h : a0 = b0 ∧ a1 = b1 ∧ a2 = b2 ∧ a3 = b3 ∧ a4 = b4 ∧ a5 = b5) : (binOp .neq 26 (.agg #[.int .i64 a0, .int .i64 a1, .int .u32 a2, .int .u32 a3, .int .u64 a4, .string a5]) (.agg #[.int .i64 b0, .int .i64 b1, .int .u32 b2, .int .u32 b3, .int .u64 b4, .string b5])).run Try.prog w = .ok (.bool false) w := by
  obtain ⟨rfl, rfl, rfl, rfl, rfl, rfl⟩ := h
  exact page_same _ _ _ _ _ _ _
theorem page_diff (a0 a1 a2 a3 a4 : Int) (a5 : ByteArray) (b0 b1 b2 b3 b4 : Int) (b5 : ByteArray) (w : World) (h : ¬ (a0 = b0 ∧ a1 = b1 ∧ a2 = b2 ∧ a3 = b3 ∧ a4 = b4 ∧ a5 = b5)) : (binOp .neq 26 (.agg #[.int .i64 a0, .int .i64 a1, .int .u32 a2, .int .u32 a3, .int .u64 a4, .string a5]) (.agg #[.int .i64 b0, .int .i64 b1, .int .u32 b2, .int .u32 b3, .int .u64 b4, .string b5])).run Try.prog w = .ok (.bool true) w := by
  simp [go_sem]
  intro h0 h1 h2 h3 h4 h5
  rw [bytes_toList, bytes_toList] at h5
  exact h ⟨h0, h1, h2, h3, h4, bytes_ext h5⟩

/-- A page is the page of a valid meta of that size. -/
def isM (size kd ct : Int) (pg lk tx : Nat) (bd : ByteArray) : Bool :=
  decide (22 ≤ bd.size) && (decide ((numAt bd 8 2 : Int) = size) && (mayM tx size (numAt bd 10 4) (numAt bd 14 4) (numAt bd 18 4) && (decide (kd = 1) && (decide (ct = 0) && (decide (pg = tx % 2) && (decide (lk = 0) && decide (bd = bodyM (numAt bd 8 2) (numAt bd 10 4) (numAt bd 14 4) (numAt bd 18 4))))))))
theorem isM_iff (size kd ct : Int) (pg lk tx : Nat) (bd : ByteArray) (z rt fr ps sl : Nat) (b : ByteArray) (hsl : sl = tx % 2) (hb : b = bodyM z rt fr ps) (hx : 22 ≤ bd.size → z = numAt bd 8 2 ∧ rt = numAt bd 10 4 ∧ fr = numAt bd 14 4 ∧ ps = numAt bd 18 4) :
    isM size kd ct pg lk tx bd = true ↔ mayM tx z rt fr ps = true ∧ (z : Int) = size ∧ ((1 : Int) = kd ∧ (0 : Int) = ct ∧ (sl : Int) = (pg : Int) ∧ (0 : Int) = (lk : Int) ∧ (tx : Int) = (tx : Int) ∧ b = bd) := by
  simp only [isM, Bool.and_eq_true, decide_eq_true_eq]
  constructor
  · rintro ⟨h1, h2, h3, h4, h5, h6, h7, h8⟩
    obtain ⟨rfl, rfl, rfl, rfl⟩ := hx h1
    refine ⟨by rw [h2]; exact h3, h2, h4.symm, h5.symm, by omega, by omega, trivial, by rw [hb]; exact h8.symm⟩
  · rintro ⟨h1, h2, h3, h4, h5, h6, _, h7⟩
    have hg : goodSize z = true := by
      simp only [mayM, Bool.and_eq_true] at h1
      exact h1.2.1
    have hp := good_pos hg
    have hz : bd.size = z - 24 := by rw [← h7, hb]; exact bodyM_size z rt fr ps (by omega)
    obtain ⟨e1, e2, e3, e4⟩ := hx (by omega)
    rw [← e1, ← e2, ← e3, ← e4]
    refine ⟨by omega, h2, by rw [← h2]; exact h1, h3.symm, h4.symm, by omega, by omega, by rw [← h7, hb]⟩

set_option maxRecDepth 100000 in
set_option maxHeartbeats 6400000 in
theorem mof_core (size kd ct : Int) (pg lk tx : Nat) (bd : ByteArray) (w : World) :
    Calls Try.prog 12 #[.int .i64 size, .agg #[.int .i64 kd, .int .i64 ct, .int .u32 pg, .int .u32 lk, .int .u64 tx, .string bd]] w fun e w' =>
      ((isM size kd ct pg lk tx bd = true ∧ e = .returned (.tuple #[.agg #[.int .u64 tx, .int .i64 size, .int .u32 (numAt bd 10 4), .int .u32 (numAt bd 14 4), .int .u32 (numAt bd 18 4)], .int .i64 0])) ∨
       (isM size kd ct pg lk tx bd = false ∧ e = .returned (.tuple #[.agg #[.int .u64 0, .int .i64 0, .int .u32 0, .int .u32 0, .int .u32 0], .int .i64 4]))) ∧ Below w.heap.size w w' := by
  obtain ⟨hz, hi⟩ := zero_of_info infoMt
  have HI := Lib.hid hi
  clear hi
  obtain ⟨w0, hw0⟩ : ∃ w0, w0 = (w.alloc (.cells #[.int .i64 kd, .int .i64 ct, .int .u32 pg, .int .u32 lk, .int .u64 tx, .string bd] 26)).alloc (.cells #[.int .u64 0, .int .i64 0, .int .u32 0, .int .u32 0, .int .u32 0] 31) := ⟨_, rfl⟩
  have P0 := Lib.hid (show Blk w0 w.heap.size 26 #[.int .i64 kd, .int .i64 ct, .int .u32 pg, .int .u32 lk, .int .u64 tx, .string bd] by rw [hw0]; exact (Blk.new _ _ _).alloc _)
  have R0 := Lib.hid (show Blk w0 (w.heap.size + 1) 31 #[.int .u64 0, .int .i64 0, .int .u32 0, .int .u32 0, .int .u32 0] by rw [hw0, show w.heap.size + 1 = (w.alloc (.cells #[.int .i64 kd, .int .i64 ct, .int .u32 pg, .int .u32 lk, .int .u64 tx, .string bd] 26)).heap.size by simp]; exact Blk.new _ _ _)
  have HB := Lib.hid (show Below w.heap.size w w0 by rw [hw0]; exact ((Below.refl _ _).alloc (Nat.le_refl _) _).alloc (by simp) _)
  have c0 := P0.out.cell 0
  have c1 := P0.out.cell 1
  have c2 := P0.out.cell 2
  have c3 := P0.out.cell 3
  have c4 := P0.out.cell 4
  have c5 := P0.out.cell 5
  rw [hw0] at c0 c1 c2 c3 c4 c5
  simp at c0 c1 c2 c3 c4 c5
  have HRd := fun w => mread_any kd ct pg lk tx bd w
  go_enter Try.func12, Try.ntmps12
  go_wp2_with fail
  rw [← hw0]
  clear c0 c1 c2 c3 c4 c5 hw0
  refine (HRd _).mono ?_
  rintro e w1 ⟨z, rt, fr, ps, rfl, hb, b0, b1, b2, b3, hx⟩
  replace HB := Lib.hid (HB.out.trans (hb.mono HB.out.size))
  replace R0 := Lib.hid (R0.out.below hb R0.out.lt)
  replace P0 := Lib.hid (P0.out.below hb P0.out.lt)
  clear hb HRd
  obtain ⟨sl, hsl⟩ : ∃ sl, sl = tx % 2 := ⟨_, rfl⟩
  obtain ⟨b, hbb⟩ : ∃ b, b = bodyM z rt fr ps := ⟨_, rfl⟩
  have hiff := isM_iff size kd ct pg lk tx bd z rt fr ps sl b hsl hbb hx
  obtain ⟨wm, hwm⟩ : ∃ wm, wm = w1.alloc (.cells #[.int .u64 tx, .int .i64 z, .int .u32 rt, .int .u32 fr, .int .u32 ps] 31) := ⟨_, rfl⟩
  have M0 := Lib.hid (show Blk wm w1.heap.size 31 #[.int .u64 tx, .int .i64 z, .int .u32 rt, .int .u32 fr, .int .u32 ps] by rw [hwm]; exact Blk.new _ _ _)
  have HB1 := Lib.hid (show Below w.heap.size w wm by rw [hwm]; exact HB.out.alloc HB.out.size _)
  have R1 := Lib.hid (show Blk wm (w.heap.size + 1) _ _ by rw [hwm]; exact R0.out.alloc _)
  have P1 := Lib.hid (show Blk wm w.heap.size _ _ by rw [hwm]; exact P0.out.alloc _)
  clear R0 P0 HB
  have m0 := M0.out.cell 0
  have m1 := M0.out.cell 1
  have m2 := M0.out.cell 2
  have m3 := M0.out.cell 3
  have m4 := M0.out.cell 4
  rw [hwm] at m0 m1 m2 m3 m4
  simp at m0 m1 m2 m3 m4
  have HX := Lib.hid hx
  have HSL := Lib.hid hsl
  have HBB := Lib.hid hbb
  have HF := Lib.hid hiff
  clear hx hiff hsl hbb
  rcases hm : mayM tx z rt fr ps with _ | _
  · skip
    have HP := fun w => mpage_no tx z rt fr ps w hm
    have HNo := Lib.hid (show isM size kd ct pg lk tx bd = false by rw [Bool.eq_false_iff]; intro h; have := HF.out.1 h; rw [hm] at this; exact absurd this.1 (by decide))
    clear hm
    go_wp2_with fail
    rw [← hwm]
    clear m0 m1 m2 m3 m4
    refine (HP _).mono ?_
    rintro e w2 ⟨rfl, hb⟩
    replace HB1 := Lib.hid (HB1.out.trans (hb.mono HB1.out.size))
    replace R1 := Lib.hid (R1.out.below hb R1.out.lt)
    replace P1 := Lib.hid (P1.out.below hb P1.out.lt)
    replace M0 := Lib.hid (M0.out.below hb M0.out.lt)
    clear hb HP
    obtain ⟨wq, hwq⟩ : ∃ wq, wq = w2.alloc (.cells #[.int .i64 0, .int .i64 0, .int .u32 0, .int .u32 0, .int .u64 0, .string ByteArray.empty] 26) := ⟨_, rfl⟩
    have Q0 := Lib.hid (show Blk wq w2.heap.size 26 #[.int .i64 0, .int .i64 0, .int .u32 0, .int .u32 0, .int .u64 0, .string ByteArray.empty] by rw [hwq]; exact Blk.new _ _ _)
    replace HB1 := Lib.hid (show Below w.heap.size w wq by rw [hwq]; exact HB1.out.alloc HB1.out.size _)
    replace R1 := Lib.hid (show Blk wq (w.heap.size + 1) _ _ by rw [hwq]; exact R1.out.alloc _)
    replace P1 := Lib.hid (show Blk wq w.heap.size _ _ by rw [hwq]; exact P1.out.alloc _)
    have hmb := M0.out.lt
    replace M0 := Lib.hid (show Blk wq w1.heap.size _ _ by rw [hwq]; exact M0.out.alloc _)
    have q0_ := Q0.out.cell 0
    have q1_ := Q0.out.cell 1
    have q2_ := Q0.out.cell 2
    have q3_ := Q0.out.cell 3
    have q4_ := Q0.out.cell 4
    have q5_ := Q0.out.cell 5
    have p0_ := P1.out.cell 0
    have p1_ := P1.out.cell 1
    have p2_ := P1.out.cell 2
    have p3_ := P1.out.cell 3
    have p4_ := P1.out.cell 4
    have p5_ := P1.out.cell 5
    have m0 := M0.out.cell 0
    have m1 := M0.out.cell 1
    have m2 := M0.out.cell 2
    have m3 := M0.out.cell 3
    have m4 := M0.out.cell 4
    have r0 := R1.out.cell 0
    have r1 := R1.out.cell 1
    have r2 := R1.out.cell 2
    have r3 := R1.out.cell 3
    have r4 := R1.out.cell 4
    have g0 := R1.out.frozen 0
    have g1 := R1.out.frozen 1
    have g2 := R1.out.frozen 2
    have g3 := R1.out.frozen 3
    have g4 := R1.out.frozen 4
    rw [hwq] at q0_ q1_ q2_ q3_ q4_ q5_ p0_ p1_ p2_ p3_ p4_ p5_ m0 m1 m2 m3 m4 r0 r1 r2 r3 r4 g0 g1 g2 g3 g4
    simp at q0_ q1_ q2_ q3_ q4_ q5_ p0_ p1_ p2_ p3_ p4_ p5_ m0 m1 m2 m3 m4 r0 r1 r2 r3 r4
    go_wp2_with fail
    rw [← hwq]
    refine bodyPost_ret (read_row rfl _ _ _ (w.heap.size + 1) #[.int .u64 0, .int .i64 0, .int .u32 0, .int .u32 0, .int .u32 0] rfl (load_meta (five_at R1.out))) rfl ⟨Or.inr ⟨HNo.out, rfl⟩, five_below HB1.out (Nat.le_succ _)⟩
  by_cases hd : ((1 : Int) = kd ∧ (0 : Int) = ct ∧ (sl : Int) = (pg : Int) ∧ (0 : Int) = (lk : Int) ∧ (tx : Int) = (tx : Int) ∧ b = bd)
  case neg =>
    have HP := fun w => mpage_yes tx z rt fr ps sl b w hm HBB.out HSL.out
    have pq := fun w => page_diff 1 0 sl 0 tx b kd ct pg lk tx bd w hd
    have HNo := Lib.hid (show isM size kd ct pg lk tx bd = false by rw [Bool.eq_false_iff]; intro h; have := HF.out.1 h; exact hd this.2.2)
    clear hm hd
    go_wp2_with fail
    rw [← hwm]
    clear m0 m1 m2 m3 m4
    refine (HP _).mono ?_
    rintro e w2 ⟨rfl, hb⟩
    replace HB1 := Lib.hid (HB1.out.trans (hb.mono HB1.out.size))
    replace R1 := Lib.hid (R1.out.below hb R1.out.lt)
    replace P1 := Lib.hid (P1.out.below hb P1.out.lt)
    replace M0 := Lib.hid (M0.out.below hb M0.out.lt)
    clear hb HP
    obtain ⟨wq, hwq⟩ : ∃ wq, wq = w2.alloc (.cells #[.int .i64 1, .int .i64 0, .int .u32 sl, .int .u32 0, .int .u64 tx, .string b] 26) := ⟨_, rfl⟩
    have Q0 := Lib.hid (show Blk wq w2.heap.size 26 #[.int .i64 1, .int .i64 0, .int .u32 sl, .int .u32 0, .int .u64 tx, .string b] by rw [hwq]; exact Blk.new _ _ _)
    replace HB1 := Lib.hid (show Below w.heap.size w wq by rw [hwq]; exact HB1.out.alloc HB1.out.size _)
    replace R1 := Lib.hid (show Blk wq (w.heap.size + 1) _ _ by rw [hwq]; exact R1.out.alloc _)
    replace P1 := Lib.hid (show Blk wq w.heap.size _ _ by rw [hwq]; exact P1.out.alloc _)
    have hmb := M0.out.lt
    replace M0 := Lib.hid (show Blk wq w1.heap.size _ _ by rw [hwq]; exact M0.out.alloc _)
    have q0_ := Q0.out.cell 0
    have q1_ := Q0.out.cell 1
    have q2_ := Q0.out.cell 2
    have q3_ := Q0.out.cell 3
    have q4_ := Q0.out.cell 4
    have q5_ := Q0.out.cell 5
    have p0_ := P1.out.cell 0
    have p1_ := P1.out.cell 1
    have p2_ := P1.out.cell 2
    have p3_ := P1.out.cell 3
    have p4_ := P1.out.cell 4
    have p5_ := P1.out.cell 5
    have m0 := M0.out.cell 0
    have m1 := M0.out.cell 1
    have m2 := M0.out.cell 2
    have m3 := M0.out.cell 3
    have m4 := M0.out.cell 4
    have r0 := R1.out.cell 0
    have r1 := R1.out.cell 1
    have r2 := R1.out.cell 2
    have r3 := R1.out.cell 3
    have r4 := R1.out.cell 4
    have g0 := R1.out.frozen 0
    have g1 := R1.out.frozen 1
    have g2 := R1.out.frozen 2
    have g3 := R1.out.frozen 3
    have g4 := R1.out.frozen 4
    rw [hwq] at q0_ q1_ q2_ q3_ q4_ q5_ p0_ p1_ p2_ p3_ p4_ p5_ m0 m1 m2 m3 m4 r0 r1 r2 r3 r4 g0 g1 g2 g3 g4
    simp at q0_ q1_ q2_ q3_ q4_ q5_ p0_ p1_ p2_ p3_ p4_ p5_ m0 m1 m2 m3 m4 r0 r1 r2 r3 r4
    go_wp2_with fail
    rw [← hwq]
    refine bodyPost_ret (read_row rfl _ _ _ (w.heap.size + 1) #[.int .u64 0, .int .i64 0, .int .u32 0, .int .u32 0, .int .u32 0] rfl (load_meta (five_at R1.out))) rfl ⟨Or.inr ⟨HNo.out, rfl⟩, five_below HB1.out (Nat.le_succ _)⟩
  by_cases hs : (z : Int) = size
  case neg =>
    have HP := fun w => mpage_yes tx z rt fr ps sl b w hm HBB.out HSL.out
    have pq := fun w => page_alike 1 0 sl 0 tx b kd ct pg lk tx bd w hd
    have HD := Lib.hid hd
    have HS := Lib.hid hs
    have q1 : ((z : Int) != size) = true := by simpa using hs
    have q1' : ((z : Int) == size) = false := by simpa using hs
    have HNo := Lib.hid (show isM size kd ct pg lk tx bd = false by rw [Bool.eq_false_iff]; intro h; have := HF.out.1 h; exact hs this.2.1)
    clear hm hd hs
    go_wp2_with fail
    rw [← hwm]
    clear m0 m1 m2 m3 m4
    refine (HP _).mono ?_
    rintro e w2 ⟨rfl, hb⟩
    replace HB1 := Lib.hid (HB1.out.trans (hb.mono HB1.out.size))
    replace R1 := Lib.hid (R1.out.below hb R1.out.lt)
    replace P1 := Lib.hid (P1.out.below hb P1.out.lt)
    replace M0 := Lib.hid (M0.out.below hb M0.out.lt)
    clear hb HP
    obtain ⟨wq, hwq⟩ : ∃ wq, wq = w2.alloc (.cells #[.int .i64 1, .int .i64 0, .int .u32 sl, .int .u32 0, .int .u64 tx, .string b] 26) := ⟨_, rfl⟩
    have Q0 := Lib.hid (show Blk wq w2.heap.size 26 #[.int .i64 1, .int .i64 0, .int .u32 sl, .int .u32 0, .int .u64 tx, .string b] by rw [hwq]; exact Blk.new _ _ _)
    replace HB1 := Lib.hid (show Below w.heap.size w wq by rw [hwq]; exact HB1.out.alloc HB1.out.size _)
    replace R1 := Lib.hid (show Blk wq (w.heap.size + 1) _ _ by rw [hwq]; exact R1.out.alloc _)
    replace P1 := Lib.hid (show Blk wq w.heap.size _ _ by rw [hwq]; exact P1.out.alloc _)
    have hmb := M0.out.lt
    replace M0 := Lib.hid (show Blk wq w1.heap.size _ _ by rw [hwq]; exact M0.out.alloc _)
    have q0_ := Q0.out.cell 0
    have q1_ := Q0.out.cell 1
    have q2_ := Q0.out.cell 2
    have q3_ := Q0.out.cell 3
    have q4_ := Q0.out.cell 4
    have q5_ := Q0.out.cell 5
    have p0_ := P1.out.cell 0
    have p1_ := P1.out.cell 1
    have p2_ := P1.out.cell 2
    have p3_ := P1.out.cell 3
    have p4_ := P1.out.cell 4
    have p5_ := P1.out.cell 5
    have m0 := M0.out.cell 0
    have m1 := M0.out.cell 1
    have m2 := M0.out.cell 2
    have m3 := M0.out.cell 3
    have m4 := M0.out.cell 4
    have r0 := R1.out.cell 0
    have r1 := R1.out.cell 1
    have r2 := R1.out.cell 2
    have r3 := R1.out.cell 3
    have r4 := R1.out.cell 4
    have g0 := R1.out.frozen 0
    have g1 := R1.out.frozen 1
    have g2 := R1.out.frozen 2
    have g3 := R1.out.frozen 3
    have g4 := R1.out.frozen 4
    rw [hwq] at q0_ q1_ q2_ q3_ q4_ q5_ p0_ p1_ p2_ p3_ p4_ p5_ m0 m1 m2 m3 m4 r0 r1 r2 r3 r4 g0 g1 g2 g3 g4
    simp at q0_ q1_ q2_ q3_ q4_ q5_ p0_ p1_ p2_ p3_ p4_ p5_ m0 m1 m2 m3 m4 r0 r1 r2 r3 r4
    go_wp2_with fail
    rw [← hwq]
    refine bodyPost_ret (read_row rfl _ _ _ (w.heap.size + 1) #[.int .u64 0, .int .i64 0, .int .u32 0, .int .u32 0, .int .u32 0] rfl (load_meta (five_at R1.out))) rfl ⟨Or.inr ⟨HNo.out, rfl⟩, five_below HB1.out (Nat.le_succ _)⟩
  have HP := fun w => mpage_yes tx z rt fr ps sl b w hm HBB.out HSL.out
  have HM := Lib.hid hm
  have pq := fun w => page_alike 1 0 sl 0 tx b kd ct pg lk tx bd w hd
  have HD := Lib.hid hd
  have HS := Lib.hid hs
  have q1 : ((z : Int) != size) = false := by simpa using hs
  have q1' : ((z : Int) == size) = true := by simpa using hs
  clear hm hd hs
  go_wp2_with fail
  rw [← hwm]
  clear m0 m1 m2 m3 m4
  refine (HP _).mono ?_
  rintro e w2 ⟨rfl, hb⟩
  replace HB1 := Lib.hid (HB1.out.trans (hb.mono HB1.out.size))
  replace R1 := Lib.hid (R1.out.below hb R1.out.lt)
  replace P1 := Lib.hid (P1.out.below hb P1.out.lt)
  replace M0 := Lib.hid (M0.out.below hb M0.out.lt)
  clear hb HP
  obtain ⟨wq, hwq⟩ : ∃ wq, wq = w2.alloc (.cells #[.int .i64 1, .int .i64 0, .int .u32 sl, .int .u32 0, .int .u64 tx, .string b] 26) := ⟨_, rfl⟩
  have Q0 := Lib.hid (show Blk wq w2.heap.size 26 #[.int .i64 1, .int .i64 0, .int .u32 sl, .int .u32 0, .int .u64 tx, .string b] by rw [hwq]; exact Blk.new _ _ _)
  replace HB1 := Lib.hid (show Below w.heap.size w wq by rw [hwq]; exact HB1.out.alloc HB1.out.size _)
  replace R1 := Lib.hid (show Blk wq (w.heap.size + 1) _ _ by rw [hwq]; exact R1.out.alloc _)
  replace P1 := Lib.hid (show Blk wq w.heap.size _ _ by rw [hwq]; exact P1.out.alloc _)
  have hmb := M0.out.lt
  replace M0 := Lib.hid (show Blk wq w1.heap.size _ _ by rw [hwq]; exact M0.out.alloc _)
  have q0_ := Q0.out.cell 0
  have q1_ := Q0.out.cell 1
  have q2_ := Q0.out.cell 2
  have q3_ := Q0.out.cell 3
  have q4_ := Q0.out.cell 4
  have q5_ := Q0.out.cell 5
  have p0_ := P1.out.cell 0
  have p1_ := P1.out.cell 1
  have p2_ := P1.out.cell 2
  have p3_ := P1.out.cell 3
  have p4_ := P1.out.cell 4
  have p5_ := P1.out.cell 5
  have m0 := M0.out.cell 0
  have m1 := M0.out.cell 1
  have m2 := M0.out.cell 2
  have m3 := M0.out.cell 3
  have m4 := M0.out.cell 4
  have r0 := R1.out.cell 0
  have r1 := R1.out.cell 1
  have r2 := R1.out.cell 2
  have r3 := R1.out.cell 3
  have r4 := R1.out.cell 4
  have g0 := R1.out.frozen 0
  have g1 := R1.out.frozen 1
  have g2 := R1.out.frozen 2
  have g3 := R1.out.frozen 3
  have g4 := R1.out.frozen 4
  rw [hwq] at q0_ q1_ q2_ q3_ q4_ q5_ p0_ p1_ p2_ p3_ p4_ p5_ m0 m1 m2 m3 m4 r0 r1 r2 r3 r4 g0 g1 g2 g3 g4
  simp at q0_ q1_ q2_ q3_ q4_ q5_ p0_ p1_ p2_ p3_ p4_ p5_ m0 m1 m2 m3 m4 r0 r1 r2 r3 r4
  go_wp2_with fail
  rw [← hwq]
  refine bodyPost_ret (read_row rfl _ _ _ (w.heap.size + 1) #[.int .u64 tx, .int .i64 z, .int .u32 rt, .int .u32 fr, .int .u32 ps] rfl (load_meta (five_at R1.out))) rfl ⟨Or.inl ⟨HF.out.2 ⟨HM.out, HS.out, HD.out⟩, ?_⟩, five_below HB1.out (Nat.le_succ _)⟩
  have hg : goodSize z = true := by
    have h1 := HM.out
    simp only [mayM, Bool.and_eq_true] at h1
    exact h1.2.1
  have hp := good_pos hg
  have hsz : bd.size = z - 24 := by rw [← HD.out.2.2.2.2.2, HBB.out]; exact bodyM_size z rt fr ps (by omega)
  obtain ⟨e1, e2, e3, e4⟩ := HX.out (by omega)
  rw [← e2, ← e3, ← e4, ← HS.out]
  rfl

theorem of_yes (size kd ct : Int) (pg lk tx : Nat) (bd : ByteArray) (w : World) (h : isM size kd ct pg lk tx bd = true) :
    Calls Try.prog 12 #[.int .i64 size, .agg #[.int .i64 kd, .int .i64 ct, .int .u32 pg, .int .u32 lk, .int .u64 tx, .string bd]] w fun e w' => e = .returned (.tuple #[.agg #[.int .u64 tx, .int .i64 size, .int .u32 (numAt bd 10 4), .int .u32 (numAt bd 14 4), .int .u32 (numAt bd 18 4)], .int .i64 0]) ∧ Below w.heap.size w w' :=
  (mof_core size kd ct pg lk tx bd w).mono fun _ _ ⟨h1, h2⟩ => ⟨h1.elim (fun h => h.2) (fun h3 => by rw [h] at h3; exact absurd h3.1 (by decide)), h2⟩
theorem of_no (size kd ct : Int) (pg lk tx : Nat) (bd : ByteArray) (w : World) (h : isM size kd ct pg lk tx bd = false) :
    Calls Try.prog 12 #[.int .i64 size, .agg #[.int .i64 kd, .int .i64 ct, .int .u32 pg, .int .u32 lk, .int .u64 tx, .string bd]] w fun e w' => e = .returned (.tuple #[.agg #[.int .u64 0, .int .i64 0, .int .u32 0, .int .u32 0, .int .u32 0], .int .i64 4]) ∧ Below w.heap.size w w' :=
  (mof_core size kd ct pg lk tx bd w).mono fun _ _ ⟨h1, h2⟩ => ⟨h1.elim (fun h3 => by rw [h] at h3; exact absurd h3.1 (by decide)) (fun h => h.2), h2⟩
end Go.Proofs.Ytfmalohaaibhiaa
