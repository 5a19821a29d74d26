/-
  The walk of the statement MetaBack: from every start, at every argument, it returns true and changes no block that was there before.
-/
import Derived.Test.YtfmalohaaibhiaaMetaLaw
import Derived.Deep.RegionHeld3
import Derived.Deep.DrawnRows
namespace Go.Proofs.Ytfmalohaaibhiaa
open Go.RowKit
open Go.Lib
set_option linter.unusedVariables false
set_option linter.unusedSimpArgs false
attribute [local go_sem ↓] Go.wp_at_zero Go.wp_at_succ

theorem page_alike_eql (a0 a1 a2 a3 a4 : Int) (a5 : ByteArray) (b0 b1 b2 b3 b4 : Int) (b5 : ByteArray) (w : World) (h : a0 = b0 ∧ a1 = b1 ∧ a2 = b2 ∧ a3 = b3 ∧ a4 = b4 ∧ a5 = b5) : (binOp .eql 26 (.agg #[.int .i64 a0, .int .i64 a1, .int .u32 a2, .int .u32 a3, .int .u64 a4, .string a5]) (.agg #[.int .i64 b0, .int .i64 b1, .int .u32 b2, .int .u32 b3, .int .u64 b4, .string b5])).run Try.prog w = .ok (.bool true) w := by
  obtain ⟨rfl, rfl, rfl, rfl, rfl, rfl⟩ := h
  simp [go_sem]
theorem meta_noteq (a0 a1 a2 a3 a4 : Int) (w : World) : (binOp .neq 31 (.agg #[.int .u64 a0, .int .i64 a1, .int .u32 a2, .int .u32 a3, .int .u32 a4]) (.agg #[.int .u64 a0, .int .i64 a1, .int .u32 a2, .int .u32 a3, .int .u32 a4])).run Try.prog w = .ok (.bool false) w := by
  simp [go_sem]

set_option maxRecDepth 100000 in
set_option maxHeartbeats 6400000 in
theorem mback_no_no (tx : Nat) (z : Int) (rt fr ps : Nat) (size kd ct : Int) (pg lk ty : Nat) (bd : ByteArray) (w : World) (hl : bd.size ≤ 4200) (hm : mayM tx z rt fr ps = false) (hi2 : isM size kd ct pg lk ty bd = false) :
    Calls Try.prog 5 #[.agg #[.int .u64 tx, .int .i64 z, .int .u32 rt, .int .u32 fr, .int .u32 ps], .int .i64 size, .agg #[.int .i64 kd, .int .i64 ct, .int .u32 pg, .int .u32 lk, .int .u64 ty, .string bd]] w fun e w' => e = .returned (.bool true) ∧ Below w.heap.size w w' := by
  have hd1 : decide ((4200 : Int) < bd.size) = false := by simp; omega
  have hd1' : decide (4200 < bd.size) = false := by simp; omega
  have HP := fun w => mpage_no tx z rt fr ps w hm
  have HG := fun w => of_no size kd ct pg lk ty bd w hi2
  have hze := fun w => meta_same 0 0 0 0 0 w
  clear hi2
  clear hm hl
  obtain ⟨w0, hw0⟩ : ∃ w0, w0 = (w.alloc (.cells #[.int .u64 tx, .int .i64 z, .int .u32 rt, .int .u32 fr, .int .u32 ps] 31)).alloc (.cells #[.int .i64 kd, .int .i64 ct, .int .u32 pg, .int .u32 lk, .int .u64 ty, .string bd] 26) := ⟨_, rfl⟩
  have M0 := Lib.hid (show Blk w0 w.heap.size 31 #[.int .u64 tx, .int .i64 z, .int .u32 rt, .int .u32 fr, .int .u32 ps] by rw [hw0]; exact (Blk.new _ _ _).alloc _)
  have P0 := Lib.hid (show Blk w0 (w.heap.size + 1) 26 #[.int .i64 kd, .int .i64 ct, .int .u32 pg, .int .u32 lk, .int .u64 ty, .string bd] by rw [hw0, show w.heap.size + 1 = (w.alloc (.cells #[.int .u64 tx, .int .i64 z, .int .u32 rt, .int .u32 fr, .int .u32 ps] 31)).heap.size by simp]; exact Blk.new _ _ _)
  have HB := Lib.hid (show Below w.heap.size w w0 by rw [hw0]; exact ((Below.refl _ _).alloc (Nat.le_refl _) _).alloc (by simp) _)
  go_enter Try.func5, Try.ntmps5
  go_wp2_with fail
  rw [← hw0]
  clear hw0
  refine (lives5_any _).mono ?_
  rintro e w1 ⟨rfl, hb⟩
  replace HB := Lib.hid (HB.out.trans (hb.mono HB.out.size))
  replace M0 := Lib.hid (M0.out.below hb M0.out.lt)
  replace P0 := Lib.hid (P0.out.below hb P0.out.lt)
  clear hb
  have m0 := M0.out.cell 0
  have m1 := M0.out.cell 1
  have m2 := M0.out.cell 2
  have m3 := M0.out.cell 3
  have m4 := M0.out.cell 4
  have p0 := P0.out.cell 0
  have p1 := P0.out.cell 1
  have p2 := P0.out.cell 2
  have p3 := P0.out.cell 3
  have p4 := P0.out.cell 4
  have p5 := P0.out.cell 5
  simp at m0 m1 m2 m3 m4 p0 p1 p2 p3 p4 p5
  go_wp2_with fail
  refine (HP _).mono ?_
  rintro e w2 ⟨rfl, hb⟩
  clear m0 m1 m2 m3 m4 p0 p1 p2 p3 p4 p5
  replace HB := Lib.hid (HB.out.trans (hb.mono HB.out.size))
  replace M0 := Lib.hid (M0.out.below hb M0.out.lt)
  replace P0 := Lib.hid (P0.out.below hb P0.out.lt)
  clear hb HP
  obtain ⟨w3, hw3⟩ : ∃ w3, w3 = w2.alloc (.cells #[.int .i64 0, .int .i64 0, .int .u32 0, .int .u32 0, .int .u64 0, .string ByteArray.empty] 26) := ⟨_, rfl⟩
  have Q0 := Lib.hid (show Blk w3 w2.heap.size 26 #[.int .i64 0, .int .i64 0, .int .u32 0, .int .u32 0, .int .u64 0, .string ByteArray.empty] by rw [hw3]; exact Blk.new _ _ _)
  replace HB := Lib.hid (show Below w.heap.size w w3 by rw [hw3]; exact HB.out.alloc HB.out.size _)
  replace M0 := Lib.hid (show Blk w3 _ _ _ by rw [hw3]; exact M0.out.alloc _)
  replace P0 := Lib.hid (show Blk w3 _ _ _ by rw [hw3]; exact P0.out.alloc _)
  have p0 := P0.out.cell 0
  have p1 := P0.out.cell 1
  have p2 := P0.out.cell 2
  have p3 := P0.out.cell 3
  have p4 := P0.out.cell 4
  have p5 := P0.out.cell 5
  rw [hw3] at p0 p1 p2 p3 p4 p5
  simp at p0 p1 p2 p3 p4 p5
  go_wp2_with fail
  rw [← hw3]
  clear hw3 p0 p1 p2 p3 p4 p5
  refine (HG _).mono ?_
  rintro e w9 ⟨rfl, hb⟩
  replace HB := Lib.hid (HB.out.trans (hb.mono HB.out.size))
  replace P0 := Lib.hid (P0.out.below hb P0.out.lt)
  clear hb
  obtain ⟨wa, hwa⟩ : ∃ wa, wa = w9.alloc (.cells #[.int .u64 0, .int .i64 0, .int .u32 0, .int .u32 0, .int .u32 0] 31) := ⟨_, rfl⟩
  have K0 := Lib.hid (show Blk wa w9.heap.size 31 #[.int .u64 0, .int .i64 0, .int .u32 0, .int .u32 0, .int .u32 0] by rw [hwa]; exact Blk.new _ _ _)
  replace HB := Lib.hid (show Below w.heap.size w wa by rw [hwa]; exact HB.out.alloc HB.out.size _)
  replace P0 := Lib.hid (show Blk wa _ _ _ by rw [hwa]; exact P0.out.alloc _)
  go_wp2_with fail
  go_ret
  exact ⟨rfl, by rw [← hwa]; exact HB.out⟩
set_option maxRecDepth 100000 in
set_option maxHeartbeats 6400000 in
theorem mback_no_yes (tx : Nat) (z : Int) (rt fr ps : Nat) (size kd ct : Int) (pg lk ty : Nat) (bd : ByteArray) (w : World) (hl : bd.size ≤ 4200) (hm : mayM tx z rt fr ps = false) (hi2 : isM size kd ct pg lk ty bd = true) :
    Calls Try.prog 5 #[.agg #[.int .u64 tx, .int .i64 z, .int .u32 rt, .int .u32 fr, .int .u32 ps], .int .i64 size, .agg #[.int .i64 kd, .int .i64 ct, .int .u32 pg, .int .u32 lk, .int .u64 ty, .string bd]] w fun e w' => e = .returned (.bool true) ∧ Below w.heap.size w w' := by
  have hd1 : decide ((4200 : Int) < bd.size) = false := by simp; omega
  have hd1' : decide (4200 < bd.size) = false := by simp; omega
  have HP := fun w => mpage_no tx z rt fr ps w hm
  have HG := fun w => of_yes size kd ct pg lk ty bd w hi2
  simp only [isM, Bool.and_eq_true, decide_eq_true_eq] at hi2
  obtain ⟨i1, i2, i3, i4, i5, i6, i7, i8⟩ := hi2
  obtain ⟨za, hza⟩ : ∃ za, za = numAt bd 8 2 := ⟨_, rfl⟩
  obtain ⟨ra, hra⟩ : ∃ ra, ra = numAt bd 10 4 := ⟨_, rfl⟩
  obtain ⟨fa, hfa⟩ : ∃ fa, fa = numAt bd 14 4 := ⟨_, rfl⟩
  obtain ⟨pa, hpa⟩ : ∃ pa, pa = numAt bd 18 4 := ⟨_, rfl⟩
  rw [← hra, ← hfa, ← hpa] at HG i3
  rw [← hza, ← hra, ← hfa, ← hpa] at i8
  rw [← hza] at i2
  obtain ⟨c, hc⟩ : ∃ c, c = bodyM za ra fa pa := ⟨_, rfl⟩
  obtain ⟨sm, hsm⟩ : ∃ sm, sm = ty % 2 := ⟨_, rfl⟩
  have HQ := fun w => mpage_yes ty za ra fa pa sm c w (by rw [i2]; exact i3) hc hsm
  rw [i2] at HQ
  have hpe := fun w => page_alike_eql 1 0 sm 0 ty c kd ct pg lk ty bd w ⟨i4.symm, i5.symm, by omega, by omega, rfl, by rw [hc]; exact i8.symm⟩
  clear i1 i2 i3 i4 i5 i6 i7 i8 hza hra hfa hpa hc hsm
  clear hm hl
  obtain ⟨w0, hw0⟩ : ∃ w0, w0 = (w.alloc (.cells #[.int .u64 tx, .int .i64 z, .int .u32 rt, .int .u32 fr, .int .u32 ps] 31)).alloc (.cells #[.int .i64 kd, .int .i64 ct, .int .u32 pg, .int .u32 lk, .int .u64 ty, .string bd] 26) := ⟨_, rfl⟩
  have M0 := Lib.hid (show Blk w0 w.heap.size 31 #[.int .u64 tx, .int .i64 z, .int .u32 rt, .int .u32 fr, .int .u32 ps] by rw [hw0]; exact (Blk.new _ _ _).alloc _)
  have P0 := Lib.hid (show Blk w0 (w.heap.size + 1) 26 #[.int .i64 kd, .int .i64 ct, .int .u32 pg, .int .u32 lk, .int .u64 ty, .string bd] by rw [hw0, show w.heap.size + 1 = (w.alloc (.cells #[.int .u64 tx, .int .i64 z, .int .u32 rt, .int .u32 fr, .int .u32 ps] 31)).heap.size by simp]; exact Blk.new _ _ _)
  have HB := Lib.hid (show Below w.heap.size w w0 by rw [hw0]; exact ((Below.refl _ _).alloc (Nat.le_refl _) _).alloc (by simp) _)
  go_enter Try.func5, Try.ntmps5
  go_wp2_with fail
  rw [← hw0]
  clear hw0
  refine (lives5_any _).mono ?_
  rintro e w1 ⟨rfl, hb⟩
  replace HB := Lib.hid (HB.out.trans (hb.mono HB.out.size))
  replace M0 := Lib.hid (M0.out.below hb M0.out.lt)
  replace P0 := Lib.hid (P0.out.below hb P0.out.lt)
  clear hb
  have m0 := M0.out.cell 0
  have m1 := M0.out.cell 1
  have m2 := M0.out.cell 2
  have m3 := M0.out.cell 3
  have m4 := M0.out.cell 4
  have p0 := P0.out.cell 0
  have p1 := P0.out.cell 1
  have p2 := P0.out.cell 2
  have p3 := P0.out.cell 3
  have p4 := P0.out.cell 4
  have p5 := P0.out.cell 5
  simp at m0 m1 m2 m3 m4 p0 p1 p2 p3 p4 p5
  go_wp2_with fail
  refine (HP _).mono ?_
  rintro e w2 ⟨rfl, hb⟩
  clear m0 m1 m2 m3 m4 p0 p1 p2 p3 p4 p5
  replace HB := Lib.hid (HB.out.trans (hb.mono HB.out.size))
  replace M0 := Lib.hid (M0.out.below hb M0.out.lt)
  replace P0 := Lib.hid (P0.out.below hb P0.out.lt)
  clear hb HP
  obtain ⟨w3, hw3⟩ : ∃ w3, w3 = w2.alloc (.cells #[.int .i64 0, .int .i64 0, .int .u32 0, .int .u32 0, .int .u64 0, .string ByteArray.empty] 26) := ⟨_, rfl⟩
  have Q0 := Lib.hid (show Blk w3 w2.heap.size 26 #[.int .i64 0, .int .i64 0, .int .u32 0, .int .u32 0, .int .u64 0, .string ByteArray.empty] by rw [hw3]; exact Blk.new _ _ _)
  replace HB := Lib.hid (show Below w.heap.size w w3 by rw [hw3]; exact HB.out.alloc HB.out.size _)
  replace M0 := Lib.hid (show Blk w3 _ _ _ by rw [hw3]; exact M0.out.alloc _)
  replace P0 := Lib.hid (show Blk w3 _ _ _ by rw [hw3]; exact P0.out.alloc _)
  have p0 := P0.out.cell 0
  have p1 := P0.out.cell 1
  have p2 := P0.out.cell 2
  have p3 := P0.out.cell 3
  have p4 := P0.out.cell 4
  have p5 := P0.out.cell 5
  rw [hw3] at p0 p1 p2 p3 p4 p5
  simp at p0 p1 p2 p3 p4 p5
  go_wp2_with fail
  rw [← hw3]
  clear hw3 p0 p1 p2 p3 p4 p5
  refine (HG _).mono ?_
  rintro e w9 ⟨rfl, hb⟩
  replace HB := Lib.hid (HB.out.trans (hb.mono HB.out.size))
  replace P0 := Lib.hid (P0.out.below hb P0.out.lt)
  clear hb
  obtain ⟨wa, hwa⟩ : ∃ wa, wa = w9.alloc (.cells #[.int .u64 ty, .int .i64 size, .int .u32 ra, .int .u32 fa, .int .u32 pa] 31) := ⟨_, rfl⟩
  have K0 := Lib.hid (show Blk wa w9.heap.size 31 #[.int .u64 ty, .int .i64 size, .int .u32 ra, .int .u32 fa, .int .u32 pa] by rw [hwa]; exact Blk.new _ _ _)
  replace HB := Lib.hid (show Below w.heap.size w wa by rw [hwa]; exact HB.out.alloc HB.out.size _)
  replace P0 := Lib.hid (show Blk wa _ _ _ by rw [hwa]; exact P0.out.alloc _)
  have p0 := P0.out.cell 0
  have p1 := P0.out.cell 1
  have p2 := P0.out.cell 2
  have p3 := P0.out.cell 3
  have p4 := P0.out.cell 4
  have p5 := P0.out.cell 5
  have k0 := K0.out.cell 0
  have k1 := K0.out.cell 1
  have k2 := K0.out.cell 2
  have k3 := K0.out.cell 3
  have k4 := K0.out.cell 4
  rw [hwa] at p0 p1 p2 p3 p4 p5 k0 k1 k2 k3 k4
  simp at p0 p1 p2 p3 p4 p5 k0 k1 k2 k3 k4
  go_wp2_with fail
  rw [← hwa]
  clear hwa p0 p1 p2 p3 p4 p5 k0 k1 k2 k3 k4
  refine (HQ _).mono ?_
  rintro e wb ⟨rfl, hb⟩
  replace HB := Lib.hid (HB.out.trans (hb.mono HB.out.size))
  replace P0 := Lib.hid (P0.out.below hb P0.out.lt)
  clear hb
  obtain ⟨wc, hwc⟩ : ∃ wc, wc = wb.alloc (.cells #[.int .i64 1, .int .i64 0, .int .u32 sm, .int .u32 0, .int .u64 ty, .string c] 26) := ⟨_, rfl⟩
  have R0 := Lib.hid (show Blk wc wb.heap.size 26 #[.int .i64 1, .int .i64 0, .int .u32 sm, .int .u32 0, .int .u64 ty, .string c] by rw [hwc]; exact Blk.new _ _ _)
  replace HB := Lib.hid (show Below w.heap.size w wc by rw [hwc]; exact HB.out.alloc HB.out.size _)
  replace P0 := Lib.hid (show Blk wc _ _ _ by rw [hwc]; exact P0.out.alloc _)
  have p0 := P0.out.cell 0
  have p1 := P0.out.cell 1
  have p2 := P0.out.cell 2
  have p3 := P0.out.cell 3
  have p4 := P0.out.cell 4
  have p5 := P0.out.cell 5
  have r0 := R0.out.cell 0
  have r1 := R0.out.cell 1
  have r2 := R0.out.cell 2
  have r3 := R0.out.cell 3
  have r4 := R0.out.cell 4
  have r5 := R0.out.cell 5
  rw [hwc] at p0 p1 p2 p3 p4 p5 r0 r1 r2 r3 r4 r5
  simp at p0 p1 p2 p3 p4 p5 r0 r1 r2 r3 r4 r5
  go_wp2_with fail
  go_ret
  exact ⟨rfl, by rw [← hwc]; exact HB.out⟩
set_option maxRecDepth 100000 in
set_option maxHeartbeats 6400000 in
theorem mback_same_no (tx : Nat) (z : Nat) (rt fr ps : Nat) (size kd ct : Int) (pg lk ty : Nat) (bd : ByteArray) (w : World) (hl : bd.size ≤ 4200) (hm : mayM tx z rt fr ps = true) (hs : (z : Int) = size) (hi2 : isM size kd ct pg lk ty bd = false) :
    Calls Try.prog 5 #[.agg #[.int .u64 tx, .int .i64 z, .int .u32 rt, .int .u32 fr, .int .u32 ps], .int .i64 size, .agg #[.int .i64 kd, .int .i64 ct, .int .u32 pg, .int .u32 lk, .int .u64 ty, .string bd]] w fun e w' => e = .returned (.bool true) ∧ Below w.heap.size w w' := by
  have hd1 : decide ((4200 : Int) < bd.size) = false := by simp; omega
  have hd1' : decide (4200 < bd.size) = false := by simp; omega
  obtain ⟨b, hb⟩ : ∃ b, b = bodyM z rt fr ps := ⟨_, rfl⟩
  obtain ⟨sl, hsl⟩ : ∃ sl, sl = tx % 2 := ⟨_, rfl⟩
  have HP := fun w => mpage_yes tx z rt fr ps sl b w hm hb hsl
  have HF := fun w => of_page tx z rt fr ps sl b w hm hb hsl
  have HS := fun w => slot_is tx sl w hsl
  have hme := fun w => meta_noteq tx z rt fr ps w
  have q1 : (size == (z : Int)) = true := by simpa using hs.symm
  have HF2 := HF
  rw [hs] at HF2
  clear hb hsl hs
  have HG := fun w => of_no size kd ct pg lk ty bd w hi2
  have hze := fun w => meta_same 0 0 0 0 0 w
  clear hi2
  clear hm hl
  obtain ⟨w0, hw0⟩ : ∃ w0, w0 = (w.alloc (.cells #[.int .u64 tx, .int .i64 z, .int .u32 rt, .int .u32 fr, .int .u32 ps] 31)).alloc (.cells #[.int .i64 kd, .int .i64 ct, .int .u32 pg, .int .u32 lk, .int .u64 ty, .string bd] 26) := ⟨_, rfl⟩
  have M0 := Lib.hid (show Blk w0 w.heap.size 31 #[.int .u64 tx, .int .i64 z, .int .u32 rt, .int .u32 fr, .int .u32 ps] by rw [hw0]; exact (Blk.new _ _ _).alloc _)
  have P0 := Lib.hid (show Blk w0 (w.heap.size + 1) 26 #[.int .i64 kd, .int .i64 ct, .int .u32 pg, .int .u32 lk, .int .u64 ty, .string bd] by rw [hw0, show w.heap.size + 1 = (w.alloc (.cells #[.int .u64 tx, .int .i64 z, .int .u32 rt, .int .u32 fr, .int .u32 ps] 31)).heap.size by simp]; exact Blk.new _ _ _)
  have HB := Lib.hid (show Below w.heap.size w w0 by rw [hw0]; exact ((Below.refl _ _).alloc (Nat.le_refl _) _).alloc (by simp) _)
  go_enter Try.func5, Try.ntmps5
  go_wp2_with fail
  rw [← hw0]
  clear hw0
  refine (lives5_any _).mono ?_
  rintro e w1 ⟨rfl, hb⟩
  replace HB := Lib.hid (HB.out.trans (hb.mono HB.out.size))
  replace M0 := Lib.hid (M0.out.below hb M0.out.lt)
  replace P0 := Lib.hid (P0.out.below hb P0.out.lt)
  clear hb
  have m0 := M0.out.cell 0
  have m1 := M0.out.cell 1
  have m2 := M0.out.cell 2
  have m3 := M0.out.cell 3
  have m4 := M0.out.cell 4
  have p0 := P0.out.cell 0
  have p1 := P0.out.cell 1
  have p2 := P0.out.cell 2
  have p3 := P0.out.cell 3
  have p4 := P0.out.cell 4
  have p5 := P0.out.cell 5
  simp at m0 m1 m2 m3 m4 p0 p1 p2 p3 p4 p5
  go_wp2_with fail
  refine (HP _).mono ?_
  rintro e w2 ⟨rfl, hb⟩
  clear m0 m1 m2 m3 m4 p0 p1 p2 p3 p4 p5
  replace HB := Lib.hid (HB.out.trans (hb.mono HB.out.size))
  replace M0 := Lib.hid (M0.out.below hb M0.out.lt)
  replace P0 := Lib.hid (P0.out.below hb P0.out.lt)
  clear hb HP
  obtain ⟨w3, hw3⟩ : ∃ w3, w3 = w2.alloc (.cells #[.int .i64 1, .int .i64 0, .int .u32 sl, .int .u32 0, .int .u64 tx, .string b] 26) := ⟨_, rfl⟩
  have Q0 := Lib.hid (show Blk w3 w2.heap.size 26 #[.int .i64 1, .int .i64 0, .int .u32 sl, .int .u32 0, .int .u64 tx, .string b] by rw [hw3]; exact Blk.new _ _ _)
  replace HB := Lib.hid (show Below w.heap.size w w3 by rw [hw3]; exact HB.out.alloc HB.out.size _)
  replace M0 := Lib.hid (show Blk w3 _ _ _ by rw [hw3]; exact M0.out.alloc _)
  replace P0 := Lib.hid (show Blk w3 _ _ _ by rw [hw3]; exact P0.out.alloc _)
  have m0 := M0.out.cell 0
  have m1 := M0.out.cell 1
  have m2 := M0.out.cell 2
  have m3 := M0.out.cell 3
  have m4 := M0.out.cell 4
  have p0 := P0.out.cell 0
  have p1 := P0.out.cell 1
  have p2 := P0.out.cell 2
  have p3 := P0.out.cell 3
  have p4 := P0.out.cell 4
  have p5 := P0.out.cell 5
  have q0 := Q0.out.cell 0
  have q1 := Q0.out.cell 1
  have q2 := Q0.out.cell 2
  have q3 := Q0.out.cell 3
  have q4 := Q0.out.cell 4
  have q5 := Q0.out.cell 5
  rw [hw3] at m0 m1 m2 m3 m4 p0 p1 p2 p3 p4 p5 q0 q1 q2 q3 q4 q5
  simp at m0 m1 m2 m3 m4 p0 p1 p2 p3 p4 p5 q0 q1 q2 q3 q4 q5
  go_wp2_with fail
  rw [← hw3]
  clear hw3 m0 m1 m2 m3 m4 p0 p1 p2 p3 p4 p5 q0 q1 q2 q3 q4 q5
  refine (HF _).mono ?_
  rintro e w4 ⟨rfl, hb⟩
  replace HB := Lib.hid (HB.out.trans (hb.mono HB.out.size))
  replace M0 := Lib.hid (M0.out.below hb M0.out.lt)
  replace P0 := Lib.hid (P0.out.below hb P0.out.lt)
  replace Q0 := Lib.hid (Q0.out.below hb Q0.out.lt)
  clear hb
  obtain ⟨w5, hw5⟩ : ∃ w5, w5 = w4.alloc (.cells #[.int .u64 tx, .int .i64 z, .int .u32 rt, .int .u32 fr, .int .u32 ps] 31) := ⟨_, rfl⟩
  have N0 := Lib.hid (show Blk w5 w4.heap.size 31 #[.int .u64 tx, .int .i64 z, .int .u32 rt, .int .u32 fr, .int .u32 ps] by rw [hw5]; exact Blk.new _ _ _)
  replace HB := Lib.hid (show Below w.heap.size w w5 by rw [hw5]; exact HB.out.alloc HB.out.size _)
  replace M0 := Lib.hid (show Blk w5 _ _ _ by rw [hw5]; exact M0.out.alloc _)
  replace P0 := Lib.hid (show Blk w5 _ _ _ by rw [hw5]; exact P0.out.alloc _)
  replace Q0 := Lib.hid (show Blk w5 _ _ _ by rw [hw5]; exact Q0.out.alloc _)
  have m0 := M0.out.cell 0
  have m1 := M0.out.cell 1
  have m2 := M0.out.cell 2
  have m3 := M0.out.cell 3
  have m4 := M0.out.cell 4
  have p0 := P0.out.cell 0
  have p1 := P0.out.cell 1
  have p2 := P0.out.cell 2
  have p3 := P0.out.cell 3
  have p4 := P0.out.cell 4
  have p5 := P0.out.cell 5
  have q0 := Q0.out.cell 0
  have q1 := Q0.out.cell 1
  have q2 := Q0.out.cell 2
  have q3 := Q0.out.cell 3
  have q4 := Q0.out.cell 4
  have q5 := Q0.out.cell 5
  have n0 := N0.out.cell 0
  have n1 := N0.out.cell 1
  have n2 := N0.out.cell 2
  have n3 := N0.out.cell 3
  have n4 := N0.out.cell 4
  rw [hw5] at m0 m1 m2 m3 m4 p0 p1 p2 p3 p4 p5 q0 q1 q2 q3 q4 q5 n0 n1 n2 n3 n4
  simp at m0 m1 m2 m3 m4 p0 p1 p2 p3 p4 p5 q0 q1 q2 q3 q4 q5 n0 n1 n2 n3 n4
  go_wp2_with fail
  rw [← hw5]
  clear hw5 m0 m1 m2 m3 m4 p0 p1 p2 p3 p4 p5 q0 q1 q2 q3 q4 q5 n0 n1 n2 n3 n4
  refine (HF2 _).mono ?_
  rintro e w6 ⟨rfl, hb⟩
  replace HB := Lib.hid (HB.out.trans (hb.mono HB.out.size))
  replace M0 := Lib.hid (M0.out.below hb M0.out.lt)
  replace P0 := Lib.hid (P0.out.below hb P0.out.lt)
  replace Q0 := Lib.hid (Q0.out.below hb Q0.out.lt)
  replace N0 := Lib.hid (N0.out.below hb N0.out.lt)
  clear hb
  obtain ⟨w7, hw7⟩ : ∃ w7, w7 = w6.alloc (.cells #[.int .u64 tx, .int .i64 size, .int .u32 rt, .int .u32 fr, .int .u32 ps] 31) := ⟨_, rfl⟩
  have G0 := Lib.hid (show Blk w7 w6.heap.size 31 #[.int .u64 tx, .int .i64 size, .int .u32 rt, .int .u32 fr, .int .u32 ps] by rw [hw7]; exact Blk.new _ _ _)
  replace HB := Lib.hid (show Below w.heap.size w w7 by rw [hw7]; exact HB.out.alloc HB.out.size _)
  replace M0 := Lib.hid (show Blk w7 _ _ _ by rw [hw7]; exact M0.out.alloc _)
  replace P0 := Lib.hid (show Blk w7 _ _ _ by rw [hw7]; exact P0.out.alloc _)
  replace Q0 := Lib.hid (show Blk w7 _ _ _ by rw [hw7]; exact Q0.out.alloc _)
  replace N0 := Lib.hid (show Blk w7 _ _ _ by rw [hw7]; exact N0.out.alloc _)
  go_wp2_with fail
  rw [← hw7]
  clear hw7
  replace M0 := Lib.hid M0.out.drew
  replace P0 := Lib.hid P0.out.drew
  replace Q0 := Lib.hid Q0.out.drew
  replace N0 := Lib.hid N0.out.drew
  replace HB := Lib.hid HB.out.drew
  go_region_held3 (fun w' => (w'.cell? ⟨w.heap.size, 0, none⟩ = some (.int .u64 tx) ∧ w'.cell? ⟨w.heap.size, 1, none⟩ = some (.int .i64 z) ∧ w'.cell? ⟨w.heap.size, 2, none⟩ = some (.int .u32 rt) ∧ w'.cell? ⟨w.heap.size, 3, none⟩ = some (.int .u32 fr) ∧ w'.cell? ⟨w.heap.size, 4, none⟩ = some (.int .u32 ps)) ∧ (w'.cell? ⟨w4.heap.size, 0, none⟩ = some (.int .u64 tx) ∧ w'.cell? ⟨w4.heap.size, 1, none⟩ = some (.int .i64 z) ∧ w'.cell? ⟨w4.heap.size, 2, none⟩ = some (.int .u32 rt) ∧ w'.cell? ⟨w4.heap.size, 3, none⟩ = some (.int .u32 fr) ∧ w'.cell? ⟨w4.heap.size, 4, none⟩ = some (.int .u32 ps)) ∧ w'.cell? ⟨w2.heap.size, 2, none⟩ = some (.int .u32 sl))
    (exact ⟨meta_cells M0.out, meta_cells N0.out, Q0.out.cell 2⟩)
    (first
    | (go_at_call 17
       with_reducible refine (HS _).mono ?_
       rintro e w8 ⟨rfl, rfl⟩
       have p0 := P0.out.cell 0
       have p1 := P0.out.cell 1
       have p2 := P0.out.cell 2
       have p3 := P0.out.cell 3
       have p4 := P0.out.cell 4
       have p5 := P0.out.cell 5
       simp at p0 p1 p2 p3 p4 p5))
  try go_wp2_with fail
  clear p0 p1 p2 p3 p4 p5
  refine (HG _).mono ?_
  rintro e w9 ⟨rfl, hb⟩
  replace HB := Lib.hid (HB.out.trans (hb.mono HB.out.size))
  replace P0 := Lib.hid (P0.out.below hb P0.out.lt)
  clear hb
  obtain ⟨wa, hwa⟩ : ∃ wa, wa = w9.alloc (.cells #[.int .u64 0, .int .i64 0, .int .u32 0, .int .u32 0, .int .u32 0] 31) := ⟨_, rfl⟩
  have K0 := Lib.hid (show Blk wa w9.heap.size 31 #[.int .u64 0, .int .i64 0, .int .u32 0, .int .u32 0, .int .u32 0] by rw [hwa]; exact Blk.new _ _ _)
  replace HB := Lib.hid (show Below w.heap.size w wa by rw [hwa]; exact HB.out.alloc HB.out.size _)
  replace P0 := Lib.hid (show Blk wa _ _ _ by rw [hwa]; exact P0.out.alloc _)
  go_wp2_with fail
  go_ret
  exact ⟨rfl, by rw [← hwa]; exact HB.out⟩
set_option maxRecDepth 100000 in
set_option maxHeartbeats 6400000 in
theorem mback_same_yes (tx : Nat) (z : Nat) (rt fr ps : Nat) (size kd ct : Int) (pg lk ty : Nat) (bd : ByteArray) (w : World) (hl : bd.size ≤ 4200) (hm : mayM tx z rt fr ps = true) (hs : (z : Int) = size) (hi2 : isM size kd ct pg lk ty bd = true) :
    Calls Try.prog 5 #[.agg #[.int .u64 tx, .int .i64 z, .int .u32 rt, .int .u32 fr, .int .u32 ps], .int .i64 size, .agg #[.int .i64 kd, .int .i64 ct, .int .u32 pg, .int .u32 lk, .int .u64 ty, .string bd]] w fun e w' => e = .returned (.bool true) ∧ Below w.heap.size w w' := by
  have hd1 : decide ((4200 : Int) < bd.size) = false := by simp; omega
  have hd1' : decide (4200 < bd.size) = false := by simp; omega
  obtain ⟨b, hb⟩ : ∃ b, b = bodyM z rt fr ps := ⟨_, rfl⟩
  obtain ⟨sl, hsl⟩ : ∃ sl, sl = tx % 2 := ⟨_, rfl⟩
  have HP := fun w => mpage_yes tx z rt fr ps sl b w hm hb hsl
  have HF := fun w => of_page tx z rt fr ps sl b w hm hb hsl
  have HS := fun w => slot_is tx sl w hsl
  have hme := fun w => meta_noteq tx z rt fr ps w
  have q1 : (size == (z : Int)) = true := by simpa using hs.symm
  have HF2 := HF
  rw [hs] at HF2
  clear hb hsl hs
  have HG := fun w => of_yes size kd ct pg lk ty bd w hi2
  simp only [isM, Bool.and_eq_true, decide_eq_true_eq] at hi2
  obtain ⟨i1, i2, i3, i4, i5, i6, i7, i8⟩ := hi2
  obtain ⟨za, hza⟩ : ∃ za, za = numAt bd 8 2 := ⟨_, rfl⟩
  obtain ⟨ra, hra⟩ : ∃ ra, ra = numAt bd 10 4 := ⟨_, rfl⟩
  obtain ⟨fa, hfa⟩ : ∃ fa, fa = numAt bd 14 4 := ⟨_, rfl⟩
  obtain ⟨pa, hpa⟩ : ∃ pa, pa = numAt bd 18 4 := ⟨_, rfl⟩
  rw [← hra, ← hfa, ← hpa] at HG i3
  rw [← hza, ← hra, ← hfa, ← hpa] at i8
  rw [← hza] at i2
  obtain ⟨c, hc⟩ : ∃ c, c = bodyM za ra fa pa := ⟨_, rfl⟩
  obtain ⟨sm, hsm⟩ : ∃ sm, sm = ty % 2 := ⟨_, rfl⟩
  have HQ := fun w => mpage_yes ty za ra fa pa sm c w (by rw [i2]; exact i3) hc hsm
  rw [i2] at HQ
  have hpe := fun w => page_alike_eql 1 0 sm 0 ty c kd ct pg lk ty bd w ⟨i4.symm, i5.symm, by omega, by omega, rfl, by rw [hc]; exact i8.symm⟩
  clear i1 i2 i3 i4 i5 i6 i7 i8 hza hra hfa hpa hc hsm
  clear hm hl
  obtain ⟨w0, hw0⟩ : ∃ w0, w0 = (w.alloc (.cells #[.int .u64 tx, .int .i64 z, .int .u32 rt, .int .u32 fr, .int .u32 ps] 31)).alloc (.cells #[.int .i64 kd, .int .i64 ct, .int .u32 pg, .int .u32 lk, .int .u64 ty, .string bd] 26) := ⟨_, rfl⟩
  have M0 := Lib.hid (show Blk w0 w.heap.size 31 #[.int .u64 tx, .int .i64 z, .int .u32 rt, .int .u32 fr, .int .u32 ps] by rw [hw0]; exact (Blk.new _ _ _).alloc _)
  have P0 := Lib.hid (show Blk w0 (w.heap.size + 1) 26 #[.int .i64 kd, .int .i64 ct, .int .u32 pg, .int .u32 lk, .int .u64 ty, .string bd] by rw [hw0, show w.heap.size + 1 = (w.alloc (.cells #[.int .u64 tx, .int .i64 z, .int .u32 rt, .int .u32 fr, .int .u32 ps] 31)).heap.size by simp]; exact Blk.new _ _ _)
  have HB := Lib.hid (show Below w.heap.size w w0 by rw [hw0]; exact ((Below.refl _ _).alloc (Nat.le_refl _) _).alloc (by simp) _)
  go_enter Try.func5, Try.ntmps5
  go_wp2_with fail
  rw [← hw0]
  clear hw0
  refine (lives5_any _).mono ?_
  rintro e w1 ⟨rfl, hb⟩
  replace HB := Lib.hid (HB.out.trans (hb.mono HB.out.size))
  replace M0 := Lib.hid (M0.out.below hb M0.out.lt)
  replace P0 := Lib.hid (P0.out.below hb P0.out.lt)
  clear hb
  have m0 := M0.out.cell 0
  have m1 := M0.out.cell 1
  have m2 := M0.out.cell 2
  have m3 := M0.out.cell 3
  have m4 := M0.out.cell 4
  have p0 := P0.out.cell 0
  have p1 := P0.out.cell 1
  have p2 := P0.out.cell 2
  have p3 := P0.out.cell 3
  have p4 := P0.out.cell 4
  have p5 := P0.out.cell 5
  simp at m0 m1 m2 m3 m4 p0 p1 p2 p3 p4 p5
  go_wp2_with fail
  refine (HP _).mono ?_
  rintro e w2 ⟨rfl, hb⟩
  clear m0 m1 m2 m3 m4 p0 p1 p2 p3 p4 p5
  replace HB := Lib.hid (HB.out.trans (hb.mono HB.out.size))
  replace M0 := Lib.hid (M0.out.below hb M0.out.lt)
  replace P0 := Lib.hid (P0.out.below hb P0.out.lt)
  clear hb HP
  obtain ⟨w3, hw3⟩ : ∃ w3, w3 = w2.alloc (.cells #[.int .i64 1, .int .i64 0, .int .u32 sl, .int .u32 0, .int .u64 tx, .string b] 26) := ⟨_, rfl⟩
  have Q0 := Lib.hid (show Blk w3 w2.heap.size 26 #[.int .i64 1, .int .i64 0, .int .u32 sl, .int .u32 0, .int .u64 tx, .string b] by rw [hw3]; exact Blk.new _ _ _)
  replace HB := Lib.hid (show Below w.heap.size w w3 by rw [hw3]; exact HB.out.alloc HB.out.size _)
  replace M0 := Lib.hid (show Blk w3 _ _ _ by rw [hw3]; exact M0.out.alloc _)
  replace P0 := Lib.hid (show Blk w3 _ _ _ by rw [hw3]; exact P0.out.alloc _)
  have m0 := M0.out.cell 0
  have m1 := M0.out.cell 1
  have m2 := M0.out.cell 2
  have m3 := M0.out.cell 3
  have m4 := M0.out.cell 4
  have p0 := P0.out.cell 0
  have p1 := P0.out.cell 1
  have p2 := P0.out.cell 2
  have p3 := P0.out.cell 3
  have p4 := P0.out.cell 4
  have p5 := P0.out.cell 5
  have q0 := Q0.out.cell 0
  have q1 := Q0.out.cell 1
  have q2 := Q0.out.cell 2
  have q3 := Q0.out.cell 3
  have q4 := Q0.out.cell 4
  have q5 := Q0.out.cell 5
  rw [hw3] at m0 m1 m2 m3 m4 p0 p1 p2 p3 p4 p5 q0 q1 q2 q3 q4 q5
  simp at m0 m1 m2 m3 m4 p0 p1 p2 p3 p4 p5 q0 q1 q2 q3 q4 q5
  go_wp2_with fail
  rw [← hw3]
  clear hw3 m0 m1 m2 m3 m4 p0 p1 p2 p3 p4 p5 q0 q1 q2 q3 q4 q5
  refine (HF _).mono ?_
  rintro e w4 ⟨rfl, hb⟩
  replace HB := Lib.hid (HB.out.trans (hb.mono HB.out.size))
  replace M0 := Lib.hid (M0.out.below hb M0.out.lt)
  replace P0 := Lib.hid (P0.out.below hb P0.out.lt)
  replace Q0 := Lib.hid (Q0.out.below hb Q0.out.lt)
  clear hb
  obtain ⟨w5, hw5⟩ : ∃ w5, w5 = w4.alloc (.cells #[.int .u64 tx, .int .i64 z, .int .u32 rt, .int .u32 fr, .int .u32 ps] 31) := ⟨_, rfl⟩
  have N0 := Lib.hid (show Blk w5 w4.heap.size 31 #[.int .u64 tx, .int .i64 z, .int .u32 rt, .int .u32 fr, .int .u32 ps] by rw [hw5]; exact Blk.new _ _ _)
  replace HB := Lib.hid (show Below w.heap.size w w5 by rw [hw5]; exact HB.out.alloc HB.out.size _)
  replace M0 := Lib.hid (show Blk w5 _ _ _ by rw [hw5]; exact M0.out.alloc _)
  replace P0 := Lib.hid (show Blk w5 _ _ _ by rw [hw5]; exact P0.out.alloc _)
  replace Q0 := Lib.hid (show Blk w5 _ _ _ by rw [hw5]; exact Q0.out.alloc _)
  have m0 := M0.out.cell 0
  have m1 := M0.out.cell 1
  have m2 := M0.out.cell 2
  have m3 := M0.out.cell 3
  have m4 := M0.out.cell 4
  have p0 := P0.out.cell 0
  have p1 := P0.out.cell 1
  have p2 := P0.out.cell 2
  have p3 := P0.out.cell 3
  have p4 := P0.out.cell 4
  have p5 := P0.out.cell 5
  have q0 := Q0.out.cell 0
  have q1 := Q0.out.cell 1
  have q2 := Q0.out.cell 2
  have q3 := Q0.out.cell 3
  have q4 := Q0.out.cell 4
  have q5 := Q0.out.cell 5
  have n0 := N0.out.cell 0
  have n1 := N0.out.cell 1
  have n2 := N0.out.cell 2
  have n3 := N0.out.cell 3
  have n4 := N0.out.cell 4
  rw [hw5] at m0 m1 m2 m3 m4 p0 p1 p2 p3 p4 p5 q0 q1 q2 q3 q4 q5 n0 n1 n2 n3 n4
  simp at m0 m1 m2 m3 m4 p0 p1 p2 p3 p4 p5 q0 q1 q2 q3 q4 q5 n0 n1 n2 n3 n4
  go_wp2_with fail
  rw [← hw5]
  clear hw5 m0 m1 m2 m3 m4 p0 p1 p2 p3 p4 p5 q0 q1 q2 q3 q4 q5 n0 n1 n2 n3 n4
  refine (HF2 _).mono ?_
  rintro e w6 ⟨rfl, hb⟩
  replace HB := Lib.hid (HB.out.trans (hb.mono HB.out.size))
  replace M0 := Lib.hid (M0.out.below hb M0.out.lt)
  replace P0 := Lib.hid (P0.out.below hb P0.out.lt)
  replace Q0 := Lib.hid (Q0.out.below hb Q0.out.lt)
  replace N0 := Lib.hid (N0.out.below hb N0.out.lt)
  clear hb
  obtain ⟨w7, hw7⟩ : ∃ w7, w7 = w6.alloc (.cells #[.int .u64 tx, .int .i64 size, .int .u32 rt, .int .u32 fr, .int .u32 ps] 31) := ⟨_, rfl⟩
  have G0 := Lib.hid (show Blk w7 w6.heap.size 31 #[.int .u64 tx, .int .i64 size, .int .u32 rt, .int .u32 fr, .int .u32 ps] by rw [hw7]; exact Blk.new _ _ _)
  replace HB := Lib.hid (show Below w.heap.size w w7 by rw [hw7]; exact HB.out.alloc HB.out.size _)
  replace M0 := Lib.hid (show Blk w7 _ _ _ by rw [hw7]; exact M0.out.alloc _)
  replace P0 := Lib.hid (show Blk w7 _ _ _ by rw [hw7]; exact P0.out.alloc _)
  replace Q0 := Lib.hid (show Blk w7 _ _ _ by rw [hw7]; exact Q0.out.alloc _)
  replace N0 := Lib.hid (show Blk w7 _ _ _ by rw [hw7]; exact N0.out.alloc _)
  go_wp2_with fail
  rw [← hw7]
  clear hw7
  replace M0 := Lib.hid M0.out.drew
  replace P0 := Lib.hid P0.out.drew
  replace Q0 := Lib.hid Q0.out.drew
  replace N0 := Lib.hid N0.out.drew
  replace HB := Lib.hid HB.out.drew
  go_region_held3 (fun w' => (w'.cell? ⟨w.heap.size, 0, none⟩ = some (.int .u64 tx) ∧ w'.cell? ⟨w.heap.size, 1, none⟩ = some (.int .i64 z) ∧ w'.cell? ⟨w.heap.size, 2, none⟩ = some (.int .u32 rt) ∧ w'.cell? ⟨w.heap.size, 3, none⟩ = some (.int .u32 fr) ∧ w'.cell? ⟨w.heap.size, 4, none⟩ = some (.int .u32 ps)) ∧ (w'.cell? ⟨w4.heap.size, 0, none⟩ = some (.int .u64 tx) ∧ w'.cell? ⟨w4.heap.size, 1, none⟩ = some (.int .i64 z) ∧ w'.cell? ⟨w4.heap.size, 2, none⟩ = some (.int .u32 rt) ∧ w'.cell? ⟨w4.heap.size, 3, none⟩ = some (.int .u32 fr) ∧ w'.cell? ⟨w4.heap.size, 4, none⟩ = some (.int .u32 ps)) ∧ w'.cell? ⟨w2.heap.size, 2, none⟩ = some (.int .u32 sl))
    (exact ⟨meta_cells M0.out, meta_cells N0.out, Q0.out.cell 2⟩)
    (first
    | (go_at_call 17
       with_reducible refine (HS _).mono ?_
       rintro e w8 ⟨rfl, rfl⟩
       have p0 := P0.out.cell 0
       have p1 := P0.out.cell 1
       have p2 := P0.out.cell 2
       have p3 := P0.out.cell 3
       have p4 := P0.out.cell 4
       have p5 := P0.out.cell 5
       simp at p0 p1 p2 p3 p4 p5))
  try go_wp2_with fail
  clear p0 p1 p2 p3 p4 p5
  refine (HG _).mono ?_
  rintro e w9 ⟨rfl, hb⟩
  replace HB := Lib.hid (HB.out.trans (hb.mono HB.out.size))
  replace P0 := Lib.hid (P0.out.below hb P0.out.lt)
  clear hb
  obtain ⟨wa, hwa⟩ : ∃ wa, wa = w9.alloc (.cells #[.int .u64 ty, .int .i64 size, .int .u32 ra, .int .u32 fa, .int .u32 pa] 31) := ⟨_, rfl⟩
  have K0 := Lib.hid (show Blk wa w9.heap.size 31 #[.int .u64 ty, .int .i64 size, .int .u32 ra, .int .u32 fa, .int .u32 pa] by rw [hwa]; exact Blk.new _ _ _)
  replace HB := Lib.hid (show Below w.heap.size w wa by rw [hwa]; exact HB.out.alloc HB.out.size _)
  replace P0 := Lib.hid (show Blk wa _ _ _ by rw [hwa]; exact P0.out.alloc _)
  have p0 := P0.out.cell 0
  have p1 := P0.out.cell 1
  have p2 := P0.out.cell 2
  have p3 := P0.out.cell 3
  have p4 := P0.out.cell 4
  have p5 := P0.out.cell 5
  have k0 := K0.out.cell 0
  have k1 := K0.out.cell 1
  have k2 := K0.out.cell 2
  have k3 := K0.out.cell 3
  have k4 := K0.out.cell 4
  rw [hwa] at p0 p1 p2 p3 p4 p5 k0 k1 k2 k3 k4
  simp at p0 p1 p2 p3 p4 p5 k0 k1 k2 k3 k4
  go_wp2_with fail
  rw [← hwa]
  clear hwa p0 p1 p2 p3 p4 p5 k0 k1 k2 k3 k4
  refine (HQ _).mono ?_
  rintro e wb ⟨rfl, hb⟩
  replace HB := Lib.hid (HB.out.trans (hb.mono HB.out.size))
  replace P0 := Lib.hid (P0.out.below hb P0.out.lt)
  clear hb
  obtain ⟨wc, hwc⟩ : ∃ wc, wc = wb.alloc (.cells #[.int .i64 1, .int .i64 0, .int .u32 sm, .int .u32 0, .int .u64 ty, .string c] 26) := ⟨_, rfl⟩
  have R0 := Lib.hid (show Blk wc wb.heap.size 26 #[.int .i64 1, .int .i64 0, .int .u32 sm, .int .u32 0, .int .u64 ty, .string c] by rw [hwc]; exact Blk.new _ _ _)
  replace HB := Lib.hid (show Below w.heap.size w wc by rw [hwc]; exact HB.out.alloc HB.out.size _)
  replace P0 := Lib.hid (show Blk wc _ _ _ by rw [hwc]; exact P0.out.alloc _)
  have p0 := P0.out.cell 0
  have p1 := P0.out.cell 1
  have p2 := P0.out.cell 2
  have p3 := P0.out.cell 3
  have p4 := P0.out.cell 4
  have p5 := P0.out.cell 5
  have r0 := R0.out.cell 0
  have r1 := R0.out.cell 1
  have r2 := R0.out.cell 2
  have r3 := R0.out.cell 3
  have r4 := R0.out.cell 4
  have r5 := R0.out.cell 5
  rw [hwc] at p0 p1 p2 p3 p4 p5 r0 r1 r2 r3 r4 r5
  simp at p0 p1 p2 p3 p4 p5 r0 r1 r2 r3 r4 r5
  go_wp2_with fail
  go_ret
  exact ⟨rfl, by rw [← hwc]; exact HB.out⟩
set_option maxRecDepth 100000 in
set_option maxHeartbeats 6400000 in
theorem mback_diff_no (tx : Nat) (z : Nat) (rt fr ps : Nat) (size kd ct : Int) (pg lk ty : Nat) (bd : ByteArray) (w : World) (hl : bd.size ≤ 4200) (hm : mayM tx z rt fr ps = true) (hs : ¬ (z : Int) = size) (hi2 : isM size kd ct pg lk ty bd = false) :
    Calls Try.prog 5 #[.agg #[.int .u64 tx, .int .i64 z, .int .u32 rt, .int .u32 fr, .int .u32 ps], .int .i64 size, .agg #[.int .i64 kd, .int .i64 ct, .int .u32 pg, .int .u32 lk, .int .u64 ty, .string bd]] w fun e w' => e = .returned (.bool true) ∧ Below w.heap.size w w' := by
  have hd1 : decide ((4200 : Int) < bd.size) = false := by simp; omega
  have hd1' : decide (4200 < bd.size) = false := by simp; omega
  obtain ⟨b, hb⟩ : ∃ b, b = bodyM z rt fr ps := ⟨_, rfl⟩
  obtain ⟨sl, hsl⟩ : ∃ sl, sl = tx % 2 := ⟨_, rfl⟩
  have HP := fun w => mpage_yes tx z rt fr ps sl b w hm hb hsl
  have HF := fun w => of_page tx z rt fr ps sl b w hm hb hsl
  have HS := fun w => slot_is tx sl w hsl
  have hme := fun w => meta_noteq tx z rt fr ps w
  have q1 : (size == (z : Int)) = false := by simp; exact fun h => hs h.symm
  have HF2 := fun w => of_page_no size tx z rt fr ps sl b w hm hb hsl hs
  clear hb hsl hs
  have HG := fun w => of_no size kd ct pg lk ty bd w hi2
  have hze := fun w => meta_same 0 0 0 0 0 w
  clear hi2
  clear hm hl
  obtain ⟨w0, hw0⟩ : ∃ w0, w0 = (w.alloc (.cells #[.int .u64 tx, .int .i64 z, .int .u32 rt, .int .u32 fr, .int .u32 ps] 31)).alloc (.cells #[.int .i64 kd, .int .i64 ct, .int .u32 pg, .int .u32 lk, .int .u64 ty, .string bd] 26) := ⟨_, rfl⟩
  have M0 := Lib.hid (show Blk w0 w.heap.size 31 #[.int .u64 tx, .int .i64 z, .int .u32 rt, .int .u32 fr, .int .u32 ps] by rw [hw0]; exact (Blk.new _ _ _).alloc _)
  have P0 := Lib.hid (show Blk w0 (w.heap.size + 1) 26 #[.int .i64 kd, .int .i64 ct, .int .u32 pg, .int .u32 lk, .int .u64 ty, .string bd] by rw [hw0, show w.heap.size + 1 = (w.alloc (.cells #[.int .u64 tx, .int .i64 z, .int .u32 rt, .int .u32 fr, .int .u32 ps] 31)).heap.size by simp]; exact Blk.new _ _ _)
  have HB := Lib.hid (show Below w.heap.size w w0 by rw [hw0]; exact ((Below.refl _ _).alloc (Nat.le_refl _) _).alloc (by simp) _)
  go_enter Try.func5, Try.ntmps5
  go_wp2_with fail
  rw [← hw0]
  clear hw0
  refine (lives5_any _).mono ?_
  rintro e w1 ⟨rfl, hb⟩
  replace HB := Lib.hid (HB.out.trans (hb.mono HB.out.size))
  replace M0 := Lib.hid (M0.out.below hb M0.out.lt)
  replace P0 := Lib.hid (P0.out.below hb P0.out.lt)
  clear hb
  have m0 := M0.out.cell 0
  have m1 := M0.out.cell 1
  have m2 := M0.out.cell 2
  have m3 := M0.out.cell 3
  have m4 := M0.out.cell 4
  have p0 := P0.out.cell 0
  have p1 := P0.out.cell 1
  have p2 := P0.out.cell 2
  have p3 := P0.out.cell 3
  have p4 := P0.out.cell 4
  have p5 := P0.out.cell 5
  simp at m0 m1 m2 m3 m4 p0 p1 p2 p3 p4 p5
  go_wp2_with fail
  refine (HP _).mono ?_
  rintro e w2 ⟨rfl, hb⟩
  clear m0 m1 m2 m3 m4 p0 p1 p2 p3 p4 p5
  replace HB := Lib.hid (HB.out.trans (hb.mono HB.out.size))
  replace M0 := Lib.hid (M0.out.below hb M0.out.lt)
  replace P0 := Lib.hid (P0.out.below hb P0.out.lt)
  clear hb HP
  obtain ⟨w3, hw3⟩ : ∃ w3, w3 = w2.alloc (.cells #[.int .i64 1, .int .i64 0, .int .u32 sl, .int .u32 0, .int .u64 tx, .string b] 26) := ⟨_, rfl⟩
  have Q0 := Lib.hid (show Blk w3 w2.heap.size 26 #[.int .i64 1, .int .i64 0, .int .u32 sl, .int .u32 0, .int .u64 tx, .string b] by rw [hw3]; exact Blk.new _ _ _)
  replace HB := Lib.hid (show Below w.heap.size w w3 by rw [hw3]; exact HB.out.alloc HB.out.size _)
  replace M0 := Lib.hid (show Blk w3 _ _ _ by rw [hw3]; exact M0.out.alloc _)
  replace P0 := Lib.hid (show Blk w3 _ _ _ by rw [hw3]; exact P0.out.alloc _)
  have m0 := M0.out.cell 0
  have m1 := M0.out.cell 1
  have m2 := M0.out.cell 2
  have m3 := M0.out.cell 3
  have m4 := M0.out.cell 4
  have p0 := P0.out.cell 0
  have p1 := P0.out.cell 1
  have p2 := P0.out.cell 2
  have p3 := P0.out.cell 3
  have p4 := P0.out.cell 4
  have p5 := P0.out.cell 5
  have q0 := Q0.out.cell 0
  have q1 := Q0.out.cell 1
  have q2 := Q0.out.cell 2
  have q3 := Q0.out.cell 3
  have q4 := Q0.out.cell 4
  have q5 := Q0.out.cell 5
  rw [hw3] at m0 m1 m2 m3 m4 p0 p1 p2 p3 p4 p5 q0 q1 q2 q3 q4 q5
  simp at m0 m1 m2 m3 m4 p0 p1 p2 p3 p4 p5 q0 q1 q2 q3 q4 q5
  go_wp2_with fail
  rw [← hw3]
  clear hw3 m0 m1 m2 m3 m4 p0 p1 p2 p3 p4 p5 q0 q1 q2 q3 q4 q5
  refine (HF _).mono ?_
  rintro e w4 ⟨rfl, hb⟩
  replace HB := Lib.hid (HB.out.trans (hb.mono HB.out.size))
  replace M0 := Lib.hid (M0.out.below hb M0.out.lt)
  replace P0 := Lib.hid (P0.out.below hb P0.out.lt)
  replace Q0 := Lib.hid (Q0.out.below hb Q0.out.lt)
  clear hb
  obtain ⟨w5, hw5⟩ : ∃ w5, w5 = w4.alloc (.cells #[.int .u64 tx, .int .i64 z, .int .u32 rt, .int .u32 fr, .int .u32 ps] 31) := ⟨_, rfl⟩
  have N0 := Lib.hid (show Blk w5 w4.heap.size 31 #[.int .u64 tx, .int .i64 z, .int .u32 rt, .int .u32 fr, .int .u32 ps] by rw [hw5]; exact Blk.new _ _ _)
  replace HB := Lib.hid (show Below w.heap.size w w5 by rw [hw5]; exact HB.out.alloc HB.out.size _)
  replace M0 := Lib.hid (show Blk w5 _ _ _ by rw [hw5]; exact M0.out.alloc _)
  replace P0 := Lib.hid (show Blk w5 _ _ _ by rw [hw5]; exact P0.out.alloc _)
  replace Q0 := Lib.hid (show Blk w5 _ _ _ by rw [hw5]; exact Q0.out.alloc _)
  have m0 := M0.out.cell 0
  have m1 := M0.out.cell 1
  have m2 := M0.out.cell 2
  have m3 := M0.out.cell 3
  have m4 := M0.out.cell 4
  have p0 := P0.out.cell 0
  have p1 := P0.out.cell 1
  have p2 := P0.out.cell 2
  have p3 := P0.out.cell 3
  have p4 := P0.out.cell 4
  have p5 := P0.out.cell 5
  have q0 := Q0.out.cell 0
  have q1 := Q0.out.cell 1
  have q2 := Q0.out.cell 2
  have q3 := Q0.out.cell 3
  have q4 := Q0.out.cell 4
  have q5 := Q0.out.cell 5
  have n0 := N0.out.cell 0
  have n1 := N0.out.cell 1
  have n2 := N0.out.cell 2
  have n3 := N0.out.cell 3
  have n4 := N0.out.cell 4
  rw [hw5] at m0 m1 m2 m3 m4 p0 p1 p2 p3 p4 p5 q0 q1 q2 q3 q4 q5 n0 n1 n2 n3 n4
  simp at m0 m1 m2 m3 m4 p0 p1 p2 p3 p4 p5 q0 q1 q2 q3 q4 q5 n0 n1 n2 n3 n4
  go_wp2_with fail
  rw [← hw5]
  clear hw5 m0 m1 m2 m3 m4 p0 p1 p2 p3 p4 p5 q0 q1 q2 q3 q4 q5 n0 n1 n2 n3 n4
  refine (HF2 _).mono ?_
  rintro e w6 ⟨rfl, hb⟩
  replace HB := Lib.hid (HB.out.trans (hb.mono HB.out.size))
  replace M0 := Lib.hid (M0.out.below hb M0.out.lt)
  replace P0 := Lib.hid (P0.out.below hb P0.out.lt)
  replace Q0 := Lib.hid (Q0.out.below hb Q0.out.lt)
  replace N0 := Lib.hid (N0.out.below hb N0.out.lt)
  clear hb
  obtain ⟨w7, hw7⟩ : ∃ w7, w7 = w6.alloc (.cells #[.int .u64 0, .int .i64 0, .int .u32 0, .int .u32 0, .int .u32 0] 31) := ⟨_, rfl⟩
  have G0 := Lib.hid (show Blk w7 w6.heap.size 31 #[.int .u64 0, .int .i64 0, .int .u32 0, .int .u32 0, .int .u32 0] by rw [hw7]; exact Blk.new _ _ _)
  replace HB := Lib.hid (show Below w.heap.size w w7 by rw [hw7]; exact HB.out.alloc HB.out.size _)
  replace M0 := Lib.hid (show Blk w7 _ _ _ by rw [hw7]; exact M0.out.alloc _)
  replace P0 := Lib.hid (show Blk w7 _ _ _ by rw [hw7]; exact P0.out.alloc _)
  replace Q0 := Lib.hid (show Blk w7 _ _ _ by rw [hw7]; exact Q0.out.alloc _)
  replace N0 := Lib.hid (show Blk w7 _ _ _ by rw [hw7]; exact N0.out.alloc _)
  go_wp2_with fail
  rw [← hw7]
  clear hw7
  replace M0 := Lib.hid M0.out.drew
  replace P0 := Lib.hid P0.out.drew
  replace Q0 := Lib.hid Q0.out.drew
  replace N0 := Lib.hid N0.out.drew
  replace HB := Lib.hid HB.out.drew
  go_region_held3 (fun w' => (w'.cell? ⟨w.heap.size, 0, none⟩ = some (.int .u64 tx) ∧ w'.cell? ⟨w.heap.size, 1, none⟩ = some (.int .i64 z) ∧ w'.cell? ⟨w.heap.size, 2, none⟩ = some (.int .u32 rt) ∧ w'.cell? ⟨w.heap.size, 3, none⟩ = some (.int .u32 fr) ∧ w'.cell? ⟨w.heap.size, 4, none⟩ = some (.int .u32 ps)) ∧ (w'.cell? ⟨w4.heap.size, 0, none⟩ = some (.int .u64 tx) ∧ w'.cell? ⟨w4.heap.size, 1, none⟩ = some (.int .i64 z) ∧ w'.cell? ⟨w4.heap.size, 2, none⟩ = some (.int .u32 rt) ∧ w'.cell? ⟨w4.heap.size, 3, none⟩ = some (.int .u32 fr) ∧ w'.cell? ⟨w4.heap.size, 4, none⟩ = some (.int .u32 ps)) ∧ w'.cell? ⟨w2.heap.size, 2, none⟩ = some (.int .u32 sl))
    (exact ⟨meta_cells M0.out, meta_cells N0.out, Q0.out.cell 2⟩)
    (first
    | (go_at_call 17
       with_reducible refine (HS _).mono ?_
       rintro e w8 ⟨rfl, rfl⟩
       have p0 := P0.out.cell 0
       have p1 := P0.out.cell 1
       have p2 := P0.out.cell 2
       have p3 := P0.out.cell 3
       have p4 := P0.out.cell 4
       have p5 := P0.out.cell 5
       simp at p0 p1 p2 p3 p4 p5))
  try go_wp2_with fail
  clear p0 p1 p2 p3 p4 p5
  refine (HG _).mono ?_
  rintro e w9 ⟨rfl, hb⟩
  replace HB := Lib.hid (HB.out.trans (hb.mono HB.out.size))
  replace P0 := Lib.hid (P0.out.below hb P0.out.lt)
  clear hb
  obtain ⟨wa, hwa⟩ : ∃ wa, wa = w9.alloc (.cells #[.int .u64 0, .int .i64 0, .int .u32 0, .int .u32 0, .int .u32 0] 31) := ⟨_, rfl⟩
  have K0 := Lib.hid (show Blk wa w9.heap.size 31 #[.int .u64 0, .int .i64 0, .int .u32 0, .int .u32 0, .int .u32 0] by rw [hwa]; exact Blk.new _ _ _)
  replace HB := Lib.hid (show Below w.heap.size w wa by rw [hwa]; exact HB.out.alloc HB.out.size _)
  replace P0 := Lib.hid (show Blk wa _ _ _ by rw [hwa]; exact P0.out.alloc _)
  go_wp2_with fail
  go_ret
  exact ⟨rfl, by rw [← hwa]; exact HB.out⟩
set_option maxRecDepth 100000 in
set_option maxHeartbeats 6400000 in
theorem mback_diff_yes (tx : Nat) (z : Nat) (rt fr ps : Nat) (size kd ct : Int) (pg lk ty : Nat) (bd : ByteArray) (w : World) (hl : bd.size ≤ 4200) (hm : mayM tx z rt fr ps = true) (hs : ¬ (z : Int) = size) (hi2 : isM size kd ct pg lk ty bd = true) :
    Calls Try.prog 5 #[.agg #[.int .u64 tx, .int .i64 z, .int .u32 rt, .int .u32 fr, .int .u32 ps], .int .i64 size, .agg #[.int .i64 kd, .int .i64 ct, .int .u32 pg, .int .u32 lk, .int .u64 ty, .string bd]] w fun e w' => e = .returned (.bool true) ∧ Below w.heap.size w w' := by
  have hd1 : decide ((4200 : Int) < bd.size) = false := by simp; omega
  have hd1' : decide (4200 < bd.size) = false := by simp; omega
  obtain ⟨b, hb⟩ : ∃ b, b = bodyM z rt fr ps := ⟨_, rfl⟩
  obtain ⟨sl, hsl⟩ : ∃ sl, sl = tx % 2 := ⟨_, rfl⟩
  have HP := fun w => mpage_yes tx z rt fr ps sl b w hm hb hsl
  have HF := fun w => of_page tx z rt fr ps sl b w hm hb hsl
  have HS := fun w => slot_is tx sl w hsl
  have hme := fun w => meta_noteq tx z rt fr ps w
  have q1 : (size == (z : Int)) = false := by simp; exact fun h => hs h.symm
  have HF2 := fun w => of_page_no size tx z rt fr ps sl b w hm hb hsl hs
  clear hb hsl hs
  have HG := fun w => of_yes size kd ct pg lk ty bd w hi2
  simp only [isM, Bool.and_eq_true, decide_eq_true_eq] at hi2
  obtain ⟨i1, i2, i3, i4, i5, i6, i7, i8⟩ := hi2
  obtain ⟨za, hza⟩ : ∃ za, za = numAt bd 8 2 := ⟨_, rfl⟩
  obtain ⟨ra, hra⟩ : ∃ ra, ra = numAt bd 10 4 := ⟨_, rfl⟩
  obtain ⟨fa, hfa⟩ : ∃ fa, fa = numAt bd 14 4 := ⟨_, rfl⟩
  obtain ⟨pa, hpa⟩ : ∃ pa, pa = numAt bd 18 4 := ⟨_, rfl⟩
  rw [← hra, ← hfa, ← hpa] at HG i3
  rw [← hza, ← hra, ← hfa, ← hpa] at i8
  rw [← hza] at i2
  obtain ⟨c, hc⟩ : ∃ c, c = bodyM za ra fa pa := ⟨_, rfl⟩
  obtain ⟨sm, hsm⟩ : ∃ sm, sm = ty % 2 := ⟨_, rfl⟩
  have HQ := fun w => mpage_yes ty za ra fa pa sm c w (by rw [i2]; exact i3) hc hsm
  rw [i2] at HQ
  have hpe := fun w => page_alike_eql 1 0 sm 0 ty c kd ct pg lk ty bd w ⟨i4.symm, i5.symm, by omega, by omega, rfl, by rw [hc]; exact i8.symm⟩
  clear i1 i2 i3 i4 i5 i6 i7 i8 hza hra hfa hpa hc hsm
  clear hm hl
  obtain ⟨w0, hw0⟩ : ∃ w0, w0 = (w.alloc (.cells #[.int .u64 tx, .int .i64 z, .int .u32 rt, .int .u32 fr, .int .u32 ps] 31)).alloc (.cells #[.int .i64 kd, .int .i64 ct, .int .u32 pg, .int .u32 lk, .int .u64 ty, .string bd] 26) := ⟨_, rfl⟩
  have M0 := Lib.hid (show Blk w0 w.heap.size 31 #[.int .u64 tx, .int .i64 z, .int .u32 rt, .int .u32 fr, .int .u32 ps] by rw [hw0]; exact (Blk.new _ _ _).alloc _)
  have P0 := Lib.hid (show Blk w0 (w.heap.size + 1) 26 #[.int .i64 kd, .int .i64 ct, .int .u32 pg, .int .u32 lk, .int .u64 ty, .string bd] by rw [hw0, show w.heap.size + 1 = (w.alloc (.cells #[.int .u64 tx, .int .i64 z, .int .u32 rt, .int .u32 fr, .int .u32 ps] 31)).heap.size by simp]; exact Blk.new _ _ _)
  have HB := Lib.hid (show Below w.heap.size w w0 by rw [hw0]; exact ((Below.refl _ _).alloc (Nat.le_refl _) _).alloc (by simp) _)
  go_enter Try.func5, Try.ntmps5
  go_wp2_with fail
  rw [← hw0]
  clear hw0
  refine (lives5_any _).mono ?_
  rintro e w1 ⟨rfl, hb⟩
  replace HB := Lib.hid (HB.out.trans (hb.mono HB.out.size))
  replace M0 := Lib.hid (M0.out.below hb M0.out.lt)
  replace P0 := Lib.hid (P0.out.below hb P0.out.lt)
  clear hb
  have m0 := M0.out.cell 0
  have m1 := M0.out.cell 1
  have m2 := M0.out.cell 2
  have m3 := M0.out.cell 3
  have m4 := M0.out.cell 4
  have p0 := P0.out.cell 0
  have p1 := P0.out.cell 1
  have p2 := P0.out.cell 2
  have p3 := P0.out.cell 3
  have p4 := P0.out.cell 4
  have p5 := P0.out.cell 5
  simp at m0 m1 m2 m3 m4 p0 p1 p2 p3 p4 p5
  go_wp2_with fail
  refine (HP _).mono ?_
  rintro e w2 ⟨rfl, hb⟩
  clear m0 m1 m2 m3 m4 p0 p1 p2 p3 p4 p5
  replace HB := Lib.hid (HB.out.trans (hb.mono HB.out.size))
  replace M0 := Lib.hid (M0.out.below hb M0.out.lt)
  replace P0 := Lib.hid (P0.out.below hb P0.out.lt)
  clear hb HP
  obtain ⟨w3, hw3⟩ : ∃ w3, w3 = w2.alloc (.cells #[.int .i64 1, .int .i64 0, .int .u32 sl, .int .u32 0, .int .u64 tx, .string b] 26) := ⟨_, rfl⟩
  have Q0 := Lib.hid (show Blk w3 w2.heap.size 26 #[.int .i64 1, .int .i64 0, .int .u32 sl, .int .u32 0, .int .u64 tx, .string b] by rw [hw3]; exact Blk.new _ _ _)
  replace HB := Lib.hid (show Below w.heap.size w w3 by rw [hw3]; exact HB.out.alloc HB.out.size _)
  replace M0 := Lib.hid (show Blk w3 _ _ _ by rw [hw3]; exact M0.out.alloc _)
  replace P0 := Lib.hid (show Blk w3 _ _ _ by rw [hw3]; exact P0.out.alloc _)
  have m0 := M0.out.cell 0
  have m1 := M0.out.cell 1
  have m2 := M0.out.cell 2
  have m3 := M0.out.cell 3
  have m4 := M0.out.cell 4
  have p0 := P0.out.cell 0
  have p1 := P0.out.cell 1
  have p2 := P0.out.cell 2
  have p3 := P0.out.cell 3
  have p4 := P0.out.cell 4
  have p5 := P0.out.cell 5
  have q0 := Q0.out.cell 0
  have q1 := Q0.out.cell 1
  have q2 := Q0.out.cell 2
  have q3 := Q0.out.cell 3
  have q4 := Q0.out.cell 4
  have q5 := Q0.out.cell 5
  rw [hw3] at m0 m1 m2 m3 m4 p0 p1 p2 p3 p4 p5 q0 q1 q2 q3 q4 q5
  simp at m0 m1 m2 m3 m4 p0 p1 p2 p3 p4 p5 q0 q1 q2 q3 q4 q5
  go_wp2_with fail
  rw [← hw3]
  clear hw3 m0 m1 m2 m3 m4 p0 p1 p2 p3 p4 p5 q0 q1 q2 q3 q4 q5
  refine (HF _).mono ?_
  rintro e w4 ⟨rfl, hb⟩
  replace HB := Lib.hid (HB.out.trans (hb.mono HB.out.size))
  replace M0 := Lib.hid (M0.out.below hb M0.out.lt)
  replace P0 := Lib.hid (P0.out.below hb P0.out.lt)
  replace Q0 := Lib.hid (Q0.out.below hb Q0.out.lt)
  clear hb
  obtain ⟨w5, hw5⟩ : ∃ w5, w5 = w4.alloc (.cells #[.int .u64 tx, .int .i64 z, .int .u32 rt, .int .u32 fr, .int .u32 ps] 31) := ⟨_, rfl⟩
  have N0 := Lib.hid (show Blk w5 w4.heap.size 31 #[.int .u64 tx, .int .i64 z, .int .u32 rt, .int .u32 fr, .int .u32 ps] by rw [hw5]; exact Blk.new _ _ _)
  replace HB := Lib.hid (show Below w.heap.size w w5 by rw [hw5]; exact HB.out.alloc HB.out.size _)
  replace M0 := Lib.hid (show Blk w5 _ _ _ by rw [hw5]; exact M0.out.alloc _)
  replace P0 := Lib.hid (show Blk w5 _ _ _ by rw [hw5]; exact P0.out.alloc _)
  replace Q0 := Lib.hid (show Blk w5 _ _ _ by rw [hw5]; exact Q0.out.alloc _)
  have m0 := M0.out.cell 0
  have m1 := M0.out.cell 1
  have m2 := M0.out.cell 2
  have m3 := M0.out.cell 3
  have m4 := M0.out.cell 4
  have p0 := P0.out.cell 0
  have p1 := P0.out.cell 1
  have p2 := P0.out.cell 2
  have p3 := P0.out.cell 3
  have p4 := P0.out.cell 4
  have p5 := P0.out.cell 5
  have q0 := Q0.out.cell 0
  have q1 := Q0.out.cell 1
  have q2 := Q0.out.cell 2
  have q3 := Q0.out.cell 3
  have q4 := Q0.out.cell 4
  have q5 := Q0.out.cell 5
  have n0 := N0.out.cell 0
  have n1 := N0.out.cell 1
  have n2 := N0.out.cell 2
  have n3 := N0.out.cell 3
  have n4 := N0.out.cell 4
  rw [hw5] at m0 m1 m2 m3 m4 p0 p1 p2 p3 p4 p5 q0 q1 q2 q3 q4 q5 n0 n1 n2 n3 n4
  simp at m0 m1 m2 m3 m4 p0 p1 p2 p3 p4 p5 q0 q1 q2 q3 q4 q5 n0 n1 n2 n3 n4
  go_wp2_with fail
  rw [← hw5]
  clear hw5 m0 m1 m2 m3 m4 p0 p1 p2 p3 p4 p5 q0 q1 q2 q3 q4 q5 n0 n1 n2 n3 n4
  refine (HF2 _).mono ?_
  rintro e w6 ⟨rfl, hb⟩
  replace HB := Lib.hid (HB.out.trans (hb.mono HB.out.size))
  replace M0 := Lib.hid (M0.out.below hb M0.out.lt)
  replace P0 := Lib.hid (P0.out.below hb P0.out.lt)
  replace Q0 := Lib.hid (Q0.out.below hb Q0.out.lt)
  replace N0 := Lib.hid (N0.out.below hb N0.out.lt)
  clear hb
  obtain ⟨w7, hw7⟩ : ∃ w7, w7 = w6.alloc (.cells #[.int .u64 0, .int .i64 0, .int .u32 0, .int .u32 0, .int .u32 0] 31) := ⟨_, rfl⟩
  have G0 := Lib.hid (show Blk w7 w6.heap.size 31 #[.int .u64 0, .int .i64 0, .int .u32 0, .int .u32 0, .int .u32 0] by rw [hw7]; exact Blk.new _ _ _)
  replace HB := Lib.hid (show Below w.heap.size w w7 by rw [hw7]; exact HB.out.alloc HB.out.size _)
  replace M0 := Lib.hid (show Blk w7 _ _ _ by rw [hw7]; exact M0.out.alloc _)
  replace P0 := Lib.hid (show Blk w7 _ _ _ by rw [hw7]; exact P0.out.alloc _)
  replace Q0 := Lib.hid (show Blk w7 _ _ _ by rw [hw7]; exact Q0.out.alloc _)
  replace N0 := Lib.hid (show Blk w7 _ _ _ by rw [hw7]; exact N0.out.alloc _)
  go_wp2_with fail
  rw [← hw7]
  clear hw7
  replace M0 := Lib.hid M0.out.drew
  replace P0 := Lib.hid P0.out.drew
  replace Q0 := Lib.hid Q0.out.drew
  replace N0 := Lib.hid N0.out.drew
  replace HB := Lib.hid HB.out.drew
  go_region_held3 (fun w' => (w'.cell? ⟨w.heap.size, 0, none⟩ = some (.int .u64 tx) ∧ w'.cell? ⟨w.heap.size, 1, none⟩ = some (.int .i64 z) ∧ w'.cell? ⟨w.heap.size, 2, none⟩ = some (.int .u32 rt) ∧ w'.cell? ⟨w.heap.size, 3, none⟩ = some (.int .u32 fr) ∧ w'.cell? ⟨w.heap.size, 4, none⟩ = some (.int .u32 ps)) ∧ (w'.cell? ⟨w4.heap.size, 0, none⟩ = some (.int .u64 tx) ∧ w'.cell? ⟨w4.heap.size, 1, none⟩ = some (.int .i64 z) ∧ w'.cell? ⟨w4.heap.size, 2, none⟩ = some (.int .u32 rt) ∧ w'.cell? ⟨w4.heap.size, 3, none⟩ = some (.int .u32 fr) ∧ w'.cell? ⟨w4.heap.size, 4, none⟩ = some (.int .u32 ps)) ∧ w'.cell? ⟨w2.heap.size, 2, none⟩ = some (.int .u32 sl))
    (exact ⟨meta_cells M0.out, meta_cells N0.out, Q0.out.cell 2⟩)
    (first
    | (go_at_call 17
       with_reducible refine (HS _).mono ?_
       rintro e w8 ⟨rfl, rfl⟩
       have p0 := P0.out.cell 0
       have p1 := P0.out.cell 1
       have p2 := P0.out.cell 2
       have p3 := P0.out.cell 3
       have p4 := P0.out.cell 4
       have p5 := P0.out.cell 5
       simp at p0 p1 p2 p3 p4 p5))
  try go_wp2_with fail
  clear p0 p1 p2 p3 p4 p5
  refine (HG _).mono ?_
  rintro e w9 ⟨rfl, hb⟩
  replace HB := Lib.hid (HB.out.trans (hb.mono HB.out.size))
  replace P0 := Lib.hid (P0.out.below hb P0.out.lt)
  clear hb
  obtain ⟨wa, hwa⟩ : ∃ wa, wa = w9.alloc (.cells #[.int .u64 ty, .int .i64 size, .int .u32 ra, .int .u32 fa, .int .u32 pa] 31) := ⟨_, rfl⟩
  have K0 := Lib.hid (show Blk wa w9.heap.size 31 #[.int .u64 ty, .int .i64 size, .int .u32 ra, .int .u32 fa, .int .u32 pa] by rw [hwa]; exact Blk.new _ _ _)
  replace HB := Lib.hid (show Below w.heap.size w wa by rw [hwa]; exact HB.out.alloc HB.out.size _)
  replace P0 := Lib.hid (show Blk wa _ _ _ by rw [hwa]; exact P0.out.alloc _)
  have p0 := P0.out.cell 0
  have p1 := P0.out.cell 1
  have p2 := P0.out.cell 2
  have p3 := P0.out.cell 3
  have p4 := P0.out.cell 4
  have p5 := P0.out.cell 5
  have k0 := K0.out.cell 0
  have k1 := K0.out.cell 1
  have k2 := K0.out.cell 2
  have k3 := K0.out.cell 3
  have k4 := K0.out.cell 4
  rw [hwa] at p0 p1 p2 p3 p4 p5 k0 k1 k2 k3 k4
  simp at p0 p1 p2 p3 p4 p5 k0 k1 k2 k3 k4
  go_wp2_with fail
  rw [← hwa]
  clear hwa p0 p1 p2 p3 p4 p5 k0 k1 k2 k3 k4
  refine (HQ _).mono ?_
  rintro e wb ⟨rfl, hb⟩
  replace HB := Lib.hid (HB.out.trans (hb.mono HB.out.size))
  replace P0 := Lib.hid (P0.out.below hb P0.out.lt)
  clear hb
  obtain ⟨wc, hwc⟩ : ∃ wc, wc = wb.alloc (.cells #[.int .i64 1, .int .i64 0, .int .u32 sm, .int .u32 0, .int .u64 ty, .string c] 26) := ⟨_, rfl⟩
  have R0 := Lib.hid (show Blk wc wb.heap.size 26 #[.int .i64 1, .int .i64 0, .int .u32 sm, .int .u32 0, .int .u64 ty, .string c] by rw [hwc]; exact Blk.new _ _ _)
  replace HB := Lib.hid (show Below w.heap.size w wc by rw [hwc]; exact HB.out.alloc HB.out.size _)
  replace P0 := Lib.hid (show Blk wc _ _ _ by rw [hwc]; exact P0.out.alloc _)
  have p0 := P0.out.cell 0
  have p1 := P0.out.cell 1
  have p2 := P0.out.cell 2
  have p3 := P0.out.cell 3
  have p4 := P0.out.cell 4
  have p5 := P0.out.cell 5
  have r0 := R0.out.cell 0
  have r1 := R0.out.cell 1
  have r2 := R0.out.cell 2
  have r3 := R0.out.cell 3
  have r4 := R0.out.cell 4
  have r5 := R0.out.cell 5
  rw [hwc] at p0 p1 p2 p3 p4 p5 r0 r1 r2 r3 r4 r5
  simp at p0 p1 p2 p3 p4 p5 r0 r1 r2 r3 r4 r5
  go_wp2_with fail
  go_ret
  exact ⟨rfl, by rw [← hwc]; exact HB.out⟩
theorem mback_long (tx : Nat) (z : Int) (rt fr ps : Nat) (size kd ct : Int) (pg lk ty : Nat) (bd : ByteArray) (w : World) (hl : 4200 < bd.size) :
    Calls Try.prog 5 #[.agg #[.int .u64 tx, .int .i64 z, .int .u32 rt, .int .u32 fr, .int .u32 ps], .int .i64 size, .agg #[.int .i64 kd, .int .i64 ct, .int .u32 pg, .int .u32 lk, .int .u64 ty, .string bd]] w fun e w' => e = .returned (.bool true) ∧ Below w.heap.size w w' := by
  have hd1 : decide ((4200 : Int) < bd.size) = true := by simp; omega
  have hd1' : decide (4200 < bd.size) = true := by simp; omega
  obtain ⟨w0, hw0⟩ : ∃ w0, w0 = (w.alloc (.cells #[.int .u64 tx, .int .i64 z, .int .u32 rt, .int .u32 fr, .int .u32 ps] 31)).alloc (.cells #[.int .i64 kd, .int .i64 ct, .int .u32 pg, .int .u32 lk, .int .u64 ty, .string bd] 26) := ⟨_, rfl⟩
  have P0 := Lib.hid (show Blk w0 (w.heap.size + 1) 26 #[.int .i64 kd, .int .i64 ct, .int .u32 pg, .int .u32 lk, .int .u64 ty, .string bd] by rw [hw0, show w.heap.size + 1 = (w.alloc (.cells #[.int .u64 tx, .int .i64 z, .int .u32 rt, .int .u32 fr, .int .u32 ps] 31)).heap.size by simp]; exact Blk.new _ _ _)
  have HB := Lib.hid (show Below w.heap.size w w0 by rw [hw0]; exact ((Below.refl _ _).alloc (Nat.le_refl _) _).alloc (by simp) _)
  go_enter Try.func5, Try.ntmps5
  go_wp2_with fail
  rw [← hw0]
  clear hw0
  refine (lives5_any _).mono ?_
  rintro e w1 ⟨rfl, hb⟩
  replace HB := Lib.hid (HB.out.trans (hb.mono HB.out.size))
  replace P0 := Lib.hid (P0.out.below hb P0.out.lt)
  clear hb
  have p5 := P0.out.cell 5
  simp at p5
  go_wp2_with fail
  go_ret
  exact ⟨rfl, HB.out⟩
theorem mback_walk (tx : Nat) (z : Int) (rt fr ps : Nat) (size kd ct : Int) (pg lk ty : Nat) (bd : ByteArray) (w : World) (_h0 : tx < 18446744073709551616 ∧ -9223372036854775808 ≤ z ∧ z ≤ 9223372036854775807 ∧ rt < 4294967296 ∧ fr < 4294967296 ∧ ps < 4294967296) (_h1 : (Lit.int .i64 size).wf = true) (_h2 : pg < 4294967296 ∧ lk < 4294967296 ∧ ty < 18446744073709551616 ∧ bd.size ≤ maxLen) :
    Calls Try.prog 5 #[.agg #[.int .u64 tx, .int .i64 z, .int .u32 rt, .int .u32 fr, .int .u32 ps], .int .i64 size, .agg #[.int .i64 kd, .int .i64 ct, .int .u32 pg, .int .u32 lk, .int .u64 ty, .string bd]] w fun e w' => e = .returned (.bool true) ∧ Below w.heap.size w w' := by
  by_cases hl : bd.size ≤ 4200
  case neg => exact mback_long tx z rt fr ps size kd ct pg lk ty bd w (by omega)
  rcases hm : mayM tx z rt fr ps with _ | _
  · rcases h2 : isM size kd ct pg lk ty bd with _ | _
    · exact mback_no_no tx z rt fr ps size kd ct pg lk ty bd w hl hm h2
    · exact mback_no_yes tx z rt fr ps size kd ct pg lk ty bd w hl hm h2
  · obtain ⟨n, rfl, _, _, _⟩ := good_nat (mayM_good hm).2.1
    by_cases hs : (n : Int) = size
    · rcases h2 : isM size kd ct pg lk ty bd with _ | _
      · exact mback_same_no tx n rt fr ps size kd ct pg lk ty bd w hl hm hs h2
      · exact mback_same_yes tx n rt fr ps size kd ct pg lk ty bd w hl hm hs h2
    · rcases h2 : isM size kd ct pg lk ty bd with _ | _
      · exact mback_diff_no tx n rt fr ps size kd ct pg lk ty bd w hl hm hs h2
      · exact mback_diff_yes tx n rt fr ps size kd ct pg lk ty bd w hl hm hs h2
end Go.Proofs.Ytfmalohaaibhiaa
