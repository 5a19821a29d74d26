/-
  The walk of the statement MetaCalls: from every start, at every argument, it returns true and changes no block that was there before.
-/
import Derived.Test.YtfmalohaaibhiaaRef5New
import Derived.Test.YtfmalohaaibhiaaMetaBlk
import Derived.Deep.RegionHeld3
import Derived.Deep.DrawnRows
import Derived.ChangeKeysEq
namespace Go.Proofs.Ytfmalohaaibhiaa
open Go.RowKit
open Go.Lib hiding intOf
set_option linter.unusedVariables false
set_option linter.unusedSimpArgs false
attribute [local go_sem ↓] Go.wp_at_zero Go.wp_at_succ

theorem page_self (a0 a1 a2 a3 a4 : Int) (a5 : ByteArray) (w : World) : (binOp .eql 26 (.agg #[.int .i64 a0, .int .i64 a1, .int .u32 a2, .int .u32 a3, .int .u64 a4, .string a5]) (.agg #[.int .i64 a0, .int .i64 a1, .int .u32 a2, .int .u32 a3, .int .u64 a4, .string a5])).run Try.prog w = .ok (.bool true) w := by
  simp [go_sem]
theorem cellsMt : Try.prog.cellsOf 31 = 5 := by kernel_rfl
theorem cellsBo : Try.prog.cellsOf 4 = 1 := by kernel_rfl
theorem infoMt' : ∃ i, Try.prog.info? 31 = some i := by
  have h := infoMt
  cases hi : Try.prog.info? 31 with
  | none => rw [hi] at h; cases h
  | some i => exact ⟨i, rfl⟩
theorem infoBo' : ∃ i, Try.prog.info? 4 = some i := Option.isSome_iff_exists.1 (by kernel_rfl)
theorem metas_self (a0 a1 a2 a3 a4 b0 b1 b2 b3 b4 : Int) (w : World) : (binOp .eql 36 (.agg #[.int .u64 a0, .int .i64 a1, .int .u32 a2, .int .u32 a3, .int .u32 a4, .int .u64 b0, .int .i64 b1, .int .u32 b2, .int .u32 b3, .int .u32 b4]) (.agg #[.int .u64 a0, .int .i64 a1, .int .u32 a2, .int .u32 a3, .int .u32 a4, .int .u64 b0, .int .i64 b1, .int .u32 b2, .int .u32 b3, .int .u32 b4])).run Try.prog w = .ok (.bool true) w := by
  obtain ⟨i, hi⟩ := infoMt'
  rw [run_eql_struct, run_equalIn_array w 9999 _ _ Try.underlying36 hi, cellsMt]
  have h := infoMt
  rw [hi] at h
  simp at h
  simp [List.range, List.range.loop, Op.eqItems, part, go_sem, sizeOf, typeInfo, hi, h]
theorem bools_self (a b : Bool) (w : World) : (binOp .eql 37 (.agg #[.bool a, .bool b]) (.agg #[.bool a, .bool b])).run Try.prog w = .ok (.bool true) w := by
  cases a <;> cases b <;> kernel_rfl
theorem metaAt_slot {size : Int} {s : ByteArray} {n tx : Nat} {z : Int} {rt fr ps : Nat} (h : MetaAt size s n tx z rt fr ps true) : tx % 2 = n := by
  rcases h with ⟨q, _, h1, h5, _, _, _, _, _⟩ | ⟨_, _, _, _, _, _, hr⟩
  · simp only [metaOk, blockOk, isM, Bool.and_eq_true, decide_eq_true_eq] at h1
    obtain ⟨_, _, ⟨_, _, _, h8, _⟩, hM⟩ := h1
    have := hM.2.2.2.2.1
    omega
  · cases hr

set_option maxRecDepth 100000 in
set_option maxHeartbeats 3200000 in
theorem mcalls_long (tx : Nat) (z : Int) (rt fr ps : Nat) (size kd ct : Int) (pg lk ty : Nat) (bd : ByteArray) (im : ByteArray) (w : World) (hl : 4200 < bd.size) :
    Calls Try.prog 4 #[.agg #[.int .u64 tx, .int .i64 z, .int .u32 rt, .int .u32 fr, .int .u32 ps], .int .i64 size, .agg #[.int .i64 kd, .int .i64 ct, .int .u32 pg, .int .u32 lk, .int .u64 ty, .string bd], .string im] w fun e w' => e = .returned (.bool true) ∧ Below w.heap.size w w' := by
  have hd : decide ((4200 : Int) < bd.size) = true := by simp; omega
  have hd2 : decide (4200 < bd.size) = true := by simp; omega
  clear hl
  have HB := Lib.hid (Below.refl w.heap.size w)
  go_enter Try.func4, Try.ntmps4
  obtain ⟨v102, hv102⟩ : ∃ x, x = w.alloc (.cells #[.int .u64 tx, .int .i64 z, .int .u32 rt, .int .u32 fr, .int .u32 ps] 31) := ⟨_, rfl⟩
  have sav102 : w.heap.size = w.heap.size := by first | rfl | omega
  have ge_M := Lib.hid (show w.heap.size ≤ w.heap.size from sav102 ▸ HB.out.size)
  replace HB := Lib.hid (show Below w.heap.size w v102 by rw [hv102]; exact HB.out.alloc HB.out.size _)
  have M := Lib.hid (show Blk v102 w.heap.size 31 #[.int .u64 tx, .int .i64 z, .int .u32 rt, .int .u32 fr, .int .u32 ps] by rw [hv102, ← sav102]; exact Blk.new _ _ _)
  have szv102 : v102.heap.size = w.heap.size + 1 := by rw [hv102]; simp
  obtain ⟨w101, hw101⟩ : ∃ x, x = v102.alloc (.cells #[.int .i64 kd, .int .i64 ct, .int .u32 pg, .int .u32 lk, .int .u64 ty, .string bd] 26) := ⟨_, rfl⟩
  have saw101 : v102.heap.size = (w.heap.size + 1) := by first | rfl | omega
  have lt_M_Pp := Lib.hid (show w.heap.size < (w.heap.size + 1) from saw101 ▸ M.out.lt)
  replace M := Lib.hid (show Blk w101 w.heap.size 31 #[.int .u64 tx, .int .i64 z, .int .u32 rt, .int .u32 fr, .int .u32 ps] by rw [hw101]; exact M.out.alloc _)
  have ge_Pp := Lib.hid (show w.heap.size ≤ (w.heap.size + 1) from saw101 ▸ HB.out.size)
  replace HB := Lib.hid (show Below w.heap.size w w101 by rw [hw101]; exact HB.out.alloc HB.out.size _)
  have Pp := Lib.hid (show Blk w101 (w.heap.size + 1) 26 #[.int .i64 kd, .int .i64 ct, .int .u32 pg, .int .u32 lk, .int .u64 ty, .string bd] by rw [hw101, ← saw101]; exact Blk.new _ _ _)
  have szw101 : w101.heap.size = v102.heap.size + 1 := by rw [hw101]; simp
  clear sav102 szv102 saw101 szw101
  go_wp2_with fail
  rw [← hv102, ← hw101]
  clear hv102 hw101
  generalize (w.heap.size + 1) = gPp at *
  refine (lives5_any _).mono ?_
  rintro e w103 ⟨rfl, hb⟩
  replace HB := Lib.hid (HB.out.trans (hb.mono HB.out.size))
  replace M := Lib.hid (M.out.below hb M.out.lt)
  replace Pp := Lib.hid (Pp.out.below hb Pp.out.lt)
  clear hb
  have cM_0 := M.out.cell 0
  have cM_1 := M.out.cell 1
  have cM_2 := M.out.cell 2
  have cM_3 := M.out.cell 3
  have cM_4 := M.out.cell 4
  have cPp_0 := Pp.out.cell 0
  have cPp_1 := Pp.out.cell 1
  have cPp_2 := Pp.out.cell 2
  have cPp_3 := Pp.out.cell 3
  have cPp_4 := Pp.out.cell 4
  have cPp_5 := Pp.out.cell 5
  simp at cM_0 cM_1 cM_2 cM_3 cM_4 cPp_0 cPp_1 cPp_2 cPp_3 cPp_4 cPp_5
  go_wp2_with fail
  go_ret
  exact ⟨rfl, HB.out⟩
set_option maxRecDepth 100000 in
set_option maxHeartbeats 3200000 in
theorem mcalls_far (tx : Nat) (z : Int) (rt fr ps : Nat) (size kd ct : Int) (pg lk ty : Nat) (bd : ByteArray) (im : ByteArray) (w : World) (hl : ¬ 4200 < bd.size) (hl2 : 9000 < im.size) :
    Calls Try.prog 4 #[.agg #[.int .u64 tx, .int .i64 z, .int .u32 rt, .int .u32 fr, .int .u32 ps], .int .i64 size, .agg #[.int .i64 kd, .int .i64 ct, .int .u32 pg, .int .u32 lk, .int .u64 ty, .string bd], .string im] w fun e w' => e = .returned (.bool true) ∧ Below w.heap.size w w' := by
  have hd : decide ((4200 : Int) < bd.size) = false := by simp; omega
  have hd2 : decide (4200 < bd.size) = false := by simp; omega
  have hd3 : decide ((9000 : Int) < im.size) = true := by simp; omega
  have hd4 : decide (9000 < im.size) = true := by simp; omega
  clear hl2
  clear hl
  have HB := Lib.hid (Below.refl w.heap.size w)
  go_enter Try.func4, Try.ntmps4
  obtain ⟨v102, hv102⟩ : ∃ x, x = w.alloc (.cells #[.int .u64 tx, .int .i64 z, .int .u32 rt, .int .u32 fr, .int .u32 ps] 31) := ⟨_, rfl⟩
  have sav102 : w.heap.size = w.heap.size := by first | rfl | omega
  have ge_M := Lib.hid (show w.heap.size ≤ w.heap.size from sav102 ▸ HB.out.size)
  replace HB := Lib.hid (show Below w.heap.size w v102 by rw [hv102]; exact HB.out.alloc HB.out.size _)
  have M := Lib.hid (show Blk v102 w.heap.size 31 #[.int .u64 tx, .int .i64 z, .int .u32 rt, .int .u32 fr, .int .u32 ps] by rw [hv102, ← sav102]; exact Blk.new _ _ _)
  have szv102 : v102.heap.size = w.heap.size + 1 := by rw [hv102]; simp
  obtain ⟨w101, hw101⟩ : ∃ x, x = v102.alloc (.cells #[.int .i64 kd, .int .i64 ct, .int .u32 pg, .int .u32 lk, .int .u64 ty, .string bd] 26) := ⟨_, rfl⟩
  have saw101 : v102.heap.size = (w.heap.size + 1) := by first | rfl | omega
  have lt_M_Pp := Lib.hid (show w.heap.size < (w.heap.size + 1) from saw101 ▸ M.out.lt)
  replace M := Lib.hid (show Blk w101 w.heap.size 31 #[.int .u64 tx, .int .i64 z, .int .u32 rt, .int .u32 fr, .int .u32 ps] by rw [hw101]; exact M.out.alloc _)
  have ge_Pp := Lib.hid (show w.heap.size ≤ (w.heap.size + 1) from saw101 ▸ HB.out.size)
  replace HB := Lib.hid (show Below w.heap.size w w101 by rw [hw101]; exact HB.out.alloc HB.out.size _)
  have Pp := Lib.hid (show Blk w101 (w.heap.size + 1) 26 #[.int .i64 kd, .int .i64 ct, .int .u32 pg, .int .u32 lk, .int .u64 ty, .string bd] by rw [hw101, ← saw101]; exact Blk.new _ _ _)
  have szw101 : w101.heap.size = v102.heap.size + 1 := by rw [hw101]; simp
  clear sav102 szv102 saw101 szw101
  go_wp2_with fail
  rw [← hv102, ← hw101]
  clear hv102 hw101
  generalize (w.heap.size + 1) = gPp at *
  refine (lives5_any _).mono ?_
  rintro e w103 ⟨rfl, hb⟩
  replace HB := Lib.hid (HB.out.trans (hb.mono HB.out.size))
  replace M := Lib.hid (M.out.below hb M.out.lt)
  replace Pp := Lib.hid (Pp.out.below hb Pp.out.lt)
  clear hb
  have cM_0 := M.out.cell 0
  have cM_1 := M.out.cell 1
  have cM_2 := M.out.cell 2
  have cM_3 := M.out.cell 3
  have cM_4 := M.out.cell 4
  have cPp_0 := Pp.out.cell 0
  have cPp_1 := Pp.out.cell 1
  have cPp_2 := Pp.out.cell 2
  have cPp_3 := Pp.out.cell 3
  have cPp_4 := Pp.out.cell 4
  have cPp_5 := Pp.out.cell 5
  simp at cM_0 cM_1 cM_2 cM_3 cM_4 cPp_0 cPp_1 cPp_2 cPp_3 cPp_4 cPp_5
  go_wp2_with fail
  go_ret
  exact ⟨rfl, HB.out⟩
set_option maxRecDepth 100000 in
set_option maxHeartbeats 12800000 in
theorem mcalls_main (tx : Nat) (z : Int) (rt fr ps : Nat) (size kd ct : Int) (pg lk ty : Nat) (bd : ByteArray) (im : ByteArray) (w : World) (hl : ¬ 4200 < bd.size) (hl2 : ¬ 9000 < im.size) :
    Calls Try.prog 4 #[.agg #[.int .u64 tx, .int .i64 z, .int .u32 rt, .int .u32 fr, .int .u32 ps], .int .i64 size, .agg #[.int .i64 kd, .int .i64 ct, .int .u32 pg, .int .u32 lk, .int .u64 ty, .string bd], .string im] w fun e w' => e = .returned (.bool true) ∧ Below w.heap.size w w' := by
  have hd : decide ((4200 : Int) < bd.size) = false := by simp; omega
  have hd2 : decide (4200 < bd.size) = false := by simp; omega
  have hd3 : decide ((9000 : Int) < im.size) = false := by simp; omega
  have hd4 : decide (9000 < im.size) = false := by simp; omega
  have hs : im.size ≤ maxLen := by unfold maxLen; omega
  obtain ⟨a0, a1, a2, a3, a4, a5, ea, HA, HA2⟩ : ∃ (a0 a1 : Int) (a2 a3 a4 : Nat) (a5 : ByteArray) (ea : Int), (∀ w : World, Calls Try.prog 10 #[.agg #[.int .u64 tx, .int .i64 z, .int .u32 rt, .int .u32 fr, .int .u32 ps]] w fun e w' => e = .returned (.tuple #[.agg #[.int .i64 a0, .int .i64 a1, .int .u32 a2, .int .u32 a3, .int .u64 a4, .string a5], .int .i64 ea]) ∧ Below w.heap.size w w') ∧ (∀ w : World, Calls Try.prog 18 #[.agg #[.int .u64 tx, .int .i64 z, .int .u32 rt, .int .u32 fr, .int .u32 ps]] w fun e w' => e = .returned (.tuple #[.agg #[.int .i64 a0, .int .i64 a1, .int .u32 a2, .int .u32 a3, .int .u64 a4, .string a5], .int .i64 ea]) ∧ Below w.heap.size w w') := by
    rcases hm : mayM tx z rt fr ps with _ | _
    · exact ⟨0, 0, 0, 0, 0, ByteArray.empty, 2, fun w => mpage_no tx z rt fr ps w hm, fun w => rpage5_no tx z rt fr ps w hm⟩
    · obtain ⟨n, rfl, _, _, _⟩ := good_nat (mayM_good hm).2.1
      exact ⟨_, _, _, _, _, _, _, fun w => mpage_yes tx n rt fr ps (tx % 2) _ w hm rfl rfl, fun w => rpage5_yes tx n rt fr ps (tx % 2) _ w hm rfl rfl⟩
  obtain ⟨c0, c1, c2, c3, c4, ec, HC, HC2⟩ : ∃ (c0 : Nat) (c1 : Int) (c2 c3 c4 : Nat) (ec : Int), (∀ w : World, Calls Try.prog 12 #[.int .i64 size, .agg #[.int .i64 kd, .int .i64 ct, .int .u32 pg, .int .u32 lk, .int .u64 ty, .string bd]] w fun e w' => e = .returned (.tuple #[.agg #[.int .u64 c0, .int .i64 c1, .int .u32 c2, .int .u32 c3, .int .u32 c4], .int .i64 ec]) ∧ Below w.heap.size w w') ∧ (∀ w : World, Calls Try.prog 19 #[.int .i64 size, .agg #[.int .i64 kd, .int .i64 ct, .int .u32 pg, .int .u32 lk, .int .u64 ty, .string bd]] w fun e w' => e = .returned (.tuple #[.agg #[.int .u64 c0, .int .i64 c1, .int .u32 c2, .int .u32 c3, .int .u32 c4], .int .i64 ec]) ∧ Below w.heap.size w w') := by
    rcases hm : isM size kd ct pg lk ty bd with _ | _
    · exact ⟨0, 0, 0, 0, 0, 4, fun w => of_no size kd ct pg lk ty bd w hm, fun w => rof5_no size kd ct pg lk ty bd w hm⟩
    · exact ⟨_, _, _, _, _, _, fun w => of_yes size kd ct pg lk ty bd w hm, fun w => rof5_yes size kd ct pg lk ty bd w hm⟩
  obtain ⟨x0, x1, x2, x3, x4, b0, h0⟩ := metaAt_ex size im 0
  obtain ⟨y0, y1, y2, y3, y4, b1, h1⟩ := metaAt_ex size im 1
  have HBo := fun w => mboth_any size im x0 x1 x2 x3 x4 b0 y0 y1 y2 y3 y4 b1 w h0 h1 hs
  have HBo2 := fun w => rboth_any size im x0 x1 x2 x3 x4 b0 y0 y1 y2 y3 y4 b1 w h0 h1 hs
  obtain ⟨n0, n1, n2, n3, n4, en, HN, HN2⟩ : ∃ (n0 : Nat) (n1 : Int) (n2 n3 n4 : Nat) (en : Int), (∀ w : World, Calls Try.prog 15 #[.int .i64 size, .string im] w fun e w' => e = .returned (.tuple #[.agg #[.int .u64 n0, .int .i64 n1, .int .u32 n2, .int .u32 n3, .int .u32 n4], .int .i64 en]) ∧ Below w.heap.size w w') ∧ (∀ w : World, Calls Try.prog 21 #[.int .i64 size, .string im] w fun e w' => e = .returned (.tuple #[.agg #[.int .u64 n0, .int .i64 n1, .int .u32 n2, .int .u32 n3, .int .u32 n4], .int .i64 en]) ∧ Below w.heap.size w w') := by
    rcases hg : goodSize size with _ | _
    · exact ⟨_, _, _, _, _, _, fun w => mnew_arg size im w hg, fun w => rnew_arg size im w hg⟩
    rcases b0 with _ | _ <;> rcases b1 with _ | _
    · exact ⟨_, _, _, _, _, _, fun w => mnew_none size im x0 x1 x2 x3 x4 y0 y1 y2 y3 y4 w hg h0 h1 hs, fun w => rnew_none size im x0 x1 x2 x3 x4 y0 y1 y2 y3 y4 w hg h0 h1 hs⟩
    · exact ⟨_, _, _, _, _, _, fun w => mnew_b size im x0 x1 x2 x3 x4 y0 y1 y2 y3 y4 w hg h0 h1 hs, fun w => rnew_b size im x0 x1 x2 x3 x4 y0 y1 y2 y3 y4 w hg h0 h1 hs⟩
    · exact ⟨_, _, _, _, _, _, fun w => mnew_a size im x0 x1 x2 x3 x4 y0 y1 y2 y3 y4 w hg h0 h1 hs, fun w => rnew_a size im x0 x1 x2 x3 x4 y0 y1 y2 y3 y4 w hg h0 h1 hs⟩
    · have e0 := metaAt_slot h0
      have e1 := metaAt_slot h1
      by_cases hlt : x0 < y0
      · exact ⟨_, _, _, _, _, _, fun w => mnew_ab size im x0 x1 x2 x3 x4 y0 y1 y2 y3 y4 w hg h0 h1 hs hlt, fun w => rnew_ab size im x0 x1 x2 x3 x4 y0 y1 y2 y3 y4 w hg h0 h1 hs hlt⟩
      · exact ⟨_, _, _, _, _, _, fun w => mnew_ba size im x0 x1 x2 x3 x4 y0 y1 y2 y3 y4 w hg h0 h1 hs (by omega), fun w => rnew_ba size im x0 x1 x2 x3 x4 y0 y1 y2 y3 y4 w hg h0 h1 hs (by omega)⟩
  obtain ⟨sl, hsl⟩ : ∃ sl, sl = tx % 2 := ⟨_, rfl⟩
  have HS := fun w => slot_is tx sl w hsl
  have HS2 := fun w => rslot_is tx sl w hsl
  have q1 := fun w => page_self a0 a1 a2 a3 a4 a5 w
  have q2 := fun w => meta_same c0 c1 c2 c3 c4 w
  have q3 := fun w => metas_self x0 x1 x2 x3 x4 y0 y1 y2 y3 y4 w
  have q4 := fun w => bools_self b0 b1 w
  have q5 := fun w => meta_same n0 n1 n2 n3 n4 w
  clear h0 h1 hs hsl hl hl2
  obtain ⟨hz2, hi2⟩ := zero_of_info infoM2
  have HI2 := Lib.hid hi2
  obtain ⟨hz3, hi3⟩ := zero_of_info infoB2
  have HI3 := Lib.hid hi3
  clear hi2 hi3
  have HB := Lib.hid (Below.refl w.heap.size w)
  go_enter Try.func4, Try.ntmps4
  obtain ⟨v102, hv102⟩ : ∃ x, x = w.alloc (.cells #[.int .u64 tx, .int .i64 z, .int .u32 rt, .int .u32 fr, .int .u32 ps] 31) := ⟨_, rfl⟩
  have sav102 : w.heap.size = w.heap.size := by first | rfl | omega
  have ge_M := Lib.hid (show w.heap.size ≤ w.heap.size from sav102 ▸ HB.out.size)
  replace HB := Lib.hid (show Below w.heap.size w v102 by rw [hv102]; exact HB.out.alloc HB.out.size _)
  have M := Lib.hid (show Blk v102 w.heap.size 31 #[.int .u64 tx, .int .i64 z, .int .u32 rt, .int .u32 fr, .int .u32 ps] by rw [hv102, ← sav102]; exact Blk.new _ _ _)
  have szv102 : v102.heap.size = w.heap.size + 1 := by rw [hv102]; simp
  obtain ⟨w101, hw101⟩ : ∃ x, x = v102.alloc (.cells #[.int .i64 kd, .int .i64 ct, .int .u32 pg, .int .u32 lk, .int .u64 ty, .string bd] 26) := ⟨_, rfl⟩
  have saw101 : v102.heap.size = (w.heap.size + 1) := by first | rfl | omega
  have lt_M_Pp := Lib.hid (show w.heap.size < (w.heap.size + 1) from saw101 ▸ M.out.lt)
  replace M := Lib.hid (show Blk w101 w.heap.size 31 #[.int .u64 tx, .int .i64 z, .int .u32 rt, .int .u32 fr, .int .u32 ps] by rw [hw101]; exact M.out.alloc _)
  have ge_Pp := Lib.hid (show w.heap.size ≤ (w.heap.size + 1) from saw101 ▸ HB.out.size)
  replace HB := Lib.hid (show Below w.heap.size w w101 by rw [hw101]; exact HB.out.alloc HB.out.size _)
  have Pp := Lib.hid (show Blk w101 (w.heap.size + 1) 26 #[.int .i64 kd, .int .i64 ct, .int .u32 pg, .int .u32 lk, .int .u64 ty, .string bd] by rw [hw101, ← saw101]; exact Blk.new _ _ _)
  have szw101 : w101.heap.size = v102.heap.size + 1 := by rw [hw101]; simp
  clear sav102 szv102 saw101 szw101
  go_wp2_with fail
  rw [← hv102, ← hw101]
  clear hv102 hw101
  generalize (w.heap.size + 1) = gPp at *
  refine (lives5_any _).mono ?_
  rintro e w103 ⟨rfl, hb⟩
  replace HB := Lib.hid (HB.out.trans (hb.mono HB.out.size))
  replace M := Lib.hid (M.out.below hb M.out.lt)
  replace Pp := Lib.hid (Pp.out.below hb Pp.out.lt)
  clear hb
  have cM_0 := M.out.cell 0
  have cM_1 := M.out.cell 1
  have cM_2 := M.out.cell 2
  have cM_3 := M.out.cell 3
  have cM_4 := M.out.cell 4
  have cPp_0 := Pp.out.cell 0
  have cPp_1 := Pp.out.cell 1
  have cPp_2 := Pp.out.cell 2
  have cPp_3 := Pp.out.cell 3
  have cPp_4 := Pp.out.cell 4
  have cPp_5 := Pp.out.cell 5
  simp at cM_0 cM_1 cM_2 cM_3 cM_4 cPp_0 cPp_1 cPp_2 cPp_3 cPp_4 cPp_5
  go_wp2_with fail
  refine (HA _).mono ?_
  rintro e w104 ⟨rfl, hb⟩
  replace HB := Lib.hid (HB.out.trans (hb.mono HB.out.size))
  replace M := Lib.hid (M.out.below hb M.out.lt)
  replace Pp := Lib.hid (Pp.out.below hb Pp.out.lt)
  clear hb
  clear HA
  have lzM := M.out.lt
  have dM_0 := M.out.cell 0
  have dM_1 := M.out.cell 1
  have dM_2 := M.out.cell 2
  have dM_3 := M.out.cell 3
  have dM_4 := M.out.cell 4
  simp at dM_0 dM_1 dM_2 dM_3 dM_4
  obtain ⟨w105, hw105⟩ : ∃ x, x = w104.alloc (.cells #[.int .i64 a0, .int .i64 a1, .int .u32 a2, .int .u32 a3, .int .u64 a4, .string a5] 26) := ⟨_, rfl⟩
  have saw105 : w104.heap.size = w104.heap.size := by first | rfl | omega
  have lt_M_A1 := Lib.hid (show w.heap.size < w104.heap.size from saw105 ▸ M.out.lt)
  replace M := Lib.hid (show Blk w105 w.heap.size 31 #[.int .u64 tx, .int .i64 z, .int .u32 rt, .int .u32 fr, .int .u32 ps] by rw [hw105]; exact M.out.alloc _)
  have lt_Pp_A1 := Lib.hid (show gPp < w104.heap.size from saw105 ▸ Pp.out.lt)
  replace Pp := Lib.hid (show Blk w105 gPp 26 #[.int .i64 kd, .int .i64 ct, .int .u32 pg, .int .u32 lk, .int .u64 ty, .string bd] by rw [hw105]; exact Pp.out.alloc _)
  have ge_A1 := Lib.hid (show w.heap.size ≤ w104.heap.size from saw105 ▸ HB.out.size)
  replace HB := Lib.hid (show Below w.heap.size w w105 by rw [hw105]; exact HB.out.alloc HB.out.size _)
  have A1 := Lib.hid (show Blk w105 w104.heap.size 26 #[.int .i64 a0, .int .i64 a1, .int .u32 a2, .int .u32 a3, .int .u64 a4, .string a5] by rw [hw105, ← saw105]; exact Blk.new _ _ _)
  have szw105 : w105.heap.size = w104.heap.size + 1 := by rw [hw105]; simp
  clear saw105 szw105
  have cM_0 := M.out.cell 0
  have cM_1 := M.out.cell 1
  have cM_2 := M.out.cell 2
  have cM_3 := M.out.cell 3
  have cM_4 := M.out.cell 4
  rw [hw105] at cM_0 cM_1 cM_2 cM_3 cM_4
  simp at cM_0 cM_1 cM_2 cM_3 cM_4
  go_wp2_with fail
  rw [← hw105]
  clear hw105 lzM dM_0 dM_1 dM_2 dM_3 dM_4 cM_0 cM_1 cM_2 cM_3 cM_4
  generalize w104.heap.size = gA1 at *
  refine (HA2 _).mono ?_
  rintro e w106 ⟨rfl, hb⟩
  replace HB := Lib.hid (HB.out.trans (hb.mono HB.out.size))
  replace M := Lib.hid (M.out.below hb M.out.lt)
  replace Pp := Lib.hid (Pp.out.below hb Pp.out.lt)
  replace A1 := Lib.hid (A1.out.below hb A1.out.lt)
  clear hb
  clear HA2
  have lzPp := Pp.out.lt
  have dPp_0 := Pp.out.cell 0
  have dPp_1 := Pp.out.cell 1
  have dPp_2 := Pp.out.cell 2
  have dPp_3 := Pp.out.cell 3
  have dPp_4 := Pp.out.cell 4
  have dPp_5 := Pp.out.cell 5
  simp at dPp_0 dPp_1 dPp_2 dPp_3 dPp_4 dPp_5
  obtain ⟨w107, hw107⟩ : ∃ x, x = w106.alloc (.cells #[.int .i64 a0, .int .i64 a1, .int .u32 a2, .int .u32 a3, .int .u64 a4, .string a5] 26) := ⟨_, rfl⟩
  have saw107 : w106.heap.size = w106.heap.size := by first | rfl | omega
  have lt_M_A2 := Lib.hid (show w.heap.size < w106.heap.size from saw107 ▸ M.out.lt)
  replace M := Lib.hid (show Blk w107 w.heap.size 31 #[.int .u64 tx, .int .i64 z, .int .u32 rt, .int .u32 fr, .int .u32 ps] by rw [hw107]; exact M.out.alloc _)
  have lt_Pp_A2 := Lib.hid (show gPp < w106.heap.size from saw107 ▸ Pp.out.lt)
  replace Pp := Lib.hid (show Blk w107 gPp 26 #[.int .i64 kd, .int .i64 ct, .int .u32 pg, .int .u32 lk, .int .u64 ty, .string bd] by rw [hw107]; exact Pp.out.alloc _)
  have lt_A1_A2 := Lib.hid (show gA1 < w106.heap.size from saw107 ▸ A1.out.lt)
  replace A1 := Lib.hid (show Blk w107 gA1 26 #[.int .i64 a0, .int .i64 a1, .int .u32 a2, .int .u32 a3, .int .u64 a4, .string a5] by rw [hw107]; exact A1.out.alloc _)
  have ge_A2 := Lib.hid (show w.heap.size ≤ w106.heap.size from saw107 ▸ HB.out.size)
  replace HB := Lib.hid (show Below w.heap.size w w107 by rw [hw107]; exact HB.out.alloc HB.out.size _)
  have A2 := Lib.hid (show Blk w107 w106.heap.size 26 #[.int .i64 a0, .int .i64 a1, .int .u32 a2, .int .u32 a3, .int .u64 a4, .string a5] by rw [hw107, ← saw107]; exact Blk.new _ _ _)
  have szw107 : w107.heap.size = w106.heap.size + 1 := by rw [hw107]; simp
  clear saw107 szw107
  have cPp_0 := Pp.out.cell 0
  have cPp_1 := Pp.out.cell 1
  have cPp_2 := Pp.out.cell 2
  have cPp_3 := Pp.out.cell 3
  have cPp_4 := Pp.out.cell 4
  have cPp_5 := Pp.out.cell 5
  rw [hw107] at cPp_0 cPp_1 cPp_2 cPp_3 cPp_4 cPp_5
  simp at cPp_0 cPp_1 cPp_2 cPp_3 cPp_4 cPp_5
  go_wp2_with fail
  rw [← hw107]
  clear hw107 lzPp dPp_0 dPp_1 dPp_2 dPp_3 dPp_4 dPp_5 cPp_0 cPp_1 cPp_2 cPp_3 cPp_4 cPp_5
  generalize w106.heap.size = gA2 at *
  refine (HC _).mono ?_
  rintro e w108 ⟨rfl, hb⟩
  replace HB := Lib.hid (HB.out.trans (hb.mono HB.out.size))
  replace M := Lib.hid (M.out.below hb M.out.lt)
  replace Pp := Lib.hid (Pp.out.below hb Pp.out.lt)
  replace A1 := Lib.hid (A1.out.below hb A1.out.lt)
  replace A2 := Lib.hid (A2.out.below hb A2.out.lt)
  clear hb
  clear HC
  have lzPp := Pp.out.lt
  have dPp_0 := Pp.out.cell 0
  have dPp_1 := Pp.out.cell 1
  have dPp_2 := Pp.out.cell 2
  have dPp_3 := Pp.out.cell 3
  have dPp_4 := Pp.out.cell 4
  have dPp_5 := Pp.out.cell 5
  simp at dPp_0 dPp_1 dPp_2 dPp_3 dPp_4 dPp_5
  obtain ⟨w109, hw109⟩ : ∃ x, x = w108.alloc (.cells #[.int .u64 c0, .int .i64 c1, .int .u32 c2, .int .u32 c3, .int .u32 c4] 31) := ⟨_, rfl⟩
  have saw109 : w108.heap.size = w108.heap.size := by first | rfl | omega
  have lt_M_C1 := Lib.hid (show w.heap.size < w108.heap.size from saw109 ▸ M.out.lt)
  replace M := Lib.hid (show Blk w109 w.heap.size 31 #[.int .u64 tx, .int .i64 z, .int .u32 rt, .int .u32 fr, .int .u32 ps] by rw [hw109]; exact M.out.alloc _)
  have lt_Pp_C1 := Lib.hid (show gPp < w108.heap.size from saw109 ▸ Pp.out.lt)
  replace Pp := Lib.hid (show Blk w109 gPp 26 #[.int .i64 kd, .int .i64 ct, .int .u32 pg, .int .u32 lk, .int .u64 ty, .string bd] by rw [hw109]; exact Pp.out.alloc _)
  have lt_A1_C1 := Lib.hid (show gA1 < w108.heap.size from saw109 ▸ A1.out.lt)
  replace A1 := Lib.hid (show Blk w109 gA1 26 #[.int .i64 a0, .int .i64 a1, .int .u32 a2, .int .u32 a3, .int .u64 a4, .string a5] by rw [hw109]; exact A1.out.alloc _)
  have lt_A2_C1 := Lib.hid (show gA2 < w108.heap.size from saw109 ▸ A2.out.lt)
  replace A2 := Lib.hid (show Blk w109 gA2 26 #[.int .i64 a0, .int .i64 a1, .int .u32 a2, .int .u32 a3, .int .u64 a4, .string a5] by rw [hw109]; exact A2.out.alloc _)
  have ge_C1 := Lib.hid (show w.heap.size ≤ w108.heap.size from saw109 ▸ HB.out.size)
  replace HB := Lib.hid (show Below w.heap.size w w109 by rw [hw109]; exact HB.out.alloc HB.out.size _)
  have C1 := Lib.hid (show Blk w109 w108.heap.size 31 #[.int .u64 c0, .int .i64 c1, .int .u32 c2, .int .u32 c3, .int .u32 c4] by rw [hw109, ← saw109]; exact Blk.new _ _ _)
  have szw109 : w109.heap.size = w108.heap.size + 1 := by rw [hw109]; simp
  clear saw109 szw109
  have cPp_0 := Pp.out.cell 0
  have cPp_1 := Pp.out.cell 1
  have cPp_2 := Pp.out.cell 2
  have cPp_3 := Pp.out.cell 3
  have cPp_4 := Pp.out.cell 4
  have cPp_5 := Pp.out.cell 5
  rw [hw109] at cPp_0 cPp_1 cPp_2 cPp_3 cPp_4 cPp_5
  simp at cPp_0 cPp_1 cPp_2 cPp_3 cPp_4 cPp_5
  go_wp2_with fail
  rw [← hw109]
  clear hw109 lzPp dPp_0 dPp_1 dPp_2 dPp_3 dPp_4 dPp_5 cPp_0 cPp_1 cPp_2 cPp_3 cPp_4 cPp_5
  generalize w108.heap.size = gC1 at *
  refine (HC2 _).mono ?_
  rintro e w110 ⟨rfl, hb⟩
  replace HB := Lib.hid (HB.out.trans (hb.mono HB.out.size))
  replace M := Lib.hid (M.out.below hb M.out.lt)
  replace Pp := Lib.hid (Pp.out.below hb Pp.out.lt)
  replace A1 := Lib.hid (A1.out.below hb A1.out.lt)
  replace A2 := Lib.hid (A2.out.below hb A2.out.lt)
  replace C1 := Lib.hid (C1.out.below hb C1.out.lt)
  clear hb
  clear HC2
  obtain ⟨w111, hw111⟩ : ∃ x, x = w110.alloc (.cells #[.int .u64 c0, .int .i64 c1, .int .u32 c2, .int .u32 c3, .int .u32 c4] 31) := ⟨_, rfl⟩
  have saw111 : w110.heap.size = w110.heap.size := by first | rfl | omega
  have lt_M_C2 := Lib.hid (show w.heap.size < w110.heap.size from saw111 ▸ M.out.lt)
  replace M := Lib.hid (show Blk w111 w.heap.size 31 #[.int .u64 tx, .int .i64 z, .int .u32 rt, .int .u32 fr, .int .u32 ps] by rw [hw111]; exact M.out.alloc _)
  have lt_Pp_C2 := Lib.hid (show gPp < w110.heap.size from saw111 ▸ Pp.out.lt)
  replace Pp := Lib.hid (show Blk w111 gPp 26 #[.int .i64 kd, .int .i64 ct, .int .u32 pg, .int .u32 lk, .int .u64 ty, .string bd] by rw [hw111]; exact Pp.out.alloc _)
  have lt_A1_C2 := Lib.hid (show gA1 < w110.heap.size from saw111 ▸ A1.out.lt)
  replace A1 := Lib.hid (show Blk w111 gA1 26 #[.int .i64 a0, .int .i64 a1, .int .u32 a2, .int .u32 a3, .int .u64 a4, .string a5] by rw [hw111]; exact A1.out.alloc _)
  have lt_A2_C2 := Lib.hid (show gA2 < w110.heap.size from saw111 ▸ A2.out.lt)
  replace A2 := Lib.hid (show Blk w111 gA2 26 #[.int .i64 a0, .int .i64 a1, .int .u32 a2, .int .u32 a3, .int .u64 a4, .string a5] by rw [hw111]; exact A2.out.alloc _)
  have lt_C1_C2 := Lib.hid (show gC1 < w110.heap.size from saw111 ▸ C1.out.lt)
  replace C1 := Lib.hid (show Blk w111 gC1 31 #[.int .u64 c0, .int .i64 c1, .int .u32 c2, .int .u32 c3, .int .u32 c4] by rw [hw111]; exact C1.out.alloc _)
  have ge_C2 := Lib.hid (show w.heap.size ≤ w110.heap.size from saw111 ▸ HB.out.size)
  replace HB := Lib.hid (show Below w.heap.size w w111 by rw [hw111]; exact HB.out.alloc HB.out.size _)
  have C2 := Lib.hid (show Blk w111 w110.heap.size 31 #[.int .u64 c0, .int .i64 c1, .int .u32 c2, .int .u32 c3, .int .u32 c4] by rw [hw111, ← saw111]; exact Blk.new _ _ _)
  have szw111 : w111.heap.size = w110.heap.size + 1 := by rw [hw111]; simp
  clear saw111 szw111
  go_wp2_with fail
  rw [← hw111]
  clear hw111
  generalize w110.heap.size = gC2 at *
  refine (HBo _).mono ?_
  rintro e w112 ⟨rfl, hb⟩
  replace HB := Lib.hid (HB.out.trans (hb.mono HB.out.size))
  replace M := Lib.hid (M.out.below hb M.out.lt)
  replace Pp := Lib.hid (Pp.out.below hb Pp.out.lt)
  replace A1 := Lib.hid (A1.out.below hb A1.out.lt)
  replace A2 := Lib.hid (A2.out.below hb A2.out.lt)
  replace C1 := Lib.hid (C1.out.below hb C1.out.lt)
  replace C2 := Lib.hid (C2.out.below hb C2.out.lt)
  clear hb
  clear HBo
  obtain ⟨v114, hv114⟩ : ∃ x, x = w112.alloc (.cells #[.int .u64 x0, .int .i64 x1, .int .u32 x2, .int .u32 x3, .int .u32 x4, .int .u64 y0, .int .i64 y1, .int .u32 y2, .int .u32 y3, .int .u32 y4] 36) := ⟨_, rfl⟩
  have sav114 : w112.heap.size = w112.heap.size := by first | rfl | omega
  have lt_M_B1 := Lib.hid (show w.heap.size < w112.heap.size from sav114 ▸ M.out.lt)
  replace M := Lib.hid (show Blk v114 w.heap.size 31 #[.int .u64 tx, .int .i64 z, .int .u32 rt, .int .u32 fr, .int .u32 ps] by rw [hv114]; exact M.out.alloc _)
  have lt_Pp_B1 := Lib.hid (show gPp < w112.heap.size from sav114 ▸ Pp.out.lt)
  replace Pp := Lib.hid (show Blk v114 gPp 26 #[.int .i64 kd, .int .i64 ct, .int .u32 pg, .int .u32 lk, .int .u64 ty, .string bd] by rw [hv114]; exact Pp.out.alloc _)
  have lt_A1_B1 := Lib.hid (show gA1 < w112.heap.size from sav114 ▸ A1.out.lt)
  replace A1 := Lib.hid (show Blk v114 gA1 26 #[.int .i64 a0, .int .i64 a1, .int .u32 a2, .int .u32 a3, .int .u64 a4, .string a5] by rw [hv114]; exact A1.out.alloc _)
  have lt_A2_B1 := Lib.hid (show gA2 < w112.heap.size from sav114 ▸ A2.out.lt)
  replace A2 := Lib.hid (show Blk v114 gA2 26 #[.int .i64 a0, .int .i64 a1, .int .u32 a2, .int .u32 a3, .int .u64 a4, .string a5] by rw [hv114]; exact A2.out.alloc _)
  have lt_C1_B1 := Lib.hid (show gC1 < w112.heap.size from sav114 ▸ C1.out.lt)
  replace C1 := Lib.hid (show Blk v114 gC1 31 #[.int .u64 c0, .int .i64 c1, .int .u32 c2, .int .u32 c3, .int .u32 c4] by rw [hv114]; exact C1.out.alloc _)
  have lt_C2_B1 := Lib.hid (show gC2 < w112.heap.size from sav114 ▸ C2.out.lt)
  replace C2 := Lib.hid (show Blk v114 gC2 31 #[.int .u64 c0, .int .i64 c1, .int .u32 c2, .int .u32 c3, .int .u32 c4] by rw [hv114]; exact C2.out.alloc _)
  have ge_B1 := Lib.hid (show w.heap.size ≤ w112.heap.size from sav114 ▸ HB.out.size)
  replace HB := Lib.hid (show Below w.heap.size w v114 by rw [hv114]; exact HB.out.alloc HB.out.size _)
  have B1 := Lib.hid (show Blk v114 w112.heap.size 36 #[.int .u64 x0, .int .i64 x1, .int .u32 x2, .int .u32 x3, .int .u32 x4, .int .u64 y0, .int .i64 y1, .int .u32 y2, .int .u32 y3, .int .u32 y4] by rw [hv114, ← sav114]; exact Blk.new _ _ _)
  have szv114 : v114.heap.size = w112.heap.size + 1 := by rw [hv114]; simp
  obtain ⟨w113, hw113⟩ : ∃ x, x = v114.alloc (.cells #[.bool b0, .bool b1] 37) := ⟨_, rfl⟩
  have saw113 : v114.heap.size = (w112.heap.size + 1) := by first | rfl | omega
  have lt_M_R1 := Lib.hid (show w.heap.size < (w112.heap.size + 1) from saw113 ▸ M.out.lt)
  replace M := Lib.hid (show Blk w113 w.heap.size 31 #[.int .u64 tx, .int .i64 z, .int .u32 rt, .int .u32 fr, .int .u32 ps] by rw [hw113]; exact M.out.alloc _)
  have lt_Pp_R1 := Lib.hid (show gPp < (w112.heap.size + 1) from saw113 ▸ Pp.out.lt)
  replace Pp := Lib.hid (show Blk w113 gPp 26 #[.int .i64 kd, .int .i64 ct, .int .u32 pg, .int .u32 lk, .int .u64 ty, .string bd] by rw [hw113]; exact Pp.out.alloc _)
  have lt_A1_R1 := Lib.hid (show gA1 < (w112.heap.size + 1) from saw113 ▸ A1.out.lt)
  replace A1 := Lib.hid (show Blk w113 gA1 26 #[.int .i64 a0, .int .i64 a1, .int .u32 a2, .int .u32 a3, .int .u64 a4, .string a5] by rw [hw113]; exact A1.out.alloc _)
  have lt_A2_R1 := Lib.hid (show gA2 < (w112.heap.size + 1) from saw113 ▸ A2.out.lt)
  replace A2 := Lib.hid (show Blk w113 gA2 26 #[.int .i64 a0, .int .i64 a1, .int .u32 a2, .int .u32 a3, .int .u64 a4, .string a5] by rw [hw113]; exact A2.out.alloc _)
  have lt_C1_R1 := Lib.hid (show gC1 < (w112.heap.size + 1) from saw113 ▸ C1.out.lt)
  replace C1 := Lib.hid (show Blk w113 gC1 31 #[.int .u64 c0, .int .i64 c1, .int .u32 c2, .int .u32 c3, .int .u32 c4] by rw [hw113]; exact C1.out.alloc _)
  have lt_C2_R1 := Lib.hid (show gC2 < (w112.heap.size + 1) from saw113 ▸ C2.out.lt)
  replace C2 := Lib.hid (show Blk w113 gC2 31 #[.int .u64 c0, .int .i64 c1, .int .u32 c2, .int .u32 c3, .int .u32 c4] by rw [hw113]; exact C2.out.alloc _)
  have lt_B1_R1 := Lib.hid (show w112.heap.size < (w112.heap.size + 1) from saw113 ▸ B1.out.lt)
  replace B1 := Lib.hid (show Blk w113 w112.heap.size 36 #[.int .u64 x0, .int .i64 x1, .int .u32 x2, .int .u32 x3, .int .u32 x4, .int .u64 y0, .int .i64 y1, .int .u32 y2, .int .u32 y3, .int .u32 y4] by rw [hw113]; exact B1.out.alloc _)
  have ge_R1 := Lib.hid (show w.heap.size ≤ (w112.heap.size + 1) from saw113 ▸ HB.out.size)
  replace HB := Lib.hid (show Below w.heap.size w w113 by rw [hw113]; exact HB.out.alloc HB.out.size _)
  have R1 := Lib.hid (show Blk w113 (w112.heap.size + 1) 37 #[.bool b0, .bool b1] by rw [hw113, ← saw113]; exact Blk.new _ _ _)
  have szw113 : w113.heap.size = v114.heap.size + 1 := by rw [hw113]; simp
  clear sav114 szv114 saw113 szw113
  go_wp2_with fail
  rw [← hv114, ← hw113]
  clear hv114 hw113
  generalize (w112.heap.size + 1) = gR1 at *
  generalize w112.heap.size = gB1 at *
  refine (HBo2 _).mono ?_
  rintro e w115 ⟨rfl, hb⟩
  replace HB := Lib.hid (HB.out.trans (hb.mono HB.out.size))
  replace M := Lib.hid (M.out.below hb M.out.lt)
  replace Pp := Lib.hid (Pp.out.below hb Pp.out.lt)
  replace A1 := Lib.hid (A1.out.below hb A1.out.lt)
  replace A2 := Lib.hid (A2.out.below hb A2.out.lt)
  replace C1 := Lib.hid (C1.out.below hb C1.out.lt)
  replace C2 := Lib.hid (C2.out.below hb C2.out.lt)
  replace B1 := Lib.hid (B1.out.below hb B1.out.lt)
  replace R1 := Lib.hid (R1.out.below hb R1.out.lt)
  clear hb
  clear HBo2
  obtain ⟨v117, hv117⟩ : ∃ x, x = w115.alloc (.cells #[.int .u64 x0, .int .i64 x1, .int .u32 x2, .int .u32 x3, .int .u32 x4, .int .u64 y0, .int .i64 y1, .int .u32 y2, .int .u32 y3, .int .u32 y4] 36) := ⟨_, rfl⟩
  have sav117 : w115.heap.size = w115.heap.size := by first | rfl | omega
  have lt_M_B2 := Lib.hid (show w.heap.size < w115.heap.size from sav117 ▸ M.out.lt)
  replace M := Lib.hid (show Blk v117 w.heap.size 31 #[.int .u64 tx, .int .i64 z, .int .u32 rt, .int .u32 fr, .int .u32 ps] by rw [hv117]; exact M.out.alloc _)
  have lt_Pp_B2 := Lib.hid (show gPp < w115.heap.size from sav117 ▸ Pp.out.lt)
  replace Pp := Lib.hid (show Blk v117 gPp 26 #[.int .i64 kd, .int .i64 ct, .int .u32 pg, .int .u32 lk, .int .u64 ty, .string bd] by rw [hv117]; exact Pp.out.alloc _)
  have lt_A1_B2 := Lib.hid (show gA1 < w115.heap.size from sav117 ▸ A1.out.lt)
  replace A1 := Lib.hid (show Blk v117 gA1 26 #[.int .i64 a0, .int .i64 a1, .int .u32 a2, .int .u32 a3, .int .u64 a4, .string a5] by rw [hv117]; exact A1.out.alloc _)
  have lt_A2_B2 := Lib.hid (show gA2 < w115.heap.size from sav117 ▸ A2.out.lt)
  replace A2 := Lib.hid (show Blk v117 gA2 26 #[.int .i64 a0, .int .i64 a1, .int .u32 a2, .int .u32 a3, .int .u64 a4, .string a5] by rw [hv117]; exact A2.out.alloc _)
  have lt_C1_B2 := Lib.hid (show gC1 < w115.heap.size from sav117 ▸ C1.out.lt)
  replace C1 := Lib.hid (show Blk v117 gC1 31 #[.int .u64 c0, .int .i64 c1, .int .u32 c2, .int .u32 c3, .int .u32 c4] by rw [hv117]; exact C1.out.alloc _)
  have lt_C2_B2 := Lib.hid (show gC2 < w115.heap.size from sav117 ▸ C2.out.lt)
  replace C2 := Lib.hid (show Blk v117 gC2 31 #[.int .u64 c0, .int .i64 c1, .int .u32 c2, .int .u32 c3, .int .u32 c4] by rw [hv117]; exact C2.out.alloc _)
  have lt_B1_B2 := Lib.hid (show gB1 < w115.heap.size from sav117 ▸ B1.out.lt)
  replace B1 := Lib.hid (show Blk v117 gB1 36 #[.int .u64 x0, .int .i64 x1, .int .u32 x2, .int .u32 x3, .int .u32 x4, .int .u64 y0, .int .i64 y1, .int .u32 y2, .int .u32 y3, .int .u32 y4] by rw [hv117]; exact B1.out.alloc _)
  have lt_R1_B2 := Lib.hid (show gR1 < w115.heap.size from sav117 ▸ R1.out.lt)
  replace R1 := Lib.hid (show Blk v117 gR1 37 #[.bool b0, .bool b1] by rw [hv117]; exact R1.out.alloc _)
  have ge_B2 := Lib.hid (show w.heap.size ≤ w115.heap.size from sav117 ▸ HB.out.size)
  replace HB := Lib.hid (show Below w.heap.size w v117 by rw [hv117]; exact HB.out.alloc HB.out.size _)
  have B2 := Lib.hid (show Blk v117 w115.heap.size 36 #[.int .u64 x0, .int .i64 x1, .int .u32 x2, .int .u32 x3, .int .u32 x4, .int .u64 y0, .int .i64 y1, .int .u32 y2, .int .u32 y3, .int .u32 y4] by rw [hv117, ← sav117]; exact Blk.new _ _ _)
  have szv117 : v117.heap.size = w115.heap.size + 1 := by rw [hv117]; simp
  obtain ⟨w116, hw116⟩ : ∃ x, x = v117.alloc (.cells #[.bool b0, .bool b1] 37) := ⟨_, rfl⟩
  have saw116 : v117.heap.size = (w115.heap.size + 1) := by first | rfl | omega
  have lt_M_R2 := Lib.hid (show w.heap.size < (w115.heap.size + 1) from saw116 ▸ M.out.lt)
  replace M := Lib.hid (show Blk w116 w.heap.size 31 #[.int .u64 tx, .int .i64 z, .int .u32 rt, .int .u32 fr, .int .u32 ps] by rw [hw116]; exact M.out.alloc _)
  have lt_Pp_R2 := Lib.hid (show gPp < (w115.heap.size + 1) from saw116 ▸ Pp.out.lt)
  replace Pp := Lib.hid (show Blk w116 gPp 26 #[.int .i64 kd, .int .i64 ct, .int .u32 pg, .int .u32 lk, .int .u64 ty, .string bd] by rw [hw116]; exact Pp.out.alloc _)
  have lt_A1_R2 := Lib.hid (show gA1 < (w115.heap.size + 1) from saw116 ▸ A1.out.lt)
  replace A1 := Lib.hid (show Blk w116 gA1 26 #[.int .i64 a0, .int .i64 a1, .int .u32 a2, .int .u32 a3, .int .u64 a4, .string a5] by rw [hw116]; exact A1.out.alloc _)
  have lt_A2_R2 := Lib.hid (show gA2 < (w115.heap.size + 1) from saw116 ▸ A2.out.lt)
  replace A2 := Lib.hid (show Blk w116 gA2 26 #[.int .i64 a0, .int .i64 a1, .int .u32 a2, .int .u32 a3, .int .u64 a4, .string a5] by rw [hw116]; exact A2.out.alloc _)
  have lt_C1_R2 := Lib.hid (show gC1 < (w115.heap.size + 1) from saw116 ▸ C1.out.lt)
  replace C1 := Lib.hid (show Blk w116 gC1 31 #[.int .u64 c0, .int .i64 c1, .int .u32 c2, .int .u32 c3, .int .u32 c4] by rw [hw116]; exact C1.out.alloc _)
  have lt_C2_R2 := Lib.hid (show gC2 < (w115.heap.size + 1) from saw116 ▸ C2.out.lt)
  replace C2 := Lib.hid (show Blk w116 gC2 31 #[.int .u64 c0, .int .i64 c1, .int .u32 c2, .int .u32 c3, .int .u32 c4] by rw [hw116]; exact C2.out.alloc _)
  have lt_B1_R2 := Lib.hid (show gB1 < (w115.heap.size + 1) from saw116 ▸ B1.out.lt)
  replace B1 := Lib.hid (show Blk w116 gB1 36 #[.int .u64 x0, .int .i64 x1, .int .u32 x2, .int .u32 x3, .int .u32 x4, .int .u64 y0, .int .i64 y1, .int .u32 y2, .int .u32 y3, .int .u32 y4] by rw [hw116]; exact B1.out.alloc _)
  have lt_R1_R2 := Lib.hid (show gR1 < (w115.heap.size + 1) from saw116 ▸ R1.out.lt)
  replace R1 := Lib.hid (show Blk w116 gR1 37 #[.bool b0, .bool b1] by rw [hw116]; exact R1.out.alloc _)
  have lt_B2_R2 := Lib.hid (show w115.heap.size < (w115.heap.size + 1) from saw116 ▸ B2.out.lt)
  replace B2 := Lib.hid (show Blk w116 w115.heap.size 36 #[.int .u64 x0, .int .i64 x1, .int .u32 x2, .int .u32 x3, .int .u32 x4, .int .u64 y0, .int .i64 y1, .int .u32 y2, .int .u32 y3, .int .u32 y4] by rw [hw116]; exact B2.out.alloc _)
  have ge_R2 := Lib.hid (show w.heap.size ≤ (w115.heap.size + 1) from saw116 ▸ HB.out.size)
  replace HB := Lib.hid (show Below w.heap.size w w116 by rw [hw116]; exact HB.out.alloc HB.out.size _)
  have R2 := Lib.hid (show Blk w116 (w115.heap.size + 1) 37 #[.bool b0, .bool b1] by rw [hw116, ← saw116]; exact Blk.new _ _ _)
  have szw116 : w116.heap.size = v117.heap.size + 1 := by rw [hw116]; simp
  clear sav117 szv117 saw116 szw116
  go_wp2_with fail
  rw [← hv117, ← hw116]
  clear hv117 hw116
  generalize (w115.heap.size + 1) = gR2 at *
  generalize w115.heap.size = gB2 at *
  refine (HN _).mono ?_
  rintro e w118 ⟨rfl, hb⟩
  replace HB := Lib.hid (HB.out.trans (hb.mono HB.out.size))
  replace M := Lib.hid (M.out.below hb M.out.lt)
  replace Pp := Lib.hid (Pp.out.below hb Pp.out.lt)
  replace A1 := Lib.hid (A1.out.below hb A1.out.lt)
  replace A2 := Lib.hid (A2.out.below hb A2.out.lt)
  replace C1 := Lib.hid (C1.out.below hb C1.out.lt)
  replace C2 := Lib.hid (C2.out.below hb C2.out.lt)
  replace B1 := Lib.hid (B1.out.below hb B1.out.lt)
  replace R1 := Lib.hid (R1.out.below hb R1.out.lt)
  replace B2 := Lib.hid (B2.out.below hb B2.out.lt)
  replace R2 := Lib.hid (R2.out.below hb R2.out.lt)
  clear hb
  clear HN
  obtain ⟨w119, hw119⟩ : ∃ x, x = w118.alloc (.cells #[.int .u64 n0, .int .i64 n1, .int .u32 n2, .int .u32 n3, .int .u32 n4] 31) := ⟨_, rfl⟩
  have saw119 : w118.heap.size = w118.heap.size := by first | rfl | omega
  have lt_M_N1 := Lib.hid (show w.heap.size < w118.heap.size from saw119 ▸ M.out.lt)
  replace M := Lib.hid (show Blk w119 w.heap.size 31 #[.int .u64 tx, .int .i64 z, .int .u32 rt, .int .u32 fr, .int .u32 ps] by rw [hw119]; exact M.out.alloc _)
  have lt_Pp_N1 := Lib.hid (show gPp < w118.heap.size from saw119 ▸ Pp.out.lt)
  replace Pp := Lib.hid (show Blk w119 gPp 26 #[.int .i64 kd, .int .i64 ct, .int .u32 pg, .int .u32 lk, .int .u64 ty, .string bd] by rw [hw119]; exact Pp.out.alloc _)
  have lt_A1_N1 := Lib.hid (show gA1 < w118.heap.size from saw119 ▸ A1.out.lt)
  replace A1 := Lib.hid (show Blk w119 gA1 26 #[.int .i64 a0, .int .i64 a1, .int .u32 a2, .int .u32 a3, .int .u64 a4, .string a5] by rw [hw119]; exact A1.out.alloc _)
  have lt_A2_N1 := Lib.hid (show gA2 < w118.heap.size from saw119 ▸ A2.out.lt)
  replace A2 := Lib.hid (show Blk w119 gA2 26 #[.int .i64 a0, .int .i64 a1, .int .u32 a2, .int .u32 a3, .int .u64 a4, .string a5] by rw [hw119]; exact A2.out.alloc _)
  have lt_C1_N1 := Lib.hid (show gC1 < w118.heap.size from saw119 ▸ C1.out.lt)
  replace C1 := Lib.hid (show Blk w119 gC1 31 #[.int .u64 c0, .int .i64 c1, .int .u32 c2, .int .u32 c3, .int .u32 c4] by rw [hw119]; exact C1.out.alloc _)
  have lt_C2_N1 := Lib.hid (show gC2 < w118.heap.size from saw119 ▸ C2.out.lt)
  replace C2 := Lib.hid (show Blk w119 gC2 31 #[.int .u64 c0, .int .i64 c1, .int .u32 c2, .int .u32 c3, .int .u32 c4] by rw [hw119]; exact C2.out.alloc _)
  have lt_B1_N1 := Lib.hid (show gB1 < w118.heap.size from saw119 ▸ B1.out.lt)
  replace B1 := Lib.hid (show Blk w119 gB1 36 #[.int .u64 x0, .int .i64 x1, .int .u32 x2, .int .u32 x3, .int .u32 x4, .int .u64 y0, .int .i64 y1, .int .u32 y2, .int .u32 y3, .int .u32 y4] by rw [hw119]; exact B1.out.alloc _)
  have lt_R1_N1 := Lib.hid (show gR1 < w118.heap.size from saw119 ▸ R1.out.lt)
  replace R1 := Lib.hid (show Blk w119 gR1 37 #[.bool b0, .bool b1] by rw [hw119]; exact R1.out.alloc _)
  have lt_B2_N1 := Lib.hid (show gB2 < w118.heap.size from saw119 ▸ B2.out.lt)
  replace B2 := Lib.hid (show Blk w119 gB2 36 #[.int .u64 x0, .int .i64 x1, .int .u32 x2, .int .u32 x3, .int .u32 x4, .int .u64 y0, .int .i64 y1, .int .u32 y2, .int .u32 y3, .int .u32 y4] by rw [hw119]; exact B2.out.alloc _)
  have lt_R2_N1 := Lib.hid (show gR2 < w118.heap.size from saw119 ▸ R2.out.lt)
  replace R2 := Lib.hid (show Blk w119 gR2 37 #[.bool b0, .bool b1] by rw [hw119]; exact R2.out.alloc _)
  have ge_N1 := Lib.hid (show w.heap.size ≤ w118.heap.size from saw119 ▸ HB.out.size)
  replace HB := Lib.hid (show Below w.heap.size w w119 by rw [hw119]; exact HB.out.alloc HB.out.size _)
  have N1 := Lib.hid (show Blk w119 w118.heap.size 31 #[.int .u64 n0, .int .i64 n1, .int .u32 n2, .int .u32 n3, .int .u32 n4] by rw [hw119, ← saw119]; exact Blk.new _ _ _)
  have szw119 : w119.heap.size = w118.heap.size + 1 := by rw [hw119]; simp
  clear saw119 szw119
  go_wp2_with fail
  rw [← hw119]
  clear hw119
  generalize w118.heap.size = gN1 at *
  refine (HN2 _).mono ?_
  rintro e w120 ⟨rfl, hb⟩
  replace HB := Lib.hid (HB.out.trans (hb.mono HB.out.size))
  replace M := Lib.hid (M.out.below hb M.out.lt)
  replace Pp := Lib.hid (Pp.out.below hb Pp.out.lt)
  replace A1 := Lib.hid (A1.out.below hb A1.out.lt)
  replace A2 := Lib.hid (A2.out.below hb A2.out.lt)
  replace C1 := Lib.hid (C1.out.below hb C1.out.lt)
  replace C2 := Lib.hid (C2.out.below hb C2.out.lt)
  replace B1 := Lib.hid (B1.out.below hb B1.out.lt)
  replace R1 := Lib.hid (R1.out.below hb R1.out.lt)
  replace B2 := Lib.hid (B2.out.below hb B2.out.lt)
  replace R2 := Lib.hid (R2.out.below hb R2.out.lt)
  replace N1 := Lib.hid (N1.out.below hb N1.out.lt)
  clear hb
  clear HN2
  obtain ⟨w121, hw121⟩ : ∃ x, x = w120.alloc (.cells #[.int .u64 n0, .int .i64 n1, .int .u32 n2, .int .u32 n3, .int .u32 n4] 31) := ⟨_, rfl⟩
  have saw121 : w120.heap.size = w120.heap.size := by first | rfl | omega
  have lt_M_N2 := Lib.hid (show w.heap.size < w120.heap.size from saw121 ▸ M.out.lt)
  replace M := Lib.hid (show Blk w121 w.heap.size 31 #[.int .u64 tx, .int .i64 z, .int .u32 rt, .int .u32 fr, .int .u32 ps] by rw [hw121]; exact M.out.alloc _)
  have lt_Pp_N2 := Lib.hid (show gPp < w120.heap.size from saw121 ▸ Pp.out.lt)
  replace Pp := Lib.hid (show Blk w121 gPp 26 #[.int .i64 kd, .int .i64 ct, .int .u32 pg, .int .u32 lk, .int .u64 ty, .string bd] by rw [hw121]; exact Pp.out.alloc _)
  have lt_A1_N2 := Lib.hid (show gA1 < w120.heap.size from saw121 ▸ A1.out.lt)
  replace A1 := Lib.hid (show Blk w121 gA1 26 #[.int .i64 a0, .int .i64 a1, .int .u32 a2, .int .u32 a3, .int .u64 a4, .string a5] by rw [hw121]; exact A1.out.alloc _)
  have lt_A2_N2 := Lib.hid (show gA2 < w120.heap.size from saw121 ▸ A2.out.lt)
  replace A2 := Lib.hid (show Blk w121 gA2 26 #[.int .i64 a0, .int .i64 a1, .int .u32 a2, .int .u32 a3, .int .u64 a4, .string a5] by rw [hw121]; exact A2.out.alloc _)
  have lt_C1_N2 := Lib.hid (show gC1 < w120.heap.size from saw121 ▸ C1.out.lt)
  replace C1 := Lib.hid (show Blk w121 gC1 31 #[.int .u64 c0, .int .i64 c1, .int .u32 c2, .int .u32 c3, .int .u32 c4] by rw [hw121]; exact C1.out.alloc _)
  have lt_C2_N2 := Lib.hid (show gC2 < w120.heap.size from saw121 ▸ C2.out.lt)
  replace C2 := Lib.hid (show Blk w121 gC2 31 #[.int .u64 c0, .int .i64 c1, .int .u32 c2, .int .u32 c3, .int .u32 c4] by rw [hw121]; exact C2.out.alloc _)
  have lt_B1_N2 := Lib.hid (show gB1 < w120.heap.size from saw121 ▸ B1.out.lt)
  replace B1 := Lib.hid (show Blk w121 gB1 36 #[.int .u64 x0, .int .i64 x1, .int .u32 x2, .int .u32 x3, .int .u32 x4, .int .u64 y0, .int .i64 y1, .int .u32 y2, .int .u32 y3, .int .u32 y4] by rw [hw121]; exact B1.out.alloc _)
  have lt_R1_N2 := Lib.hid (show gR1 < w120.heap.size from saw121 ▸ R1.out.lt)
  replace R1 := Lib.hid (show Blk w121 gR1 37 #[.bool b0, .bool b1] by rw [hw121]; exact R1.out.alloc _)
  have lt_B2_N2 := Lib.hid (show gB2 < w120.heap.size from saw121 ▸ B2.out.lt)
  replace B2 := Lib.hid (show Blk w121 gB2 36 #[.int .u64 x0, .int .i64 x1, .int .u32 x2, .int .u32 x3, .int .u32 x4, .int .u64 y0, .int .i64 y1, .int .u32 y2, .int .u32 y3, .int .u32 y4] by rw [hw121]; exact B2.out.alloc _)
  have lt_R2_N2 := Lib.hid (show gR2 < w120.heap.size from saw121 ▸ R2.out.lt)
  replace R2 := Lib.hid (show Blk w121 gR2 37 #[.bool b0, .bool b1] by rw [hw121]; exact R2.out.alloc _)
  have lt_N1_N2 := Lib.hid (show gN1 < w120.heap.size from saw121 ▸ N1.out.lt)
  replace N1 := Lib.hid (show Blk w121 gN1 31 #[.int .u64 n0, .int .i64 n1, .int .u32 n2, .int .u32 n3, .int .u32 n4] by rw [hw121]; exact N1.out.alloc _)
  have ge_N2 := Lib.hid (show w.heap.size ≤ w120.heap.size from saw121 ▸ HB.out.size)
  replace HB := Lib.hid (show Below w.heap.size w w121 by rw [hw121]; exact HB.out.alloc HB.out.size _)
  have N2 := Lib.hid (show Blk w121 w120.heap.size 31 #[.int .u64 n0, .int .i64 n1, .int .u32 n2, .int .u32 n3, .int .u32 n4] by rw [hw121, ← saw121]; exact Blk.new _ _ _)
  have szw121 : w121.heap.size = w120.heap.size + 1 := by rw [hw121]; simp
  clear saw121 szw121
  go_upto_region 13 with fail
  rw [← hw121]
  clear hw121
  generalize w120.heap.size = gN2 at *
  have cM_0 := M.out.cell 0
  have cM_1 := M.out.cell 1
  have cM_2 := M.out.cell 2
  have cM_3 := M.out.cell 3
  have cM_4 := M.out.cell 4
  have cPp_0 := Pp.out.cell 0
  have cPp_1 := Pp.out.cell 1
  have cPp_2 := Pp.out.cell 2
  have cPp_3 := Pp.out.cell 3
  have cPp_4 := Pp.out.cell 4
  have cPp_5 := Pp.out.cell 5
  have cA1_0 := A1.out.cell 0
  have cA1_1 := A1.out.cell 1
  have cA1_2 := A1.out.cell 2
  have cA1_3 := A1.out.cell 3
  have cA1_4 := A1.out.cell 4
  have cA1_5 := A1.out.cell 5
  have cA2_0 := A2.out.cell 0
  have cA2_1 := A2.out.cell 1
  have cA2_2 := A2.out.cell 2
  have cA2_3 := A2.out.cell 3
  have cA2_4 := A2.out.cell 4
  have cA2_5 := A2.out.cell 5
  have cC1_0 := C1.out.cell 0
  have cC1_1 := C1.out.cell 1
  have cC1_2 := C1.out.cell 2
  have cC1_3 := C1.out.cell 3
  have cC1_4 := C1.out.cell 4
  have cC2_0 := C2.out.cell 0
  have cC2_1 := C2.out.cell 1
  have cC2_2 := C2.out.cell 2
  have cC2_3 := C2.out.cell 3
  have cC2_4 := C2.out.cell 4
  have cB1_0 := B1.out.cell 0
  have cB1_1 := B1.out.cell 1
  have cB1_2 := B1.out.cell 2
  have cB1_3 := B1.out.cell 3
  have cB1_4 := B1.out.cell 4
  have cB1_5 := B1.out.cell 5
  have cB1_6 := B1.out.cell 6
  have cB1_7 := B1.out.cell 7
  have cB1_8 := B1.out.cell 8
  have cB1_9 := B1.out.cell 9
  have cR1_0 := R1.out.cell 0
  have cR1_1 := R1.out.cell 1
  have cB2_0 := B2.out.cell 0
  have cB2_1 := B2.out.cell 1
  have cB2_2 := B2.out.cell 2
  have cB2_3 := B2.out.cell 3
  have cB2_4 := B2.out.cell 4
  have cB2_5 := B2.out.cell 5
  have cB2_6 := B2.out.cell 6
  have cB2_7 := B2.out.cell 7
  have cB2_8 := B2.out.cell 8
  have cB2_9 := B2.out.cell 9
  have cR2_0 := R2.out.cell 0
  have cR2_1 := R2.out.cell 1
  have cN1_0 := N1.out.cell 0
  have cN1_1 := N1.out.cell 1
  have cN1_2 := N1.out.cell 2
  have cN1_3 := N1.out.cell 3
  have cN1_4 := N1.out.cell 4
  have cN2_0 := N2.out.cell 0
  have cN2_1 := N2.out.cell 1
  have cN2_2 := N2.out.cell 2
  have cN2_3 := N2.out.cell 3
  have cN2_4 := N2.out.cell 4
  simp at cM_0 cM_1 cM_2 cM_3 cM_4 cPp_0 cPp_1 cPp_2 cPp_3 cPp_4 cPp_5 cA1_0 cA1_1 cA1_2 cA1_3 cA1_4 cA1_5 cA2_0 cA2_1 cA2_2 cA2_3 cA2_4 cA2_5 cC1_0 cC1_1 cC1_2 cC1_3 cC1_4 cC2_0 cC2_1 cC2_2 cC2_3 cC2_4 cB1_0 cB1_1 cB1_2 cB1_3 cB1_4 cB1_5 cB1_6 cB1_7 cB1_8 cB1_9 cR1_0 cR1_1 cB2_0 cB2_1 cB2_2 cB2_3 cB2_4 cB2_5 cB2_6 cB2_7 cB2_8 cB2_9 cR2_0 cR2_1 cN1_0 cN1_1 cN1_2 cN1_3 cN1_4 cN2_0 cN2_1 cN2_2 cN2_3 cN2_4
  go_quiet (first | (go_at_call 17; exact Calls.quiet_of_same (HS _)) | (go_at_call 22; exact Calls.quiet_of_same (HS2 _)))
  go_wp2_with fail
  go_ret
  exact ⟨rfl, below_drewN HB.out _⟩
theorem mcalls_walk (tx : Nat) (z : Int) (rt fr ps : Nat) (size kd ct : Int) (pg lk ty : Nat) (bd : ByteArray) (im : ByteArray) (w : World) (_h0 : tx < 18446744073709551616 ∧ -9223372036854775808 ≤ z ∧ z ≤ 9223372036854775807 ∧ rt < 4294967296 ∧ fr < 4294967296 ∧ ps < 4294967296) (_h1 : (Lit.int .i64 size).wf = true) (_h2 : pg < 4294967296 ∧ lk < 4294967296 ∧ ty < 18446744073709551616 ∧ bd.size ≤ maxLen) (_h3 : im.size ≤ maxLen) :
    Calls Try.prog 4 #[.agg #[.int .u64 tx, .int .i64 z, .int .u32 rt, .int .u32 fr, .int .u32 ps], .int .i64 size, .agg #[.int .i64 kd, .int .i64 ct, .int .u32 pg, .int .u32 lk, .int .u64 ty, .string bd], .string im] w fun e w' => e = .returned (.bool true) ∧ Below w.heap.size w w' := by
  by_cases h1 : 4200 < bd.size
  · exact mcalls_long tx z rt fr ps size kd ct pg lk ty bd im w h1
  by_cases h2 : 9000 < im.size
  · exact mcalls_far tx z rt fr ps size kd ct pg lk ty bd im w h1 h2
  exact mcalls_main tx z rt fr ps size kd ct pg lk ty bd im w h1 h2
end Go.Proofs.Ytfmalohaaibhiaa
