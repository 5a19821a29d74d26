/-
  The walk of the statement CatalogBack: from every start, at every argument, it returns true and changes no block that was there before.
-/
import Derived.Test.YtgljmcameeeaiaaCatLaw
import Derived.Test.YtgljmcameeeaiaaBkOpen
import Derived.Test.YtgljmcameeeaiaaFrameOpen
import Derived.Deep.CutRange
namespace Go.Proofs.Ytgljmcameeeaiaa
open Go.RowKit
open Go.Lib hiding intOf
set_option linter.unusedVariables false
set_option linter.unusedSimpArgs false
attribute [local go_sem ↓] Go.wp_at_zero Go.wp_at_succ

set_option maxRecDepth 100000 in
set_option maxHeartbeats 6400000 in
theorem cback_no (size : Int) (n tx : Nat) (A : Option Addr) (m c : Nat) (l : List Bk) (kd ct : Int) (pg lk ty : Nat) (bd : ByteArray) (w : World) (hr : Reads w w.heap.size 3 A m (bkc l)) (hm : m ≤ 4398046511104) (hl : lightB l = false) :
    Calls Try.prog 5 #[.int .i64 size, .int .u32 n, .int .u64 tx, .slice A m c, .agg #[.int .i64 kd, .int .i64 ct, .int .u32 pg, .int .u32 lk, .int .u64 ty, .string bd]] w fun e w' => e = .returned (.bool true) ∧ Below w.heap.size w w' := by
  have HR := Lib.hid hr
  have HM := Lib.hid hm
  have HLi := Lib.hid hl
  clear hr hm hl
  have HB := Lib.hid (Below.refl w.heap.size w)
  go_enter Try.func5, Try.ntmps5
  obtain ⟨w101, hw101⟩ : ∃ x, x = w.alloc (.cells #[.int .i64 kd, .int .i64 ct, .int .u32 pg, .int .u32 lk, .int .u64 ty, .string bd] 26) := ⟨_, rfl⟩
  have saw101 : w.heap.size = w.heap.size := by first | rfl | omega
  have ge_Pp := Lib.hid (show w.heap.size ≤ w.heap.size from saw101 ▸ HB.out.size)
  replace HB := Lib.hid (show Below w.heap.size w w101 by rw [hw101]; exact HB.out.alloc HB.out.size _)
  have Pp := Lib.hid (show Blk w101 w.heap.size 26 #[.int .i64 kd, .int .i64 ct, .int .u32 pg, .int .u32 lk, .int .u64 ty, .string bd] by rw [hw101, ← saw101]; exact Blk.new _ _ _)
  have szw101 : w101.heap.size = w.heap.size + 1 := by rw [hw101]; simp
  clear saw101 szw101
  go_wp2_with fail
  rw [← hw101]
  clear hw101
  refine (lives6_any _).mono ?_
  rintro e w102 ⟨rfl, hb⟩
  replace HB := Lib.hid (HB.out.trans (hb.mono HB.out.size))
  replace Pp := Lib.hid (Pp.out.below hb Pp.out.lt)
  clear hb
  have cPp_0 := Pp.out.cell 0
  have cPp_1 := Pp.out.cell 1
  have cPp_2 := Pp.out.cell 2
  have cPp_3 := Pp.out.cell 3
  have cPp_4 := Pp.out.cell 4
  have cPp_5 := Pp.out.cell 5
  simp at cPp_0 cPp_1 cPp_2 cPp_3 cPp_4 cPp_5
  go_wp2_with fail
  refine (light6_any A m c l _ (HR.out.below HB.out) (Nat.le_trans HM.out (by decide))).mono ?_
  rintro e w103 ⟨rfl, rfl⟩
  rw [HLi.out]
  go_wp2_with fail
  go_ret
  exact ⟨rfl, HB.out⟩
set_option maxRecDepth 100000 in
set_option maxHeartbeats 6400000 in
theorem cback_long (size : Int) (n tx : Nat) (A : Option Addr) (m c : Nat) (l : List Bk) (kd ct : Int) (pg lk ty : Nat) (bd : ByteArray) (w : World) (hr : Reads w w.heap.size 3 A m (bkc l)) (hm : m ≤ 4398046511104) (hl : lightB l = true) (hb : 4200 < bd.size) :
    Calls Try.prog 5 #[.int .i64 size, .int .u32 n, .int .u64 tx, .slice A m c, .agg #[.int .i64 kd, .int .i64 ct, .int .u32 pg, .int .u32 lk, .int .u64 ty, .string bd]] w fun e w' => e = .returned (.bool true) ∧ Below w.heap.size w w' := by
  have HR := Lib.hid hr
  have HM := Lib.hid hm
  have HLi := Lib.hid hl
  have hd : decide ((4200 : Int) < bd.size) = true := by simp; omega
  have hd2 : decide (4200 < bd.size) = true := by simp; omega
  clear hb
  clear hr hm hl
  have HB := Lib.hid (Below.refl w.heap.size w)
  go_enter Try.func5, Try.ntmps5
  obtain ⟨w101, hw101⟩ : ∃ x, x = w.alloc (.cells #[.int .i64 kd, .int .i64 ct, .int .u32 pg, .int .u32 lk, .int .u64 ty, .string bd] 26) := ⟨_, rfl⟩
  have saw101 : w.heap.size = w.heap.size := by first | rfl | omega
  have ge_Pp := Lib.hid (show w.heap.size ≤ w.heap.size from saw101 ▸ HB.out.size)
  replace HB := Lib.hid (show Below w.heap.size w w101 by rw [hw101]; exact HB.out.alloc HB.out.size _)
  have Pp := Lib.hid (show Blk w101 w.heap.size 26 #[.int .i64 kd, .int .i64 ct, .int .u32 pg, .int .u32 lk, .int .u64 ty, .string bd] by rw [hw101, ← saw101]; exact Blk.new _ _ _)
  have szw101 : w101.heap.size = w.heap.size + 1 := by rw [hw101]; simp
  clear saw101 szw101
  go_wp2_with fail
  rw [← hw101]
  clear hw101
  refine (lives6_any _).mono ?_
  rintro e w102 ⟨rfl, hb⟩
  replace HB := Lib.hid (HB.out.trans (hb.mono HB.out.size))
  replace Pp := Lib.hid (Pp.out.below hb Pp.out.lt)
  clear hb
  have cPp_0 := Pp.out.cell 0
  have cPp_1 := Pp.out.cell 1
  have cPp_2 := Pp.out.cell 2
  have cPp_3 := Pp.out.cell 3
  have cPp_4 := Pp.out.cell 4
  have cPp_5 := Pp.out.cell 5
  simp at cPp_0 cPp_1 cPp_2 cPp_3 cPp_4 cPp_5
  go_wp2_with fail
  refine (light6_any A m c l _ (HR.out.below HB.out) (Nat.le_trans HM.out (by decide))).mono ?_
  rintro e w103 ⟨rfl, rfl⟩
  rw [HLi.out]
  go_wp2_with fail
  go_ret
  exact ⟨rfl, HB.out⟩
end Go.Proofs.Ytgljmcameeeaiaa
