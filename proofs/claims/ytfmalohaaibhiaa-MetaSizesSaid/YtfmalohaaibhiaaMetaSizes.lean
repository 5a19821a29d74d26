/-
  The walk of the statement MetaSizes: from every start, at every argument, it returns true and changes no block that was there before.
-/
import Derived.Test.YtfmalohaaibhiaaMetaBlk
import Derived.Test.YtfmalohaaibhiaaKitLaw
import Derived.Deep.RegionHeld3
import Derived.Deep.DrawnRows
namespace Go.Proofs.Ytfmalohaaibhiaa
open Go.RowKit
open Go.Lib
set_option linter.unusedVariables false
set_option linter.unusedSimpArgs false
attribute [local go_sem ↓] Go.wp_at_zero Go.wp_at_succ

set_option maxRecDepth 100000 in
set_option maxHeartbeats 3200000 in
theorem msizes_no (tx : Nat) (z : Int) (rt fr ps : Nat) (size : Int) (c : ByteArray) (w : World) (hm : mayM tx z rt fr ps = false) :
    Calls Try.prog 8 #[.agg #[.int .u64 tx, .int .i64 z, .int .u32 rt, .int .u32 fr, .int .u32 ps], .int .i64 size, .string c] w fun e w' => e = .returned (.bool true) ∧ Below w.heap.size w w' := by
  have HP := fun w => mpage_no tx z rt fr ps w hm
  clear hm
  obtain ⟨w0, hw0⟩ : ∃ w0, w0 = w.alloc (.cells #[.int .u64 tx, .int .i64 z, .int .u32 rt, .int .u32 fr, .int .u32 ps] 31) := ⟨_, rfl⟩
  have M := Lib.hid (show Blk w0 w.heap.size 31 #[.int .u64 tx, .int .i64 z, .int .u32 rt, .int .u32 fr, .int .u32 ps] by rw [hw0]; exact Blk.new _ _ _)
  have HB := Lib.hid (show Below w.heap.size w w0 by rw [hw0]; exact (Below.refl _ _).alloc (Nat.le_refl _) _)
  go_enter Try.func8, Try.ntmps8
  go_wp2_with fail
  rw [← hw0]
  clear hw0
  refine (lives5_any _).mono ?_
  rintro e w101 ⟨rfl, hb⟩
  replace HB := Lib.hid (HB.out.trans (hb.mono HB.out.size))
  replace M := Lib.hid (M.out.below hb M.out.lt)
  clear hb
  have cM_0 := M.out.cell 0
  have cM_1 := M.out.cell 1
  have cM_2 := M.out.cell 2
  have cM_3 := M.out.cell 3
  have cM_4 := M.out.cell 4
  simp at cM_0 cM_1 cM_2 cM_3 cM_4
  go_wp2_with fail
  refine (HP _).mono ?_
  rintro e w102 ⟨rfl, hb⟩
  replace HB := Lib.hid (HB.out.trans (hb.mono HB.out.size))
  replace M := Lib.hid (M.out.below hb M.out.lt)
  clear hb
  clear HP cM_0 cM_1 cM_2 cM_3 cM_4
  obtain ⟨w103, hw103⟩ : ∃ w103, w103 = w102.alloc (.cells #[.int .i64 0, .int .i64 0, .int .u32 0, .int .u32 0, .int .u64 0, .string ByteArray.empty] 26) := ⟨_, rfl⟩
  have Pp := Lib.hid (show Blk w103 w102.heap.size 26 #[.int .i64 0, .int .i64 0, .int .u32 0, .int .u32 0, .int .u64 0, .string ByteArray.empty] by rw [hw103]; exact Blk.new _ _ _)
  replace M := Lib.hid (show Blk w103 _ _ _ by rw [hw103]; exact M.out.alloc _)
  replace HB := Lib.hid (show Below w.heap.size w w103 by rw [hw103]; exact HB.out.alloc HB.out.size _)
  go_wp2_with fail
  go_ret
  exact ⟨rfl, by rw [← hw103]; exact HB.out⟩
set_option maxRecDepth 100000 in
set_option maxHeartbeats 3200000 in
theorem msizes_long (tx : Nat) (z : Nat) (rt fr ps : Nat) (size : Int) (c : ByteArray) (w : World) (hm : mayM tx z rt fr ps = true) (hl : 600 < c.size) :
    Calls Try.prog 8 #[.agg #[.int .u64 tx, .int .i64 z, .int .u32 rt, .int .u32 fr, .int .u32 ps], .int .i64 size, .string c] w fun e w' => e = .returned (.bool true) ∧ Below w.heap.size w w' := by
  obtain ⟨b, hb⟩ : ∃ b, b = bodyM z rt fr ps := ⟨_, rfl⟩
  obtain ⟨sl, hsl⟩ : ∃ sl, sl = tx % 2 := ⟨_, rfl⟩
  have HP := fun w => mpage_yes tx z rt fr ps sl b w hm hb hsl
  have hd : decide ((600 : Int) < c.size) = true := by simp; omega
  have hd' : decide (600 < c.size) = true := by simp; omega
  clear hm hb hsl hl
  obtain ⟨w0, hw0⟩ : ∃ w0, w0 = w.alloc (.cells #[.int .u64 tx, .int .i64 z, .int .u32 rt, .int .u32 fr, .int .u32 ps] 31) := ⟨_, rfl⟩
  have M := Lib.hid (show Blk w0 w.heap.size 31 #[.int .u64 tx, .int .i64 z, .int .u32 rt, .int .u32 fr, .int .u32 ps] by rw [hw0]; exact Blk.new _ _ _)
  have HB := Lib.hid (show Below w.heap.size w w0 by rw [hw0]; exact (Below.refl _ _).alloc (Nat.le_refl _) _)
  go_enter Try.func8, Try.ntmps8
  go_wp2_with fail
  rw [← hw0]
  clear hw0
  refine (lives5_any _).mono ?_
  rintro e w101 ⟨rfl, hb⟩
  replace HB := Lib.hid (HB.out.trans (hb.mono HB.out.size))
  replace M := Lib.hid (M.out.below hb M.out.lt)
  clear hb
  have cM_0 := M.out.cell 0
  have cM_1 := M.out.cell 1
  have cM_2 := M.out.cell 2
  have cM_3 := M.out.cell 3
  have cM_4 := M.out.cell 4
  simp at cM_0 cM_1 cM_2 cM_3 cM_4
  go_wp2_with fail
  refine (HP _).mono ?_
  rintro e w102 ⟨rfl, hb⟩
  replace HB := Lib.hid (HB.out.trans (hb.mono HB.out.size))
  replace M := Lib.hid (M.out.below hb M.out.lt)
  clear hb
  clear HP cM_0 cM_1 cM_2 cM_3 cM_4
  obtain ⟨w103, hw103⟩ : ∃ w103, w103 = w102.alloc (.cells #[.int .i64 1, .int .i64 0, .int .u32 sl, .int .u32 0, .int .u64 tx, .string b] 26) := ⟨_, rfl⟩
  have Pp := Lib.hid (show Blk w103 w102.heap.size 26 #[.int .i64 1, .int .i64 0, .int .u32 sl, .int .u32 0, .int .u64 tx, .string b] by rw [hw103]; exact Blk.new _ _ _)
  replace M := Lib.hid (show Blk w103 _ _ _ by rw [hw103]; exact M.out.alloc _)
  replace HB := Lib.hid (show Below w.heap.size w w103 by rw [hw103]; exact HB.out.alloc HB.out.size _)
  go_wp2_with fail
  go_ret
  exact ⟨rfl, by rw [← hw103]; exact HB.out⟩
set_option maxRecDepth 100000 in
set_option maxHeartbeats 12800000 in
theorem msizes_r1 (tx : Nat) (z : Nat) (rt fr ps : Nat) (size : Int) (c : ByteArray) (w : World) (hm : mayM tx z rt fr ps = true) (hl : c.size ≤ 600) (sl ol : Nat) (hsl : sl = tx % 2) (hol : ol = 1 - sl) (Z N : ByteArray) (hZ : Z = reps ⟨#[0]⟩ z) (hN : N = (c ++ Z).extract 0 z) (hr1 : blockOk z ol N = true) :
    Calls Try.prog 8 #[.agg #[.int .u64 tx, .int .i64 z, .int .u32 rt, .int .u32 fr, .int .u32 ps], .int .i64 size, .string c] w fun e w' => e = .returned (.bool true) ∧ Below w.heap.size w w' := by
  obtain ⟨b, hb⟩ : ∃ b, b = bodyM z rt fr ps := ⟨_, rfl⟩
  have hmg := mayM_good hm
  have hgp := good_pos hmg.2.1
  have hg := hmg.2.1
  have HP := fun w => mpage_yes tx z rt fr ps sl b w hm hb hsl
  have hd : decide ((600 : Int) < c.size) = false := by simp; omega
  have hd' : decide (600 < c.size) = false := by simp; omega
  obtain ⟨g0, g1, g2, g3, g4, x, bb, HO, hx1, hx2⟩ : ∃ (g0 : Nat) (g1 : Int) (g2 g3 g4 : Nat) (x : Int) (bb : Bool), (∀ w : World, Calls Try.prog 12 #[.int .i64 size, .agg #[.int .i64 1, .int .i64 0, .int .u32 sl, .int .u32 0, .int .u64 tx, .string b]] w fun e w' => e = .returned (.tuple #[.agg #[.int .u64 g0, .int .i64 g1, .int .u32 g2, .int .u32 g3, .int .u32 g4], .int .i64 x]) ∧ Below w.heap.size w w') ∧ (x == 0) = bb ∧ (size == (z : Int)) = bb := by
    by_cases hs : (z : Int) = size
    · exact ⟨tx, z, rt, fr, ps, 0, true, fun w => by have := of_page tx z rt fr ps sl b w hm hb hsl; rw [hs] at this; rw [hs]; exact this, by simp, by simp [hs]⟩
    · exact ⟨0, 0, 0, 0, 0, 4, false, fun w => of_page_no size tx z rt fr ps sl b w hm hb hsl hs, by decide, by simp; exact fun h => hs h.symm⟩
  have HQ : ∀ w : World, Calls Try.prog 12 #[.int .i64 z, .agg #[.int .i64 1, .int .i64 0, .int .u32 ol, .int .u32 0, .int .u64 tx, .string b]] w fun e w' => e = .returned (.tuple #[.agg #[.int .u64 0, .int .i64 0, .int .u32 0, .int .u32 0, .int .u32 0], .int .i64 4]) ∧ Below w.heap.size w w' := fun w => of_no z 1 0 ol 0 tx b w (by
    rw [Bool.eq_false_iff]
    intro h
    simp only [isM, Bool.and_eq_true, decide_eq_true_eq] at h
    have := h.2.2.2.2.1
    omega)
  have HT : ∀ w : World, Calls Try.prog 16 #[.string ⟨#[0]⟩, .int .i64 z] w fun e w' => e = .returned (.string Z) ∧ w' = w := fun w => by rw [hZ]; exact (times_any ⟨#[0]⟩ z w (by omega) (by decide)).mono fun _ _ ⟨h1, h2⟩ => ⟨h1, h2.symm⟩
  have hZs : Z.size = z := by rw [hZ]; exact reps_lit_size 0 z
  have hNs : N.size = z := by rw [hN, ByteArray.size_extract, ByteArray.size_append]; omega
  have hw1 : IntKind.u32.wrap (1 - (sl : Int)) = (ol : Int) := by rw [IntKind.wrap_u32]; omega
  have hw2 : (1 - (sl : Int)) % 4294967296 = (ol : Int) := by omega
  have cat1 : ¬ (9223372036854775807 < c.size + Z.size) := by omega
  have sl0 : (0 : Int) ≤ (z : Int) := by omega
  have sl1 : (z : Int) ≤ ((c ++ Z).size : Int) := by rw [ByteArray.size_append]; omega
  have sl2 : (z : Int) ≤ (c.size : Int) + (Z.size : Int) := by omega
  have HG1 := fun w => rget_right z ol N w hr1
  obtain ⟨a0, a1, a2, a3, a4, a5, y, HG2⟩ : ∃ (a0 a1 : Int) (a2 a3 a4 : Nat) (a5 : ByteArray) (y : Int), ∀ w : World, Calls Try.prog 25 #[.int .i64 z, .int .u32 sl, .string N] w fun e w' => e = .returned (.tuple #[.agg #[.int .i64 a0, .int .i64 a1, .int .u32 a2, .int .u32 a3, .int .u64 a4, .string a5], .int .i64 y]) ∧ Below w.heap.size w w' := by
    rcases hr2 : blockOk z sl N with _ | _
    · exact ⟨0, 0, 0, 0, 0, ByteArray.empty, 4, fun w => rget_wrong z sl N w hg hr2⟩
    · exact ⟨_, _, _, _, _, _, 0, fun w => rget_right z sl N w hr2⟩
  obtain ⟨d0, hd0⟩ : ∃ d, d = numAt N 4 1 := ⟨_, rfl⟩
  obtain ⟨d1, hd1⟩ : ∃ d, d = numAt N 6 2 := ⟨_, rfl⟩
  obtain ⟨d2, hd2⟩ : ∃ d, d = numAt N 8 4 := ⟨_, rfl⟩
  obtain ⟨d3, hd3⟩ : ∃ d, d = numAt N 12 4 := ⟨_, rfl⟩
  obtain ⟨d4, hd4⟩ : ∃ d, d = numAt N 16 8 := ⟨_, rfl⟩
  obtain ⟨d5, hd5⟩ : ∃ d, d = N.extract 24 N.size := ⟨_, rfl⟩
  rw [← hd0, ← hd1, ← hd2, ← hd3, ← hd4, ← hd5] at HG1
  clear hd0 hd1 hd2 hd3 hd4 hd5
  have HNe := Lib.hid hN
  clear hm hb hmg hgp hg hsl hol hZ hZs hNs hN hl hr1
  obtain ⟨w0, hw0⟩ : ∃ w0, w0 = w.alloc (.cells #[.int .u64 tx, .int .i64 z, .int .u32 rt, .int .u32 fr, .int .u32 ps] 31) := ⟨_, rfl⟩
  have M := Lib.hid (show Blk w0 w.heap.size 31 #[.int .u64 tx, .int .i64 z, .int .u32 rt, .int .u32 fr, .int .u32 ps] by rw [hw0]; exact Blk.new _ _ _)
  have HB := Lib.hid (show Below w.heap.size w w0 by rw [hw0]; exact (Below.refl _ _).alloc (Nat.le_refl _) _)
  go_enter Try.func8, Try.ntmps8
  go_wp2_with fail
  rw [← hw0]
  clear hw0
  refine (lives5_any _).mono ?_
  rintro e w101 ⟨rfl, hb⟩
  replace HB := Lib.hid (HB.out.trans (hb.mono HB.out.size))
  replace M := Lib.hid (M.out.below hb M.out.lt)
  clear hb
  have cM_0 := M.out.cell 0
  have cM_1 := M.out.cell 1
  have cM_2 := M.out.cell 2
  have cM_3 := M.out.cell 3
  have cM_4 := M.out.cell 4
  simp at cM_0 cM_1 cM_2 cM_3 cM_4
  go_wp2_with fail
  refine (HP _).mono ?_
  rintro e w102 ⟨rfl, hb⟩
  replace HB := Lib.hid (HB.out.trans (hb.mono HB.out.size))
  replace M := Lib.hid (M.out.below hb M.out.lt)
  clear hb
  clear HP cM_0 cM_1 cM_2 cM_3 cM_4
  obtain ⟨w103, hw103⟩ : ∃ w103, w103 = w102.alloc (.cells #[.int .i64 1, .int .i64 0, .int .u32 sl, .int .u32 0, .int .u64 tx, .string b] 26) := ⟨_, rfl⟩
  have Pp := Lib.hid (show Blk w103 w102.heap.size 26 #[.int .i64 1, .int .i64 0, .int .u32 sl, .int .u32 0, .int .u64 tx, .string b] by rw [hw103]; exact Blk.new _ _ _)
  replace M := Lib.hid (show Blk w103 _ _ _ by rw [hw103]; exact M.out.alloc _)
  replace HB := Lib.hid (show Below w.heap.size w w103 by rw [hw103]; exact HB.out.alloc HB.out.size _)
  have cPp_0 := Pp.out.cell 0
  have cPp_1 := Pp.out.cell 1
  have cPp_2 := Pp.out.cell 2
  have cPp_3 := Pp.out.cell 3
  have cPp_4 := Pp.out.cell 4
  have cPp_5 := Pp.out.cell 5
  have cM_0 := M.out.cell 0
  have cM_1 := M.out.cell 1
  have cM_2 := M.out.cell 2
  have cM_3 := M.out.cell 3
  have cM_4 := M.out.cell 4
  rw [hw103] at cPp_0 cPp_1 cPp_2 cPp_3 cPp_4 cPp_5 cM_0 cM_1 cM_2 cM_3 cM_4
  simp at cPp_0 cPp_1 cPp_2 cPp_3 cPp_4 cPp_5 cM_0 cM_1 cM_2 cM_3 cM_4
  go_wp2_with fail
  rw [← hw103]
  clear hw103 cPp_0 cPp_1 cPp_2 cPp_3 cPp_4 cPp_5 cM_0 cM_1 cM_2 cM_3 cM_4
  refine (HO _).mono ?_
  rintro e w104 ⟨rfl, hb⟩
  replace HB := Lib.hid (HB.out.trans (hb.mono HB.out.size))
  replace M := Lib.hid (M.out.below hb M.out.lt)
  replace Pp := Lib.hid (Pp.out.below hb Pp.out.lt)
  clear hb
  clear HO
  obtain ⟨w105, hw105⟩ : ∃ w105, w105 = w104.alloc (.cells #[.int .u64 g0, .int .i64 g1, .int .u32 g2, .int .u32 g3, .int .u32 g4] 31) := ⟨_, rfl⟩
  have lPp := Pp.out.lt
  have dPp_0 := Pp.out.cell 0
  have dPp_1 := Pp.out.cell 1
  have dPp_2 := Pp.out.cell 2
  have dPp_3 := Pp.out.cell 3
  have dPp_4 := Pp.out.cell 4
  have dPp_5 := Pp.out.cell 5
  have lM := M.out.lt
  have dM_0 := M.out.cell 0
  have dM_1 := M.out.cell 1
  have dM_2 := M.out.cell 2
  have dM_3 := M.out.cell 3
  have dM_4 := M.out.cell 4
  simp at dPp_0 dPp_1 dPp_2 dPp_3 dPp_4 dPp_5 dM_0 dM_1 dM_2 dM_3 dM_4
  have Gg := Lib.hid (show Blk w105 w104.heap.size 31 #[.int .u64 g0, .int .i64 g1, .int .u32 g2, .int .u32 g3, .int .u32 g4] by rw [hw105]; exact Blk.new _ _ _)
  replace M := Lib.hid (show Blk w105 _ _ _ by rw [hw105]; exact M.out.alloc _)
  replace Pp := Lib.hid (show Blk w105 _ _ _ by rw [hw105]; exact Pp.out.alloc _)
  replace HB := Lib.hid (show Below w.heap.size w w105 by rw [hw105]; exact HB.out.alloc HB.out.size _)
  have cPp_0 := Pp.out.cell 0
  have cPp_1 := Pp.out.cell 1
  have cPp_2 := Pp.out.cell 2
  have cPp_3 := Pp.out.cell 3
  have cPp_4 := Pp.out.cell 4
  have cPp_5 := Pp.out.cell 5
  have cM_0 := M.out.cell 0
  have cM_1 := M.out.cell 1
  have cM_2 := M.out.cell 2
  have cM_3 := M.out.cell 3
  have cM_4 := M.out.cell 4
  rw [hw105] at cPp_0 cPp_1 cPp_2 cPp_3 cPp_4 cPp_5 cM_0 cM_1 cM_2 cM_3 cM_4
  simp at cPp_0 cPp_1 cPp_2 cPp_3 cPp_4 cPp_5 cM_0 cM_1 cM_2 cM_3 cM_4
  go_wp2_with fail
  rw [← hw105]
  clear hw105 cPp_0 cPp_1 cPp_2 cPp_3 cPp_4 cPp_5 cM_0 cM_1 cM_2 cM_3 cM_4 dPp_0 dPp_1 dPp_2 dPp_3 dPp_4 dPp_5 dM_0 dM_1 dM_2 dM_3 dM_4 lPp lM
  obtain ⟨w106, hw106⟩ : ∃ w106, w106 = w105.alloc (.cells #[.int .i64 1, .int .i64 0, .int .u32 ol, .int .u32 0, .int .u64 tx, .string b] 26) := ⟨_, rfl⟩
  have Qq := Lib.hid (show Blk w106 w105.heap.size 26 #[.int .i64 1, .int .i64 0, .int .u32 ol, .int .u32 0, .int .u64 tx, .string b] by rw [hw106]; exact Blk.new _ _ _)
  replace M := Lib.hid (show Blk w106 _ _ _ by rw [hw106]; exact M.out.alloc _)
  replace Pp := Lib.hid (show Blk w106 _ _ _ by rw [hw106]; exact Pp.out.alloc _)
  replace Gg := Lib.hid (show Blk w106 _ _ _ by rw [hw106]; exact Gg.out.alloc _)
  replace HB := Lib.hid (show Below w.heap.size w w106 by rw [hw106]; exact HB.out.alloc HB.out.size _)
  rw [← hw106]
  clear hw106
  refine (HQ _).mono ?_
  rintro e w107 ⟨rfl, hb⟩
  replace HB := Lib.hid (HB.out.trans (hb.mono HB.out.size))
  replace M := Lib.hid (M.out.below hb M.out.lt)
  replace Pp := Lib.hid (Pp.out.below hb Pp.out.lt)
  replace Gg := Lib.hid (Gg.out.below hb Gg.out.lt)
  replace Qq := Lib.hid (Qq.out.below hb Qq.out.lt)
  clear hb
  clear HQ
  obtain ⟨w108, hw108⟩ : ∃ w108, w108 = w107.alloc (.cells #[.int .u64 0, .int .i64 0, .int .u32 0, .int .u32 0, .int .u32 0] 31) := ⟨_, rfl⟩
  have lPp := Pp.out.lt
  have dPp_0 := Pp.out.cell 0
  have dPp_1 := Pp.out.cell 1
  have dPp_2 := Pp.out.cell 2
  have dPp_3 := Pp.out.cell 3
  have dPp_4 := Pp.out.cell 4
  have dPp_5 := Pp.out.cell 5
  have lM := M.out.lt
  have dM_0 := M.out.cell 0
  have dM_1 := M.out.cell 1
  have dM_2 := M.out.cell 2
  have dM_3 := M.out.cell 3
  have dM_4 := M.out.cell 4
  simp at dPp_0 dPp_1 dPp_2 dPp_3 dPp_4 dPp_5 dM_0 dM_1 dM_2 dM_3 dM_4
  have Hh := Lib.hid (show Blk w108 w107.heap.size 31 #[.int .u64 0, .int .i64 0, .int .u32 0, .int .u32 0, .int .u32 0] by rw [hw108]; exact Blk.new _ _ _)
  replace M := Lib.hid (show Blk w108 _ _ _ by rw [hw108]; exact M.out.alloc _)
  replace Pp := Lib.hid (show Blk w108 _ _ _ by rw [hw108]; exact Pp.out.alloc _)
  replace Gg := Lib.hid (show Blk w108 _ _ _ by rw [hw108]; exact Gg.out.alloc _)
  replace Qq := Lib.hid (show Blk w108 _ _ _ by rw [hw108]; exact Qq.out.alloc _)
  replace HB := Lib.hid (show Below w.heap.size w w108 by rw [hw108]; exact HB.out.alloc HB.out.size _)
  have cPp_0 := Pp.out.cell 0
  have cPp_1 := Pp.out.cell 1
  have cPp_2 := Pp.out.cell 2
  have cPp_3 := Pp.out.cell 3
  have cPp_4 := Pp.out.cell 4
  have cPp_5 := Pp.out.cell 5
  have cM_0 := M.out.cell 0
  have cM_1 := M.out.cell 1
  have cM_2 := M.out.cell 2
  have cM_3 := M.out.cell 3
  have cM_4 := M.out.cell 4
  rw [hw108] at cPp_0 cPp_1 cPp_2 cPp_3 cPp_4 cPp_5 cM_0 cM_1 cM_2 cM_3 cM_4
  simp at cPp_0 cPp_1 cPp_2 cPp_3 cPp_4 cPp_5 cM_0 cM_1 cM_2 cM_3 cM_4
  go_wp2_with fail
  rw [← hw108]
  clear hw108 cPp_0 cPp_1 cPp_2 cPp_3 cPp_4 cPp_5 cM_0 cM_1 cM_2 cM_3 cM_4 dPp_0 dPp_1 dPp_2 dPp_3 dPp_4 dPp_5 dM_0 dM_1 dM_2 dM_3 dM_4 lPp lM
  have cPp_0 := Pp.out.cell 0
  have cPp_1 := Pp.out.cell 1
  have cPp_2 := Pp.out.cell 2
  have cPp_3 := Pp.out.cell 3
  have cPp_4 := Pp.out.cell 4
  have cPp_5 := Pp.out.cell 5
  have cM_0 := M.out.cell 0
  have cM_1 := M.out.cell 1
  have cM_2 := M.out.cell 2
  have cM_3 := M.out.cell 3
  have cM_4 := M.out.cell 4
  simp at cPp_0 cPp_1 cPp_2 cPp_3 cPp_4 cPp_5 cM_0 cM_1 cM_2 cM_3 cM_4
  replace M := Lib.hid M.out.drew
  replace Pp := Lib.hid Pp.out.drew
  replace Gg := Lib.hid Gg.out.drew
  replace Qq := Lib.hid Qq.out.drew
  replace Hh := Lib.hid Hh.out.drew
  replace HB := Lib.hid HB.out.drew
  go_region_held3 (fun w' => w'.cell? ⟨w.heap.size, 1, none⟩ = some (.int .i64 z)) (exact M.out.cell 1)
    (first
    | (go_at_call 16
       with_reducible refine (HT _).mono ?_
       rintro e wt ⟨rfl, rfl⟩))
  try go_wp2_with fail
  rw [← HNe.out]
  clear HT sl0 sl1 sl2 cat1 cPp_0 cPp_1 cPp_2 cPp_3 cPp_4 cPp_5 cM_0 cM_1 cM_2 cM_3 cM_4
  refine (HG1 _).mono ?_
  rintro e w109 ⟨rfl, hb⟩
  replace HB := Lib.hid (HB.out.trans (hb.mono HB.out.size))
  replace M := Lib.hid (M.out.below hb M.out.lt)
  replace Pp := Lib.hid (Pp.out.below hb Pp.out.lt)
  replace Gg := Lib.hid (Gg.out.below hb Gg.out.lt)
  replace Qq := Lib.hid (Qq.out.below hb Qq.out.lt)
  replace Hh := Lib.hid (Hh.out.below hb Hh.out.lt)
  clear hb
  clear HG1
  obtain ⟨w110, hw110⟩ : ∃ w110, w110 = w109.alloc (.cells #[.int .i64 d0, .int .i64 d1, .int .u32 d2, .int .u32 d3, .int .u64 d4, .string d5] 26) := ⟨_, rfl⟩
  have lPp := Pp.out.lt
  have dPp_0 := Pp.out.cell 0
  have dPp_1 := Pp.out.cell 1
  have dPp_2 := Pp.out.cell 2
  have dPp_3 := Pp.out.cell 3
  have dPp_4 := Pp.out.cell 4
  have dPp_5 := Pp.out.cell 5
  have lM := M.out.lt
  have dM_0 := M.out.cell 0
  have dM_1 := M.out.cell 1
  have dM_2 := M.out.cell 2
  have dM_3 := M.out.cell 3
  have dM_4 := M.out.cell 4
  simp at dPp_0 dPp_1 dPp_2 dPp_3 dPp_4 dPp_5 dM_0 dM_1 dM_2 dM_3 dM_4
  have E1 := Lib.hid (show Blk w110 w109.heap.size 26 #[.int .i64 d0, .int .i64 d1, .int .u32 d2, .int .u32 d3, .int .u64 d4, .string d5] by rw [hw110]; exact Blk.new _ _ _)
  replace M := Lib.hid (show Blk w110 _ _ _ by rw [hw110]; exact M.out.alloc _)
  replace Pp := Lib.hid (show Blk w110 _ _ _ by rw [hw110]; exact Pp.out.alloc _)
  replace Gg := Lib.hid (show Blk w110 _ _ _ by rw [hw110]; exact Gg.out.alloc _)
  replace Qq := Lib.hid (show Blk w110 _ _ _ by rw [hw110]; exact Qq.out.alloc _)
  replace Hh := Lib.hid (show Blk w110 _ _ _ by rw [hw110]; exact Hh.out.alloc _)
  replace HB := Lib.hid (show Below w.heap.size w w110 by rw [hw110]; exact HB.out.alloc HB.out.size _)
  have cPp_0 := Pp.out.cell 0
  have cPp_1 := Pp.out.cell 1
  have cPp_2 := Pp.out.cell 2
  have cPp_3 := Pp.out.cell 3
  have cPp_4 := Pp.out.cell 4
  have cPp_5 := Pp.out.cell 5
  have cM_0 := M.out.cell 0
  have cM_1 := M.out.cell 1
  have cM_2 := M.out.cell 2
  have cM_3 := M.out.cell 3
  have cM_4 := M.out.cell 4
  rw [hw110] at cPp_0 cPp_1 cPp_2 cPp_3 cPp_4 cPp_5 cM_0 cM_1 cM_2 cM_3 cM_4
  simp at cPp_0 cPp_1 cPp_2 cPp_3 cPp_4 cPp_5 cM_0 cM_1 cM_2 cM_3 cM_4
  go_wp2_with fail
  rw [← hw110]
  clear hw110 cPp_0 cPp_1 cPp_2 cPp_3 cPp_4 cPp_5 cM_0 cM_1 cM_2 cM_3 cM_4 dPp_0 dPp_1 dPp_2 dPp_3 dPp_4 dPp_5 dM_0 dM_1 dM_2 dM_3 dM_4 lPp lM
  refine (HG2 _).mono ?_
  rintro e w111 ⟨rfl, hb⟩
  replace HB := Lib.hid (HB.out.trans (hb.mono HB.out.size))
  replace M := Lib.hid (M.out.below hb M.out.lt)
  replace Pp := Lib.hid (Pp.out.below hb Pp.out.lt)
  replace Gg := Lib.hid (Gg.out.below hb Gg.out.lt)
  replace Qq := Lib.hid (Qq.out.below hb Qq.out.lt)
  replace Hh := Lib.hid (Hh.out.below hb Hh.out.lt)
  replace E1 := Lib.hid (E1.out.below hb E1.out.lt)
  clear hb
  clear HG2
  obtain ⟨w112, hw112⟩ : ∃ w112, w112 = w111.alloc (.cells #[.int .i64 a0, .int .i64 a1, .int .u32 a2, .int .u32 a3, .int .u64 a4, .string a5] 26) := ⟨_, rfl⟩
  have E2 := Lib.hid (show Blk w112 w111.heap.size 26 #[.int .i64 a0, .int .i64 a1, .int .u32 a2, .int .u32 a3, .int .u64 a4, .string a5] by rw [hw112]; exact Blk.new _ _ _)
  replace M := Lib.hid (show Blk w112 _ _ _ by rw [hw112]; exact M.out.alloc _)
  replace Pp := Lib.hid (show Blk w112 _ _ _ by rw [hw112]; exact Pp.out.alloc _)
  replace Gg := Lib.hid (show Blk w112 _ _ _ by rw [hw112]; exact Gg.out.alloc _)
  replace Qq := Lib.hid (show Blk w112 _ _ _ by rw [hw112]; exact Qq.out.alloc _)
  replace Hh := Lib.hid (show Blk w112 _ _ _ by rw [hw112]; exact Hh.out.alloc _)
  replace E1 := Lib.hid (show Blk w112 _ _ _ by rw [hw112]; exact E1.out.alloc _)
  replace HB := Lib.hid (show Below w.heap.size w w112 by rw [hw112]; exact HB.out.alloc HB.out.size _)
  go_wp2_with fail
  go_ret
  exact ⟨rfl, by rw [← hw112]; exact HB.out⟩
set_option maxRecDepth 100000 in
set_option maxHeartbeats 12800000 in
theorem msizes_r2 (tx : Nat) (z : Nat) (rt fr ps : Nat) (size : Int) (c : ByteArray) (w : World) (hm : mayM tx z rt fr ps = true) (hl : c.size ≤ 600) (sl ol : Nat) (hsl : sl = tx % 2) (hol : ol = 1 - sl) (Z N : ByteArray) (hZ : Z = reps ⟨#[0]⟩ z) (hN : N = (c ++ Z).extract 0 z) (hr1 : blockOk z ol N = false) (hr2 : blockOk z sl N = true) :
    Calls Try.prog 8 #[.agg #[.int .u64 tx, .int .i64 z, .int .u32 rt, .int .u32 fr, .int .u32 ps], .int .i64 size, .string c] w fun e w' => e = .returned (.bool true) ∧ Below w.heap.size w w' := by
  obtain ⟨b, hb⟩ : ∃ b, b = bodyM z rt fr ps := ⟨_, rfl⟩
  have hmg := mayM_good hm
  have hgp := good_pos hmg.2.1
  have hg := hmg.2.1
  have HP := fun w => mpage_yes tx z rt fr ps sl b w hm hb hsl
  have hd : decide ((600 : Int) < c.size) = false := by simp; omega
  have hd' : decide (600 < c.size) = false := by simp; omega
  obtain ⟨g0, g1, g2, g3, g4, x, bb, HO, hx1, hx2⟩ : ∃ (g0 : Nat) (g1 : Int) (g2 g3 g4 : Nat) (x : Int) (bb : Bool), (∀ w : World, Calls Try.prog 12 #[.int .i64 size, .agg #[.int .i64 1, .int .i64 0, .int .u32 sl, .int .u32 0, .int .u64 tx, .string b]] w fun e w' => e = .returned (.tuple #[.agg #[.int .u64 g0, .int .i64 g1, .int .u32 g2, .int .u32 g3, .int .u32 g4], .int .i64 x]) ∧ Below w.heap.size w w') ∧ (x == 0) = bb ∧ (size == (z : Int)) = bb := by
    by_cases hs : (z : Int) = size
    · exact ⟨tx, z, rt, fr, ps, 0, true, fun w => by have := of_page tx z rt fr ps sl b w hm hb hsl; rw [hs] at this; rw [hs]; exact this, by simp, by simp [hs]⟩
    · exact ⟨0, 0, 0, 0, 0, 4, false, fun w => of_page_no size tx z rt fr ps sl b w hm hb hsl hs, by decide, by simp; exact fun h => hs h.symm⟩
  have HQ : ∀ w : World, Calls Try.prog 12 #[.int .i64 z, .agg #[.int .i64 1, .int .i64 0, .int .u32 ol, .int .u32 0, .int .u64 tx, .string b]] w fun e w' => e = .returned (.tuple #[.agg #[.int .u64 0, .int .i64 0, .int .u32 0, .int .u32 0, .int .u32 0], .int .i64 4]) ∧ Below w.heap.size w w' := fun w => of_no z 1 0 ol 0 tx b w (by
    rw [Bool.eq_false_iff]
    intro h
    simp only [isM, Bool.and_eq_true, decide_eq_true_eq] at h
    have := h.2.2.2.2.1
    omega)
  have HT : ∀ w : World, Calls Try.prog 16 #[.string ⟨#[0]⟩, .int .i64 z] w fun e w' => e = .returned (.string Z) ∧ w' = w := fun w => by rw [hZ]; exact (times_any ⟨#[0]⟩ z w (by omega) (by decide)).mono fun _ _ ⟨h1, h2⟩ => ⟨h1, h2.symm⟩
  have hZs : Z.size = z := by rw [hZ]; exact reps_lit_size 0 z
  have hNs : N.size = z := by rw [hN, ByteArray.size_extract, ByteArray.size_append]; omega
  have hw1 : IntKind.u32.wrap (1 - (sl : Int)) = (ol : Int) := by rw [IntKind.wrap_u32]; omega
  have hw2 : (1 - (sl : Int)) % 4294967296 = (ol : Int) := by omega
  have cat1 : ¬ (9223372036854775807 < c.size + Z.size) := by omega
  have sl0 : (0 : Int) ≤ (z : Int) := by omega
  have sl1 : (z : Int) ≤ ((c ++ Z).size : Int) := by rw [ByteArray.size_append]; omega
  have sl2 : (z : Int) ≤ (c.size : Int) + (Z.size : Int) := by omega
  have HG1 := fun w => rget_wrong z ol N w hg hr1
  have HG2 := fun w => rget_right z sl N w hr2
  obtain ⟨d0, hd0⟩ : ∃ d, d = numAt N 4 1 := ⟨_, rfl⟩
  obtain ⟨d1, hd1⟩ : ∃ d, d = numAt N 6 2 := ⟨_, rfl⟩
  obtain ⟨d2, hd2⟩ : ∃ d, d = numAt N 8 4 := ⟨_, rfl⟩
  obtain ⟨d3, hd3⟩ : ∃ d, d = numAt N 12 4 := ⟨_, rfl⟩
  obtain ⟨d4, hd4⟩ : ∃ d, d = numAt N 16 8 := ⟨_, rfl⟩
  obtain ⟨d5, hd5⟩ : ∃ d, d = N.extract 24 N.size := ⟨_, rfl⟩
  rw [← hd0, ← hd1, ← hd2, ← hd3, ← hd4, ← hd5] at HG2
  clear hd0 hd1 hd2 hd3 hd4 hd5
  have HNe := Lib.hid hN
  clear hm hb hmg hgp hg hsl hol hZ hZs hNs hN hl hr1 hr2
  obtain ⟨w0, hw0⟩ : ∃ w0, w0 = w.alloc (.cells #[.int .u64 tx, .int .i64 z, .int .u32 rt, .int .u32 fr, .int .u32 ps] 31) := ⟨_, rfl⟩
  have M := Lib.hid (show Blk w0 w.heap.size 31 #[.int .u64 tx, .int .i64 z, .int .u32 rt, .int .u32 fr, .int .u32 ps] by rw [hw0]; exact Blk.new _ _ _)
  have HB := Lib.hid (show Below w.heap.size w w0 by rw [hw0]; exact (Below.refl _ _).alloc (Nat.le_refl _) _)
  go_enter Try.func8, Try.ntmps8
  go_wp2_with fail
  rw [← hw0]
  clear hw0
  refine (lives5_any _).mono ?_
  rintro e w101 ⟨rfl, hb⟩
  replace HB := Lib.hid (HB.out.trans (hb.mono HB.out.size))
  replace M := Lib.hid (M.out.below hb M.out.lt)
  clear hb
  have cM_0 := M.out.cell 0
  have cM_1 := M.out.cell 1
  have cM_2 := M.out.cell 2
  have cM_3 := M.out.cell 3
  have cM_4 := M.out.cell 4
  simp at cM_0 cM_1 cM_2 cM_3 cM_4
  go_wp2_with fail
  refine (HP _).mono ?_
  rintro e w102 ⟨rfl, hb⟩
  replace HB := Lib.hid (HB.out.trans (hb.mono HB.out.size))
  replace M := Lib.hid (M.out.below hb M.out.lt)
  clear hb
  clear HP cM_0 cM_1 cM_2 cM_3 cM_4
  obtain ⟨w103, hw103⟩ : ∃ w103, w103 = w102.alloc (.cells #[.int .i64 1, .int .i64 0, .int .u32 sl, .int .u32 0, .int .u64 tx, .string b] 26) := ⟨_, rfl⟩
  have Pp := Lib.hid (show Blk w103 w102.heap.size 26 #[.int .i64 1, .int .i64 0, .int .u32 sl, .int .u32 0, .int .u64 tx, .string b] by rw [hw103]; exact Blk.new _ _ _)
  replace M := Lib.hid (show Blk w103 _ _ _ by rw [hw103]; exact M.out.alloc _)
  replace HB := Lib.hid (show Below w.heap.size w w103 by rw [hw103]; exact HB.out.alloc HB.out.size _)
  have cPp_0 := Pp.out.cell 0
  have cPp_1 := Pp.out.cell 1
  have cPp_2 := Pp.out.cell 2
  have cPp_3 := Pp.out.cell 3
  have cPp_4 := Pp.out.cell 4
  have cPp_5 := Pp.out.cell 5
  have cM_0 := M.out.cell 0
  have cM_1 := M.out.cell 1
  have cM_2 := M.out.cell 2
  have cM_3 := M.out.cell 3
  have cM_4 := M.out.cell 4
  rw [hw103] at cPp_0 cPp_1 cPp_2 cPp_3 cPp_4 cPp_5 cM_0 cM_1 cM_2 cM_3 cM_4
  simp at cPp_0 cPp_1 cPp_2 cPp_3 cPp_4 cPp_5 cM_0 cM_1 cM_2 cM_3 cM_4
  go_wp2_with fail
  rw [← hw103]
  clear hw103 cPp_0 cPp_1 cPp_2 cPp_3 cPp_4 cPp_5 cM_0 cM_1 cM_2 cM_3 cM_4
  refine (HO _).mono ?_
  rintro e w104 ⟨rfl, hb⟩
  replace HB := Lib.hid (HB.out.trans (hb.mono HB.out.size))
  replace M := Lib.hid (M.out.below hb M.out.lt)
  replace Pp := Lib.hid (Pp.out.below hb Pp.out.lt)
  clear hb
  clear HO
  obtain ⟨w105, hw105⟩ : ∃ w105, w105 = w104.alloc (.cells #[.int .u64 g0, .int .i64 g1, .int .u32 g2, .int .u32 g3, .int .u32 g4] 31) := ⟨_, rfl⟩
  have lPp := Pp.out.lt
  have dPp_0 := Pp.out.cell 0
  have dPp_1 := Pp.out.cell 1
  have dPp_2 := Pp.out.cell 2
  have dPp_3 := Pp.out.cell 3
  have dPp_4 := Pp.out.cell 4
  have dPp_5 := Pp.out.cell 5
  have lM := M.out.lt
  have dM_0 := M.out.cell 0
  have dM_1 := M.out.cell 1
  have dM_2 := M.out.cell 2
  have dM_3 := M.out.cell 3
  have dM_4 := M.out.cell 4
  simp at dPp_0 dPp_1 dPp_2 dPp_3 dPp_4 dPp_5 dM_0 dM_1 dM_2 dM_3 dM_4
  have Gg := Lib.hid (show Blk w105 w104.heap.size 31 #[.int .u64 g0, .int .i64 g1, .int .u32 g2, .int .u32 g3, .int .u32 g4] by rw [hw105]; exact Blk.new _ _ _)
  replace M := Lib.hid (show Blk w105 _ _ _ by rw [hw105]; exact M.out.alloc _)
  replace Pp := Lib.hid (show Blk w105 _ _ _ by rw [hw105]; exact Pp.out.alloc _)
  replace HB := Lib.hid (show Below w.heap.size w w105 by rw [hw105]; exact HB.out.alloc HB.out.size _)
  have cPp_0 := Pp.out.cell 0
  have cPp_1 := Pp.out.cell 1
  have cPp_2 := Pp.out.cell 2
  have cPp_3 := Pp.out.cell 3
  have cPp_4 := Pp.out.cell 4
  have cPp_5 := Pp.out.cell 5
  have cM_0 := M.out.cell 0
  have cM_1 := M.out.cell 1
  have cM_2 := M.out.cell 2
  have cM_3 := M.out.cell 3
  have cM_4 := M.out.cell 4
  rw [hw105] at cPp_0 cPp_1 cPp_2 cPp_3 cPp_4 cPp_5 cM_0 cM_1 cM_2 cM_3 cM_4
  simp at cPp_0 cPp_1 cPp_2 cPp_3 cPp_4 cPp_5 cM_0 cM_1 cM_2 cM_3 cM_4
  go_wp2_with fail
  rw [← hw105]
  clear hw105 cPp_0 cPp_1 cPp_2 cPp_3 cPp_4 cPp_5 cM_0 cM_1 cM_2 cM_3 cM_4 dPp_0 dPp_1 dPp_2 dPp_3 dPp_4 dPp_5 dM_0 dM_1 dM_2 dM_3 dM_4 lPp lM
  obtain ⟨w106, hw106⟩ : ∃ w106, w106 = w105.alloc (.cells #[.int .i64 1, .int .i64 0, .int .u32 ol, .int .u32 0, .int .u64 tx, .string b] 26) := ⟨_, rfl⟩
  have Qq := Lib.hid (show Blk w106 w105.heap.size 26 #[.int .i64 1, .int .i64 0, .int .u32 ol, .int .u32 0, .int .u64 tx, .string b] by rw [hw106]; exact Blk.new _ _ _)
  replace M := Lib.hid (show Blk w106 _ _ _ by rw [hw106]; exact M.out.alloc _)
  replace Pp := Lib.hid (show Blk w106 _ _ _ by rw [hw106]; exact Pp.out.alloc _)
  replace Gg := Lib.hid (show Blk w106 _ _ _ by rw [hw106]; exact Gg.out.alloc _)
  replace HB := Lib.hid (show Below w.heap.size w w106 by rw [hw106]; exact HB.out.alloc HB.out.size _)
  rw [← hw106]
  clear hw106
  refine (HQ _).mono ?_
  rintro e w107 ⟨rfl, hb⟩
  replace HB := Lib.hid (HB.out.trans (hb.mono HB.out.size))
  replace M := Lib.hid (M.out.below hb M.out.lt)
  replace Pp := Lib.hid (Pp.out.below hb Pp.out.lt)
  replace Gg := Lib.hid (Gg.out.below hb Gg.out.lt)
  replace Qq := Lib.hid (Qq.out.below hb Qq.out.lt)
  clear hb
  clear HQ
  obtain ⟨w108, hw108⟩ : ∃ w108, w108 = w107.alloc (.cells #[.int .u64 0, .int .i64 0, .int .u32 0, .int .u32 0, .int .u32 0] 31) := ⟨_, rfl⟩
  have lPp := Pp.out.lt
  have dPp_0 := Pp.out.cell 0
  have dPp_1 := Pp.out.cell 1
  have dPp_2 := Pp.out.cell 2
  have dPp_3 := Pp.out.cell 3
  have dPp_4 := Pp.out.cell 4
  have dPp_5 := Pp.out.cell 5
  have lM := M.out.lt
  have dM_0 := M.out.cell 0
  have dM_1 := M.out.cell 1
  have dM_2 := M.out.cell 2
  have dM_3 := M.out.cell 3
  have dM_4 := M.out.cell 4
  simp at dPp_0 dPp_1 dPp_2 dPp_3 dPp_4 dPp_5 dM_0 dM_1 dM_2 dM_3 dM_4
  have Hh := Lib.hid (show Blk w108 w107.heap.size 31 #[.int .u64 0, .int .i64 0, .int .u32 0, .int .u32 0, .int .u32 0] by rw [hw108]; exact Blk.new _ _ _)
  replace M := Lib.hid (show Blk w108 _ _ _ by rw [hw108]; exact M.out.alloc _)
  replace Pp := Lib.hid (show Blk w108 _ _ _ by rw [hw108]; exact Pp.out.alloc _)
  replace Gg := Lib.hid (show Blk w108 _ _ _ by rw [hw108]; exact Gg.out.alloc _)
  replace Qq := Lib.hid (show Blk w108 _ _ _ by rw [hw108]; exact Qq.out.alloc _)
  replace HB := Lib.hid (show Below w.heap.size w w108 by rw [hw108]; exact HB.out.alloc HB.out.size _)
  have cPp_0 := Pp.out.cell 0
  have cPp_1 := Pp.out.cell 1
  have cPp_2 := Pp.out.cell 2
  have cPp_3 := Pp.out.cell 3
  have cPp_4 := Pp.out.cell 4
  have cPp_5 := Pp.out.cell 5
  have cM_0 := M.out.cell 0
  have cM_1 := M.out.cell 1
  have cM_2 := M.out.cell 2
  have cM_3 := M.out.cell 3
  have cM_4 := M.out.cell 4
  rw [hw108] at cPp_0 cPp_1 cPp_2 cPp_3 cPp_4 cPp_5 cM_0 cM_1 cM_2 cM_3 cM_4
  simp at cPp_0 cPp_1 cPp_2 cPp_3 cPp_4 cPp_5 cM_0 cM_1 cM_2 cM_3 cM_4
  go_wp2_with fail
  rw [← hw108]
  clear hw108 cPp_0 cPp_1 cPp_2 cPp_3 cPp_4 cPp_5 cM_0 cM_1 cM_2 cM_3 cM_4 dPp_0 dPp_1 dPp_2 dPp_3 dPp_4 dPp_5 dM_0 dM_1 dM_2 dM_3 dM_4 lPp lM
  have cPp_0 := Pp.out.cell 0
  have cPp_1 := Pp.out.cell 1
  have cPp_2 := Pp.out.cell 2
  have cPp_3 := Pp.out.cell 3
  have cPp_4 := Pp.out.cell 4
  have cPp_5 := Pp.out.cell 5
  have cM_0 := M.out.cell 0
  have cM_1 := M.out.cell 1
  have cM_2 := M.out.cell 2
  have cM_3 := M.out.cell 3
  have cM_4 := M.out.cell 4
  simp at cPp_0 cPp_1 cPp_2 cPp_3 cPp_4 cPp_5 cM_0 cM_1 cM_2 cM_3 cM_4
  replace M := Lib.hid M.out.drew
  replace Pp := Lib.hid Pp.out.drew
  replace Gg := Lib.hid Gg.out.drew
  replace Qq := Lib.hid Qq.out.drew
  replace Hh := Lib.hid Hh.out.drew
  replace HB := Lib.hid HB.out.drew
  go_region_held3 (fun w' => w'.cell? ⟨w.heap.size, 1, none⟩ = some (.int .i64 z)) (exact M.out.cell 1)
    (first
    | (go_at_call 16
       with_reducible refine (HT _).mono ?_
       rintro e wt ⟨rfl, rfl⟩))
  try go_wp2_with fail
  rw [← HNe.out]
  clear HT sl0 sl1 sl2 cat1 cPp_0 cPp_1 cPp_2 cPp_3 cPp_4 cPp_5 cM_0 cM_1 cM_2 cM_3 cM_4
  refine (HG1 _).mono ?_
  rintro e w109 ⟨rfl, hb⟩
  replace HB := Lib.hid (HB.out.trans (hb.mono HB.out.size))
  replace M := Lib.hid (M.out.below hb M.out.lt)
  replace Pp := Lib.hid (Pp.out.below hb Pp.out.lt)
  replace Gg := Lib.hid (Gg.out.below hb Gg.out.lt)
  replace Qq := Lib.hid (Qq.out.below hb Qq.out.lt)
  replace Hh := Lib.hid (Hh.out.below hb Hh.out.lt)
  clear hb
  clear HG1
  obtain ⟨w110, hw110⟩ : ∃ w110, w110 = w109.alloc (.cells #[.int .i64 0, .int .i64 0, .int .u32 0, .int .u32 0, .int .u64 0, .string ByteArray.empty] 26) := ⟨_, rfl⟩
  have lPp := Pp.out.lt
  have dPp_0 := Pp.out.cell 0
  have dPp_1 := Pp.out.cell 1
  have dPp_2 := Pp.out.cell 2
  have dPp_3 := Pp.out.cell 3
  have dPp_4 := Pp.out.cell 4
  have dPp_5 := Pp.out.cell 5
  have lM := M.out.lt
  have dM_0 := M.out.cell 0
  have dM_1 := M.out.cell 1
  have dM_2 := M.out.cell 2
  have dM_3 := M.out.cell 3
  have dM_4 := M.out.cell 4
  simp at dPp_0 dPp_1 dPp_2 dPp_3 dPp_4 dPp_5 dM_0 dM_1 dM_2 dM_3 dM_4
  have E1 := Lib.hid (show Blk w110 w109.heap.size 26 #[.int .i64 0, .int .i64 0, .int .u32 0, .int .u32 0, .int .u64 0, .string ByteArray.empty] by rw [hw110]; exact Blk.new _ _ _)
  replace M := Lib.hid (show Blk w110 _ _ _ by rw [hw110]; exact M.out.alloc _)
  replace Pp := Lib.hid (show Blk w110 _ _ _ by rw [hw110]; exact Pp.out.alloc _)
  replace Gg := Lib.hid (show Blk w110 _ _ _ by rw [hw110]; exact Gg.out.alloc _)
  replace Qq := Lib.hid (show Blk w110 _ _ _ by rw [hw110]; exact Qq.out.alloc _)
  replace Hh := Lib.hid (show Blk w110 _ _ _ by rw [hw110]; exact Hh.out.alloc _)
  replace HB := Lib.hid (show Below w.heap.size w w110 by rw [hw110]; exact HB.out.alloc HB.out.size _)
  have cPp_0 := Pp.out.cell 0
  have cPp_1 := Pp.out.cell 1
  have cPp_2 := Pp.out.cell 2
  have cPp_3 := Pp.out.cell 3
  have cPp_4 := Pp.out.cell 4
  have cPp_5 := Pp.out.cell 5
  have cM_0 := M.out.cell 0
  have cM_1 := M.out.cell 1
  have cM_2 := M.out.cell 2
  have cM_3 := M.out.cell 3
  have cM_4 := M.out.cell 4
  rw [hw110] at cPp_0 cPp_1 cPp_2 cPp_3 cPp_4 cPp_5 cM_0 cM_1 cM_2 cM_3 cM_4
  simp at cPp_0 cPp_1 cPp_2 cPp_3 cPp_4 cPp_5 cM_0 cM_1 cM_2 cM_3 cM_4
  go_wp2_with fail
  rw [← hw110]
  clear hw110 cPp_0 cPp_1 cPp_2 cPp_3 cPp_4 cPp_5 cM_0 cM_1 cM_2 cM_3 cM_4 dPp_0 dPp_1 dPp_2 dPp_3 dPp_4 dPp_5 dM_0 dM_1 dM_2 dM_3 dM_4 lPp lM
  refine (HG2 _).mono ?_
  rintro e w111 ⟨rfl, hb⟩
  replace HB := Lib.hid (HB.out.trans (hb.mono HB.out.size))
  replace M := Lib.hid (M.out.below hb M.out.lt)
  replace Pp := Lib.hid (Pp.out.below hb Pp.out.lt)
  replace Gg := Lib.hid (Gg.out.below hb Gg.out.lt)
  replace Qq := Lib.hid (Qq.out.below hb Qq.out.lt)
  replace Hh := Lib.hid (Hh.out.below hb Hh.out.lt)
  replace E1 := Lib.hid (E1.out.below hb E1.out.lt)
  clear hb
  clear HG2
  obtain ⟨w112, hw112⟩ : ∃ w112, w112 = w111.alloc (.cells #[.int .i64 d0, .int .i64 d1, .int .u32 d2, .int .u32 d3, .int .u64 d4, .string d5] 26) := ⟨_, rfl⟩
  have E2 := Lib.hid (show Blk w112 w111.heap.size 26 #[.int .i64 d0, .int .i64 d1, .int .u32 d2, .int .u32 d3, .int .u64 d4, .string d5] by rw [hw112]; exact Blk.new _ _ _)
  replace M := Lib.hid (show Blk w112 _ _ _ by rw [hw112]; exact M.out.alloc _)
  replace Pp := Lib.hid (show Blk w112 _ _ _ by rw [hw112]; exact Pp.out.alloc _)
  replace Gg := Lib.hid (show Blk w112 _ _ _ by rw [hw112]; exact Gg.out.alloc _)
  replace Qq := Lib.hid (show Blk w112 _ _ _ by rw [hw112]; exact Qq.out.alloc _)
  replace Hh := Lib.hid (show Blk w112 _ _ _ by rw [hw112]; exact Hh.out.alloc _)
  replace E1 := Lib.hid (show Blk w112 _ _ _ by rw [hw112]; exact E1.out.alloc _)
  replace HB := Lib.hid (show Below w.heap.size w w112 by rw [hw112]; exact HB.out.alloc HB.out.size _)
  go_wp2_with fail
  go_ret
  exact ⟨rfl, by rw [← hw112]; exact HB.out⟩
set_option maxRecDepth 100000 in
set_option maxHeartbeats 12800000 in
theorem msizes_w0 (tx : Nat) (z : Nat) (rt fr ps : Nat) (size : Int) (c : ByteArray) (w : World) (hm : mayM tx z rt fr ps = true) (hl : c.size ≤ 600) (sl ol : Nat) (hsl : sl = tx % 2) (hol : ol = 1 - sl) (Z N : ByteArray) (hZ : Z = reps ⟨#[0]⟩ z) (hN : N = (c ++ Z).extract 0 z) (hr1 : blockOk z ol N = false) (hr2 : blockOk z sl N = false) (hv : sl = 0) :
    Calls Try.prog 8 #[.agg #[.int .u64 tx, .int .i64 z, .int .u32 rt, .int .u32 fr, .int .u32 ps], .int .i64 size, .string c] w fun e w' => e = .returned (.bool true) ∧ Below w.heap.size w w' := by
  obtain ⟨b, hb⟩ : ∃ b, b = bodyM z rt fr ps := ⟨_, rfl⟩
  have hmg := mayM_good hm
  have hgp := good_pos hmg.2.1
  have hg := hmg.2.1
  have HP := fun w => mpage_yes tx z rt fr ps sl b w hm hb hsl
  have hd : decide ((600 : Int) < c.size) = false := by simp; omega
  have hd' : decide (600 < c.size) = false := by simp; omega
  obtain ⟨g0, g1, g2, g3, g4, x, bb, HO, hx1, hx2⟩ : ∃ (g0 : Nat) (g1 : Int) (g2 g3 g4 : Nat) (x : Int) (bb : Bool), (∀ w : World, Calls Try.prog 12 #[.int .i64 size, .agg #[.int .i64 1, .int .i64 0, .int .u32 sl, .int .u32 0, .int .u64 tx, .string b]] w fun e w' => e = .returned (.tuple #[.agg #[.int .u64 g0, .int .i64 g1, .int .u32 g2, .int .u32 g3, .int .u32 g4], .int .i64 x]) ∧ Below w.heap.size w w') ∧ (x == 0) = bb ∧ (size == (z : Int)) = bb := by
    by_cases hs : (z : Int) = size
    · exact ⟨tx, z, rt, fr, ps, 0, true, fun w => by have := of_page tx z rt fr ps sl b w hm hb hsl; rw [hs] at this; rw [hs]; exact this, by simp, by simp [hs]⟩
    · exact ⟨0, 0, 0, 0, 0, 4, false, fun w => of_page_no size tx z rt fr ps sl b w hm hb hsl hs, by decide, by simp; exact fun h => hs h.symm⟩
  have HQ : ∀ w : World, Calls Try.prog 12 #[.int .i64 z, .agg #[.int .i64 1, .int .i64 0, .int .u32 ol, .int .u32 0, .int .u64 tx, .string b]] w fun e w' => e = .returned (.tuple #[.agg #[.int .u64 0, .int .i64 0, .int .u32 0, .int .u32 0, .int .u32 0], .int .i64 4]) ∧ Below w.heap.size w w' := fun w => of_no z 1 0 ol 0 tx b w (by
    rw [Bool.eq_false_iff]
    intro h
    simp only [isM, Bool.and_eq_true, decide_eq_true_eq] at h
    have := h.2.2.2.2.1
    omega)
  have HT : ∀ w : World, Calls Try.prog 16 #[.string ⟨#[0]⟩, .int .i64 z] w fun e w' => e = .returned (.string Z) ∧ w' = w := fun w => by rw [hZ]; exact (times_any ⟨#[0]⟩ z w (by omega) (by decide)).mono fun _ _ ⟨h1, h2⟩ => ⟨h1, h2.symm⟩
  have hZs : Z.size = z := by rw [hZ]; exact reps_lit_size 0 z
  have hNs : N.size = z := by rw [hN, ByteArray.size_extract, ByteArray.size_append]; omega
  have hw1 : IntKind.u32.wrap (1 - (sl : Int)) = (ol : Int) := by rw [IntKind.wrap_u32]; omega
  have hw2 : (1 - (sl : Int)) % 4294967296 = (ol : Int) := by omega
  have cat1 : ¬ (9223372036854775807 < c.size + Z.size) := by omega
  have sl0 : (0 : Int) ≤ (z : Int) := by omega
  have sl1 : (z : Int) ≤ ((c ++ Z).size : Int) := by rw [ByteArray.size_append]; omega
  have sl2 : (z : Int) ≤ (c.size : Int) + (Z.size : Int) := by omega
  have HG1 := fun w => rget_wrong z ol N w hg hr1
  have HG2 := fun w => rget_wrong z sl N w hg hr2
  obtain ⟨B, hB⟩ : ∃ B, B = metaB tx z rt fr ps := ⟨_, rfl⟩
  have HBl := fun w => mblock_is tx z rt fr ps B w hm hB
  have hBs : B.size = z := by rw [hB]; exact metaB_size tx z rt fr ps (by omega)
  have hBn : ∀ n, ¬ n = sl → blockOk z n B = false := fun n hn => by
    rw [Bool.eq_false_iff]
    intro h
    simp only [blockOk, Bool.and_eq_true, decide_eq_true_eq] at h
    have h4 := h.2.2.2.1
    rw [hB, (metaB_parts tx z rt fr ps hm).2.2.2.1] at h4
    omega
  have cat2 : ¬ (9223372036854775807 < B.size + N.size) := by omega
  have cat3 : ¬ (9223372036854775807 < N.size + B.size) := by omega
  obtain ⟨i1, i2, i3⟩ := blk_two z B N hBs hNs
  obtain ⟨j1, j2, j3⟩ := blk_two z N B hNs hBs
  have hq1 : 0 < (B ++ N).size / z ∧ 1 < (B ++ N).size / z := by rw [i3, Nat.mul_div_cancel _ (by omega)]; omega
  have hq2 : 0 < (N ++ B).size / z ∧ 1 < (N ++ B).size / z := by rw [j3, Nat.mul_div_cancel _ (by omega)]; omega
  have hls1 : (B ++ N).size ≤ maxLen := by rw [i3]; unfold maxLen; omega
  have hls2 : (N ++ B).size ≤ maxLen := by rw [j3]; unfold maxLen; omega
  have HN1 := fun w => mnew_a z (B ++ N) tx z rt fr ps 0 0 0 0 0 w hg (metaAt_block z 0 (B ++ N) tx rt fr ps hm (by omega) hq1.1 (by rw [i1, hB])) (metaAt_bad z 1 (B ++ N) (by rw [i2, show (1 : Nat) = ol by omega]; exact hr1)) hls1
  have HN2 := fun w => mnew_none z (N ++ B) 0 0 0 0 0 0 0 0 0 0 w hg (metaAt_bad z 0 (N ++ B) (by rw [j1, show (0 : Nat) = sl by omega]; exact hr2)) (metaAt_bad z 1 (N ++ B) (by rw [j2]; exact hBn 1 (by omega))) hls2
  have hs1 : ((sl : Int) == 1) = false := by rw [hv]; rfl
  have hee := fun w => meta_same tx z rt fr ps w
  clear hBn hB i1 i2 i3 j1 j2 j3 hq1 hq2 hls1 hls2 hBs hv
  have HNe := Lib.hid hN
  clear hm hb hmg hgp hg hsl hol hZ hZs hNs hN hl hr1 hr2
  obtain ⟨w0, hw0⟩ : ∃ w0, w0 = w.alloc (.cells #[.int .u64 tx, .int .i64 z, .int .u32 rt, .int .u32 fr, .int .u32 ps] 31) := ⟨_, rfl⟩
  have M := Lib.hid (show Blk w0 w.heap.size 31 #[.int .u64 tx, .int .i64 z, .int .u32 rt, .int .u32 fr, .int .u32 ps] by rw [hw0]; exact Blk.new _ _ _)
  have HB := Lib.hid (show Below w.heap.size w w0 by rw [hw0]; exact (Below.refl _ _).alloc (Nat.le_refl _) _)
  go_enter Try.func8, Try.ntmps8
  go_wp2_with fail
  rw [← hw0]
  clear hw0
  refine (lives5_any _).mono ?_
  rintro e w101 ⟨rfl, hb⟩
  replace HB := Lib.hid (HB.out.trans (hb.mono HB.out.size))
  replace M := Lib.hid (M.out.below hb M.out.lt)
  clear hb
  have cM_0 := M.out.cell 0
  have cM_1 := M.out.cell 1
  have cM_2 := M.out.cell 2
  have cM_3 := M.out.cell 3
  have cM_4 := M.out.cell 4
  simp at cM_0 cM_1 cM_2 cM_3 cM_4
  go_wp2_with fail
  refine (HP _).mono ?_
  rintro e w102 ⟨rfl, hb⟩
  replace HB := Lib.hid (HB.out.trans (hb.mono HB.out.size))
  replace M := Lib.hid (M.out.below hb M.out.lt)
  clear hb
  clear HP cM_0 cM_1 cM_2 cM_3 cM_4
  obtain ⟨w103, hw103⟩ : ∃ w103, w103 = w102.alloc (.cells #[.int .i64 1, .int .i64 0, .int .u32 sl, .int .u32 0, .int .u64 tx, .string b] 26) := ⟨_, rfl⟩
  have Pp := Lib.hid (show Blk w103 w102.heap.size 26 #[.int .i64 1, .int .i64 0, .int .u32 sl, .int .u32 0, .int .u64 tx, .string b] by rw [hw103]; exact Blk.new _ _ _)
  replace M := Lib.hid (show Blk w103 _ _ _ by rw [hw103]; exact M.out.alloc _)
  replace HB := Lib.hid (show Below w.heap.size w w103 by rw [hw103]; exact HB.out.alloc HB.out.size _)
  have cPp_0 := Pp.out.cell 0
  have cPp_1 := Pp.out.cell 1
  have cPp_2 := Pp.out.cell 2
  have cPp_3 := Pp.out.cell 3
  have cPp_4 := Pp.out.cell 4
  have cPp_5 := Pp.out.cell 5
  have cM_0 := M.out.cell 0
  have cM_1 := M.out.cell 1
  have cM_2 := M.out.cell 2
  have cM_3 := M.out.cell 3
  have cM_4 := M.out.cell 4
  rw [hw103] at cPp_0 cPp_1 cPp_2 cPp_3 cPp_4 cPp_5 cM_0 cM_1 cM_2 cM_3 cM_4
  simp at cPp_0 cPp_1 cPp_2 cPp_3 cPp_4 cPp_5 cM_0 cM_1 cM_2 cM_3 cM_4
  go_wp2_with fail
  rw [← hw103]
  clear hw103 cPp_0 cPp_1 cPp_2 cPp_3 cPp_4 cPp_5 cM_0 cM_1 cM_2 cM_3 cM_4
  refine (HO _).mono ?_
  rintro e w104 ⟨rfl, hb⟩
  replace HB := Lib.hid (HB.out.trans (hb.mono HB.out.size))
  replace M := Lib.hid (M.out.below hb M.out.lt)
  replace Pp := Lib.hid (Pp.out.below hb Pp.out.lt)
  clear hb
  clear HO
  obtain ⟨w105, hw105⟩ : ∃ w105, w105 = w104.alloc (.cells #[.int .u64 g0, .int .i64 g1, .int .u32 g2, .int .u32 g3, .int .u32 g4] 31) := ⟨_, rfl⟩
  have lPp := Pp.out.lt
  have dPp_0 := Pp.out.cell 0
  have dPp_1 := Pp.out.cell 1
  have dPp_2 := Pp.out.cell 2
  have dPp_3 := Pp.out.cell 3
  have dPp_4 := Pp.out.cell 4
  have dPp_5 := Pp.out.cell 5
  have lM := M.out.lt
  have dM_0 := M.out.cell 0
  have dM_1 := M.out.cell 1
  have dM_2 := M.out.cell 2
  have dM_3 := M.out.cell 3
  have dM_4 := M.out.cell 4
  simp at dPp_0 dPp_1 dPp_2 dPp_3 dPp_4 dPp_5 dM_0 dM_1 dM_2 dM_3 dM_4
  have Gg := Lib.hid (show Blk w105 w104.heap.size 31 #[.int .u64 g0, .int .i64 g1, .int .u32 g2, .int .u32 g3, .int .u32 g4] by rw [hw105]; exact Blk.new _ _ _)
  replace M := Lib.hid (show Blk w105 _ _ _ by rw [hw105]; exact M.out.alloc _)
  replace Pp := Lib.hid (show Blk w105 _ _ _ by rw [hw105]; exact Pp.out.alloc _)
  replace HB := Lib.hid (show Below w.heap.size w w105 by rw [hw105]; exact HB.out.alloc HB.out.size _)
  have cPp_0 := Pp.out.cell 0
  have cPp_1 := Pp.out.cell 1
  have cPp_2 := Pp.out.cell 2
  have cPp_3 := Pp.out.cell 3
  have cPp_4 := Pp.out.cell 4
  have cPp_5 := Pp.out.cell 5
  have cM_0 := M.out.cell 0
  have cM_1 := M.out.cell 1
  have cM_2 := M.out.cell 2
  have cM_3 := M.out.cell 3
  have cM_4 := M.out.cell 4
  rw [hw105] at cPp_0 cPp_1 cPp_2 cPp_3 cPp_4 cPp_5 cM_0 cM_1 cM_2 cM_3 cM_4
  simp at cPp_0 cPp_1 cPp_2 cPp_3 cPp_4 cPp_5 cM_0 cM_1 cM_2 cM_3 cM_4
  go_wp2_with fail
  rw [← hw105]
  clear hw105 cPp_0 cPp_1 cPp_2 cPp_3 cPp_4 cPp_5 cM_0 cM_1 cM_2 cM_3 cM_4 dPp_0 dPp_1 dPp_2 dPp_3 dPp_4 dPp_5 dM_0 dM_1 dM_2 dM_3 dM_4 lPp lM
  obtain ⟨w106, hw106⟩ : ∃ w106, w106 = w105.alloc (.cells #[.int .i64 1, .int .i64 0, .int .u32 ol, .int .u32 0, .int .u64 tx, .string b] 26) := ⟨_, rfl⟩
  have Qq := Lib.hid (show Blk w106 w105.heap.size 26 #[.int .i64 1, .int .i64 0, .int .u32 ol, .int .u32 0, .int .u64 tx, .string b] by rw [hw106]; exact Blk.new _ _ _)
  replace M := Lib.hid (show Blk w106 _ _ _ by rw [hw106]; exact M.out.alloc _)
  replace Pp := Lib.hid (show Blk w106 _ _ _ by rw [hw106]; exact Pp.out.alloc _)
  replace Gg := Lib.hid (show Blk w106 _ _ _ by rw [hw106]; exact Gg.out.alloc _)
  replace HB := Lib.hid (show Below w.heap.size w w106 by rw [hw106]; exact HB.out.alloc HB.out.size _)
  rw [← hw106]
  clear hw106
  refine (HQ _).mono ?_
  rintro e w107 ⟨rfl, hb⟩
  replace HB := Lib.hid (HB.out.trans (hb.mono HB.out.size))
  replace M := Lib.hid (M.out.below hb M.out.lt)
  replace Pp := Lib.hid (Pp.out.below hb Pp.out.lt)
  replace Gg := Lib.hid (Gg.out.below hb Gg.out.lt)
  replace Qq := Lib.hid (Qq.out.below hb Qq.out.lt)
  clear hb
  clear HQ
  obtain ⟨w108, hw108⟩ : ∃ w108, w108 = w107.alloc (.cells #[.int .u64 0, .int .i64 0, .int .u32 0, .int .u32 0, .int .u32 0] 31) := ⟨_, rfl⟩
  have lPp := Pp.out.lt
  have dPp_0 := Pp.out.cell 0
  have dPp_1 := Pp.out.cell 1
  have dPp_2 := Pp.out.cell 2
  have dPp_3 := Pp.out.cell 3
  have dPp_4 := Pp.out.cell 4
  have dPp_5 := Pp.out.cell 5
  have lM := M.out.lt
  have dM_0 := M.out.cell 0
  have dM_1 := M.out.cell 1
  have dM_2 := M.out.cell 2
  have dM_3 := M.out.cell 3
  have dM_4 := M.out.cell 4
  simp at dPp_0 dPp_1 dPp_2 dPp_3 dPp_4 dPp_5 dM_0 dM_1 dM_2 dM_3 dM_4
  have Hh := Lib.hid (show Blk w108 w107.heap.size 31 #[.int .u64 0, .int .i64 0, .int .u32 0, .int .u32 0, .int .u32 0] by rw [hw108]; exact Blk.new _ _ _)
  replace M := Lib.hid (show Blk w108 _ _ _ by rw [hw108]; exact M.out.alloc _)
  replace Pp := Lib.hid (show Blk w108 _ _ _ by rw [hw108]; exact Pp.out.alloc _)
  replace Gg := Lib.hid (show Blk w108 _ _ _ by rw [hw108]; exact Gg.out.alloc _)
  replace Qq := Lib.hid (show Blk w108 _ _ _ by rw [hw108]; exact Qq.out.alloc _)
  replace HB := Lib.hid (show Below w.heap.size w w108 by rw [hw108]; exact HB.out.alloc HB.out.size _)
  have cPp_0 := Pp.out.cell 0
  have cPp_1 := Pp.out.cell 1
  have cPp_2 := Pp.out.cell 2
  have cPp_3 := Pp.out.cell 3
  have cPp_4 := Pp.out.cell 4
  have cPp_5 := Pp.out.cell 5
  have cM_0 := M.out.cell 0
  have cM_1 := M.out.cell 1
  have cM_2 := M.out.cell 2
  have cM_3 := M.out.cell 3
  have cM_4 := M.out.cell 4
  rw [hw108] at cPp_0 cPp_1 cPp_2 cPp_3 cPp_4 cPp_5 cM_0 cM_1 cM_2 cM_3 cM_4
  simp at cPp_0 cPp_1 cPp_2 cPp_3 cPp_4 cPp_5 cM_0 cM_1 cM_2 cM_3 cM_4
  go_wp2_with fail
  rw [← hw108]
  clear hw108 cPp_0 cPp_1 cPp_2 cPp_3 cPp_4 cPp_5 cM_0 cM_1 cM_2 cM_3 cM_4 dPp_0 dPp_1 dPp_2 dPp_3 dPp_4 dPp_5 dM_0 dM_1 dM_2 dM_3 dM_4 lPp lM
  have cPp_0 := Pp.out.cell 0
  have cPp_1 := Pp.out.cell 1
  have cPp_2 := Pp.out.cell 2
  have cPp_3 := Pp.out.cell 3
  have cPp_4 := Pp.out.cell 4
  have cPp_5 := Pp.out.cell 5
  have cM_0 := M.out.cell 0
  have cM_1 := M.out.cell 1
  have cM_2 := M.out.cell 2
  have cM_3 := M.out.cell 3
  have cM_4 := M.out.cell 4
  simp at cPp_0 cPp_1 cPp_2 cPp_3 cPp_4 cPp_5 cM_0 cM_1 cM_2 cM_3 cM_4
  replace M := Lib.hid M.out.drew
  replace Pp := Lib.hid Pp.out.drew
  replace Gg := Lib.hid Gg.out.drew
  replace Qq := Lib.hid Qq.out.drew
  replace Hh := Lib.hid Hh.out.drew
  replace HB := Lib.hid HB.out.drew
  go_region_held3 (fun w' => w'.cell? ⟨w.heap.size, 1, none⟩ = some (.int .i64 z)) (exact M.out.cell 1)
    (first
    | (go_at_call 16
       with_reducible refine (HT _).mono ?_
       rintro e wt ⟨rfl, rfl⟩))
  try go_wp2_with fail
  rw [← HNe.out]
  clear HT sl0 sl1 sl2 cat1 cPp_0 cPp_1 cPp_2 cPp_3 cPp_4 cPp_5 cM_0 cM_1 cM_2 cM_3 cM_4
  refine (HG1 _).mono ?_
  rintro e w109 ⟨rfl, hb⟩
  replace HB := Lib.hid (HB.out.trans (hb.mono HB.out.size))
  replace M := Lib.hid (M.out.below hb M.out.lt)
  replace Pp := Lib.hid (Pp.out.below hb Pp.out.lt)
  replace Gg := Lib.hid (Gg.out.below hb Gg.out.lt)
  replace Qq := Lib.hid (Qq.out.below hb Qq.out.lt)
  replace Hh := Lib.hid (Hh.out.below hb Hh.out.lt)
  clear hb
  clear HG1
  obtain ⟨w110, hw110⟩ : ∃ w110, w110 = w109.alloc (.cells #[.int .i64 0, .int .i64 0, .int .u32 0, .int .u32 0, .int .u64 0, .string ByteArray.empty] 26) := ⟨_, rfl⟩
  have lPp := Pp.out.lt
  have dPp_0 := Pp.out.cell 0
  have dPp_1 := Pp.out.cell 1
  have dPp_2 := Pp.out.cell 2
  have dPp_3 := Pp.out.cell 3
  have dPp_4 := Pp.out.cell 4
  have dPp_5 := Pp.out.cell 5
  have lM := M.out.lt
  have dM_0 := M.out.cell 0
  have dM_1 := M.out.cell 1
  have dM_2 := M.out.cell 2
  have dM_3 := M.out.cell 3
  have dM_4 := M.out.cell 4
  simp at dPp_0 dPp_1 dPp_2 dPp_3 dPp_4 dPp_5 dM_0 dM_1 dM_2 dM_3 dM_4
  have E1 := Lib.hid (show Blk w110 w109.heap.size 26 #[.int .i64 0, .int .i64 0, .int .u32 0, .int .u32 0, .int .u64 0, .string ByteArray.empty] by rw [hw110]; exact Blk.new _ _ _)
  replace M := Lib.hid (show Blk w110 _ _ _ by rw [hw110]; exact M.out.alloc _)
  replace Pp := Lib.hid (show Blk w110 _ _ _ by rw [hw110]; exact Pp.out.alloc _)
  replace Gg := Lib.hid (show Blk w110 _ _ _ by rw [hw110]; exact Gg.out.alloc _)
  replace Qq := Lib.hid (show Blk w110 _ _ _ by rw [hw110]; exact Qq.out.alloc _)
  replace Hh := Lib.hid (show Blk w110 _ _ _ by rw [hw110]; exact Hh.out.alloc _)
  replace HB := Lib.hid (show Below w.heap.size w w110 by rw [hw110]; exact HB.out.alloc HB.out.size _)
  have cPp_0 := Pp.out.cell 0
  have cPp_1 := Pp.out.cell 1
  have cPp_2 := Pp.out.cell 2
  have cPp_3 := Pp.out.cell 3
  have cPp_4 := Pp.out.cell 4
  have cPp_5 := Pp.out.cell 5
  have cM_0 := M.out.cell 0
  have cM_1 := M.out.cell 1
  have cM_2 := M.out.cell 2
  have cM_3 := M.out.cell 3
  have cM_4 := M.out.cell 4
  rw [hw110] at cPp_0 cPp_1 cPp_2 cPp_3 cPp_4 cPp_5 cM_0 cM_1 cM_2 cM_3 cM_4
  simp at cPp_0 cPp_1 cPp_2 cPp_3 cPp_4 cPp_5 cM_0 cM_1 cM_2 cM_3 cM_4
  go_wp2_with fail
  rw [← hw110]
  clear hw110 cPp_0 cPp_1 cPp_2 cPp_3 cPp_4 cPp_5 cM_0 cM_1 cM_2 cM_3 cM_4 dPp_0 dPp_1 dPp_2 dPp_3 dPp_4 dPp_5 dM_0 dM_1 dM_2 dM_3 dM_4 lPp lM
  refine (HG2 _).mono ?_
  rintro e w111 ⟨rfl, hb⟩
  replace HB := Lib.hid (HB.out.trans (hb.mono HB.out.size))
  replace M := Lib.hid (M.out.below hb M.out.lt)
  replace Pp := Lib.hid (Pp.out.below hb Pp.out.lt)
  replace Gg := Lib.hid (Gg.out.below hb Gg.out.lt)
  replace Qq := Lib.hid (Qq.out.below hb Qq.out.lt)
  replace Hh := Lib.hid (Hh.out.below hb Hh.out.lt)
  replace E1 := Lib.hid (E1.out.below hb E1.out.lt)
  clear hb
  clear HG2
  obtain ⟨w112, hw112⟩ : ∃ w112, w112 = w111.alloc (.cells #[.int .i64 0, .int .i64 0, .int .u32 0, .int .u32 0, .int .u64 0, .string ByteArray.empty] 26) := ⟨_, rfl⟩
  have lPp := Pp.out.lt
  have dPp_0 := Pp.out.cell 0
  have dPp_1 := Pp.out.cell 1
  have dPp_2 := Pp.out.cell 2
  have dPp_3 := Pp.out.cell 3
  have dPp_4 := Pp.out.cell 4
  have dPp_5 := Pp.out.cell 5
  have lM := M.out.lt
  have dM_0 := M.out.cell 0
  have dM_1 := M.out.cell 1
  have dM_2 := M.out.cell 2
  have dM_3 := M.out.cell 3
  have dM_4 := M.out.cell 4
  simp at dPp_0 dPp_1 dPp_2 dPp_3 dPp_4 dPp_5 dM_0 dM_1 dM_2 dM_3 dM_4
  have E2 := Lib.hid (show Blk w112 w111.heap.size 26 #[.int .i64 0, .int .i64 0, .int .u32 0, .int .u32 0, .int .u64 0, .string ByteArray.empty] by rw [hw112]; exact Blk.new _ _ _)
  replace M := Lib.hid (show Blk w112 _ _ _ by rw [hw112]; exact M.out.alloc _)
  replace Pp := Lib.hid (show Blk w112 _ _ _ by rw [hw112]; exact Pp.out.alloc _)
  replace Gg := Lib.hid (show Blk w112 _ _ _ by rw [hw112]; exact Gg.out.alloc _)
  replace Qq := Lib.hid (show Blk w112 _ _ _ by rw [hw112]; exact Qq.out.alloc _)
  replace Hh := Lib.hid (show Blk w112 _ _ _ by rw [hw112]; exact Hh.out.alloc _)
  replace E1 := Lib.hid (show Blk w112 _ _ _ by rw [hw112]; exact E1.out.alloc _)
  replace HB := Lib.hid (show Below w.heap.size w w112 by rw [hw112]; exact HB.out.alloc HB.out.size _)
  have cPp_0 := Pp.out.cell 0
  have cPp_1 := Pp.out.cell 1
  have cPp_2 := Pp.out.cell 2
  have cPp_3 := Pp.out.cell 3
  have cPp_4 := Pp.out.cell 4
  have cPp_5 := Pp.out.cell 5
  have cM_0 := M.out.cell 0
  have cM_1 := M.out.cell 1
  have cM_2 := M.out.cell 2
  have cM_3 := M.out.cell 3
  have cM_4 := M.out.cell 4
  rw [hw112] at cPp_0 cPp_1 cPp_2 cPp_3 cPp_4 cPp_5 cM_0 cM_1 cM_2 cM_3 cM_4
  simp at cPp_0 cPp_1 cPp_2 cPp_3 cPp_4 cPp_5 cM_0 cM_1 cM_2 cM_3 cM_4
  go_wp2_with fail
  rw [← hw112]
  clear hw112 cPp_0 cPp_1 cPp_2 cPp_3 cPp_4 cPp_5 cM_0 cM_1 cM_2 cM_3 cM_4 dPp_0 dPp_1 dPp_2 dPp_3 dPp_4 dPp_5 dM_0 dM_1 dM_2 dM_3 dM_4 lPp lM
  refine (HBl _).mono ?_
  rintro e w113 ⟨rfl, hb⟩
  replace HB := Lib.hid (HB.out.trans (hb.mono HB.out.size))
  replace M := Lib.hid (M.out.below hb M.out.lt)
  replace Pp := Lib.hid (Pp.out.below hb Pp.out.lt)
  replace Gg := Lib.hid (Gg.out.below hb Gg.out.lt)
  replace Qq := Lib.hid (Qq.out.below hb Qq.out.lt)
  replace Hh := Lib.hid (Hh.out.below hb Hh.out.lt)
  replace E1 := Lib.hid (E1.out.below hb E1.out.lt)
  replace E2 := Lib.hid (E2.out.below hb E2.out.lt)
  clear hb
  have cPp_0 := Pp.out.cell 0
  have cPp_1 := Pp.out.cell 1
  have cPp_2 := Pp.out.cell 2
  have cPp_3 := Pp.out.cell 3
  have cPp_4 := Pp.out.cell 4
  have cPp_5 := Pp.out.cell 5
  have cM_0 := M.out.cell 0
  have cM_1 := M.out.cell 1
  have cM_2 := M.out.cell 2
  have cM_3 := M.out.cell 3
  have cM_4 := M.out.cell 4
  simp at cPp_0 cPp_1 cPp_2 cPp_3 cPp_4 cPp_5 cM_0 cM_1 cM_2 cM_3 cM_4
  go_wp2_with fail
  clear cPp_0 cPp_1 cPp_2 cPp_3 cPp_4 cPp_5 cM_0 cM_1 cM_2 cM_3 cM_4
  refine (HN1 _).mono ?_
  rintro e w114 ⟨rfl, hb⟩
  replace HB := Lib.hid (HB.out.trans (hb.mono HB.out.size))
  replace M := Lib.hid (M.out.below hb M.out.lt)
  replace Pp := Lib.hid (Pp.out.below hb Pp.out.lt)
  replace Gg := Lib.hid (Gg.out.below hb Gg.out.lt)
  replace Qq := Lib.hid (Qq.out.below hb Qq.out.lt)
  replace Hh := Lib.hid (Hh.out.below hb Hh.out.lt)
  replace E1 := Lib.hid (E1.out.below hb E1.out.lt)
  replace E2 := Lib.hid (E2.out.below hb E2.out.lt)
  clear hb
  clear HN1
  obtain ⟨w115, hw115⟩ : ∃ w115, w115 = w114.alloc (.cells #[.int .u64 tx, .int .i64 z, .int .u32 rt, .int .u32 fr, .int .u32 ps] 31) := ⟨_, rfl⟩
  have lPp := Pp.out.lt
  have dPp_0 := Pp.out.cell 0
  have dPp_1 := Pp.out.cell 1
  have dPp_2 := Pp.out.cell 2
  have dPp_3 := Pp.out.cell 3
  have dPp_4 := Pp.out.cell 4
  have dPp_5 := Pp.out.cell 5
  have lM := M.out.lt
  have dM_0 := M.out.cell 0
  have dM_1 := M.out.cell 1
  have dM_2 := M.out.cell 2
  have dM_3 := M.out.cell 3
  have dM_4 := M.out.cell 4
  simp at dPp_0 dPp_1 dPp_2 dPp_3 dPp_4 dPp_5 dM_0 dM_1 dM_2 dM_3 dM_4
  have N1 := Lib.hid (show Blk w115 w114.heap.size 31 #[.int .u64 tx, .int .i64 z, .int .u32 rt, .int .u32 fr, .int .u32 ps] by rw [hw115]; exact Blk.new _ _ _)
  replace M := Lib.hid (show Blk w115 _ _ _ by rw [hw115]; exact M.out.alloc _)
  replace Pp := Lib.hid (show Blk w115 _ _ _ by rw [hw115]; exact Pp.out.alloc _)
  replace Gg := Lib.hid (show Blk w115 _ _ _ by rw [hw115]; exact Gg.out.alloc _)
  replace Qq := Lib.hid (show Blk w115 _ _ _ by rw [hw115]; exact Qq.out.alloc _)
  replace Hh := Lib.hid (show Blk w115 _ _ _ by rw [hw115]; exact Hh.out.alloc _)
  replace E1 := Lib.hid (show Blk w115 _ _ _ by rw [hw115]; exact E1.out.alloc _)
  replace E2 := Lib.hid (show Blk w115 _ _ _ by rw [hw115]; exact E2.out.alloc _)
  replace HB := Lib.hid (show Below w.heap.size w w115 by rw [hw115]; exact HB.out.alloc HB.out.size _)
  have cPp_0 := Pp.out.cell 0
  have cPp_1 := Pp.out.cell 1
  have cPp_2 := Pp.out.cell 2
  have cPp_3 := Pp.out.cell 3
  have cPp_4 := Pp.out.cell 4
  have cPp_5 := Pp.out.cell 5
  have cM_0 := M.out.cell 0
  have cM_1 := M.out.cell 1
  have cM_2 := M.out.cell 2
  have cM_3 := M.out.cell 3
  have cM_4 := M.out.cell 4
  rw [hw115] at cPp_0 cPp_1 cPp_2 cPp_3 cPp_4 cPp_5 cM_0 cM_1 cM_2 cM_3 cM_4
  simp at cPp_0 cPp_1 cPp_2 cPp_3 cPp_4 cPp_5 cM_0 cM_1 cM_2 cM_3 cM_4
  go_wp2_with fail
  rw [← hw115]
  clear hw115 cPp_0 cPp_1 cPp_2 cPp_3 cPp_4 cPp_5 cM_0 cM_1 cM_2 cM_3 cM_4 dPp_0 dPp_1 dPp_2 dPp_3 dPp_4 dPp_5 dM_0 dM_1 dM_2 dM_3 dM_4 lPp lM
  refine (HBl _).mono ?_
  rintro e w116 ⟨rfl, hb⟩
  replace HB := Lib.hid (HB.out.trans (hb.mono HB.out.size))
  replace M := Lib.hid (M.out.below hb M.out.lt)
  replace Pp := Lib.hid (Pp.out.below hb Pp.out.lt)
  replace Gg := Lib.hid (Gg.out.below hb Gg.out.lt)
  replace Qq := Lib.hid (Qq.out.below hb Qq.out.lt)
  replace Hh := Lib.hid (Hh.out.below hb Hh.out.lt)
  replace E1 := Lib.hid (E1.out.below hb E1.out.lt)
  replace E2 := Lib.hid (E2.out.below hb E2.out.lt)
  replace N1 := Lib.hid (N1.out.below hb N1.out.lt)
  clear hb
  have cPp_0 := Pp.out.cell 0
  have cPp_1 := Pp.out.cell 1
  have cPp_2 := Pp.out.cell 2
  have cPp_3 := Pp.out.cell 3
  have cPp_4 := Pp.out.cell 4
  have cPp_5 := Pp.out.cell 5
  have cM_0 := M.out.cell 0
  have cM_1 := M.out.cell 1
  have cM_2 := M.out.cell 2
  have cM_3 := M.out.cell 3
  have cM_4 := M.out.cell 4
  simp at cPp_0 cPp_1 cPp_2 cPp_3 cPp_4 cPp_5 cM_0 cM_1 cM_2 cM_3 cM_4
  go_wp2_with fail
  clear cPp_0 cPp_1 cPp_2 cPp_3 cPp_4 cPp_5 cM_0 cM_1 cM_2 cM_3 cM_4
  refine (HN2 _).mono ?_
  rintro e w117 ⟨rfl, hb⟩
  replace HB := Lib.hid (HB.out.trans (hb.mono HB.out.size))
  replace M := Lib.hid (M.out.below hb M.out.lt)
  replace Pp := Lib.hid (Pp.out.below hb Pp.out.lt)
  replace Gg := Lib.hid (Gg.out.below hb Gg.out.lt)
  replace Qq := Lib.hid (Qq.out.below hb Qq.out.lt)
  replace Hh := Lib.hid (Hh.out.below hb Hh.out.lt)
  replace E1 := Lib.hid (E1.out.below hb E1.out.lt)
  replace E2 := Lib.hid (E2.out.below hb E2.out.lt)
  replace N1 := Lib.hid (N1.out.below hb N1.out.lt)
  clear hb
  clear HN2
  obtain ⟨w118, hw118⟩ : ∃ w118, w118 = w117.alloc (.cells #[.int .u64 0, .int .i64 0, .int .u32 0, .int .u32 0, .int .u32 0] 31) := ⟨_, rfl⟩
  have lN1 := N1.out.lt
  have dN1_0 := N1.out.cell 0
  have dN1_1 := N1.out.cell 1
  have dN1_2 := N1.out.cell 2
  have dN1_3 := N1.out.cell 3
  have dN1_4 := N1.out.cell 4
  have lM := M.out.lt
  have dM_0 := M.out.cell 0
  have dM_1 := M.out.cell 1
  have dM_2 := M.out.cell 2
  have dM_3 := M.out.cell 3
  have dM_4 := M.out.cell 4
  simp at dN1_0 dN1_1 dN1_2 dN1_3 dN1_4 dM_0 dM_1 dM_2 dM_3 dM_4
  have N2 := Lib.hid (show Blk w118 w117.heap.size 31 #[.int .u64 0, .int .i64 0, .int .u32 0, .int .u32 0, .int .u32 0] by rw [hw118]; exact Blk.new _ _ _)
  replace M := Lib.hid (show Blk w118 _ _ _ by rw [hw118]; exact M.out.alloc _)
  replace Pp := Lib.hid (show Blk w118 _ _ _ by rw [hw118]; exact Pp.out.alloc _)
  replace Gg := Lib.hid (show Blk w118 _ _ _ by rw [hw118]; exact Gg.out.alloc _)
  replace Qq := Lib.hid (show Blk w118 _ _ _ by rw [hw118]; exact Qq.out.alloc _)
  replace Hh := Lib.hid (show Blk w118 _ _ _ by rw [hw118]; exact Hh.out.alloc _)
  replace E1 := Lib.hid (show Blk w118 _ _ _ by rw [hw118]; exact E1.out.alloc _)
  replace E2 := Lib.hid (show Blk w118 _ _ _ by rw [hw118]; exact E2.out.alloc _)
  replace N1 := Lib.hid (show Blk w118 _ _ _ by rw [hw118]; exact N1.out.alloc _)
  replace HB := Lib.hid (show Below w.heap.size w w118 by rw [hw118]; exact HB.out.alloc HB.out.size _)
  have cN1_0 := N1.out.cell 0
  have cN1_1 := N1.out.cell 1
  have cN1_2 := N1.out.cell 2
  have cN1_3 := N1.out.cell 3
  have cN1_4 := N1.out.cell 4
  have cM_0 := M.out.cell 0
  have cM_1 := M.out.cell 1
  have cM_2 := M.out.cell 2
  have cM_3 := M.out.cell 3
  have cM_4 := M.out.cell 4
  rw [hw118] at cN1_0 cN1_1 cN1_2 cN1_3 cN1_4 cM_0 cM_1 cM_2 cM_3 cM_4
  simp at cN1_0 cN1_1 cN1_2 cN1_3 cN1_4 cM_0 cM_1 cM_2 cM_3 cM_4
  go_wp2_with fail
  go_ret
  exact ⟨rfl, by rw [← hw118]; exact HB.out⟩
set_option maxRecDepth 100000 in
set_option maxHeartbeats 12800000 in
theorem msizes_w1 (tx : Nat) (z : Nat) (rt fr ps : Nat) (size : Int) (c : ByteArray) (w : World) (hm : mayM tx z rt fr ps = true) (hl : c.size ≤ 600) (sl ol : Nat) (hsl : sl = tx % 2) (hol : ol = 1 - sl) (Z N : ByteArray) (hZ : Z = reps ⟨#[0]⟩ z) (hN : N = (c ++ Z).extract 0 z) (hr1 : blockOk z ol N = false) (hr2 : blockOk z sl N = false) (hv : sl = 1) :
    Calls Try.prog 8 #[.agg #[.int .u64 tx, .int .i64 z, .int .u32 rt, .int .u32 fr, .int .u32 ps], .int .i64 size, .string c] w fun e w' => e = .returned (.bool true) ∧ Below w.heap.size w w' := by
  obtain ⟨b, hb⟩ : ∃ b, b = bodyM z rt fr ps := ⟨_, rfl⟩
  have hmg := mayM_good hm
  have hgp := good_pos hmg.2.1
  have hg := hmg.2.1
  have HP := fun w => mpage_yes tx z rt fr ps sl b w hm hb hsl
  have hd : decide ((600 : Int) < c.size) = false := by simp; omega
  have hd' : decide (600 < c.size) = false := by simp; omega
  obtain ⟨g0, g1, g2, g3, g4, x, bb, HO, hx1, hx2⟩ : ∃ (g0 : Nat) (g1 : Int) (g2 g3 g4 : Nat) (x : Int) (bb : Bool), (∀ w : World, Calls Try.prog 12 #[.int .i64 size, .agg #[.int .i64 1, .int .i64 0, .int .u32 sl, .int .u32 0, .int .u64 tx, .string b]] w fun e w' => e = .returned (.tuple #[.agg #[.int .u64 g0, .int .i64 g1, .int .u32 g2, .int .u32 g3, .int .u32 g4], .int .i64 x]) ∧ Below w.heap.size w w') ∧ (x == 0) = bb ∧ (size == (z : Int)) = bb := by
    by_cases hs : (z : Int) = size
    · exact ⟨tx, z, rt, fr, ps, 0, true, fun w => by have := of_page tx z rt fr ps sl b w hm hb hsl; rw [hs] at this; rw [hs]; exact this, by simp, by simp [hs]⟩
    · exact ⟨0, 0, 0, 0, 0, 4, false, fun w => of_page_no size tx z rt fr ps sl b w hm hb hsl hs, by decide, by simp; exact fun h => hs h.symm⟩
  have HQ : ∀ w : World, Calls Try.prog 12 #[.int .i64 z, .agg #[.int .i64 1, .int .i64 0, .int .u32 ol, .int .u32 0, .int .u64 tx, .string b]] w fun e w' => e = .returned (.tuple #[.agg #[.int .u64 0, .int .i64 0, .int .u32 0, .int .u32 0, .int .u32 0], .int .i64 4]) ∧ Below w.heap.size w w' := fun w => of_no z 1 0 ol 0 tx b w (by
    rw [Bool.eq_false_iff]
    intro h
    simp only [isM, Bool.and_eq_true, decide_eq_true_eq] at h
    have := h.2.2.2.2.1
    omega)
  have HT : ∀ w : World, Calls Try.prog 16 #[.string ⟨#[0]⟩, .int .i64 z] w fun e w' => e = .returned (.string Z) ∧ w' = w := fun w => by rw [hZ]; exact (times_any ⟨#[0]⟩ z w (by omega) (by decide)).mono fun _ _ ⟨h1, h2⟩ => ⟨h1, h2.symm⟩
  have hZs : Z.size = z := by rw [hZ]; exact reps_lit_size 0 z
  have hNs : N.size = z := by rw [hN, ByteArray.size_extract, ByteArray.size_append]; omega
  have hw1 : IntKind.u32.wrap (1 - (sl : Int)) = (ol : Int) := by rw [IntKind.wrap_u32]; omega
  have hw2 : (1 - (sl : Int)) % 4294967296 = (ol : Int) := by omega
  have cat1 : ¬ (9223372036854775807 < c.size + Z.size) := by omega
  have sl0 : (0 : Int) ≤ (z : Int) := by omega
  have sl1 : (z : Int) ≤ ((c ++ Z).size : Int) := by rw [ByteArray.size_append]; omega
  have sl2 : (z : Int) ≤ (c.size : Int) + (Z.size : Int) := by omega
  have HG1 := fun w => rget_wrong z ol N w hg hr1
  have HG2 := fun w => rget_wrong z sl N w hg hr2
  obtain ⟨B, hB⟩ : ∃ B, B = metaB tx z rt fr ps := ⟨_, rfl⟩
  have HBl := fun w => mblock_is tx z rt fr ps B w hm hB
  have hBs : B.size = z := by rw [hB]; exact metaB_size tx z rt fr ps (by omega)
  have hBn : ∀ n, ¬ n = sl → blockOk z n B = false := fun n hn => by
    rw [Bool.eq_false_iff]
    intro h
    simp only [blockOk, Bool.and_eq_true, decide_eq_true_eq] at h
    have h4 := h.2.2.2.1
    rw [hB, (metaB_parts tx z rt fr ps hm).2.2.2.1] at h4
    omega
  have cat2 : ¬ (9223372036854775807 < B.size + N.size) := by omega
  have cat3 : ¬ (9223372036854775807 < N.size + B.size) := by omega
  obtain ⟨i1, i2, i3⟩ := blk_two z B N hBs hNs
  obtain ⟨j1, j2, j3⟩ := blk_two z N B hNs hBs
  have hq1 : 0 < (B ++ N).size / z ∧ 1 < (B ++ N).size / z := by rw [i3, Nat.mul_div_cancel _ (by omega)]; omega
  have hq2 : 0 < (N ++ B).size / z ∧ 1 < (N ++ B).size / z := by rw [j3, Nat.mul_div_cancel _ (by omega)]; omega
  have hls1 : (B ++ N).size ≤ maxLen := by rw [i3]; unfold maxLen; omega
  have hls2 : (N ++ B).size ≤ maxLen := by rw [j3]; unfold maxLen; omega
  have HN1 := fun w => mnew_b z (N ++ B) 0 0 0 0 0 tx z rt fr ps w hg (metaAt_bad z 0 (N ++ B) (by rw [j1, show (0 : Nat) = ol by omega]; exact hr1)) (metaAt_block z 1 (N ++ B) tx rt fr ps hm (by omega) hq2.2 (by rw [j2, hB])) hls2
  have HN2 := fun w => mnew_none z (B ++ N) 0 0 0 0 0 0 0 0 0 0 w hg (metaAt_bad z 0 (B ++ N) (by rw [i1]; exact hBn 0 (by omega))) (metaAt_bad z 1 (B ++ N) (by rw [i2, show (1 : Nat) = sl by omega]; exact hr2)) hls1
  have hs1 : ((sl : Int) == 1) = true := by rw [hv]; rfl
  have hee := fun w => meta_same tx z rt fr ps w
  clear hBn hB i1 i2 i3 j1 j2 j3 hq1 hq2 hls1 hls2 hBs hv
  have HNe := Lib.hid hN
  clear hm hb hmg hgp hg hsl hol hZ hZs hNs hN hl hr1 hr2
  obtain ⟨w0, hw0⟩ : ∃ w0, w0 = w.alloc (.cells #[.int .u64 tx, .int .i64 z, .int .u32 rt, .int .u32 fr, .int .u32 ps] 31) := ⟨_, rfl⟩
  have M := Lib.hid (show Blk w0 w.heap.size 31 #[.int .u64 tx, .int .i64 z, .int .u32 rt, .int .u32 fr, .int .u32 ps] by rw [hw0]; exact Blk.new _ _ _)
  have HB := Lib.hid (show Below w.heap.size w w0 by rw [hw0]; exact (Below.refl _ _).alloc (Nat.le_refl _) _)
  go_enter Try.func8, Try.ntmps8
  go_wp2_with fail
  rw [← hw0]
  clear hw0
  refine (lives5_any _).mono ?_
  rintro e w101 ⟨rfl, hb⟩
  replace HB := Lib.hid (HB.out.trans (hb.mono HB.out.size))
  replace M := Lib.hid (M.out.below hb M.out.lt)
  clear hb
  have cM_0 := M.out.cell 0
  have cM_1 := M.out.cell 1
  have cM_2 := M.out.cell 2
  have cM_3 := M.out.cell 3
  have cM_4 := M.out.cell 4
  simp at cM_0 cM_1 cM_2 cM_3 cM_4
  go_wp2_with fail
  refine (HP _).mono ?_
  rintro e w102 ⟨rfl, hb⟩
  replace HB := Lib.hid (HB.out.trans (hb.mono HB.out.size))
  replace M := Lib.hid (M.out.below hb M.out.lt)
  clear hb
  clear HP cM_0 cM_1 cM_2 cM_3 cM_4
  obtain ⟨w103, hw103⟩ : ∃ w103, w103 = w102.alloc (.cells #[.int .i64 1, .int .i64 0, .int .u32 sl, .int .u32 0, .int .u64 tx, .string b] 26) := ⟨_, rfl⟩
  have Pp := Lib.hid (show Blk w103 w102.heap.size 26 #[.int .i64 1, .int .i64 0, .int .u32 sl, .int .u32 0, .int .u64 tx, .string b] by rw [hw103]; exact Blk.new _ _ _)
  replace M := Lib.hid (show Blk w103 _ _ _ by rw [hw103]; exact M.out.alloc _)
  replace HB := Lib.hid (show Below w.heap.size w w103 by rw [hw103]; exact HB.out.alloc HB.out.size _)
  have cPp_0 := Pp.out.cell 0
  have cPp_1 := Pp.out.cell 1
  have cPp_2 := Pp.out.cell 2
  have cPp_3 := Pp.out.cell 3
  have cPp_4 := Pp.out.cell 4
  have cPp_5 := Pp.out.cell 5
  have cM_0 := M.out.cell 0
  have cM_1 := M.out.cell 1
  have cM_2 := M.out.cell 2
  have cM_3 := M.out.cell 3
  have cM_4 := M.out.cell 4
  rw [hw103] at cPp_0 cPp_1 cPp_2 cPp_3 cPp_4 cPp_5 cM_0 cM_1 cM_2 cM_3 cM_4
  simp at cPp_0 cPp_1 cPp_2 cPp_3 cPp_4 cPp_5 cM_0 cM_1 cM_2 cM_3 cM_4
  go_wp2_with fail
  rw [← hw103]
  clear hw103 cPp_0 cPp_1 cPp_2 cPp_3 cPp_4 cPp_5 cM_0 cM_1 cM_2 cM_3 cM_4
  refine (HO _).mono ?_
  rintro e w104 ⟨rfl, hb⟩
  replace HB := Lib.hid (HB.out.trans (hb.mono HB.out.size))
  replace M := Lib.hid (M.out.below hb M.out.lt)
  replace Pp := Lib.hid (Pp.out.below hb Pp.out.lt)
  clear hb
  clear HO
  obtain ⟨w105, hw105⟩ : ∃ w105, w105 = w104.alloc (.cells #[.int .u64 g0, .int .i64 g1, .int .u32 g2, .int .u32 g3, .int .u32 g4] 31) := ⟨_, rfl⟩
  have lPp := Pp.out.lt
  have dPp_0 := Pp.out.cell 0
  have dPp_1 := Pp.out.cell 1
  have dPp_2 := Pp.out.cell 2
  have dPp_3 := Pp.out.cell 3
  have dPp_4 := Pp.out.cell 4
  have dPp_5 := Pp.out.cell 5
  have lM := M.out.lt
  have dM_0 := M.out.cell 0
  have dM_1 := M.out.cell 1
  have dM_2 := M.out.cell 2
  have dM_3 := M.out.cell 3
  have dM_4 := M.out.cell 4
  simp at dPp_0 dPp_1 dPp_2 dPp_3 dPp_4 dPp_5 dM_0 dM_1 dM_2 dM_3 dM_4
  have Gg := Lib.hid (show Blk w105 w104.heap.size 31 #[.int .u64 g0, .int .i64 g1, .int .u32 g2, .int .u32 g3, .int .u32 g4] by rw [hw105]; exact Blk.new _ _ _)
  replace M := Lib.hid (show Blk w105 _ _ _ by rw [hw105]; exact M.out.alloc _)
  replace Pp := Lib.hid (show Blk w105 _ _ _ by rw [hw105]; exact Pp.out.alloc _)
  replace HB := Lib.hid (show Below w.heap.size w w105 by rw [hw105]; exact HB.out.alloc HB.out.size _)
  have cPp_0 := Pp.out.cell 0
  have cPp_1 := Pp.out.cell 1
  have cPp_2 := Pp.out.cell 2
  have cPp_3 := Pp.out.cell 3
  have cPp_4 := Pp.out.cell 4
  have cPp_5 := Pp.out.cell 5
  have cM_0 := M.out.cell 0
  have cM_1 := M.out.cell 1
  have cM_2 := M.out.cell 2
  have cM_3 := M.out.cell 3
  have cM_4 := M.out.cell 4
  rw [hw105] at cPp_0 cPp_1 cPp_2 cPp_3 cPp_4 cPp_5 cM_0 cM_1 cM_2 cM_3 cM_4
  simp at cPp_0 cPp_1 cPp_2 cPp_3 cPp_4 cPp_5 cM_0 cM_1 cM_2 cM_3 cM_4
  go_wp2_with fail
  rw [← hw105]
  clear hw105 cPp_0 cPp_1 cPp_2 cPp_3 cPp_4 cPp_5 cM_0 cM_1 cM_2 cM_3 cM_4 dPp_0 dPp_1 dPp_2 dPp_3 dPp_4 dPp_5 dM_0 dM_1 dM_2 dM_3 dM_4 lPp lM
  obtain ⟨w106, hw106⟩ : ∃ w106, w106 = w105.alloc (.cells #[.int .i64 1, .int .i64 0, .int .u32 ol, .int .u32 0, .int .u64 tx, .string b] 26) := ⟨_, rfl⟩
  have Qq := Lib.hid (show Blk w106 w105.heap.size 26 #[.int .i64 1, .int .i64 0, .int .u32 ol, .int .u32 0, .int .u64 tx, .string b] by rw [hw106]; exact Blk.new _ _ _)
  replace M := Lib.hid (show Blk w106 _ _ _ by rw [hw106]; exact M.out.alloc _)
  replace Pp := Lib.hid (show Blk w106 _ _ _ by rw [hw106]; exact Pp.out.alloc _)
  replace Gg := Lib.hid (show Blk w106 _ _ _ by rw [hw106]; exact Gg.out.alloc _)
  replace HB := Lib.hid (show Below w.heap.size w w106 by rw [hw106]; exact HB.out.alloc HB.out.size _)
  rw [← hw106]
  clear hw106
  refine (HQ _).mono ?_
  rintro e w107 ⟨rfl, hb⟩
  replace HB := Lib.hid (HB.out.trans (hb.mono HB.out.size))
  replace M := Lib.hid (M.out.below hb M.out.lt)
  replace Pp := Lib.hid (Pp.out.below hb Pp.out.lt)
  replace Gg := Lib.hid (Gg.out.below hb Gg.out.lt)
  replace Qq := Lib.hid (Qq.out.below hb Qq.out.lt)
  clear hb
  clear HQ
  obtain ⟨w108, hw108⟩ : ∃ w108, w108 = w107.alloc (.cells #[.int .u64 0, .int .i64 0, .int .u32 0, .int .u32 0, .int .u32 0] 31) := ⟨_, rfl⟩
  have lPp := Pp.out.lt
  have dPp_0 := Pp.out.cell 0
  have dPp_1 := Pp.out.cell 1
  have dPp_2 := Pp.out.cell 2
  have dPp_3 := Pp.out.cell 3
  have dPp_4 := Pp.out.cell 4
  have dPp_5 := Pp.out.cell 5
  have lM := M.out.lt
  have dM_0 := M.out.cell 0
  have dM_1 := M.out.cell 1
  have dM_2 := M.out.cell 2
  have dM_3 := M.out.cell 3
  have dM_4 := M.out.cell 4
  simp at dPp_0 dPp_1 dPp_2 dPp_3 dPp_4 dPp_5 dM_0 dM_1 dM_2 dM_3 dM_4
  have Hh := Lib.hid (show Blk w108 w107.heap.size 31 #[.int .u64 0, .int .i64 0, .int .u32 0, .int .u32 0, .int .u32 0] by rw [hw108]; exact Blk.new _ _ _)
  replace M := Lib.hid (show Blk w108 _ _ _ by rw [hw108]; exact M.out.alloc _)
  replace Pp := Lib.hid (show Blk w108 _ _ _ by rw [hw108]; exact Pp.out.alloc _)
  replace Gg := Lib.hid (show Blk w108 _ _ _ by rw [hw108]; exact Gg.out.alloc _)
  replace Qq := Lib.hid (show Blk w108 _ _ _ by rw [hw108]; exact Qq.out.alloc _)
  replace HB := Lib.hid (show Below w.heap.size w w108 by rw [hw108]; exact HB.out.alloc HB.out.size _)
  have cPp_0 := Pp.out.cell 0
  have cPp_1 := Pp.out.cell 1
  have cPp_2 := Pp.out.cell 2
  have cPp_3 := Pp.out.cell 3
  have cPp_4 := Pp.out.cell 4
  have cPp_5 := Pp.out.cell 5
  have cM_0 := M.out.cell 0
  have cM_1 := M.out.cell 1
  have cM_2 := M.out.cell 2
  have cM_3 := M.out.cell 3
  have cM_4 := M.out.cell 4
  rw [hw108] at cPp_0 cPp_1 cPp_2 cPp_3 cPp_4 cPp_5 cM_0 cM_1 cM_2 cM_3 cM_4
  simp at cPp_0 cPp_1 cPp_2 cPp_3 cPp_4 cPp_5 cM_0 cM_1 cM_2 cM_3 cM_4
  go_wp2_with fail
  rw [← hw108]
  clear hw108 cPp_0 cPp_1 cPp_2 cPp_3 cPp_4 cPp_5 cM_0 cM_1 cM_2 cM_3 cM_4 dPp_0 dPp_1 dPp_2 dPp_3 dPp_4 dPp_5 dM_0 dM_1 dM_2 dM_3 dM_4 lPp lM
  have cPp_0 := Pp.out.cell 0
  have cPp_1 := Pp.out.cell 1
  have cPp_2 := Pp.out.cell 2
  have cPp_3 := Pp.out.cell 3
  have cPp_4 := Pp.out.cell 4
  have cPp_5 := Pp.out.cell 5
  have cM_0 := M.out.cell 0
  have cM_1 := M.out.cell 1
  have cM_2 := M.out.cell 2
  have cM_3 := M.out.cell 3
  have cM_4 := M.out.cell 4
  simp at cPp_0 cPp_1 cPp_2 cPp_3 cPp_4 cPp_5 cM_0 cM_1 cM_2 cM_3 cM_4
  replace M := Lib.hid M.out.drew
  replace Pp := Lib.hid Pp.out.drew
  replace Gg := Lib.hid Gg.out.drew
  replace Qq := Lib.hid Qq.out.drew
  replace Hh := Lib.hid Hh.out.drew
  replace HB := Lib.hid HB.out.drew
  go_region_held3 (fun w' => w'.cell? ⟨w.heap.size, 1, none⟩ = some (.int .i64 z)) (exact M.out.cell 1)
    (first
    | (go_at_call 16
       with_reducible refine (HT _).mono ?_
       rintro e wt ⟨rfl, rfl⟩))
  try go_wp2_with fail
  rw [← HNe.out]
  clear HT sl0 sl1 sl2 cat1 cPp_0 cPp_1 cPp_2 cPp_3 cPp_4 cPp_5 cM_0 cM_1 cM_2 cM_3 cM_4
  refine (HG1 _).mono ?_
  rintro e w109 ⟨rfl, hb⟩
  replace HB := Lib.hid (HB.out.trans (hb.mono HB.out.size))
  replace M := Lib.hid (M.out.below hb M.out.lt)
  replace Pp := Lib.hid (Pp.out.below hb Pp.out.lt)
  replace Gg := Lib.hid (Gg.out.below hb Gg.out.lt)
  replace Qq := Lib.hid (Qq.out.below hb Qq.out.lt)
  replace Hh := Lib.hid (Hh.out.below hb Hh.out.lt)
  clear hb
  clear HG1
  obtain ⟨w110, hw110⟩ : ∃ w110, w110 = w109.alloc (.cells #[.int .i64 0, .int .i64 0, .int .u32 0, .int .u32 0, .int .u64 0, .string ByteArray.empty] 26) := ⟨_, rfl⟩
  have lPp := Pp.out.lt
  have dPp_0 := Pp.out.cell 0
  have dPp_1 := Pp.out.cell 1
  have dPp_2 := Pp.out.cell 2
  have dPp_3 := Pp.out.cell 3
  have dPp_4 := Pp.out.cell 4
  have dPp_5 := Pp.out.cell 5
  have lM := M.out.lt
  have dM_0 := M.out.cell 0
  have dM_1 := M.out.cell 1
  have dM_2 := M.out.cell 2
  have dM_3 := M.out.cell 3
  have dM_4 := M.out.cell 4
  simp at dPp_0 dPp_1 dPp_2 dPp_3 dPp_4 dPp_5 dM_0 dM_1 dM_2 dM_3 dM_4
  have E1 := Lib.hid (show Blk w110 w109.heap.size 26 #[.int .i64 0, .int .i64 0, .int .u32 0, .int .u32 0, .int .u64 0, .string ByteArray.empty] by rw [hw110]; exact Blk.new _ _ _)
  replace M := Lib.hid (show Blk w110 _ _ _ by rw [hw110]; exact M.out.alloc _)
  replace Pp := Lib.hid (show Blk w110 _ _ _ by rw [hw110]; exact Pp.out.alloc _)
  replace Gg := Lib.hid (show Blk w110 _ _ _ by rw [hw110]; exact Gg.out.alloc _)
  replace Qq := Lib.hid (show Blk w110 _ _ _ by rw [hw110]; exact Qq.out.alloc _)
  replace Hh := Lib.hid (show Blk w110 _ _ _ by rw [hw110]; exact Hh.out.alloc _)
  replace HB := Lib.hid (show Below w.heap.size w w110 by rw [hw110]; exact HB.out.alloc HB.out.size _)
  have cPp_0 := Pp.out.cell 0
  have cPp_1 := Pp.out.cell 1
  have cPp_2 := Pp.out.cell 2
  have cPp_3 := Pp.out.cell 3
  have cPp_4 := Pp.out.cell 4
  have cPp_5 := Pp.out.cell 5
  have cM_0 := M.out.cell 0
  have cM_1 := M.out.cell 1
  have cM_2 := M.out.cell 2
  have cM_3 := M.out.cell 3
  have cM_4 := M.out.cell 4
  rw [hw110] at cPp_0 cPp_1 cPp_2 cPp_3 cPp_4 cPp_5 cM_0 cM_1 cM_2 cM_3 cM_4
  simp at cPp_0 cPp_1 cPp_2 cPp_3 cPp_4 cPp_5 cM_0 cM_1 cM_2 cM_3 cM_4
  go_wp2_with fail
  rw [← hw110]
  clear hw110 cPp_0 cPp_1 cPp_2 cPp_3 cPp_4 cPp_5 cM_0 cM_1 cM_2 cM_3 cM_4 dPp_0 dPp_1 dPp_2 dPp_3 dPp_4 dPp_5 dM_0 dM_1 dM_2 dM_3 dM_4 lPp lM
  refine (HG2 _).mono ?_
  rintro e w111 ⟨rfl, hb⟩
  replace HB := Lib.hid (HB.out.trans (hb.mono HB.out.size))
  replace M := Lib.hid (M.out.below hb M.out.lt)
  replace Pp := Lib.hid (Pp.out.below hb Pp.out.lt)
  replace Gg := Lib.hid (Gg.out.below hb Gg.out.lt)
  replace Qq := Lib.hid (Qq.out.below hb Qq.out.lt)
  replace Hh := Lib.hid (Hh.out.below hb Hh.out.lt)
  replace E1 := Lib.hid (E1.out.below hb E1.out.lt)
  clear hb
  clear HG2
  obtain ⟨w112, hw112⟩ : ∃ w112, w112 = w111.alloc (.cells #[.int .i64 0, .int .i64 0, .int .u32 0, .int .u32 0, .int .u64 0, .string ByteArray.empty] 26) := ⟨_, rfl⟩
  have lPp := Pp.out.lt
  have dPp_0 := Pp.out.cell 0
  have dPp_1 := Pp.out.cell 1
  have dPp_2 := Pp.out.cell 2
  have dPp_3 := Pp.out.cell 3
  have dPp_4 := Pp.out.cell 4
  have dPp_5 := Pp.out.cell 5
  have lM := M.out.lt
  have dM_0 := M.out.cell 0
  have dM_1 := M.out.cell 1
  have dM_2 := M.out.cell 2
  have dM_3 := M.out.cell 3
  have dM_4 := M.out.cell 4
  simp at dPp_0 dPp_1 dPp_2 dPp_3 dPp_4 dPp_5 dM_0 dM_1 dM_2 dM_3 dM_4
  have E2 := Lib.hid (show Blk w112 w111.heap.size 26 #[.int .i64 0, .int .i64 0, .int .u32 0, .int .u32 0, .int .u64 0, .string ByteArray.empty] by rw [hw112]; exact Blk.new _ _ _)
  replace M := Lib.hid (show Blk w112 _ _ _ by rw [hw112]; exact M.out.alloc _)
  replace Pp := Lib.hid (show Blk w112 _ _ _ by rw [hw112]; exact Pp.out.alloc _)
  replace Gg := Lib.hid (show Blk w112 _ _ _ by rw [hw112]; exact Gg.out.alloc _)
  replace Qq := Lib.hid (show Blk w112 _ _ _ by rw [hw112]; exact Qq.out.alloc _)
  replace Hh := Lib.hid (show Blk w112 _ _ _ by rw [hw112]; exact Hh.out.alloc _)
  replace E1 := Lib.hid (show Blk w112 _ _ _ by rw [hw112]; exact E1.out.alloc _)
  replace HB := Lib.hid (show Below w.heap.size w w112 by rw [hw112]; exact HB.out.alloc HB.out.size _)
  have cPp_0 := Pp.out.cell 0
  have cPp_1 := Pp.out.cell 1
  have cPp_2 := Pp.out.cell 2
  have cPp_3 := Pp.out.cell 3
  have cPp_4 := Pp.out.cell 4
  have cPp_5 := Pp.out.cell 5
  have cM_0 := M.out.cell 0
  have cM_1 := M.out.cell 1
  have cM_2 := M.out.cell 2
  have cM_3 := M.out.cell 3
  have cM_4 := M.out.cell 4
  rw [hw112] at cPp_0 cPp_1 cPp_2 cPp_3 cPp_4 cPp_5 cM_0 cM_1 cM_2 cM_3 cM_4
  simp at cPp_0 cPp_1 cPp_2 cPp_3 cPp_4 cPp_5 cM_0 cM_1 cM_2 cM_3 cM_4
  go_wp2_with fail
  rw [← hw112]
  clear hw112 cPp_0 cPp_1 cPp_2 cPp_3 cPp_4 cPp_5 cM_0 cM_1 cM_2 cM_3 cM_4 dPp_0 dPp_1 dPp_2 dPp_3 dPp_4 dPp_5 dM_0 dM_1 dM_2 dM_3 dM_4 lPp lM
  refine (HBl _).mono ?_
  rintro e w113 ⟨rfl, hb⟩
  replace HB := Lib.hid (HB.out.trans (hb.mono HB.out.size))
  replace M := Lib.hid (M.out.below hb M.out.lt)
  replace Pp := Lib.hid (Pp.out.below hb Pp.out.lt)
  replace Gg := Lib.hid (Gg.out.below hb Gg.out.lt)
  replace Qq := Lib.hid (Qq.out.below hb Qq.out.lt)
  replace Hh := Lib.hid (Hh.out.below hb Hh.out.lt)
  replace E1 := Lib.hid (E1.out.below hb E1.out.lt)
  replace E2 := Lib.hid (E2.out.below hb E2.out.lt)
  clear hb
  have cPp_0 := Pp.out.cell 0
  have cPp_1 := Pp.out.cell 1
  have cPp_2 := Pp.out.cell 2
  have cPp_3 := Pp.out.cell 3
  have cPp_4 := Pp.out.cell 4
  have cPp_5 := Pp.out.cell 5
  have cM_0 := M.out.cell 0
  have cM_1 := M.out.cell 1
  have cM_2 := M.out.cell 2
  have cM_3 := M.out.cell 3
  have cM_4 := M.out.cell 4
  simp at cPp_0 cPp_1 cPp_2 cPp_3 cPp_4 cPp_5 cM_0 cM_1 cM_2 cM_3 cM_4
  go_wp2_with fail
  clear cPp_0 cPp_1 cPp_2 cPp_3 cPp_4 cPp_5 cM_0 cM_1 cM_2 cM_3 cM_4
  refine (HBl _).mono ?_
  rintro e w114 ⟨rfl, hb⟩
  replace HB := Lib.hid (HB.out.trans (hb.mono HB.out.size))
  replace M := Lib.hid (M.out.below hb M.out.lt)
  replace Pp := Lib.hid (Pp.out.below hb Pp.out.lt)
  replace Gg := Lib.hid (Gg.out.below hb Gg.out.lt)
  replace Qq := Lib.hid (Qq.out.below hb Qq.out.lt)
  replace Hh := Lib.hid (Hh.out.below hb Hh.out.lt)
  replace E1 := Lib.hid (E1.out.below hb E1.out.lt)
  replace E2 := Lib.hid (E2.out.below hb E2.out.lt)
  clear hb
  have cPp_0 := Pp.out.cell 0
  have cPp_1 := Pp.out.cell 1
  have cPp_2 := Pp.out.cell 2
  have cPp_3 := Pp.out.cell 3
  have cPp_4 := Pp.out.cell 4
  have cPp_5 := Pp.out.cell 5
  have cM_0 := M.out.cell 0
  have cM_1 := M.out.cell 1
  have cM_2 := M.out.cell 2
  have cM_3 := M.out.cell 3
  have cM_4 := M.out.cell 4
  simp at cPp_0 cPp_1 cPp_2 cPp_3 cPp_4 cPp_5 cM_0 cM_1 cM_2 cM_3 cM_4
  go_wp2_with fail
  clear cPp_0 cPp_1 cPp_2 cPp_3 cPp_4 cPp_5 cM_0 cM_1 cM_2 cM_3 cM_4
  refine (HN1 _).mono ?_
  rintro e w115 ⟨rfl, hb⟩
  replace HB := Lib.hid (HB.out.trans (hb.mono HB.out.size))
  replace M := Lib.hid (M.out.below hb M.out.lt)
  replace Pp := Lib.hid (Pp.out.below hb Pp.out.lt)
  replace Gg := Lib.hid (Gg.out.below hb Gg.out.lt)
  replace Qq := Lib.hid (Qq.out.below hb Qq.out.lt)
  replace Hh := Lib.hid (Hh.out.below hb Hh.out.lt)
  replace E1 := Lib.hid (E1.out.below hb E1.out.lt)
  replace E2 := Lib.hid (E2.out.below hb E2.out.lt)
  clear hb
  clear HN1
  obtain ⟨w116, hw116⟩ : ∃ w116, w116 = w115.alloc (.cells #[.int .u64 tx, .int .i64 z, .int .u32 rt, .int .u32 fr, .int .u32 ps] 31) := ⟨_, rfl⟩
  have lPp := Pp.out.lt
  have dPp_0 := Pp.out.cell 0
  have dPp_1 := Pp.out.cell 1
  have dPp_2 := Pp.out.cell 2
  have dPp_3 := Pp.out.cell 3
  have dPp_4 := Pp.out.cell 4
  have dPp_5 := Pp.out.cell 5
  have lM := M.out.lt
  have dM_0 := M.out.cell 0
  have dM_1 := M.out.cell 1
  have dM_2 := M.out.cell 2
  have dM_3 := M.out.cell 3
  have dM_4 := M.out.cell 4
  simp at dPp_0 dPp_1 dPp_2 dPp_3 dPp_4 dPp_5 dM_0 dM_1 dM_2 dM_3 dM_4
  have N1 := Lib.hid (show Blk w116 w115.heap.size 31 #[.int .u64 tx, .int .i64 z, .int .u32 rt, .int .u32 fr, .int .u32 ps] by rw [hw116]; exact Blk.new _ _ _)
  replace M := Lib.hid (show Blk w116 _ _ _ by rw [hw116]; exact M.out.alloc _)
  replace Pp := Lib.hid (show Blk w116 _ _ _ by rw [hw116]; exact Pp.out.alloc _)
  replace Gg := Lib.hid (show Blk w116 _ _ _ by rw [hw116]; exact Gg.out.alloc _)
  replace Qq := Lib.hid (show Blk w116 _ _ _ by rw [hw116]; exact Qq.out.alloc _)
  replace Hh := Lib.hid (show Blk w116 _ _ _ by rw [hw116]; exact Hh.out.alloc _)
  replace E1 := Lib.hid (show Blk w116 _ _ _ by rw [hw116]; exact E1.out.alloc _)
  replace E2 := Lib.hid (show Blk w116 _ _ _ by rw [hw116]; exact E2.out.alloc _)
  replace HB := Lib.hid (show Below w.heap.size w w116 by rw [hw116]; exact HB.out.alloc HB.out.size _)
  have cPp_0 := Pp.out.cell 0
  have cPp_1 := Pp.out.cell 1
  have cPp_2 := Pp.out.cell 2
  have cPp_3 := Pp.out.cell 3
  have cPp_4 := Pp.out.cell 4
  have cPp_5 := Pp.out.cell 5
  have cM_0 := M.out.cell 0
  have cM_1 := M.out.cell 1
  have cM_2 := M.out.cell 2
  have cM_3 := M.out.cell 3
  have cM_4 := M.out.cell 4
  rw [hw116] at cPp_0 cPp_1 cPp_2 cPp_3 cPp_4 cPp_5 cM_0 cM_1 cM_2 cM_3 cM_4
  simp at cPp_0 cPp_1 cPp_2 cPp_3 cPp_4 cPp_5 cM_0 cM_1 cM_2 cM_3 cM_4
  go_wp2_with fail
  rw [← hw116]
  clear hw116 cPp_0 cPp_1 cPp_2 cPp_3 cPp_4 cPp_5 cM_0 cM_1 cM_2 cM_3 cM_4 dPp_0 dPp_1 dPp_2 dPp_3 dPp_4 dPp_5 dM_0 dM_1 dM_2 dM_3 dM_4 lPp lM
  refine (HBl _).mono ?_
  rintro e w117 ⟨rfl, hb⟩
  replace HB := Lib.hid (HB.out.trans (hb.mono HB.out.size))
  replace M := Lib.hid (M.out.below hb M.out.lt)
  replace Pp := Lib.hid (Pp.out.below hb Pp.out.lt)
  replace Gg := Lib.hid (Gg.out.below hb Gg.out.lt)
  replace Qq := Lib.hid (Qq.out.below hb Qq.out.lt)
  replace Hh := Lib.hid (Hh.out.below hb Hh.out.lt)
  replace E1 := Lib.hid (E1.out.below hb E1.out.lt)
  replace E2 := Lib.hid (E2.out.below hb E2.out.lt)
  replace N1 := Lib.hid (N1.out.below hb N1.out.lt)
  clear hb
  have cPp_0 := Pp.out.cell 0
  have cPp_1 := Pp.out.cell 1
  have cPp_2 := Pp.out.cell 2
  have cPp_3 := Pp.out.cell 3
  have cPp_4 := Pp.out.cell 4
  have cPp_5 := Pp.out.cell 5
  have cM_0 := M.out.cell 0
  have cM_1 := M.out.cell 1
  have cM_2 := M.out.cell 2
  have cM_3 := M.out.cell 3
  have cM_4 := M.out.cell 4
  simp at cPp_0 cPp_1 cPp_2 cPp_3 cPp_4 cPp_5 cM_0 cM_1 cM_2 cM_3 cM_4
  go_wp2_with fail
  clear cPp_0 cPp_1 cPp_2 cPp_3 cPp_4 cPp_5 cM_0 cM_1 cM_2 cM_3 cM_4
  refine (HBl _).mono ?_
  rintro e w118 ⟨rfl, hb⟩
  replace HB := Lib.hid (HB.out.trans (hb.mono HB.out.size))
  replace M := Lib.hid (M.out.below hb M.out.lt)
  replace Pp := Lib.hid (Pp.out.below hb Pp.out.lt)
  replace Gg := Lib.hid (Gg.out.below hb Gg.out.lt)
  replace Qq := Lib.hid (Qq.out.below hb Qq.out.lt)
  replace Hh := Lib.hid (Hh.out.below hb Hh.out.lt)
  replace E1 := Lib.hid (E1.out.below hb E1.out.lt)
  replace E2 := Lib.hid (E2.out.below hb E2.out.lt)
  replace N1 := Lib.hid (N1.out.below hb N1.out.lt)
  clear hb
  have cPp_0 := Pp.out.cell 0
  have cPp_1 := Pp.out.cell 1
  have cPp_2 := Pp.out.cell 2
  have cPp_3 := Pp.out.cell 3
  have cPp_4 := Pp.out.cell 4
  have cPp_5 := Pp.out.cell 5
  have cM_0 := M.out.cell 0
  have cM_1 := M.out.cell 1
  have cM_2 := M.out.cell 2
  have cM_3 := M.out.cell 3
  have cM_4 := M.out.cell 4
  simp at cPp_0 cPp_1 cPp_2 cPp_3 cPp_4 cPp_5 cM_0 cM_1 cM_2 cM_3 cM_4
  go_wp2_with fail
  clear cPp_0 cPp_1 cPp_2 cPp_3 cPp_4 cPp_5 cM_0 cM_1 cM_2 cM_3 cM_4
  refine (HN2 _).mono ?_
  rintro e w119 ⟨rfl, hb⟩
  replace HB := Lib.hid (HB.out.trans (hb.mono HB.out.size))
  replace M := Lib.hid (M.out.below hb M.out.lt)
  replace Pp := Lib.hid (Pp.out.below hb Pp.out.lt)
  replace Gg := Lib.hid (Gg.out.below hb Gg.out.lt)
  replace Qq := Lib.hid (Qq.out.below hb Qq.out.lt)
  replace Hh := Lib.hid (Hh.out.below hb Hh.out.lt)
  replace E1 := Lib.hid (E1.out.below hb E1.out.lt)
  replace E2 := Lib.hid (E2.out.below hb E2.out.lt)
  replace N1 := Lib.hid (N1.out.below hb N1.out.lt)
  clear hb
  clear HN2
  obtain ⟨w120, hw120⟩ : ∃ w120, w120 = w119.alloc (.cells #[.int .u64 0, .int .i64 0, .int .u32 0, .int .u32 0, .int .u32 0] 31) := ⟨_, rfl⟩
  have lN1 := N1.out.lt
  have dN1_0 := N1.out.cell 0
  have dN1_1 := N1.out.cell 1
  have dN1_2 := N1.out.cell 2
  have dN1_3 := N1.out.cell 3
  have dN1_4 := N1.out.cell 4
  have lM := M.out.lt
  have dM_0 := M.out.cell 0
  have dM_1 := M.out.cell 1
  have dM_2 := M.out.cell 2
  have dM_3 := M.out.cell 3
  have dM_4 := M.out.cell 4
  simp at dN1_0 dN1_1 dN1_2 dN1_3 dN1_4 dM_0 dM_1 dM_2 dM_3 dM_4
  have N2 := Lib.hid (show Blk w120 w119.heap.size 31 #[.int .u64 0, .int .i64 0, .int .u32 0, .int .u32 0, .int .u32 0] by rw [hw120]; exact Blk.new _ _ _)
  replace M := Lib.hid (show Blk w120 _ _ _ by rw [hw120]; exact M.out.alloc _)
  replace Pp := Lib.hid (show Blk w120 _ _ _ by rw [hw120]; exact Pp.out.alloc _)
  replace Gg := Lib.hid (show Blk w120 _ _ _ by rw [hw120]; exact Gg.out.alloc _)
  replace Qq := Lib.hid (show Blk w120 _ _ _ by rw [hw120]; exact Qq.out.alloc _)
  replace Hh := Lib.hid (show Blk w120 _ _ _ by rw [hw120]; exact Hh.out.alloc _)
  replace E1 := Lib.hid (show Blk w120 _ _ _ by rw [hw120]; exact E1.out.alloc _)
  replace E2 := Lib.hid (show Blk w120 _ _ _ by rw [hw120]; exact E2.out.alloc _)
  replace N1 := Lib.hid (show Blk w120 _ _ _ by rw [hw120]; exact N1.out.alloc _)
  replace HB := Lib.hid (show Below w.heap.size w w120 by rw [hw120]; exact HB.out.alloc HB.out.size _)
  have cN1_0 := N1.out.cell 0
  have cN1_1 := N1.out.cell 1
  have cN1_2 := N1.out.cell 2
  have cN1_3 := N1.out.cell 3
  have cN1_4 := N1.out.cell 4
  have cM_0 := M.out.cell 0
  have cM_1 := M.out.cell 1
  have cM_2 := M.out.cell 2
  have cM_3 := M.out.cell 3
  have cM_4 := M.out.cell 4
  rw [hw120] at cN1_0 cN1_1 cN1_2 cN1_3 cN1_4 cM_0 cM_1 cM_2 cM_3 cM_4
  simp at cN1_0 cN1_1 cN1_2 cN1_3 cN1_4 cM_0 cM_1 cM_2 cM_3 cM_4
  go_wp2_with fail
  go_ret
  exact ⟨rfl, by rw [← hw120]; exact HB.out⟩
theorem msizes_walk (tx : Nat) (z : Int) (rt fr ps : Nat) (size : Int) (c : ByteArray) (w : World) (_h0 : tx < 18446744073709551616 ∧ -9223372036854775808 ≤ z ∧ z ≤ 9223372036854775807 ∧ rt < 4294967296 ∧ fr < 4294967296 ∧ ps < 4294967296) (_h1 : (Lit.int .i64 size).wf = true) (_h2 : c.size ≤ maxLen) :
    Calls Try.prog 8 #[.agg #[.int .u64 tx, .int .i64 z, .int .u32 rt, .int .u32 fr, .int .u32 ps], .int .i64 size, .string c] w fun e w' => e = .returned (.bool true) ∧ Below w.heap.size w w' := by
  rcases hm : mayM tx z rt fr ps with _ | _
  · exact msizes_no tx z rt fr ps size c w hm
  obtain ⟨n, rfl, _, _, _⟩ := good_nat (mayM_good hm).2.1
  by_cases hl : c.size ≤ 600
  case neg => exact msizes_long tx n rt fr ps size c w hm (by omega)
  obtain ⟨Z, hZ⟩ : ∃ Z, Z = reps ⟨#[0]⟩ n := ⟨_, rfl⟩
  obtain ⟨N, hN⟩ : ∃ N, N = (c ++ Z).extract 0 n := ⟨_, rfl⟩
  rcases hr1 : blockOk n (1 - tx % 2) N with _ | _
  · rcases hr2 : blockOk n (tx % 2) N with _ | _
    · rcases Nat.mod_two_eq_zero_or_one tx with hv | hv
      · exact msizes_w0 tx n rt fr ps size c w hm hl (tx % 2) (1 - tx % 2) rfl rfl Z N hZ hN hr1 hr2 hv
      · exact msizes_w1 tx n rt fr ps size c w hm hl (tx % 2) (1 - tx % 2) rfl rfl Z N hZ hN hr1 hr2 hv
    · exact msizes_r2 tx n rt fr ps size c w hm hl (tx % 2) (1 - tx % 2) rfl rfl Z N hZ hN hr1 hr2
  · exact msizes_r1 tx n rt fr ps size c w hm hl (tx % 2) (1 - tx % 2) rfl rfl Z N hZ hN hr1
end Go.Proofs.Ytfmalohaaibhiaa
