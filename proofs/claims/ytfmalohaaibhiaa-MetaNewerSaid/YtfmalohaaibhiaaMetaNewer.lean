/-
  The walk of the statement MetaNewer: from every start, at every argument, it returns true and changes no block that was there before.
-/
import Derived.Test.YtfmalohaaibhiaaMetaBlk
import Derived.Test.YtfmalohaaibhiaaTurned
import Derived.Test.YtfmalohaaibhiaaKitLaw
import Derived.Test.YtfmalohaaibhiaaMetaOpen
import Derived.Deep.DrawnRows
namespace Go.Proofs.Ytfmalohaaibhiaa
open Go.RowKit
open Go.Lib
set_option linter.unusedVariables false
set_option linter.unusedSimpArgs false
attribute [local go_sem ↓] Go.wp_at_zero Go.wp_at_succ

theorem infoS2 : (Try.prog.info? 45).map (fun i => (i.zero, i.size)) = some (some (.agg #[.string ByteArray.empty, .string ByteArray.empty]), 2) := by kernel_rfl

set_option maxRecDepth 100000 in
set_option maxHeartbeats 12800000 in
theorem mnewer_a (tx : Nat) (z : Int) (rt fr ps ra la : Nat) (wh at_ : Int) (d : Nat) (w : World) (ty : Nat) (hty : (ty : Int) = ((tx : Int) + 1) % 18446744073709551616) (hm : mayM tx 128 rt fr ps = false) :
    Calls Try.prog 6 #[.agg #[.int .u64 tx, .int .i64 z, .int .u32 rt, .int .u32 fr, .int .u32 ps], .int .u32 ra, .int .u32 la, .int .i64 wh, .int .i64 at_, .int .u32 d] w fun e w' => e = .returned (.bool true) ∧ Below w.heap.size w w' := by
  have HP1 : ∀ w : World, Calls Try.prog 10 #[.agg #[.int .u64 tx, .int .i64 128, .int .u32 rt, .int .u32 fr, .int .u32 ps]] w fun e w' => e = .returned (.tuple #[.agg #[.int .i64 0, .int .i64 0, .int .u32 0, .int .u32 0, .int .u64 0, .string ByteArray.empty], .int .i64 2]) ∧ Below w.heap.size w w' := fun w => mpage_no tx 128 rt fr ps w hm
  obtain ⟨a0, a1, a2, a3, a4, a5, y, HP2⟩ : ∃ (a0 a1 : Int) (a2 a3 a4 : Nat) (a5 : ByteArray) (y : Int), ∀ w : World, Calls Try.prog 10 #[.agg #[.int .u64 ty, .int .i64 128, .int .u32 ra, .int .u32 la, .int .u32 ps]] w fun e w' => e = .returned (.tuple #[.agg #[.int .i64 a0, .int .i64 a1, .int .u32 a2, .int .u32 a3, .int .u64 a4, .string a5], .int .i64 y]) ∧ Below w.heap.size w w' := by
    rcases hn : mayM ty 128 ra la ps with _ | _
    · exact ⟨0, 0, 0, 0, 0, ByteArray.empty, 2, fun w => mpage_no ty 128 ra la ps w hn⟩
    · exact ⟨_, _, _, _, _, _, _, fun w => mpage_yes ty 128 ra la ps (ty % 2) _ w hn rfl rfl⟩
  clear hm
  have hty1 : ((tx : Int) + 1) % 18446744073709551616 = (ty : Int) := by omega
  have hty2 : IntKind.u64.wrap ((tx : Int) + 1) = (ty : Int) := by rw [IntKind.wrap_u64]; omega
  clear hty
  obtain ⟨w0, hw0⟩ : ∃ w0, w0 = w.alloc (.cells #[.int .u64 tx, .int .i64 z, .int .u32 rt, .int .u32 fr, .int .u32 ps] 31) := ⟨_, rfl⟩
  have M := Lib.hid (show Blk w0 w.heap.size 31 #[.int .u64 tx, .int .i64 z, .int .u32 rt, .int .u32 fr, .int .u32 ps] by rw [hw0]; exact Blk.new _ _ _)
  have HB := Lib.hid (show Below w.heap.size w w0 by rw [hw0]; exact (Below.refl _ _).alloc (Nat.le_refl _) _)
  go_enter Try.func6, Try.ntmps6
  go_wp2_with fail
  rw [← hw0]
  clear hw0
  refine (lives5_any _).mono ?_
  rintro e w101 ⟨rfl, hb⟩
  replace HB := Lib.hid (HB.out.trans (hb.mono HB.out.size))
  replace M := Lib.hid (M.out.below hb M.out.lt)
  clear hb
  have cM_0 := M.out.cell 0
  have cM_1 := M.out.cell 1
  have cM_2 := M.out.cell 2
  have cM_3 := M.out.cell 3
  have cM_4 := M.out.cell 4
  simp at cM_0 cM_1 cM_2 cM_3 cM_4
  have fM1 := M.out.frozen 1
  obtain ⟨w102, hw102⟩ : ∃ x, x = w101.setCell ⟨w.heap.size, 1, none⟩ (.int .i64 128) := ⟨_, rfl⟩
  have lM := M.out.lt
  replace M := Lib.hid (show Blk w102 w.heap.size 31 #[.int .u64 tx, .int .i64 128, .int .u32 rt, .int .u32 fr, .int .u32 ps] by rw [hw102]; exact M.out.set_ 1 _)
  replace HB := Lib.hid (show Below w.heap.size w w102 by rw [hw102]; exact HB.out.setCell (Nat.le_refl _) _)
  have hsz : w102.heap.size = w101.heap.size := by rw [hw102]; simp [World.setCell]
  have uM_0 := M.out.cell 0
  have uM_1 := M.out.cell 1
  have uM_2 := M.out.cell 2
  have uM_3 := M.out.cell 3
  have uM_4 := M.out.cell 4
  rw [hw102] at uM_0 uM_1 uM_2 uM_3 uM_4
  simp at uM_0 uM_1 uM_2 uM_3 uM_4
  go_wp2_with fail
  rw [← hw102]
  clear hw102 fM1 lM cM_0 cM_1 cM_2 cM_3 cM_4 uM_0 uM_1 uM_2 uM_3 uM_4
  obtain ⟨w103, hw103⟩ : ∃ w103, w103 = w102.alloc (.cells #[.int .u64 ty, .int .i64 128, .int .u32 ra, .int .u32 la, .int .u32 ps] 31) := ⟨_, rfl⟩
  have N := Lib.hid (show Blk w103 w102.heap.size 31 #[.int .u64 ty, .int .i64 128, .int .u32 ra, .int .u32 la, .int .u32 ps] by rw [hw103]; exact Blk.new _ _ _)
  replace M := Lib.hid (show Blk w103 _ _ _ by rw [hw103]; exact M.out.alloc _)
  replace HB := Lib.hid (show Below w.heap.size w w103 by rw [hw103]; exact HB.out.alloc HB.out.size _)
  rw [← hw103]
  clear hw103
  rw [hsz] at N
  refine (HP1 _).mono ?_
  rintro e w104 ⟨rfl, hb⟩
  replace HB := Lib.hid (HB.out.trans (hb.mono HB.out.size))
  replace M := Lib.hid (M.out.below hb M.out.lt)
  replace N := Lib.hid (N.out.below hb N.out.lt)
  clear hb
  clear HP1
  obtain ⟨w105, hw105⟩ : ∃ w105, w105 = w104.alloc (.cells #[.int .i64 0, .int .i64 0, .int .u32 0, .int .u32 0, .int .u64 0, .string ByteArray.empty] 26) := ⟨_, rfl⟩
  have lM := M.out.lt
  have dM_0 := M.out.cell 0
  have dM_1 := M.out.cell 1
  have dM_2 := M.out.cell 2
  have dM_3 := M.out.cell 3
  have dM_4 := M.out.cell 4
  have lN := N.out.lt
  have dN_0 := N.out.cell 0
  have dN_1 := N.out.cell 1
  have dN_2 := N.out.cell 2
  have dN_3 := N.out.cell 3
  have dN_4 := N.out.cell 4
  simp at dM_0 dM_1 dM_2 dM_3 dM_4 dN_0 dN_1 dN_2 dN_3 dN_4
  have P1 := Lib.hid (show Blk w105 w104.heap.size 26 #[.int .i64 0, .int .i64 0, .int .u32 0, .int .u32 0, .int .u64 0, .string ByteArray.empty] by rw [hw105]; exact Blk.new _ _ _)
  replace M := Lib.hid (show Blk w105 _ _ _ by rw [hw105]; exact M.out.alloc _)
  replace N := Lib.hid (show Blk w105 _ _ _ by rw [hw105]; exact N.out.alloc _)
  replace HB := Lib.hid (show Below w.heap.size w w105 by rw [hw105]; exact HB.out.alloc HB.out.size _)
  have cM_0 := M.out.cell 0
  have cM_1 := M.out.cell 1
  have cM_2 := M.out.cell 2
  have cM_3 := M.out.cell 3
  have cM_4 := M.out.cell 4
  have cN_0 := N.out.cell 0
  have cN_1 := N.out.cell 1
  have cN_2 := N.out.cell 2
  have cN_3 := N.out.cell 3
  have cN_4 := N.out.cell 4
  rw [hw105] at cM_0 cM_1 cM_2 cM_3 cM_4 cN_0 cN_1 cN_2 cN_3 cN_4
  simp at cM_0 cM_1 cM_2 cM_3 cM_4 cN_0 cN_1 cN_2 cN_3 cN_4
  go_wp2_with fail
  rw [← hw105]
  clear hw105 cM_0 cM_1 cM_2 cM_3 cM_4 cN_0 cN_1 cN_2 cN_3 cN_4 dM_0 dM_1 dM_2 dM_3 dM_4 dN_0 dN_1 dN_2 dN_3 dN_4 lM lN
  refine (HP2 _).mono ?_
  rintro e w106 ⟨rfl, hb⟩
  replace HB := Lib.hid (HB.out.trans (hb.mono HB.out.size))
  replace M := Lib.hid (M.out.below hb M.out.lt)
  replace N := Lib.hid (N.out.below hb N.out.lt)
  replace P1 := Lib.hid (P1.out.below hb P1.out.lt)
  clear hb
  clear HP2
  obtain ⟨w107, hw107⟩ : ∃ w107, w107 = w106.alloc (.cells #[.int .i64 a0, .int .i64 a1, .int .u32 a2, .int .u32 a3, .int .u64 a4, .string a5] 26) := ⟨_, rfl⟩
  have P2 := Lib.hid (show Blk w107 w106.heap.size 26 #[.int .i64 a0, .int .i64 a1, .int .u32 a2, .int .u32 a3, .int .u64 a4, .string a5] by rw [hw107]; exact Blk.new _ _ _)
  replace M := Lib.hid (show Blk w107 _ _ _ by rw [hw107]; exact M.out.alloc _)
  replace N := Lib.hid (show Blk w107 _ _ _ by rw [hw107]; exact N.out.alloc _)
  replace P1 := Lib.hid (show Blk w107 _ _ _ by rw [hw107]; exact P1.out.alloc _)
  replace HB := Lib.hid (show Below w.heap.size w w107 by rw [hw107]; exact HB.out.alloc HB.out.size _)
  go_wp2_with fail
  go_ret
  exact ⟨rfl, by rw [← hw107]; exact HB.out⟩
set_option maxRecDepth 100000 in
set_option maxHeartbeats 12800000 in
theorem mnewer_b (tx : Nat) (z : Int) (rt fr ps ra la : Nat) (wh at_ : Int) (d : Nat) (w : World) (ty : Nat) (hty : (ty : Int) = ((tx : Int) + 1) % 18446744073709551616) (hm : mayM tx 128 rt fr ps = true) (hn : mayM ty 128 ra la ps = false) :
    Calls Try.prog 6 #[.agg #[.int .u64 tx, .int .i64 z, .int .u32 rt, .int .u32 fr, .int .u32 ps], .int .u32 ra, .int .u32 la, .int .i64 wh, .int .i64 at_, .int .u32 d] w fun e w' => e = .returned (.bool true) ∧ Below w.heap.size w w' := by
  obtain ⟨b, hb⟩ : ∃ b, b = bodyM 128 rt fr ps := ⟨_, rfl⟩
  obtain ⟨sl, hsl⟩ : ∃ sl, sl = tx % 2 := ⟨_, rfl⟩
  have HP1 : ∀ w : World, Calls Try.prog 10 #[.agg #[.int .u64 tx, .int .i64 128, .int .u32 rt, .int .u32 fr, .int .u32 ps]] w fun e w' => e = .returned (.tuple #[.agg #[.int .i64 1, .int .i64 0, .int .u32 sl, .int .u32 0, .int .u64 tx, .string b], .int .i64 0]) ∧ Below w.heap.size w w' := fun w => mpage_yes tx 128 rt fr ps sl b w hm hb hsl
  have HP2 : ∀ w : World, Calls Try.prog 10 #[.agg #[.int .u64 ty, .int .i64 128, .int .u32 ra, .int .u32 la, .int .u32 ps]] w fun e w' => e = .returned (.tuple #[.agg #[.int .i64 0, .int .i64 0, .int .u32 0, .int .u32 0, .int .u64 0, .string ByteArray.empty], .int .i64 2]) ∧ Below w.heap.size w w' := fun w => mpage_no ty 128 ra la ps w hn
  clear hm hn hb hsl
  have hty1 : ((tx : Int) + 1) % 18446744073709551616 = (ty : Int) := by omega
  have hty2 : IntKind.u64.wrap ((tx : Int) + 1) = (ty : Int) := by rw [IntKind.wrap_u64]; omega
  clear hty
  obtain ⟨w0, hw0⟩ : ∃ w0, w0 = w.alloc (.cells #[.int .u64 tx, .int .i64 z, .int .u32 rt, .int .u32 fr, .int .u32 ps] 31) := ⟨_, rfl⟩
  have M := Lib.hid (show Blk w0 w.heap.size 31 #[.int .u64 tx, .int .i64 z, .int .u32 rt, .int .u32 fr, .int .u32 ps] by rw [hw0]; exact Blk.new _ _ _)
  have HB := Lib.hid (show Below w.heap.size w w0 by rw [hw0]; exact (Below.refl _ _).alloc (Nat.le_refl _) _)
  go_enter Try.func6, Try.ntmps6
  go_wp2_with fail
  rw [← hw0]
  clear hw0
  refine (lives5_any _).mono ?_
  rintro e w101 ⟨rfl, hb⟩
  replace HB := Lib.hid (HB.out.trans (hb.mono HB.out.size))
  replace M := Lib.hid (M.out.below hb M.out.lt)
  clear hb
  have cM_0 := M.out.cell 0
  have cM_1 := M.out.cell 1
  have cM_2 := M.out.cell 2
  have cM_3 := M.out.cell 3
  have cM_4 := M.out.cell 4
  simp at cM_0 cM_1 cM_2 cM_3 cM_4
  have fM1 := M.out.frozen 1
  obtain ⟨w102, hw102⟩ : ∃ x, x = w101.setCell ⟨w.heap.size, 1, none⟩ (.int .i64 128) := ⟨_, rfl⟩
  have lM := M.out.lt
  replace M := Lib.hid (show Blk w102 w.heap.size 31 #[.int .u64 tx, .int .i64 128, .int .u32 rt, .int .u32 fr, .int .u32 ps] by rw [hw102]; exact M.out.set_ 1 _)
  replace HB := Lib.hid (show Below w.heap.size w w102 by rw [hw102]; exact HB.out.setCell (Nat.le_refl _) _)
  have hsz : w102.heap.size = w101.heap.size := by rw [hw102]; simp [World.setCell]
  have uM_0 := M.out.cell 0
  have uM_1 := M.out.cell 1
  have uM_2 := M.out.cell 2
  have uM_3 := M.out.cell 3
  have uM_4 := M.out.cell 4
  rw [hw102] at uM_0 uM_1 uM_2 uM_3 uM_4
  simp at uM_0 uM_1 uM_2 uM_3 uM_4
  go_wp2_with fail
  rw [← hw102]
  clear hw102 fM1 lM cM_0 cM_1 cM_2 cM_3 cM_4 uM_0 uM_1 uM_2 uM_3 uM_4
  obtain ⟨w103, hw103⟩ : ∃ w103, w103 = w102.alloc (.cells #[.int .u64 ty, .int .i64 128, .int .u32 ra, .int .u32 la, .int .u32 ps] 31) := ⟨_, rfl⟩
  have N := Lib.hid (show Blk w103 w102.heap.size 31 #[.int .u64 ty, .int .i64 128, .int .u32 ra, .int .u32 la, .int .u32 ps] by rw [hw103]; exact Blk.new _ _ _)
  replace M := Lib.hid (show Blk w103 _ _ _ by rw [hw103]; exact M.out.alloc _)
  replace HB := Lib.hid (show Below w.heap.size w w103 by rw [hw103]; exact HB.out.alloc HB.out.size _)
  rw [← hw103]
  clear hw103
  rw [hsz] at N
  refine (HP1 _).mono ?_
  rintro e w104 ⟨rfl, hb⟩
  replace HB := Lib.hid (HB.out.trans (hb.mono HB.out.size))
  replace M := Lib.hid (M.out.below hb M.out.lt)
  replace N := Lib.hid (N.out.below hb N.out.lt)
  clear hb
  clear HP1
  obtain ⟨w105, hw105⟩ : ∃ w105, w105 = w104.alloc (.cells #[.int .i64 1, .int .i64 0, .int .u32 sl, .int .u32 0, .int .u64 tx, .string b] 26) := ⟨_, rfl⟩
  have lM := M.out.lt
  have dM_0 := M.out.cell 0
  have dM_1 := M.out.cell 1
  have dM_2 := M.out.cell 2
  have dM_3 := M.out.cell 3
  have dM_4 := M.out.cell 4
  have lN := N.out.lt
  have dN_0 := N.out.cell 0
  have dN_1 := N.out.cell 1
  have dN_2 := N.out.cell 2
  have dN_3 := N.out.cell 3
  have dN_4 := N.out.cell 4
  simp at dM_0 dM_1 dM_2 dM_3 dM_4 dN_0 dN_1 dN_2 dN_3 dN_4
  have P1 := Lib.hid (show Blk w105 w104.heap.size 26 #[.int .i64 1, .int .i64 0, .int .u32 sl, .int .u32 0, .int .u64 tx, .string b] by rw [hw105]; exact Blk.new _ _ _)
  replace M := Lib.hid (show Blk w105 _ _ _ by rw [hw105]; exact M.out.alloc _)
  replace N := Lib.hid (show Blk w105 _ _ _ by rw [hw105]; exact N.out.alloc _)
  replace HB := Lib.hid (show Below w.heap.size w w105 by rw [hw105]; exact HB.out.alloc HB.out.size _)
  have cM_0 := M.out.cell 0
  have cM_1 := M.out.cell 1
  have cM_2 := M.out.cell 2
  have cM_3 := M.out.cell 3
  have cM_4 := M.out.cell 4
  have cN_0 := N.out.cell 0
  have cN_1 := N.out.cell 1
  have cN_2 := N.out.cell 2
  have cN_3 := N.out.cell 3
  have cN_4 := N.out.cell 4
  rw [hw105] at cM_0 cM_1 cM_2 cM_3 cM_4 cN_0 cN_1 cN_2 cN_3 cN_4
  simp at cM_0 cM_1 cM_2 cM_3 cM_4 cN_0 cN_1 cN_2 cN_3 cN_4
  go_wp2_with fail
  rw [← hw105]
  clear hw105 cM_0 cM_1 cM_2 cM_3 cM_4 cN_0 cN_1 cN_2 cN_3 cN_4 dM_0 dM_1 dM_2 dM_3 dM_4 dN_0 dN_1 dN_2 dN_3 dN_4 lM lN
  refine (HP2 _).mono ?_
  rintro e w106 ⟨rfl, hb⟩
  replace HB := Lib.hid (HB.out.trans (hb.mono HB.out.size))
  replace M := Lib.hid (M.out.below hb M.out.lt)
  replace N := Lib.hid (N.out.below hb N.out.lt)
  replace P1 := Lib.hid (P1.out.below hb P1.out.lt)
  clear hb
  clear HP2
  obtain ⟨w107, hw107⟩ : ∃ w107, w107 = w106.alloc (.cells #[.int .i64 0, .int .i64 0, .int .u32 0, .int .u32 0, .int .u64 0, .string ByteArray.empty] 26) := ⟨_, rfl⟩
  have P2 := Lib.hid (show Blk w107 w106.heap.size 26 #[.int .i64 0, .int .i64 0, .int .u32 0, .int .u32 0, .int .u64 0, .string ByteArray.empty] by rw [hw107]; exact Blk.new _ _ _)
  replace M := Lib.hid (show Blk w107 _ _ _ by rw [hw107]; exact M.out.alloc _)
  replace N := Lib.hid (show Blk w107 _ _ _ by rw [hw107]; exact N.out.alloc _)
  replace P1 := Lib.hid (show Blk w107 _ _ _ by rw [hw107]; exact P1.out.alloc _)
  replace HB := Lib.hid (show Below w.heap.size w w107 by rw [hw107]; exact HB.out.alloc HB.out.size _)
  go_wp2_with fail
  go_ret
  exact ⟨rfl, by rw [← hw107]; exact HB.out⟩
set_option maxRecDepth 100000 in
set_option maxHeartbeats 12800000 in
theorem mnewer_c (tx : Nat) (z : Int) (rt fr ps ra la : Nat) (wh at_ : Int) (d : Nat) (w : World) (ty : Nat) (hty : (ty : Int) = ((tx : Int) + 1) % 18446744073709551616) (hm : mayM tx 128 rt fr ps = true) (hn : mayM ty 128 ra la ps = true) (hd0 : d = 0) :
    Calls Try.prog 6 #[.agg #[.int .u64 tx, .int .i64 z, .int .u32 rt, .int .u32 fr, .int .u32 ps], .int .u32 ra, .int .u32 la, .int .i64 wh, .int .i64 at_, .int .u32 d] w fun e w' => e = .returned (.bool true) ∧ Below w.heap.size w w' := by
  obtain ⟨b, hb⟩ : ∃ b, b = bodyM 128 rt fr ps := ⟨_, rfl⟩
  obtain ⟨sl, hsl⟩ : ∃ sl, sl = tx % 2 := ⟨_, rfl⟩
  obtain ⟨c, hc⟩ : ∃ c, c = bodyM 128 ra la ps := ⟨_, rfl⟩
  obtain ⟨so, hso⟩ : ∃ so, so = ty % 2 := ⟨_, rfl⟩
  have HP1 : ∀ w : World, Calls Try.prog 10 #[.agg #[.int .u64 tx, .int .i64 128, .int .u32 rt, .int .u32 fr, .int .u32 ps]] w fun e w' => e = .returned (.tuple #[.agg #[.int .i64 1, .int .i64 0, .int .u32 sl, .int .u32 0, .int .u64 tx, .string b], .int .i64 0]) ∧ Below w.heap.size w w' := fun w => mpage_yes tx 128 rt fr ps sl b w hm hb hsl
  have HP2 : ∀ w : World, Calls Try.prog 10 #[.agg #[.int .u64 ty, .int .i64 128, .int .u32 ra, .int .u32 la, .int .u32 ps]] w fun e w' => e = .returned (.tuple #[.agg #[.int .i64 1, .int .i64 0, .int .u32 so, .int .u32 0, .int .u64 ty, .string c], .int .i64 0]) ∧ Below w.heap.size w w' := fun w => mpage_yes ty 128 ra la ps so c w hn hc hso
  have hd1 : ((d : Int) == 0) = true := by simp [hd0]
  clear hm hn hb hsl hc hso hd0
  have hty1 : ((tx : Int) + 1) % 18446744073709551616 = (ty : Int) := by omega
  have hty2 : IntKind.u64.wrap ((tx : Int) + 1) = (ty : Int) := by rw [IntKind.wrap_u64]; omega
  clear hty
  obtain ⟨w0, hw0⟩ : ∃ w0, w0 = w.alloc (.cells #[.int .u64 tx, .int .i64 z, .int .u32 rt, .int .u32 fr, .int .u32 ps] 31) := ⟨_, rfl⟩
  have M := Lib.hid (show Blk w0 w.heap.size 31 #[.int .u64 tx, .int .i64 z, .int .u32 rt, .int .u32 fr, .int .u32 ps] by rw [hw0]; exact Blk.new _ _ _)
  have HB := Lib.hid (show Below w.heap.size w w0 by rw [hw0]; exact (Below.refl _ _).alloc (Nat.le_refl _) _)
  go_enter Try.func6, Try.ntmps6
  go_wp2_with fail
  rw [← hw0]
  clear hw0
  refine (lives5_any _).mono ?_
  rintro e w101 ⟨rfl, hb⟩
  replace HB := Lib.hid (HB.out.trans (hb.mono HB.out.size))
  replace M := Lib.hid (M.out.below hb M.out.lt)
  clear hb
  have cM_0 := M.out.cell 0
  have cM_1 := M.out.cell 1
  have cM_2 := M.out.cell 2
  have cM_3 := M.out.cell 3
  have cM_4 := M.out.cell 4
  simp at cM_0 cM_1 cM_2 cM_3 cM_4
  have fM1 := M.out.frozen 1
  obtain ⟨w102, hw102⟩ : ∃ x, x = w101.setCell ⟨w.heap.size, 1, none⟩ (.int .i64 128) := ⟨_, rfl⟩
  have lM := M.out.lt
  replace M := Lib.hid (show Blk w102 w.heap.size 31 #[.int .u64 tx, .int .i64 128, .int .u32 rt, .int .u32 fr, .int .u32 ps] by rw [hw102]; exact M.out.set_ 1 _)
  replace HB := Lib.hid (show Below w.heap.size w w102 by rw [hw102]; exact HB.out.setCell (Nat.le_refl _) _)
  have hsz : w102.heap.size = w101.heap.size := by rw [hw102]; simp [World.setCell]
  have uM_0 := M.out.cell 0
  have uM_1 := M.out.cell 1
  have uM_2 := M.out.cell 2
  have uM_3 := M.out.cell 3
  have uM_4 := M.out.cell 4
  rw [hw102] at uM_0 uM_1 uM_2 uM_3 uM_4
  simp at uM_0 uM_1 uM_2 uM_3 uM_4
  go_wp2_with fail
  rw [← hw102]
  clear hw102 fM1 lM cM_0 cM_1 cM_2 cM_3 cM_4 uM_0 uM_1 uM_2 uM_3 uM_4
  obtain ⟨w103, hw103⟩ : ∃ w103, w103 = w102.alloc (.cells #[.int .u64 ty, .int .i64 128, .int .u32 ra, .int .u32 la, .int .u32 ps] 31) := ⟨_, rfl⟩
  have N := Lib.hid (show Blk w103 w102.heap.size 31 #[.int .u64 ty, .int .i64 128, .int .u32 ra, .int .u32 la, .int .u32 ps] by rw [hw103]; exact Blk.new _ _ _)
  replace M := Lib.hid (show Blk w103 _ _ _ by rw [hw103]; exact M.out.alloc _)
  replace HB := Lib.hid (show Below w.heap.size w w103 by rw [hw103]; exact HB.out.alloc HB.out.size _)
  rw [← hw103]
  clear hw103
  rw [hsz] at N
  refine (HP1 _).mono ?_
  rintro e w104 ⟨rfl, hb⟩
  replace HB := Lib.hid (HB.out.trans (hb.mono HB.out.size))
  replace M := Lib.hid (M.out.below hb M.out.lt)
  replace N := Lib.hid (N.out.below hb N.out.lt)
  clear hb
  clear HP1
  obtain ⟨w105, hw105⟩ : ∃ w105, w105 = w104.alloc (.cells #[.int .i64 1, .int .i64 0, .int .u32 sl, .int .u32 0, .int .u64 tx, .string b] 26) := ⟨_, rfl⟩
  have lM := M.out.lt
  have dM_0 := M.out.cell 0
  have dM_1 := M.out.cell 1
  have dM_2 := M.out.cell 2
  have dM_3 := M.out.cell 3
  have dM_4 := M.out.cell 4
  have lN := N.out.lt
  have dN_0 := N.out.cell 0
  have dN_1 := N.out.cell 1
  have dN_2 := N.out.cell 2
  have dN_3 := N.out.cell 3
  have dN_4 := N.out.cell 4
  simp at dM_0 dM_1 dM_2 dM_3 dM_4 dN_0 dN_1 dN_2 dN_3 dN_4
  have P1 := Lib.hid (show Blk w105 w104.heap.size 26 #[.int .i64 1, .int .i64 0, .int .u32 sl, .int .u32 0, .int .u64 tx, .string b] by rw [hw105]; exact Blk.new _ _ _)
  replace M := Lib.hid (show Blk w105 _ _ _ by rw [hw105]; exact M.out.alloc _)
  replace N := Lib.hid (show Blk w105 _ _ _ by rw [hw105]; exact N.out.alloc _)
  replace HB := Lib.hid (show Below w.heap.size w w105 by rw [hw105]; exact HB.out.alloc HB.out.size _)
  have cM_0 := M.out.cell 0
  have cM_1 := M.out.cell 1
  have cM_2 := M.out.cell 2
  have cM_3 := M.out.cell 3
  have cM_4 := M.out.cell 4
  have cN_0 := N.out.cell 0
  have cN_1 := N.out.cell 1
  have cN_2 := N.out.cell 2
  have cN_3 := N.out.cell 3
  have cN_4 := N.out.cell 4
  rw [hw105] at cM_0 cM_1 cM_2 cM_3 cM_4 cN_0 cN_1 cN_2 cN_3 cN_4
  simp at cM_0 cM_1 cM_2 cM_3 cM_4 cN_0 cN_1 cN_2 cN_3 cN_4
  go_wp2_with fail
  rw [← hw105]
  clear hw105 cM_0 cM_1 cM_2 cM_3 cM_4 cN_0 cN_1 cN_2 cN_3 cN_4 dM_0 dM_1 dM_2 dM_3 dM_4 dN_0 dN_1 dN_2 dN_3 dN_4 lM lN
  refine (HP2 _).mono ?_
  rintro e w106 ⟨rfl, hb⟩
  replace HB := Lib.hid (HB.out.trans (hb.mono HB.out.size))
  replace M := Lib.hid (M.out.below hb M.out.lt)
  replace N := Lib.hid (N.out.below hb N.out.lt)
  replace P1 := Lib.hid (P1.out.below hb P1.out.lt)
  clear hb
  clear HP2
  obtain ⟨w107, hw107⟩ : ∃ w107, w107 = w106.alloc (.cells #[.int .i64 1, .int .i64 0, .int .u32 so, .int .u32 0, .int .u64 ty, .string c] 26) := ⟨_, rfl⟩
  have P2 := Lib.hid (show Blk w107 w106.heap.size 26 #[.int .i64 1, .int .i64 0, .int .u32 so, .int .u32 0, .int .u64 ty, .string c] by rw [hw107]; exact Blk.new _ _ _)
  replace M := Lib.hid (show Blk w107 _ _ _ by rw [hw107]; exact M.out.alloc _)
  replace N := Lib.hid (show Blk w107 _ _ _ by rw [hw107]; exact N.out.alloc _)
  replace P1 := Lib.hid (show Blk w107 _ _ _ by rw [hw107]; exact P1.out.alloc _)
  replace HB := Lib.hid (show Below w.heap.size w w107 by rw [hw107]; exact HB.out.alloc HB.out.size _)
  go_wp2_with fail
  go_ret
  exact ⟨rfl, by rw [← hw107]; exact HB.out⟩
set_option maxRecDepth 100000 in
set_option maxHeartbeats 12800000 in
theorem mnewer_d00 (tx : Nat) (z : Int) (rt fr ps ra la : Nat) (wh at_ : Int) (d : Nat) (w : World) (ty : Nat) (hty : (ty : Int) = ((tx : Int) + 1) % 18446744073709551616) (hm : mayM tx 128 rt fr ps = true) (hn : mayM ty 128 ra la ps = true) (hd0 : d ≠ 0) (hdl : d < 4294967296) (hpl : tx % 2 = 0) (hwv : wh % 2 = 0) :
    Calls Try.prog 6 #[.agg #[.int .u64 tx, .int .i64 z, .int .u32 rt, .int .u32 fr, .int .u32 ps], .int .u32 ra, .int .u32 la, .int .i64 wh, .int .i64 at_, .int .u32 d] w fun e w' => e = .returned (.bool true) ∧ Below w.heap.size w w' := by
  obtain ⟨b, hb⟩ : ∃ b, b = bodyM 128 rt fr ps := ⟨_, rfl⟩
  obtain ⟨sl, hsl⟩ : ∃ sl, sl = tx % 2 := ⟨_, rfl⟩
  obtain ⟨c, hc⟩ : ∃ c, c = bodyM 128 ra la ps := ⟨_, rfl⟩
  obtain ⟨so, hso⟩ : ∃ so, so = ty % 2 := ⟨_, rfl⟩
  have HP1 : ∀ w : World, Calls Try.prog 10 #[.agg #[.int .u64 tx, .int .i64 128, .int .u32 rt, .int .u32 fr, .int .u32 ps]] w fun e w' => e = .returned (.tuple #[.agg #[.int .i64 1, .int .i64 0, .int .u32 sl, .int .u32 0, .int .u64 tx, .string b], .int .i64 0]) ∧ Below w.heap.size w w' := fun w => mpage_yes tx 128 rt fr ps sl b w hm hb hsl
  have HP2 : ∀ w : World, Calls Try.prog 10 #[.agg #[.int .u64 ty, .int .i64 128, .int .u32 ra, .int .u32 la, .int .u32 ps]] w fun e w' => e = .returned (.tuple #[.agg #[.int .i64 1, .int .i64 0, .int .u32 so, .int .u32 0, .int .u64 ty, .string c], .int .i64 0]) ∧ Below w.heap.size w w' := fun w => mpage_yes ty 128 ra la ps so c w hn hc hso
  have hmg := (mayM_good hm).1
  have htyx : ty = tx + 1 := by omega
  have hno : ty % 2 = 1 := by omega
  obtain ⟨Bm, hBm⟩ : ∃ B, B = metaB tx 128 rt fr ps := ⟨_, rfl⟩
  obtain ⟨Bn, hBn⟩ : ∃ B, B = metaB ty 128 ra la ps := ⟨_, rfl⟩
  have hd1 : ((d : Int) == 0) = false := by simpa using hd0
  obtain ⟨q, hq⟩ : ∃ q : Nat, (q : Int) = 4 + at_ % ((128 - 7 : Nat) : Int) := ⟨(4 + at_ % ((128 - 7 : Nat) : Int)).toNat, by have := Int.emod_nonneg at_ (show ((128 - 7 : Nat) : Int) ≠ 0 by decide); omega⟩
  have hq2 : 4 ≤ q ∧ q + 4 ≤ 128 := by have h1 := Int.emod_nonneg at_ (show ((128 - 7 : Nat) : Int) ≠ 0 by decide); have h2 := Int.emod_lt_of_pos at_ (show (0 : Int) < ((128 - 7 : Nat) : Int) by decide); omega
  have sBm : Bm.size = 128 := by rw [hBm]; exact metaB_size tx 128 rt fr ps (by decide)
  have sBn : Bn.size = 128 := by rw [hBn]; exact metaB_size ty 128 ra la ps (by decide)
  obtain ⟨Tm, hTm⟩ : ∃ T, T = turnB Bm q d := ⟨_, rfl⟩
  obtain ⟨Tn, hTn⟩ : ∃ T, T = turnB Bn q d := ⟨_, rfl⟩
  have sTm : Tm.size = 128 := by rw [hTm, turnB_size]; exact sBm
  have sTn : Tn.size = 128 := by rw [hTn, turnB_size]; exact sBn
  have HTm := fun w => turned_any Bm at_ d q Tm w (by omega) (by omega) hdl (by rw [sBm]; exact hq) hTm
  have HTn := fun w => turned_any Bn at_ d q Tn w (by omega) (by omega) hdl (by rw [sBn]; exact hq) hTn
  have okm : blockOk 128 0 Bm = true := by rw [hBm, ← hpl]; exact (metaB_parts tx 128 rt fr ps hm).1
  have okn : blockOk 128 1 Bn = true := by rw [hBn, ← hno]; exact (metaB_parts ty 128 ra la ps hn).1
  have badm : ∀ k, blockOk 128 k Tm = false := fun k => by rw [hTm]; exact turn_bad 128 0 k Bm q d okm hdl hd0 hq2.1 (by omega)
  have badn : ∀ k, blockOk 128 k Tn = false := fun k => by rw [hTn]; exact turn_bad 128 1 k Bn q d okn hdl hd0 hq2.1 (by omega)
  have hg : goodSize ((128 : Nat) : Int) = true := by decide
  obtain ⟨i1, i2, i3⟩ := blk_two 128 Bm Bn sBm sBn
  have HN1 : ∀ w : World, Calls Try.prog 15 #[.int .i64 128, .string (Bm ++ Bn)] w fun e w' => e = .returned (.tuple #[.agg #[.int .u64 ty, .int .i64 128, .int .u32 ra, .int .u32 la, .int .u32 ps], .int .i64 0]) ∧ Below w.heap.size w w' := fun w => mnew_ab 128 (Bm ++ Bn) tx 128 rt fr ps ty 128 ra la ps w hg (metaAt_block 128 0 (Bm ++ Bn) tx rt fr ps hm hpl.symm (by rw [i3]; decide) (by rw [i1, hBm])) (metaAt_block 128 1 (Bm ++ Bn) ty ra la ps hn hno.symm (by rw [i3]; decide) (by rw [i2, hBn])) (by rw [i3]; decide) (by omega)
  obtain ⟨j1, j2, j3⟩ := blk_two 128 Tm Bn sTm sBn
  have HN2 : ∀ w : World, Calls Try.prog 15 #[.int .i64 128, .string (Tm ++ Bn)] w fun e w' => e = .returned (.tuple #[.agg #[.int .u64 ty, .int .i64 128, .int .u32 ra, .int .u32 la, .int .u32 ps], .int .i64 0]) ∧ Below w.heap.size w w' := fun w => mnew_b 128 (Tm ++ Bn) 0 0 0 0 0 ty 128 ra la ps w hg (metaAt_bad 128 0 (Tm ++ Bn) (by rw [j1]; exact badm 0)) (metaAt_block 128 1 (Tm ++ Bn) ty ra la ps hn hno.symm (by rw [j3]; decide) (by rw [j2, hBn])) (by rw [j3]; decide)
  obtain ⟨k1, k2, k3⟩ := blk_two 128 Tm Tn sTm sTn
  have HN3 : ∀ w : World, Calls Try.prog 15 #[.int .i64 128, .string (Tm ++ Tn)] w fun e w' => e = .returned (.tuple #[.agg #[.int .u64 0, .int .i64 0, .int .u32 0, .int .u32 0, .int .u32 0], .int .i64 5]) ∧ Below w.heap.size w w' := fun w => mnew_none 128 (Tm ++ Tn) 0 0 0 0 0 0 0 0 0 0 w hg (metaAt_bad 128 0 (Tm ++ Tn) (by rw [k1]; exact badm 0)) (metaAt_bad 128 1 (Tm ++ Tn) (by rw [k2]; exact badn 1)) (by rw [k3]; decide)
  have cat0 : ¬ (9223372036854775807 < Bm.size + Bn.size) := by omega
  have cat1 : ¬ (9223372036854775807 < Tm.size + Bn.size) := by omega
  have cat2 : ¬ (9223372036854775807 < Tm.size + Tn.size) := by omega
  have HS1 : ∀ w : World, Calls Try.prog 17 #[.int .u64 tx] w fun e w' => e = .returned (.int .u32 0) ∧ w' = w := fun w => slot_is tx 0 w hpl.symm
  have HS2 : ∀ w : World, Calls Try.prog 17 #[.int .u64 ty] w fun e w' => e = .returned (.int .u32 1) ∧ w' = w := fun w => slot_is ty 1 w hno.symm
  have HK1 : ∀ w : World, Calls Try.prog 13 #[.agg #[.int .u64 tx, .int .i64 128, .int .u32 rt, .int .u32 fr, .int .u32 ps]] w fun e w' => e = .returned (.string Bm) ∧ Below w.heap.size w w' := fun w => mblock_is tx 128 rt fr ps Bm w hm hBm
  have HK2 : ∀ w : World, Calls Try.prog 13 #[.agg #[.int .u64 ty, .int .i64 128, .int .u32 ra, .int .u32 la, .int .u32 ps]] w fun e w' => e = .returned (.string Bn) ∧ Below w.heap.size w w' := fun w => mblock_is ty 128 ra la ps Bn w hn hBn
  have HPk : ∀ w : World, Calls Try.prog 23 #[.int .i64 wh, .int .i64 2] w fun e w' => e = .returned (.int .i64 0) ∧ w = w' := fun w => by
    have := pick_any wh 2 w (by decide) (by decide)
    rw [show wh % ((2 : Nat) : Int) = 0 from hwv] at this
    exact this
  have hen := fun w => meta_same ty 128 ra la ps w
  have hem := fun w => meta_same tx 128 rt fr ps w
  obtain ⟨hz2, hi2⟩ := zero_of_info infoS2
  have HI2 := Lib.hid hi2
  clear hm hn hb hsl hc hso hd0 hdl hpl hwv hmg htyx hno hBm hBn hq hq2 sBm sBn hTm hTn sTm sTn okm okn badm badn hg i1 i2 i3 j1 j2 j3 k1 k2 k3 hi2
  have hty1 : ((tx : Int) + 1) % 18446744073709551616 = (ty : Int) := by omega
  have hty2 : IntKind.u64.wrap ((tx : Int) + 1) = (ty : Int) := by rw [IntKind.wrap_u64]; omega
  clear hty
  obtain ⟨w0, hw0⟩ : ∃ w0, w0 = w.alloc (.cells #[.int .u64 tx, .int .i64 z, .int .u32 rt, .int .u32 fr, .int .u32 ps] 31) := ⟨_, rfl⟩
  have M := Lib.hid (show Blk w0 w.heap.size 31 #[.int .u64 tx, .int .i64 z, .int .u32 rt, .int .u32 fr, .int .u32 ps] by rw [hw0]; exact Blk.new _ _ _)
  have HB := Lib.hid (show Below w.heap.size w w0 by rw [hw0]; exact (Below.refl _ _).alloc (Nat.le_refl _) _)
  go_enter Try.func6, Try.ntmps6
  go_wp2_with fail
  rw [← hw0]
  clear hw0
  refine (lives5_any _).mono ?_
  rintro e w101 ⟨rfl, hb⟩
  replace HB := Lib.hid (HB.out.trans (hb.mono HB.out.size))
  replace M := Lib.hid (M.out.below hb M.out.lt)
  clear hb
  have cM_0 := M.out.cell 0
  have cM_1 := M.out.cell 1
  have cM_2 := M.out.cell 2
  have cM_3 := M.out.cell 3
  have cM_4 := M.out.cell 4
  simp at cM_0 cM_1 cM_2 cM_3 cM_4
  have fM1 := M.out.frozen 1
  obtain ⟨w102, hw102⟩ : ∃ x, x = w101.setCell ⟨w.heap.size, 1, none⟩ (.int .i64 128) := ⟨_, rfl⟩
  have lM := M.out.lt
  replace M := Lib.hid (show Blk w102 w.heap.size 31 #[.int .u64 tx, .int .i64 128, .int .u32 rt, .int .u32 fr, .int .u32 ps] by rw [hw102]; exact M.out.set_ 1 _)
  replace HB := Lib.hid (show Below w.heap.size w w102 by rw [hw102]; exact HB.out.setCell (Nat.le_refl _) _)
  have hsz : w102.heap.size = w101.heap.size := by rw [hw102]; simp [World.setCell]
  have uM_0 := M.out.cell 0
  have uM_1 := M.out.cell 1
  have uM_2 := M.out.cell 2
  have uM_3 := M.out.cell 3
  have uM_4 := M.out.cell 4
  rw [hw102] at uM_0 uM_1 uM_2 uM_3 uM_4
  simp at uM_0 uM_1 uM_2 uM_3 uM_4
  go_wp2_with fail
  rw [← hw102]
  clear hw102 fM1 lM cM_0 cM_1 cM_2 cM_3 cM_4 uM_0 uM_1 uM_2 uM_3 uM_4
  obtain ⟨w103, hw103⟩ : ∃ w103, w103 = w102.alloc (.cells #[.int .u64 ty, .int .i64 128, .int .u32 ra, .int .u32 la, .int .u32 ps] 31) := ⟨_, rfl⟩
  have N := Lib.hid (show Blk w103 w102.heap.size 31 #[.int .u64 ty, .int .i64 128, .int .u32 ra, .int .u32 la, .int .u32 ps] by rw [hw103]; exact Blk.new _ _ _)
  replace M := Lib.hid (show Blk w103 _ _ _ by rw [hw103]; exact M.out.alloc _)
  replace HB := Lib.hid (show Below w.heap.size w w103 by rw [hw103]; exact HB.out.alloc HB.out.size _)
  rw [← hw103]
  clear hw103
  rw [hsz] at N
  refine (HP1 _).mono ?_
  rintro e w104 ⟨rfl, hb⟩
  replace HB := Lib.hid (HB.out.trans (hb.mono HB.out.size))
  replace M := Lib.hid (M.out.below hb M.out.lt)
  replace N := Lib.hid (N.out.below hb N.out.lt)
  clear hb
  clear HP1
  obtain ⟨w105, hw105⟩ : ∃ w105, w105 = w104.alloc (.cells #[.int .i64 1, .int .i64 0, .int .u32 sl, .int .u32 0, .int .u64 tx, .string b] 26) := ⟨_, rfl⟩
  have lM := M.out.lt
  have dM_0 := M.out.cell 0
  have dM_1 := M.out.cell 1
  have dM_2 := M.out.cell 2
  have dM_3 := M.out.cell 3
  have dM_4 := M.out.cell 4
  have lN := N.out.lt
  have dN_0 := N.out.cell 0
  have dN_1 := N.out.cell 1
  have dN_2 := N.out.cell 2
  have dN_3 := N.out.cell 3
  have dN_4 := N.out.cell 4
  simp at dM_0 dM_1 dM_2 dM_3 dM_4 dN_0 dN_1 dN_2 dN_3 dN_4
  have P1 := Lib.hid (show Blk w105 w104.heap.size 26 #[.int .i64 1, .int .i64 0, .int .u32 sl, .int .u32 0, .int .u64 tx, .string b] by rw [hw105]; exact Blk.new _ _ _)
  replace M := Lib.hid (show Blk w105 _ _ _ by rw [hw105]; exact M.out.alloc _)
  replace N := Lib.hid (show Blk w105 _ _ _ by rw [hw105]; exact N.out.alloc _)
  replace HB := Lib.hid (show Below w.heap.size w w105 by rw [hw105]; exact HB.out.alloc HB.out.size _)
  have cM_0 := M.out.cell 0
  have cM_1 := M.out.cell 1
  have cM_2 := M.out.cell 2
  have cM_3 := M.out.cell 3
  have cM_4 := M.out.cell 4
  have cN_0 := N.out.cell 0
  have cN_1 := N.out.cell 1
  have cN_2 := N.out.cell 2
  have cN_3 := N.out.cell 3
  have cN_4 := N.out.cell 4
  rw [hw105] at cM_0 cM_1 cM_2 cM_3 cM_4 cN_0 cN_1 cN_2 cN_3 cN_4
  simp at cM_0 cM_1 cM_2 cM_3 cM_4 cN_0 cN_1 cN_2 cN_3 cN_4
  go_wp2_with fail
  rw [← hw105]
  clear hw105 cM_0 cM_1 cM_2 cM_3 cM_4 cN_0 cN_1 cN_2 cN_3 cN_4 dM_0 dM_1 dM_2 dM_3 dM_4 dN_0 dN_1 dN_2 dN_3 dN_4 lM lN
  refine (HP2 _).mono ?_
  rintro e w106 ⟨rfl, hb⟩
  replace HB := Lib.hid (HB.out.trans (hb.mono HB.out.size))
  replace M := Lib.hid (M.out.below hb M.out.lt)
  replace N := Lib.hid (N.out.below hb N.out.lt)
  replace P1 := Lib.hid (P1.out.below hb P1.out.lt)
  clear hb
  clear HP2
  obtain ⟨w107, hw107⟩ : ∃ w107, w107 = w106.alloc (.cells #[.int .i64 1, .int .i64 0, .int .u32 so, .int .u32 0, .int .u64 ty, .string c] 26) := ⟨_, rfl⟩
  have lM := M.out.lt
  have dM_0 := M.out.cell 0
  have dM_1 := M.out.cell 1
  have dM_2 := M.out.cell 2
  have dM_3 := M.out.cell 3
  have dM_4 := M.out.cell 4
  have lN := N.out.lt
  have dN_0 := N.out.cell 0
  have dN_1 := N.out.cell 1
  have dN_2 := N.out.cell 2
  have dN_3 := N.out.cell 3
  have dN_4 := N.out.cell 4
  simp at dM_0 dM_1 dM_2 dM_3 dM_4 dN_0 dN_1 dN_2 dN_3 dN_4
  have P2 := Lib.hid (show Blk w107 w106.heap.size 26 #[.int .i64 1, .int .i64 0, .int .u32 so, .int .u32 0, .int .u64 ty, .string c] by rw [hw107]; exact Blk.new _ _ _)
  replace M := Lib.hid (show Blk w107 _ _ _ by rw [hw107]; exact M.out.alloc _)
  replace N := Lib.hid (show Blk w107 _ _ _ by rw [hw107]; exact N.out.alloc _)
  replace P1 := Lib.hid (show Blk w107 _ _ _ by rw [hw107]; exact P1.out.alloc _)
  replace HB := Lib.hid (show Below w.heap.size w w107 by rw [hw107]; exact HB.out.alloc HB.out.size _)
  have cM_0 := M.out.cell 0
  have cM_1 := M.out.cell 1
  have cM_2 := M.out.cell 2
  have cM_3 := M.out.cell 3
  have cM_4 := M.out.cell 4
  have cN_0 := N.out.cell 0
  have cN_1 := N.out.cell 1
  have cN_2 := N.out.cell 2
  have cN_3 := N.out.cell 3
  have cN_4 := N.out.cell 4
  rw [hw107] at cM_0 cM_1 cM_2 cM_3 cM_4 cN_0 cN_1 cN_2 cN_3 cN_4
  simp at cM_0 cM_1 cM_2 cM_3 cM_4 cN_0 cN_1 cN_2 cN_3 cN_4
  have hsz2 : w107.heap.size = w106.heap.size + 1 := by rw [hw107]; simp
  go_wp2_with fail
  rw [← hw107]
  clear hw107 cM_0 cM_1 cM_2 cM_3 cM_4 cN_0 cN_1 cN_2 cN_3 cN_4 dM_0 dM_1 dM_2 dM_3 dM_4 dN_0 dN_1 dN_2 dN_3 dN_4 lM lN
  clear P1
  clear P2
  have hML := Lib.hid M.out.lt
  obtain ⟨w108, hw108⟩ : ∃ w108, w108 = w107.alloc (.cells #[.string ByteArray.empty, .string ByteArray.empty] 45) := ⟨_, rfl⟩
  have L := Lib.hid (show Blk w108 w107.heap.size 45 #[.string ByteArray.empty, .string ByteArray.empty] by rw [hw108]; exact Blk.new _ _ _)
  replace M := Lib.hid (show Blk w108 _ _ _ by rw [hw108]; exact M.out.alloc _)
  replace N := Lib.hid (show Blk w108 _ _ _ by rw [hw108]; exact N.out.alloc _)
  replace HB := Lib.hid (show Below w.heap.size w w108 by rw [hw108]; exact HB.out.alloc HB.out.size _)
  rw [← hw108]
  clear hw108
  rw [hsz2] at L hML
  have HLB := Lib.hid (show w.heap.size ≤ w106.heap.size + 1 from Nat.le_of_lt hML.out)
  replace M := Lib.hid M.out.drew
  replace N := Lib.hid N.out.drew
  replace L := Lib.hid L.out.drew
  replace HB := Lib.hid HB.out.drew
  refine wp_region_held_drew (S := fun w' => (w'.cell? ⟨w.heap.size, 0, none⟩ = some (.int .u64 tx) ∧ w'.cell? ⟨w.heap.size, 1, none⟩ = some (.int .i64 128) ∧ w'.cell? ⟨w.heap.size, 2, none⟩ = some (.int .u32 rt) ∧ w'.cell? ⟨w.heap.size, 3, none⟩ = some (.int .u32 fr) ∧ w'.cell? ⟨w.heap.size, 4, none⟩ = some (.int .u32 ps)) ∧ (w'.cell? ⟨w101.heap.size, 0, none⟩ = some (.int .u64 ty) ∧ w'.cell? ⟨w101.heap.size, 1, none⟩ = some (.int .i64 128) ∧ w'.cell? ⟨w101.heap.size, 2, none⟩ = some (.int .u32 ra) ∧ w'.cell? ⟨w101.heap.size, 3, none⟩ = some (.int .u32 la) ∧ w'.cell? ⟨w101.heap.size, 4, none⟩ = some (.int .u32 ps))) (by kernel_rfl) ⟨meta_cells M.out, meta_cells N.out⟩ (fun hHeld => ?_)
  have NEM : w.heap.size ≠ (w106.heap.size + 1) := by intro h; have h1 := M.out; have h2 := L.out; rw [h] at h1; exact absurd (h1.symm.trans h2) (by simp)
  have NEN : w101.heap.size ≠ (w106.heap.size + 1) := by intro h; have h1 := N.out; have h2 := L.out; rw [h] at h1; exact absurd (h1.symm.trans h2) (by simp)
  refine wpAnyH_takeL (i := 0) (v := ?_) rfl (by kernel_rfl) (by kernel_rfl) (by kernel_rfl) (fun _ _ _ h => h) (Or.inl ⟨by rfl, ?_⟩) (by first | trivial | assumption) ?_
  rotate_left
  · intro wz hSz; (try dsimp only at hSz); go_simp; (try with_reducible rfl)
  try simp only [Act.put, List.setIfInBounds_toArray, List.set_cons_zero, List.set_cons_succ]
  refine wpAnyH_takeL (i := 1) (v := ?_) rfl (by kernel_rfl) (by kernel_rfl) (by kernel_rfl) (fun _ _ _ h => h) (Or.inl ⟨by rfl, ?_⟩) (by first | trivial | assumption) ?_
  rotate_left
  · intro wz hSz; (try dsimp only at hSz); go_simp; (try with_reducible rfl)
  try simp only [Act.put, List.setIfInBounds_toArray, List.set_cons_zero, List.set_cons_succ]
  refine wpAnyH_takeL (i := 3) (v := ?_) rfl (by kernel_rfl) (by kernel_rfl) (by kernel_rfl) (fun _ _ _ h => h) (Or.inl ⟨by rfl, ?_⟩) (by first | trivial | assumption) ?_
  rotate_left
  · intro wz hSz; (try dsimp only at hSz); go_simp; (try with_reducible rfl)
  try simp only [Act.put, List.setIfInBounds_toArray, List.set_cons_zero, List.set_cons_succ]
  refine wpAnyH_takeL (i := 4) (v := ?_) rfl (by kernel_rfl) (by kernel_rfl) (by kernel_rfl) (fun _ _ _ h => h) (Or.inl ⟨by rfl, ?_⟩) (by first | trivial | assumption) ?_
  rotate_left
  · intro wz hSz; (try dsimp only at hSz); go_simp; (try with_reducible rfl)
  try simp only [Act.put, List.setIfInBounds_toArray, List.set_cons_zero, List.set_cons_succ]
  refine wpAnyH_takeL (i := 6) (v := ?_) rfl (by kernel_rfl) (by kernel_rfl) (by kernel_rfl) (fun _ _ _ h => h) (Or.inl ⟨by rfl, ?_⟩) (by first | trivial | assumption) ?_
  rotate_left
  · intro wz hSz; (try dsimp only at hSz); go_simp; (try with_reducible rfl)
  try simp only [Act.put, List.setIfInBounds_toArray, List.set_cons_zero, List.set_cons_succ]
  refine wpAnyH_takeL (i := 8) (v := ?_) rfl (by kernel_rfl) (by kernel_rfl) (by kernel_rfl) (fun _ _ _ h => h) (Or.inl ⟨by rfl, ?_⟩) (by first | trivial | assumption) ?_
  rotate_left
  · intro wz hSz; (try dsimp only at hSz); go_simp; (try with_reducible rfl)
  try simp only [Act.put, List.setIfInBounds_toArray, List.set_cons_zero, List.set_cons_succ]
  refine wpAnyH_ready (rs := [2]) (by kernel_rfl) (by simp) ?_
  refine AllReadyH.consL rfl (fun K hK => ?_) AllReadyH.nil
  go_simp
  refine (HS1 _).mono ?_
  rintro e wq ⟨rfl, rfl⟩
  refine hK.out _ _ (⟨meta_cells M.out, meta_cells N.out⟩) (fun hHeld => ?_)
  clear hK K
  try simp only [Act.put, List.setIfInBounds_toArray, List.set_cons_zero, List.set_cons_succ]
  refine wpAnyH_ready (rs := [5]) (by kernel_rfl) (by simp) ?_
  refine AllReadyH.consL rfl (fun K hK => ?_) AllReadyH.nil
  go_simp
  refine (HS2 _).mono ?_
  rintro e wq ⟨rfl, rfl⟩
  refine hK.out _ _ (⟨meta_cells M.out, meta_cells N.out⟩) (fun hHeld => ?_)
  clear hK K
  try simp only [Act.put, List.setIfInBounds_toArray, List.set_cons_zero, List.set_cons_succ]
  refine wpAnyH_ready (rs := [7]) (by kernel_rfl) (by simp) ?_
  refine AllReadyH.consL rfl (fun K hK => ?_) AllReadyH.nil
  go_simp
  refine (HK1 _).mono ?_
  rintro e wq ⟨rfl, hb⟩
  replace M := Lib.hid (M.out.below hb M.out.lt)
  replace N := Lib.hid (N.out.below hb N.out.lt)
  replace L := Lib.hid (L.out.below hb L.out.lt)
  replace HB := Lib.hid (HB.out.trans (hb.mono HB.out.size))
  clear hb
  refine hK.out _ _ (⟨meta_cells M.out, meta_cells N.out⟩) (fun hHeld => ?_)
  clear hK K
  try simp only [Act.put, List.setIfInBounds_toArray, List.set_cons_zero, List.set_cons_succ]
  refine wpAnyH_takeL (i := 10) (v := ?_) rfl (by kernel_rfl) (by kernel_rfl) (by kernel_rfl) (fun _ _ _ h => h) (Or.inl ⟨by rfl, ?_⟩) (by first | trivial | assumption) ?_
  rotate_left
  · intro wz hSz; (try dsimp only at hSz); go_simp; (try with_reducible rfl)
  try simp only [Act.put, List.setIfInBounds_toArray, List.set_cons_zero, List.set_cons_succ]
  refine wpAnyH_ready (rs := [9]) (by kernel_rfl) (by simp) ?_
  refine AllReadyH.consL rfl (fun K hK => ?_) AllReadyH.nil
  go_simp
  refine (HK2 _).mono ?_
  rintro e wb ⟨rfl, hb⟩
  replace M := Lib.hid (M.out.below hb M.out.lt)
  replace N := Lib.hid (N.out.below hb N.out.lt)
  replace L := Lib.hid (L.out.below hb L.out.lt)
  replace HB := Lib.hid (HB.out.trans (hb.mono HB.out.size))
  clear hb
  refine hK.out _ _ (⟨meta_cells M.out, meta_cells N.out⟩) (fun hHeld => ?_)
  clear hK K
  try simp only [Act.put, List.setIfInBounds_toArray, List.set_cons_zero, List.set_cons_succ]
  have l0 := L.out.cell 0
  have l1 := L.out.cell 1
  have f0 := L.out.frozen 0
  have f1 := L.out.frozen 1
  simp at l0 l1
  have hne := Lib.hid (show True from trivial)
  refine wpAnyH_ready (rs := [11]) (by kernel_rfl) (by simp) ?_
  refine AllReadyH.consL rfl (fun K hK => ?_) AllReadyH.nil
  go_simp
  refine hK.out _ _ (⟨meta_cells (M.out.far (p := ⟨(w106.heap.size + 1), 0, none⟩) NEM _), meta_cells (N.out.far (p := ⟨(w106.heap.size + 1), 0, none⟩) NEN _)⟩) (fun hHeld => ?_)
  clear hK K
  try simp only [Act.put, List.setIfInBounds_toArray, List.set_cons_zero, List.set_cons_succ]
  refine wpAnyH_takeL (i := 12) (v := ?_) rfl (by kernel_rfl) (by kernel_rfl) (by kernel_rfl) (fun _ _ _ h => h) (Or.inl ⟨by rfl, ?_⟩) (by first | trivial | assumption) ?_
  rotate_left
  · intro wz hSz; (try dsimp only at hSz); go_simp; (try with_reducible rfl)
  try simp only [Act.put, List.setIfInBounds_toArray, List.set_cons_zero, List.set_cons_succ]
  refine wpAnyH_ready (rs := [13]) (by kernel_rfl) (by simp) ?_
  refine AllReadyH.consL rfl (fun K hK => ?_) AllReadyH.nil
  go_simp
  refine hK.out _ _ (⟨meta_cells ((M.out.far (p := ⟨(w106.heap.size + 1), 0, none⟩) NEM _).far (p := ⟨(w106.heap.size + 1), 1, none⟩) NEM _), meta_cells ((N.out.far (p := ⟨(w106.heap.size + 1), 0, none⟩) NEN _).far (p := ⟨(w106.heap.size + 1), 1, none⟩) NEN _)⟩) (fun hHeld => ?_)
  clear hK K
  try simp only [Act.put, List.setIfInBounds_toArray, List.set_cons_zero, List.set_cons_succ]
  refine wpAnyH_done (by kernel_rfl) ?_ _
  clear l0 l1 f0 f1 hne HK1 HK2
  obtain ⟨w109, hw109⟩ : ∃ x, x = wb.setCell ⟨(w106.heap.size + 1), 0, none⟩ (.string Bm) := ⟨_, rfl⟩
  rw [← hw109]
  replace L := Lib.hid (show Blk w109 (w106.heap.size + 1) _ #[.string Bm, .string ByteArray.empty] by rw [hw109]; exact L.out.set_ 0 _)
  replace M := Lib.hid (show Blk w109 _ _ _ by rw [hw109]; exact M.out.far NEM _)
  replace N := Lib.hid (show Blk w109 _ _ _ by rw [hw109]; exact N.out.far NEN _)
  replace HB := Lib.hid (show Below w.heap.size w w109 by rw [hw109]; exact HB.out.setCell HLB.out _)
  clear hw109
  obtain ⟨w110, hw110⟩ : ∃ x, x = w109.setCell ⟨(w106.heap.size + 1), 1, none⟩ (.string Bn) := ⟨_, rfl⟩
  rw [← hw110]
  replace L := Lib.hid (show Blk w110 (w106.heap.size + 1) _ #[.string Bm, .string Bn] by rw [hw110]; exact L.out.set_ 1 _)
  replace M := Lib.hid (show Blk w110 _ _ _ by rw [hw110]; exact M.out.far NEM _)
  replace N := Lib.hid (show Blk w110 _ _ _ by rw [hw110]; exact N.out.far NEN _)
  replace HB := Lib.hid (show Below w.heap.size w w110 by rw [hw110]; exact HB.out.setCell HLB.out _)
  clear hw110
  clear NEM NEN hHeld
  have cL_0 := L.out.cell 0
  have cL_1 := L.out.cell 1
  simp at cL_0 cL_1
  go_wp2_with fail
  clear cL_0 cL_1
  refine (HN1 _).mono ?_
  rintro e w111 ⟨rfl, hb⟩
  replace HB := Lib.hid (HB.out.trans (hb.mono HB.out.size))
  replace M := Lib.hid (M.out.below hb M.out.lt)
  replace N := Lib.hid (N.out.below hb N.out.lt)
  replace L := Lib.hid (L.out.below hb L.out.lt)
  clear hb
  clear HN1
  obtain ⟨w112, hw112⟩ : ∃ w112, w112 = w111.alloc (.cells #[.int .u64 ty, .int .i64 128, .int .u32 ra, .int .u32 la, .int .u32 ps] 31) := ⟨_, rfl⟩
  have lL := L.out.lt
  have dL_0 := L.out.cell 0
  have dL_1 := L.out.cell 1
  simp at dL_0 dL_1
  have R1 := Lib.hid (show Blk w112 w111.heap.size 31 #[.int .u64 ty, .int .i64 128, .int .u32 ra, .int .u32 la, .int .u32 ps] by rw [hw112]; exact Blk.new _ _ _)
  replace M := Lib.hid (show Blk w112 _ _ _ by rw [hw112]; exact M.out.alloc _)
  replace N := Lib.hid (show Blk w112 _ _ _ by rw [hw112]; exact N.out.alloc _)
  replace L := Lib.hid (show Blk w112 _ _ _ by rw [hw112]; exact L.out.alloc _)
  replace HB := Lib.hid (show Below w.heap.size w w112 by rw [hw112]; exact HB.out.alloc HB.out.size _)
  have cL_0 := L.out.cell 0
  have cL_1 := L.out.cell 1
  rw [hw112] at cL_0 cL_1
  simp at cL_0 cL_1
  go_wp2_with fail
  rw [← hw112]
  clear hw112 cL_0 cL_1 dL_0 dL_1 lL
  refine (HPk _).mono ?_
  rintro e wz ⟨rfl, rfl⟩
  have cL_0 := L.out.cell 0
  have cL_1 := L.out.cell 1
  simp at cL_0 cL_1
  go_wp2_with fail
  clear HPk cL_0 cL_1
  refine (HTm _).mono ?_
  rintro e w113 ⟨rfl, hb⟩
  replace HB := Lib.hid (HB.out.trans (hb.mono HB.out.size))
  replace M := Lib.hid (M.out.below hb M.out.lt)
  replace N := Lib.hid (N.out.below hb N.out.lt)
  replace L := Lib.hid (L.out.below hb L.out.lt)
  replace R1 := Lib.hid (R1.out.below hb R1.out.lt)
  clear hb
  have fL := L.out.frozen 0
  have cL_0 := L.out.cell 0
  have cL_1 := L.out.cell 1
  simp at cL_0 cL_1
  obtain ⟨w114, hw114⟩ : ∃ x, x = w113.setCell ⟨(w106.heap.size + 1), 0, none⟩ (.string Tm) := ⟨_, rfl⟩
  have neM : (w.heap.size) ≠ (w106.heap.size + 1) := by intro h; have h1 := M.out; have h2 := L.out; rw [h] at h1; exact absurd (h1.symm.trans h2) (by simp)
  have neN : (w101.heap.size) ≠ (w106.heap.size + 1) := by intro h; have h1 := N.out; have h2 := L.out; rw [h] at h1; exact absurd (h1.symm.trans h2) (by simp)
  have neR1 : (w111.heap.size) ≠ (w106.heap.size + 1) := by intro h; have h1 := R1.out; have h2 := L.out; rw [h] at h1; exact absurd (h1.symm.trans h2) (by simp)
  replace L := Lib.hid (show Blk w114 (w106.heap.size + 1) _ #[.string Tm, .string Bn] by rw [hw114]; exact L.out.set_ 0 _)
  replace M := Lib.hid (show Blk w114 _ _ _ by rw [hw114]; exact M.out.far neM _)
  clear neM
  replace N := Lib.hid (show Blk w114 _ _ _ by rw [hw114]; exact N.out.far neN _)
  clear neN
  replace R1 := Lib.hid (show Blk w114 _ _ _ by rw [hw114]; exact R1.out.far neR1 _)
  clear neR1
  replace HB := Lib.hid (show Below w.heap.size w w114 by rw [hw114]; exact HB.out.setCell HLB.out _)
  have cL_0 := L.out.cell 0
  have cL_1 := L.out.cell 1
  rw [hw114] at cL_0 cL_1
  simp at cL_0 cL_1
  go_wp2_with fail
  rw [← hw114]
  clear hw114 cL_0 cL_1
  clear fL
  refine (HN2 _).mono ?_
  rintro e w115 ⟨rfl, hb⟩
  replace HB := Lib.hid (HB.out.trans (hb.mono HB.out.size))
  replace M := Lib.hid (M.out.below hb M.out.lt)
  replace N := Lib.hid (N.out.below hb N.out.lt)
  replace L := Lib.hid (L.out.below hb L.out.lt)
  replace R1 := Lib.hid (R1.out.below hb R1.out.lt)
  clear hb
  clear HN2
  obtain ⟨w116, hw116⟩ : ∃ w116, w116 = w115.alloc (.cells #[.int .u64 ty, .int .i64 128, .int .u32 ra, .int .u32 la, .int .u32 ps] 31) := ⟨_, rfl⟩
  have lM := M.out.lt
  have dM_0 := M.out.cell 0
  have dM_1 := M.out.cell 1
  have dM_2 := M.out.cell 2
  have dM_3 := M.out.cell 3
  have dM_4 := M.out.cell 4
  have lN := N.out.lt
  have dN_0 := N.out.cell 0
  have dN_1 := N.out.cell 1
  have dN_2 := N.out.cell 2
  have dN_3 := N.out.cell 3
  have dN_4 := N.out.cell 4
  simp at dM_0 dM_1 dM_2 dM_3 dM_4 dN_0 dN_1 dN_2 dN_3 dN_4
  have R2 := Lib.hid (show Blk w116 w115.heap.size 31 #[.int .u64 ty, .int .i64 128, .int .u32 ra, .int .u32 la, .int .u32 ps] by rw [hw116]; exact Blk.new _ _ _)
  replace M := Lib.hid (show Blk w116 _ _ _ by rw [hw116]; exact M.out.alloc _)
  replace N := Lib.hid (show Blk w116 _ _ _ by rw [hw116]; exact N.out.alloc _)
  replace L := Lib.hid (show Blk w116 _ _ _ by rw [hw116]; exact L.out.alloc _)
  replace R1 := Lib.hid (show Blk w116 _ _ _ by rw [hw116]; exact R1.out.alloc _)
  replace HB := Lib.hid (show Below w.heap.size w w116 by rw [hw116]; exact HB.out.alloc HB.out.size _)
  have hsz3 : w116.heap.size = w115.heap.size + 1 := by rw [hw116]; simp
  have cM_0 := M.out.cell 0
  have cM_1 := M.out.cell 1
  have cM_2 := M.out.cell 2
  have cM_3 := M.out.cell 3
  have cM_4 := M.out.cell 4
  have cN_0 := N.out.cell 0
  have cN_1 := N.out.cell 1
  have cN_2 := N.out.cell 2
  have cN_3 := N.out.cell 3
  have cN_4 := N.out.cell 4
  rw [hw116] at cM_0 cM_1 cM_2 cM_3 cM_4 cN_0 cN_1 cN_2 cN_3 cN_4
  simp at cM_0 cM_1 cM_2 cM_3 cM_4 cN_0 cN_1 cN_2 cN_3 cN_4
  go_wp2_with fail
  rw [← hw116]
  clear hw116 cM_0 cM_1 cM_2 cM_3 cM_4 cN_0 cN_1 cN_2 cN_3 cN_4 dM_0 dM_1 dM_2 dM_3 dM_4 dN_0 dN_1 dN_2 dN_3 dN_4 lM lN
  have hMW := Lib.hid M.out.lt
  have hNW := Lib.hid N.out.lt
  have hLW := Lib.hid L.out.lt
  have hR1W := Lib.hid R1.out.lt
  have hR2W := Lib.hid R2.out.lt
  have hWB := Lib.hid (Nat.le_of_lt hMW.out)
  obtain ⟨w117, hw117⟩ : ∃ w117, w117 = w116.alloc (.cells #[.int .u64 tx, .int .i64 128, .int .u32 rt, .int .u32 fr, .int .u32 ps] 31) := ⟨_, rfl⟩
  have Wt := Lib.hid (show Blk w117 w116.heap.size 31 #[.int .u64 tx, .int .i64 128, .int .u32 rt, .int .u32 fr, .int .u32 ps] by rw [hw117]; exact Blk.new _ _ _)
  replace M := Lib.hid (show Blk w117 _ _ _ by rw [hw117]; exact M.out.alloc _)
  replace N := Lib.hid (show Blk w117 _ _ _ by rw [hw117]; exact N.out.alloc _)
  replace L := Lib.hid (show Blk w117 _ _ _ by rw [hw117]; exact L.out.alloc _)
  replace R1 := Lib.hid (show Blk w117 _ _ _ by rw [hw117]; exact R1.out.alloc _)
  replace R2 := Lib.hid (show Blk w117 _ _ _ by rw [hw117]; exact R2.out.alloc _)
  replace HB := Lib.hid (show Below w.heap.size w w117 by rw [hw117]; exact HB.out.alloc HB.out.size _)
  rw [← hw117]
  clear hw117
  rw [hsz3] at Wt hWB hMW hNW hLW hR1W hR2W
  refine (HS2 _).mono ?_
  rintro e w118 ⟨rfl, rfl⟩
  have cN_0 := N.out.cell 0
  have cN_1 := N.out.cell 1
  have cN_2 := N.out.cell 2
  have cN_3 := N.out.cell 3
  have cN_4 := N.out.cell 4
  have cWt_0 := Wt.out.cell 0
  have cWt_1 := Wt.out.cell 1
  have cWt_2 := Wt.out.cell 2
  have cWt_3 := Wt.out.cell 3
  have cWt_4 := Wt.out.cell 4
  have cL_0 := L.out.cell 0
  have cL_1 := L.out.cell 1
  simp at cN_0 cN_1 cN_2 cN_3 cN_4 cWt_0 cWt_1 cWt_2 cWt_3 cWt_4 cL_0 cL_1
  have fW0 := Wt.out.frozen 0
  have fW1 := Wt.out.frozen 1
  have fW2 := Wt.out.frozen 2
  have fW3 := Wt.out.frozen 3
  have fW4 := Wt.out.frozen 4
  obtain ⟨w119, hw119⟩ : ∃ x, x = ((((w118.setCell ⟨(w115.heap.size + 1), 0, none⟩ (.int .u64 ty)).setCell ⟨(w115.heap.size + 1), 1, none⟩ (.int .i64 128)).setCell ⟨(w115.heap.size + 1), 2, none⟩ (.int .u32 ra)).setCell ⟨(w115.heap.size + 1), 3, none⟩ (.int .u32 la)).setCell ⟨(w115.heap.size + 1), 4, none⟩ (.int .u32 ps) := ⟨_, rfl⟩
  have neM : w.heap.size ≠ (w115.heap.size + 1) := Nat.ne_of_lt hMW.out
  have neN : w101.heap.size ≠ (w115.heap.size + 1) := Nat.ne_of_lt hNW.out
  have neL : (w106.heap.size + 1) ≠ (w115.heap.size + 1) := Nat.ne_of_lt hLW.out
  have neR1 : w111.heap.size ≠ (w115.heap.size + 1) := Nat.ne_of_lt hR1W.out
  have neR2 : w115.heap.size ≠ (w115.heap.size + 1) := Nat.ne_of_lt hR2W.out
  replace M := Lib.hid (show Blk w119 _ _ _ by rw [hw119]; exact five_far M.out neM)
  clear neM
  replace N := Lib.hid (show Blk w119 _ _ _ by rw [hw119]; exact five_far N.out neN)
  clear neN
  replace L := Lib.hid (show Blk w119 _ _ _ by rw [hw119]; exact five_far L.out neL)
  clear neL
  replace R1 := Lib.hid (show Blk w119 _ _ _ by rw [hw119]; exact five_far R1.out neR1)
  clear neR1
  replace R2 := Lib.hid (show Blk w119 _ _ _ by rw [hw119]; exact five_far R2.out neR2)
  clear neR2
  replace Wt := Lib.hid (show Blk w119 (w115.heap.size + 1) _ #[.int .u64 ty, .int .i64 128, .int .u32 ra, .int .u32 la, .int .u32 ps] by rw [hw119]; exact five_at Wt.out)
  replace HB := Lib.hid (show Below w.heap.size w w119 by rw [hw119]; exact five_below HB.out hWB.out)
  have vL_0 := L.out.cell 0
  have vL_1 := L.out.cell 1
  rw [hw119] at vL_0 vL_1
  simp at vL_0 vL_1
  go_wp2_with fail
  rw [← hw119]
  clear hw119 fW0 fW1 fW2 fW3 fW4 cN_0 cN_1 cN_2 cN_3 cN_4 cWt_0 cWt_1 cWt_2 cWt_3 cWt_4 cL_0 cL_1 vL_0 vL_1
  refine (HTn _).mono ?_
  rintro e w120 ⟨rfl, hb⟩
  replace HB := Lib.hid (HB.out.trans (hb.mono HB.out.size))
  replace M := Lib.hid (M.out.below hb M.out.lt)
  replace N := Lib.hid (N.out.below hb N.out.lt)
  replace L := Lib.hid (L.out.below hb L.out.lt)
  replace R1 := Lib.hid (R1.out.below hb R1.out.lt)
  replace R2 := Lib.hid (R2.out.below hb R2.out.lt)
  replace Wt := Lib.hid (Wt.out.below hb Wt.out.lt)
  clear hb
  have fL := L.out.frozen 1
  have cL_0 := L.out.cell 0
  have cL_1 := L.out.cell 1
  simp at cL_0 cL_1
  obtain ⟨w121, hw121⟩ : ∃ x, x = w120.setCell ⟨(w106.heap.size + 1), 1, none⟩ (.string Tn) := ⟨_, rfl⟩
  have neM : (w.heap.size) ≠ (w106.heap.size + 1) := by intro h; have h1 := M.out; have h2 := L.out; rw [h] at h1; exact absurd (h1.symm.trans h2) (by simp)
  have neN : (w101.heap.size) ≠ (w106.heap.size + 1) := by intro h; have h1 := N.out; have h2 := L.out; rw [h] at h1; exact absurd (h1.symm.trans h2) (by simp)
  have neR1 : (w111.heap.size) ≠ (w106.heap.size + 1) := by intro h; have h1 := R1.out; have h2 := L.out; rw [h] at h1; exact absurd (h1.symm.trans h2) (by simp)
  have neR2 : (w115.heap.size) ≠ (w106.heap.size + 1) := by intro h; have h1 := R2.out; have h2 := L.out; rw [h] at h1; exact absurd (h1.symm.trans h2) (by simp)
  have neWt : ((w115.heap.size + 1)) ≠ (w106.heap.size + 1) := by intro h; have h1 := Wt.out; have h2 := L.out; rw [h] at h1; exact absurd (h1.symm.trans h2) (by simp)
  replace L := Lib.hid (show Blk w121 (w106.heap.size + 1) _ #[.string Tm, .string Tn] by rw [hw121]; exact L.out.set_ 1 _)
  replace M := Lib.hid (show Blk w121 _ _ _ by rw [hw121]; exact M.out.far neM _)
  clear neM
  replace N := Lib.hid (show Blk w121 _ _ _ by rw [hw121]; exact N.out.far neN _)
  clear neN
  replace R1 := Lib.hid (show Blk w121 _ _ _ by rw [hw121]; exact R1.out.far neR1 _)
  clear neR1
  replace R2 := Lib.hid (show Blk w121 _ _ _ by rw [hw121]; exact R2.out.far neR2 _)
  clear neR2
  replace Wt := Lib.hid (show Blk w121 _ _ _ by rw [hw121]; exact Wt.out.far neWt _)
  clear neWt
  replace HB := Lib.hid (show Below w.heap.size w w121 by rw [hw121]; exact HB.out.setCell HLB.out _)
  have cL_0 := L.out.cell 0
  have cL_1 := L.out.cell 1
  rw [hw121] at cL_0 cL_1
  simp at cL_0 cL_1
  go_wp2_with fail
  rw [← hw121]
  clear hw121 cL_0 cL_1
  clear fL
  refine (HN3 _).mono ?_
  rintro e w122 ⟨rfl, hb⟩
  replace HB := Lib.hid (HB.out.trans (hb.mono HB.out.size))
  replace M := Lib.hid (M.out.below hb M.out.lt)
  replace N := Lib.hid (N.out.below hb N.out.lt)
  replace L := Lib.hid (L.out.below hb L.out.lt)
  replace R1 := Lib.hid (R1.out.below hb R1.out.lt)
  replace R2 := Lib.hid (R2.out.below hb R2.out.lt)
  replace Wt := Lib.hid (Wt.out.below hb Wt.out.lt)
  clear hb
  clear HN3
  obtain ⟨w123, hw123⟩ : ∃ w123, w123 = w122.alloc (.cells #[.int .u64 0, .int .i64 0, .int .u32 0, .int .u32 0, .int .u32 0] 31) := ⟨_, rfl⟩
  have lR1 := R1.out.lt
  have dR1_0 := R1.out.cell 0
  have dR1_1 := R1.out.cell 1
  have dR1_2 := R1.out.cell 2
  have dR1_3 := R1.out.cell 3
  have dR1_4 := R1.out.cell 4
  have lN := N.out.lt
  have dN_0 := N.out.cell 0
  have dN_1 := N.out.cell 1
  have dN_2 := N.out.cell 2
  have dN_3 := N.out.cell 3
  have dN_4 := N.out.cell 4
  have lR2 := R2.out.lt
  have dR2_0 := R2.out.cell 0
  have dR2_1 := R2.out.cell 1
  have dR2_2 := R2.out.cell 2
  have dR2_3 := R2.out.cell 3
  have dR2_4 := R2.out.cell 4
  have lWt := Wt.out.lt
  have dWt_0 := Wt.out.cell 0
  have dWt_1 := Wt.out.cell 1
  have dWt_2 := Wt.out.cell 2
  have dWt_3 := Wt.out.cell 3
  have dWt_4 := Wt.out.cell 4
  simp at dR1_0 dR1_1 dR1_2 dR1_3 dR1_4 dN_0 dN_1 dN_2 dN_3 dN_4 dR2_0 dR2_1 dR2_2 dR2_3 dR2_4 dWt_0 dWt_1 dWt_2 dWt_3 dWt_4
  have R3 := Lib.hid (show Blk w123 w122.heap.size 31 #[.int .u64 0, .int .i64 0, .int .u32 0, .int .u32 0, .int .u32 0] by rw [hw123]; exact Blk.new _ _ _)
  replace M := Lib.hid (show Blk w123 _ _ _ by rw [hw123]; exact M.out.alloc _)
  replace N := Lib.hid (show Blk w123 _ _ _ by rw [hw123]; exact N.out.alloc _)
  replace L := Lib.hid (show Blk w123 _ _ _ by rw [hw123]; exact L.out.alloc _)
  replace R1 := Lib.hid (show Blk w123 _ _ _ by rw [hw123]; exact R1.out.alloc _)
  replace R2 := Lib.hid (show Blk w123 _ _ _ by rw [hw123]; exact R2.out.alloc _)
  replace Wt := Lib.hid (show Blk w123 _ _ _ by rw [hw123]; exact Wt.out.alloc _)
  replace HB := Lib.hid (show Below w.heap.size w w123 by rw [hw123]; exact HB.out.alloc HB.out.size _)
  have cR1_0 := R1.out.cell 0
  have cR1_1 := R1.out.cell 1
  have cR1_2 := R1.out.cell 2
  have cR1_3 := R1.out.cell 3
  have cR1_4 := R1.out.cell 4
  have cN_0 := N.out.cell 0
  have cN_1 := N.out.cell 1
  have cN_2 := N.out.cell 2
  have cN_3 := N.out.cell 3
  have cN_4 := N.out.cell 4
  have cR2_0 := R2.out.cell 0
  have cR2_1 := R2.out.cell 1
  have cR2_2 := R2.out.cell 2
  have cR2_3 := R2.out.cell 3
  have cR2_4 := R2.out.cell 4
  have cWt_0 := Wt.out.cell 0
  have cWt_1 := Wt.out.cell 1
  have cWt_2 := Wt.out.cell 2
  have cWt_3 := Wt.out.cell 3
  have cWt_4 := Wt.out.cell 4
  rw [hw123] at cR1_0 cR1_1 cR1_2 cR1_3 cR1_4 cN_0 cN_1 cN_2 cN_3 cN_4 cR2_0 cR2_1 cR2_2 cR2_3 cR2_4 cWt_0 cWt_1 cWt_2 cWt_3 cWt_4
  simp at cR1_0 cR1_1 cR1_2 cR1_3 cR1_4 cN_0 cN_1 cN_2 cN_3 cN_4 cR2_0 cR2_1 cR2_2 cR2_3 cR2_4 cWt_0 cWt_1 cWt_2 cWt_3 cWt_4
  go_wp2_with fail
  go_ret
  exact ⟨rfl, by rw [← hw123]; exact HB.out⟩
set_option maxRecDepth 100000 in
set_option maxHeartbeats 12800000 in
theorem mnewer_d01 (tx : Nat) (z : Int) (rt fr ps ra la : Nat) (wh at_ : Int) (d : Nat) (w : World) (ty : Nat) (hty : (ty : Int) = ((tx : Int) + 1) % 18446744073709551616) (hm : mayM tx 128 rt fr ps = true) (hn : mayM ty 128 ra la ps = true) (hd0 : d ≠ 0) (hdl : d < 4294967296) (hpl : tx % 2 = 0) (hwv : wh % 2 = 1) :
    Calls Try.prog 6 #[.agg #[.int .u64 tx, .int .i64 z, .int .u32 rt, .int .u32 fr, .int .u32 ps], .int .u32 ra, .int .u32 la, .int .i64 wh, .int .i64 at_, .int .u32 d] w fun e w' => e = .returned (.bool true) ∧ Below w.heap.size w w' := by
  obtain ⟨b, hb⟩ : ∃ b, b = bodyM 128 rt fr ps := ⟨_, rfl⟩
  obtain ⟨sl, hsl⟩ : ∃ sl, sl = tx % 2 := ⟨_, rfl⟩
  obtain ⟨c, hc⟩ : ∃ c, c = bodyM 128 ra la ps := ⟨_, rfl⟩
  obtain ⟨so, hso⟩ : ∃ so, so = ty % 2 := ⟨_, rfl⟩
  have HP1 : ∀ w : World, Calls Try.prog 10 #[.agg #[.int .u64 tx, .int .i64 128, .int .u32 rt, .int .u32 fr, .int .u32 ps]] w fun e w' => e = .returned (.tuple #[.agg #[.int .i64 1, .int .i64 0, .int .u32 sl, .int .u32 0, .int .u64 tx, .string b], .int .i64 0]) ∧ Below w.heap.size w w' := fun w => mpage_yes tx 128 rt fr ps sl b w hm hb hsl
  have HP2 : ∀ w : World, Calls Try.prog 10 #[.agg #[.int .u64 ty, .int .i64 128, .int .u32 ra, .int .u32 la, .int .u32 ps]] w fun e w' => e = .returned (.tuple #[.agg #[.int .i64 1, .int .i64 0, .int .u32 so, .int .u32 0, .int .u64 ty, .string c], .int .i64 0]) ∧ Below w.heap.size w w' := fun w => mpage_yes ty 128 ra la ps so c w hn hc hso
  have hmg := (mayM_good hm).1
  have htyx : ty = tx + 1 := by omega
  have hno : ty % 2 = 1 := by omega
  obtain ⟨Bm, hBm⟩ : ∃ B, B = metaB tx 128 rt fr ps := ⟨_, rfl⟩
  obtain ⟨Bn, hBn⟩ : ∃ B, B = metaB ty 128 ra la ps := ⟨_, rfl⟩
  have hd1 : ((d : Int) == 0) = false := by simpa using hd0
  obtain ⟨q, hq⟩ : ∃ q : Nat, (q : Int) = 4 + at_ % ((128 - 7 : Nat) : Int) := ⟨(4 + at_ % ((128 - 7 : Nat) : Int)).toNat, by have := Int.emod_nonneg at_ (show ((128 - 7 : Nat) : Int) ≠ 0 by decide); omega⟩
  have hq2 : 4 ≤ q ∧ q + 4 ≤ 128 := by have h1 := Int.emod_nonneg at_ (show ((128 - 7 : Nat) : Int) ≠ 0 by decide); have h2 := Int.emod_lt_of_pos at_ (show (0 : Int) < ((128 - 7 : Nat) : Int) by decide); omega
  have sBm : Bm.size = 128 := by rw [hBm]; exact metaB_size tx 128 rt fr ps (by decide)
  have sBn : Bn.size = 128 := by rw [hBn]; exact metaB_size ty 128 ra la ps (by decide)
  obtain ⟨Tm, hTm⟩ : ∃ T, T = turnB Bm q d := ⟨_, rfl⟩
  obtain ⟨Tn, hTn⟩ : ∃ T, T = turnB Bn q d := ⟨_, rfl⟩
  have sTm : Tm.size = 128 := by rw [hTm, turnB_size]; exact sBm
  have sTn : Tn.size = 128 := by rw [hTn, turnB_size]; exact sBn
  have HTm := fun w => turned_any Bm at_ d q Tm w (by omega) (by omega) hdl (by rw [sBm]; exact hq) hTm
  have HTn := fun w => turned_any Bn at_ d q Tn w (by omega) (by omega) hdl (by rw [sBn]; exact hq) hTn
  have okm : blockOk 128 0 Bm = true := by rw [hBm, ← hpl]; exact (metaB_parts tx 128 rt fr ps hm).1
  have okn : blockOk 128 1 Bn = true := by rw [hBn, ← hno]; exact (metaB_parts ty 128 ra la ps hn).1
  have badm : ∀ k, blockOk 128 k Tm = false := fun k => by rw [hTm]; exact turn_bad 128 0 k Bm q d okm hdl hd0 hq2.1 (by omega)
  have badn : ∀ k, blockOk 128 k Tn = false := fun k => by rw [hTn]; exact turn_bad 128 1 k Bn q d okn hdl hd0 hq2.1 (by omega)
  have hg : goodSize ((128 : Nat) : Int) = true := by decide
  obtain ⟨i1, i2, i3⟩ := blk_two 128 Bm Bn sBm sBn
  have HN1 : ∀ w : World, Calls Try.prog 15 #[.int .i64 128, .string (Bm ++ Bn)] w fun e w' => e = .returned (.tuple #[.agg #[.int .u64 ty, .int .i64 128, .int .u32 ra, .int .u32 la, .int .u32 ps], .int .i64 0]) ∧ Below w.heap.size w w' := fun w => mnew_ab 128 (Bm ++ Bn) tx 128 rt fr ps ty 128 ra la ps w hg (metaAt_block 128 0 (Bm ++ Bn) tx rt fr ps hm hpl.symm (by rw [i3]; decide) (by rw [i1, hBm])) (metaAt_block 128 1 (Bm ++ Bn) ty ra la ps hn hno.symm (by rw [i3]; decide) (by rw [i2, hBn])) (by rw [i3]; decide) (by omega)
  obtain ⟨j1, j2, j3⟩ := blk_two 128 Bm Tn sBm sTn
  have HN2 : ∀ w : World, Calls Try.prog 15 #[.int .i64 128, .string (Bm ++ Tn)] w fun e w' => e = .returned (.tuple #[.agg #[.int .u64 tx, .int .i64 128, .int .u32 rt, .int .u32 fr, .int .u32 ps], .int .i64 0]) ∧ Below w.heap.size w w' := fun w => mnew_a 128 (Bm ++ Tn) tx 128 rt fr ps 0 0 0 0 0 w hg (metaAt_block 128 0 (Bm ++ Tn) tx rt fr ps hm hpl.symm (by rw [j3]; decide) (by rw [j1, hBm])) (metaAt_bad 128 1 (Bm ++ Tn) (by rw [j2]; exact badn 1)) (by rw [j3]; decide)
  obtain ⟨k1, k2, k3⟩ := blk_two 128 Tm Tn sTm sTn
  have HN3 : ∀ w : World, Calls Try.prog 15 #[.int .i64 128, .string (Tm ++ Tn)] w fun e w' => e = .returned (.tuple #[.agg #[.int .u64 0, .int .i64 0, .int .u32 0, .int .u32 0, .int .u32 0], .int .i64 5]) ∧ Below w.heap.size w w' := fun w => mnew_none 128 (Tm ++ Tn) 0 0 0 0 0 0 0 0 0 0 w hg (metaAt_bad 128 0 (Tm ++ Tn) (by rw [k1]; exact badm 0)) (metaAt_bad 128 1 (Tm ++ Tn) (by rw [k2]; exact badn 1)) (by rw [k3]; decide)
  have cat0 : ¬ (9223372036854775807 < Bm.size + Bn.size) := by omega
  have cat1 : ¬ (9223372036854775807 < Bm.size + Tn.size) := by omega
  have cat2 : ¬ (9223372036854775807 < Tm.size + Tn.size) := by omega
  have HS1 : ∀ w : World, Calls Try.prog 17 #[.int .u64 tx] w fun e w' => e = .returned (.int .u32 0) ∧ w' = w := fun w => slot_is tx 0 w hpl.symm
  have HS2 : ∀ w : World, Calls Try.prog 17 #[.int .u64 ty] w fun e w' => e = .returned (.int .u32 1) ∧ w' = w := fun w => slot_is ty 1 w hno.symm
  have HK1 : ∀ w : World, Calls Try.prog 13 #[.agg #[.int .u64 tx, .int .i64 128, .int .u32 rt, .int .u32 fr, .int .u32 ps]] w fun e w' => e = .returned (.string Bm) ∧ Below w.heap.size w w' := fun w => mblock_is tx 128 rt fr ps Bm w hm hBm
  have HK2 : ∀ w : World, Calls Try.prog 13 #[.agg #[.int .u64 ty, .int .i64 128, .int .u32 ra, .int .u32 la, .int .u32 ps]] w fun e w' => e = .returned (.string Bn) ∧ Below w.heap.size w w' := fun w => mblock_is ty 128 ra la ps Bn w hn hBn
  have HPk : ∀ w : World, Calls Try.prog 23 #[.int .i64 wh, .int .i64 2] w fun e w' => e = .returned (.int .i64 1) ∧ w = w' := fun w => by
    have := pick_any wh 2 w (by decide) (by decide)
    rw [show wh % ((2 : Nat) : Int) = 1 from hwv] at this
    exact this
  have hen := fun w => meta_same ty 128 ra la ps w
  have hem := fun w => meta_same tx 128 rt fr ps w
  obtain ⟨hz2, hi2⟩ := zero_of_info infoS2
  have HI2 := Lib.hid hi2
  clear hm hn hb hsl hc hso hd0 hdl hpl hwv hmg htyx hno hBm hBn hq hq2 sBm sBn hTm hTn sTm sTn okm okn badm badn hg i1 i2 i3 j1 j2 j3 k1 k2 k3 hi2
  have hty1 : ((tx : Int) + 1) % 18446744073709551616 = (ty : Int) := by omega
  have hty2 : IntKind.u64.wrap ((tx : Int) + 1) = (ty : Int) := by rw [IntKind.wrap_u64]; omega
  clear hty
  obtain ⟨w0, hw0⟩ : ∃ w0, w0 = w.alloc (.cells #[.int .u64 tx, .int .i64 z, .int .u32 rt, .int .u32 fr, .int .u32 ps] 31) := ⟨_, rfl⟩
  have M := Lib.hid (show Blk w0 w.heap.size 31 #[.int .u64 tx, .int .i64 z, .int .u32 rt, .int .u32 fr, .int .u32 ps] by rw [hw0]; exact Blk.new _ _ _)
  have HB := Lib.hid (show Below w.heap.size w w0 by rw [hw0]; exact (Below.refl _ _).alloc (Nat.le_refl _) _)
  go_enter Try.func6, Try.ntmps6
  go_wp2_with fail
  rw [← hw0]
  clear hw0
  refine (lives5_any _).mono ?_
  rintro e w101 ⟨rfl, hb⟩
  replace HB := Lib.hid (HB.out.trans (hb.mono HB.out.size))
  replace M := Lib.hid (M.out.below hb M.out.lt)
  clear hb
  have cM_0 := M.out.cell 0
  have cM_1 := M.out.cell 1
  have cM_2 := M.out.cell 2
  have cM_3 := M.out.cell 3
  have cM_4 := M.out.cell 4
  simp at cM_0 cM_1 cM_2 cM_3 cM_4
  have fM1 := M.out.frozen 1
  obtain ⟨w102, hw102⟩ : ∃ x, x = w101.setCell ⟨w.heap.size, 1, none⟩ (.int .i64 128) := ⟨_, rfl⟩
  have lM := M.out.lt
  replace M := Lib.hid (show Blk w102 w.heap.size 31 #[.int .u64 tx, .int .i64 128, .int .u32 rt, .int .u32 fr, .int .u32 ps] by rw [hw102]; exact M.out.set_ 1 _)
  replace HB := Lib.hid (show Below w.heap.size w w102 by rw [hw102]; exact HB.out.setCell (Nat.le_refl _) _)
  have hsz : w102.heap.size = w101.heap.size := by rw [hw102]; simp [World.setCell]
  have uM_0 := M.out.cell 0
  have uM_1 := M.out.cell 1
  have uM_2 := M.out.cell 2
  have uM_3 := M.out.cell 3
  have uM_4 := M.out.cell 4
  rw [hw102] at uM_0 uM_1 uM_2 uM_3 uM_4
  simp at uM_0 uM_1 uM_2 uM_3 uM_4
  go_wp2_with fail
  rw [← hw102]
  clear hw102 fM1 lM cM_0 cM_1 cM_2 cM_3 cM_4 uM_0 uM_1 uM_2 uM_3 uM_4
  obtain ⟨w103, hw103⟩ : ∃ w103, w103 = w102.alloc (.cells #[.int .u64 ty, .int .i64 128, .int .u32 ra, .int .u32 la, .int .u32 ps] 31) := ⟨_, rfl⟩
  have N := Lib.hid (show Blk w103 w102.heap.size 31 #[.int .u64 ty, .int .i64 128, .int .u32 ra, .int .u32 la, .int .u32 ps] by rw [hw103]; exact Blk.new _ _ _)
  replace M := Lib.hid (show Blk w103 _ _ _ by rw [hw103]; exact M.out.alloc _)
  replace HB := Lib.hid (show Below w.heap.size w w103 by rw [hw103]; exact HB.out.alloc HB.out.size _)
  rw [← hw103]
  clear hw103
  rw [hsz] at N
  refine (HP1 _).mono ?_
  rintro e w104 ⟨rfl, hb⟩
  replace HB := Lib.hid (HB.out.trans (hb.mono HB.out.size))
  replace M := Lib.hid (M.out.below hb M.out.lt)
  replace N := Lib.hid (N.out.below hb N.out.lt)
  clear hb
  clear HP1
  obtain ⟨w105, hw105⟩ : ∃ w105, w105 = w104.alloc (.cells #[.int .i64 1, .int .i64 0, .int .u32 sl, .int .u32 0, .int .u64 tx, .string b] 26) := ⟨_, rfl⟩
  have lM := M.out.lt
  have dM_0 := M.out.cell 0
  have dM_1 := M.out.cell 1
  have dM_2 := M.out.cell 2
  have dM_3 := M.out.cell 3
  have dM_4 := M.out.cell 4
  have lN := N.out.lt
  have dN_0 := N.out.cell 0
  have dN_1 := N.out.cell 1
  have dN_2 := N.out.cell 2
  have dN_3 := N.out.cell 3
  have dN_4 := N.out.cell 4
  simp at dM_0 dM_1 dM_2 dM_3 dM_4 dN_0 dN_1 dN_2 dN_3 dN_4
  have P1 := Lib.hid (show Blk w105 w104.heap.size 26 #[.int .i64 1, .int .i64 0, .int .u32 sl, .int .u32 0, .int .u64 tx, .string b] by rw [hw105]; exact Blk.new _ _ _)
  replace M := Lib.hid (show Blk w105 _ _ _ by rw [hw105]; exact M.out.alloc _)
  replace N := Lib.hid (show Blk w105 _ _ _ by rw [hw105]; exact N.out.alloc _)
  replace HB := Lib.hid (show Below w.heap.size w w105 by rw [hw105]; exact HB.out.alloc HB.out.size _)
  have cM_0 := M.out.cell 0
  have cM_1 := M.out.cell 1
  have cM_2 := M.out.cell 2
  have cM_3 := M.out.cell 3
  have cM_4 := M.out.cell 4
  have cN_0 := N.out.cell 0
  have cN_1 := N.out.cell 1
  have cN_2 := N.out.cell 2
  have cN_3 := N.out.cell 3
  have cN_4 := N.out.cell 4
  rw [hw105] at cM_0 cM_1 cM_2 cM_3 cM_4 cN_0 cN_1 cN_2 cN_3 cN_4
  simp at cM_0 cM_1 cM_2 cM_3 cM_4 cN_0 cN_1 cN_2 cN_3 cN_4
  go_wp2_with fail
  rw [← hw105]
  clear hw105 cM_0 cM_1 cM_2 cM_3 cM_4 cN_0 cN_1 cN_2 cN_3 cN_4 dM_0 dM_1 dM_2 dM_3 dM_4 dN_0 dN_1 dN_2 dN_3 dN_4 lM lN
  refine (HP2 _).mono ?_
  rintro e w106 ⟨rfl, hb⟩
  replace HB := Lib.hid (HB.out.trans (hb.mono HB.out.size))
  replace M := Lib.hid (M.out.below hb M.out.lt)
  replace N := Lib.hid (N.out.below hb N.out.lt)
  replace P1 := Lib.hid (P1.out.below hb P1.out.lt)
  clear hb
  clear HP2
  obtain ⟨w107, hw107⟩ : ∃ w107, w107 = w106.alloc (.cells #[.int .i64 1, .int .i64 0, .int .u32 so, .int .u32 0, .int .u64 ty, .string c] 26) := ⟨_, rfl⟩
  have lM := M.out.lt
  have dM_0 := M.out.cell 0
  have dM_1 := M.out.cell 1
  have dM_2 := M.out.cell 2
  have dM_3 := M.out.cell 3
  have dM_4 := M.out.cell 4
  have lN := N.out.lt
  have dN_0 := N.out.cell 0
  have dN_1 := N.out.cell 1
  have dN_2 := N.out.cell 2
  have dN_3 := N.out.cell 3
  have dN_4 := N.out.cell 4
  simp at dM_0 dM_1 dM_2 dM_3 dM_4 dN_0 dN_1 dN_2 dN_3 dN_4
  have P2 := Lib.hid (show Blk w107 w106.heap.size 26 #[.int .i64 1, .int .i64 0, .int .u32 so, .int .u32 0, .int .u64 ty, .string c] by rw [hw107]; exact Blk.new _ _ _)
  replace M := Lib.hid (show Blk w107 _ _ _ by rw [hw107]; exact M.out.alloc _)
  replace N := Lib.hid (show Blk w107 _ _ _ by rw [hw107]; exact N.out.alloc _)
  replace P1 := Lib.hid (show Blk w107 _ _ _ by rw [hw107]; exact P1.out.alloc _)
  replace HB := Lib.hid (show Below w.heap.size w w107 by rw [hw107]; exact HB.out.alloc HB.out.size _)
  have cM_0 := M.out.cell 0
  have cM_1 := M.out.cell 1
  have cM_2 := M.out.cell 2
  have cM_3 := M.out.cell 3
  have cM_4 := M.out.cell 4
  have cN_0 := N.out.cell 0
  have cN_1 := N.out.cell 1
  have cN_2 := N.out.cell 2
  have cN_3 := N.out.cell 3
  have cN_4 := N.out.cell 4
  rw [hw107] at cM_0 cM_1 cM_2 cM_3 cM_4 cN_0 cN_1 cN_2 cN_3 cN_4
  simp at cM_0 cM_1 cM_2 cM_3 cM_4 cN_0 cN_1 cN_2 cN_3 cN_4
  have hsz2 : w107.heap.size = w106.heap.size + 1 := by rw [hw107]; simp
  go_wp2_with fail
  rw [← hw107]
  clear hw107 cM_0 cM_1 cM_2 cM_3 cM_4 cN_0 cN_1 cN_2 cN_3 cN_4 dM_0 dM_1 dM_2 dM_3 dM_4 dN_0 dN_1 dN_2 dN_3 dN_4 lM lN
  clear P1
  clear P2
  have hML := Lib.hid M.out.lt
  obtain ⟨w108, hw108⟩ : ∃ w108, w108 = w107.alloc (.cells #[.string ByteArray.empty, .string ByteArray.empty] 45) := ⟨_, rfl⟩
  have L := Lib.hid (show Blk w108 w107.heap.size 45 #[.string ByteArray.empty, .string ByteArray.empty] by rw [hw108]; exact Blk.new _ _ _)
  replace M := Lib.hid (show Blk w108 _ _ _ by rw [hw108]; exact M.out.alloc _)
  replace N := Lib.hid (show Blk w108 _ _ _ by rw [hw108]; exact N.out.alloc _)
  replace HB := Lib.hid (show Below w.heap.size w w108 by rw [hw108]; exact HB.out.alloc HB.out.size _)
  rw [← hw108]
  clear hw108
  rw [hsz2] at L hML
  have HLB := Lib.hid (show w.heap.size ≤ w106.heap.size + 1 from Nat.le_of_lt hML.out)
  replace M := Lib.hid M.out.drew
  replace N := Lib.hid N.out.drew
  replace L := Lib.hid L.out.drew
  replace HB := Lib.hid HB.out.drew
  refine wp_region_held_drew (S := fun w' => (w'.cell? ⟨w.heap.size, 0, none⟩ = some (.int .u64 tx) ∧ w'.cell? ⟨w.heap.size, 1, none⟩ = some (.int .i64 128) ∧ w'.cell? ⟨w.heap.size, 2, none⟩ = some (.int .u32 rt) ∧ w'.cell? ⟨w.heap.size, 3, none⟩ = some (.int .u32 fr) ∧ w'.cell? ⟨w.heap.size, 4, none⟩ = some (.int .u32 ps)) ∧ (w'.cell? ⟨w101.heap.size, 0, none⟩ = some (.int .u64 ty) ∧ w'.cell? ⟨w101.heap.size, 1, none⟩ = some (.int .i64 128) ∧ w'.cell? ⟨w101.heap.size, 2, none⟩ = some (.int .u32 ra) ∧ w'.cell? ⟨w101.heap.size, 3, none⟩ = some (.int .u32 la) ∧ w'.cell? ⟨w101.heap.size, 4, none⟩ = some (.int .u32 ps))) (by kernel_rfl) ⟨meta_cells M.out, meta_cells N.out⟩ (fun hHeld => ?_)
  have NEM : w.heap.size ≠ (w106.heap.size + 1) := by intro h; have h1 := M.out; have h2 := L.out; rw [h] at h1; exact absurd (h1.symm.trans h2) (by simp)
  have NEN : w101.heap.size ≠ (w106.heap.size + 1) := by intro h; have h1 := N.out; have h2 := L.out; rw [h] at h1; exact absurd (h1.symm.trans h2) (by simp)
  refine wpAnyH_takeL (i := 0) (v := ?_) rfl (by kernel_rfl) (by kernel_rfl) (by kernel_rfl) (fun _ _ _ h => h) (Or.inl ⟨by rfl, ?_⟩) (by first | trivial | assumption) ?_
  rotate_left
  · intro wz hSz; (try dsimp only at hSz); go_simp; (try with_reducible rfl)
  try simp only [Act.put, List.setIfInBounds_toArray, List.set_cons_zero, List.set_cons_succ]
  refine wpAnyH_takeL (i := 1) (v := ?_) rfl (by kernel_rfl) (by kernel_rfl) (by kernel_rfl) (fun _ _ _ h => h) (Or.inl ⟨by rfl, ?_⟩) (by first | trivial | assumption) ?_
  rotate_left
  · intro wz hSz; (try dsimp only at hSz); go_simp; (try with_reducible rfl)
  try simp only [Act.put, List.setIfInBounds_toArray, List.set_cons_zero, List.set_cons_succ]
  refine wpAnyH_takeL (i := 3) (v := ?_) rfl (by kernel_rfl) (by kernel_rfl) (by kernel_rfl) (fun _ _ _ h => h) (Or.inl ⟨by rfl, ?_⟩) (by first | trivial | assumption) ?_
  rotate_left
  · intro wz hSz; (try dsimp only at hSz); go_simp; (try with_reducible rfl)
  try simp only [Act.put, List.setIfInBounds_toArray, List.set_cons_zero, List.set_cons_succ]
  refine wpAnyH_takeL (i := 4) (v := ?_) rfl (by kernel_rfl) (by kernel_rfl) (by kernel_rfl) (fun _ _ _ h => h) (Or.inl ⟨by rfl, ?_⟩) (by first | trivial | assumption) ?_
  rotate_left
  · intro wz hSz; (try dsimp only at hSz); go_simp; (try with_reducible rfl)
  try simp only [Act.put, List.setIfInBounds_toArray, List.set_cons_zero, List.set_cons_succ]
  refine wpAnyH_takeL (i := 6) (v := ?_) rfl (by kernel_rfl) (by kernel_rfl) (by kernel_rfl) (fun _ _ _ h => h) (Or.inl ⟨by rfl, ?_⟩) (by first | trivial | assumption) ?_
  rotate_left
  · intro wz hSz; (try dsimp only at hSz); go_simp; (try with_reducible rfl)
  try simp only [Act.put, List.setIfInBounds_toArray, List.set_cons_zero, List.set_cons_succ]
  refine wpAnyH_takeL (i := 8) (v := ?_) rfl (by kernel_rfl) (by kernel_rfl) (by kernel_rfl) (fun _ _ _ h => h) (Or.inl ⟨by rfl, ?_⟩) (by first | trivial | assumption) ?_
  rotate_left
  · intro wz hSz; (try dsimp only at hSz); go_simp; (try with_reducible rfl)
  try simp only [Act.put, List.setIfInBounds_toArray, List.set_cons_zero, List.set_cons_succ]
  refine wpAnyH_ready (rs := [2]) (by kernel_rfl) (by simp) ?_
  refine AllReadyH.consL rfl (fun K hK => ?_) AllReadyH.nil
  go_simp
  refine (HS1 _).mono ?_
  rintro e wq ⟨rfl, rfl⟩
  refine hK.out _ _ (⟨meta_cells M.out, meta_cells N.out⟩) (fun hHeld => ?_)
  clear hK K
  try simp only [Act.put, List.setIfInBounds_toArray, List.set_cons_zero, List.set_cons_succ]
  refine wpAnyH_ready (rs := [5]) (by kernel_rfl) (by simp) ?_
  refine AllReadyH.consL rfl (fun K hK => ?_) AllReadyH.nil
  go_simp
  refine (HS2 _).mono ?_
  rintro e wq ⟨rfl, rfl⟩
  refine hK.out _ _ (⟨meta_cells M.out, meta_cells N.out⟩) (fun hHeld => ?_)
  clear hK K
  try simp only [Act.put, List.setIfInBounds_toArray, List.set_cons_zero, List.set_cons_succ]
  refine wpAnyH_ready (rs := [7]) (by kernel_rfl) (by simp) ?_
  refine AllReadyH.consL rfl (fun K hK => ?_) AllReadyH.nil
  go_simp
  refine (HK1 _).mono ?_
  rintro e wq ⟨rfl, hb⟩
  replace M := Lib.hid (M.out.below hb M.out.lt)
  replace N := Lib.hid (N.out.below hb N.out.lt)
  replace L := Lib.hid (L.out.below hb L.out.lt)
  replace HB := Lib.hid (HB.out.trans (hb.mono HB.out.size))
  clear hb
  refine hK.out _ _ (⟨meta_cells M.out, meta_cells N.out⟩) (fun hHeld => ?_)
  clear hK K
  try simp only [Act.put, List.setIfInBounds_toArray, List.set_cons_zero, List.set_cons_succ]
  refine wpAnyH_takeL (i := 10) (v := ?_) rfl (by kernel_rfl) (by kernel_rfl) (by kernel_rfl) (fun _ _ _ h => h) (Or.inl ⟨by rfl, ?_⟩) (by first | trivial | assumption) ?_
  rotate_left
  · intro wz hSz; (try dsimp only at hSz); go_simp; (try with_reducible rfl)
  try simp only [Act.put, List.setIfInBounds_toArray, List.set_cons_zero, List.set_cons_succ]
  refine wpAnyH_ready (rs := [9]) (by kernel_rfl) (by simp) ?_
  refine AllReadyH.consL rfl (fun K hK => ?_) AllReadyH.nil
  go_simp
  refine (HK2 _).mono ?_
  rintro e wb ⟨rfl, hb⟩
  replace M := Lib.hid (M.out.below hb M.out.lt)
  replace N := Lib.hid (N.out.below hb N.out.lt)
  replace L := Lib.hid (L.out.below hb L.out.lt)
  replace HB := Lib.hid (HB.out.trans (hb.mono HB.out.size))
  clear hb
  refine hK.out _ _ (⟨meta_cells M.out, meta_cells N.out⟩) (fun hHeld => ?_)
  clear hK K
  try simp only [Act.put, List.setIfInBounds_toArray, List.set_cons_zero, List.set_cons_succ]
  have l0 := L.out.cell 0
  have l1 := L.out.cell 1
  have f0 := L.out.frozen 0
  have f1 := L.out.frozen 1
  simp at l0 l1
  have hne := Lib.hid (show True from trivial)
  refine wpAnyH_ready (rs := [11]) (by kernel_rfl) (by simp) ?_
  refine AllReadyH.consL rfl (fun K hK => ?_) AllReadyH.nil
  go_simp
  refine hK.out _ _ (⟨meta_cells (M.out.far (p := ⟨(w106.heap.size + 1), 0, none⟩) NEM _), meta_cells (N.out.far (p := ⟨(w106.heap.size + 1), 0, none⟩) NEN _)⟩) (fun hHeld => ?_)
  clear hK K
  try simp only [Act.put, List.setIfInBounds_toArray, List.set_cons_zero, List.set_cons_succ]
  refine wpAnyH_takeL (i := 12) (v := ?_) rfl (by kernel_rfl) (by kernel_rfl) (by kernel_rfl) (fun _ _ _ h => h) (Or.inl ⟨by rfl, ?_⟩) (by first | trivial | assumption) ?_
  rotate_left
  · intro wz hSz; (try dsimp only at hSz); go_simp; (try with_reducible rfl)
  try simp only [Act.put, List.setIfInBounds_toArray, List.set_cons_zero, List.set_cons_succ]
  refine wpAnyH_ready (rs := [13]) (by kernel_rfl) (by simp) ?_
  refine AllReadyH.consL rfl (fun K hK => ?_) AllReadyH.nil
  go_simp
  refine hK.out _ _ (⟨meta_cells ((M.out.far (p := ⟨(w106.heap.size + 1), 0, none⟩) NEM _).far (p := ⟨(w106.heap.size + 1), 1, none⟩) NEM _), meta_cells ((N.out.far (p := ⟨(w106.heap.size + 1), 0, none⟩) NEN _).far (p := ⟨(w106.heap.size + 1), 1, none⟩) NEN _)⟩) (fun hHeld => ?_)
  clear hK K
  try simp only [Act.put, List.setIfInBounds_toArray, List.set_cons_zero, List.set_cons_succ]
  refine wpAnyH_done (by kernel_rfl) ?_ _
  clear l0 l1 f0 f1 hne HK1 HK2
  obtain ⟨w109, hw109⟩ : ∃ x, x = wb.setCell ⟨(w106.heap.size + 1), 0, none⟩ (.string Bm) := ⟨_, rfl⟩
  rw [← hw109]
  replace L := Lib.hid (show Blk w109 (w106.heap.size + 1) _ #[.string Bm, .string ByteArray.empty] by rw [hw109]; exact L.out.set_ 0 _)
  replace M := Lib.hid (show Blk w109 _ _ _ by rw [hw109]; exact M.out.far NEM _)
  replace N := Lib.hid (show Blk w109 _ _ _ by rw [hw109]; exact N.out.far NEN _)
  replace HB := Lib.hid (show Below w.heap.size w w109 by rw [hw109]; exact HB.out.setCell HLB.out _)
  clear hw109
  obtain ⟨w110, hw110⟩ : ∃ x, x = w109.setCell ⟨(w106.heap.size + 1), 1, none⟩ (.string Bn) := ⟨_, rfl⟩
  rw [← hw110]
  replace L := Lib.hid (show Blk w110 (w106.heap.size + 1) _ #[.string Bm, .string Bn] by rw [hw110]; exact L.out.set_ 1 _)
  replace M := Lib.hid (show Blk w110 _ _ _ by rw [hw110]; exact M.out.far NEM _)
  replace N := Lib.hid (show Blk w110 _ _ _ by rw [hw110]; exact N.out.far NEN _)
  replace HB := Lib.hid (show Below w.heap.size w w110 by rw [hw110]; exact HB.out.setCell HLB.out _)
  clear hw110
  clear NEM NEN hHeld
  have cL_0 := L.out.cell 0
  have cL_1 := L.out.cell 1
  simp at cL_0 cL_1
  go_wp2_with fail
  clear cL_0 cL_1
  refine (HN1 _).mono ?_
  rintro e w111 ⟨rfl, hb⟩
  replace HB := Lib.hid (HB.out.trans (hb.mono HB.out.size))
  replace M := Lib.hid (M.out.below hb M.out.lt)
  replace N := Lib.hid (N.out.below hb N.out.lt)
  replace L := Lib.hid (L.out.below hb L.out.lt)
  clear hb
  clear HN1
  obtain ⟨w112, hw112⟩ : ∃ w112, w112 = w111.alloc (.cells #[.int .u64 ty, .int .i64 128, .int .u32 ra, .int .u32 la, .int .u32 ps] 31) := ⟨_, rfl⟩
  have lL := L.out.lt
  have dL_0 := L.out.cell 0
  have dL_1 := L.out.cell 1
  simp at dL_0 dL_1
  have R1 := Lib.hid (show Blk w112 w111.heap.size 31 #[.int .u64 ty, .int .i64 128, .int .u32 ra, .int .u32 la, .int .u32 ps] by rw [hw112]; exact Blk.new _ _ _)
  replace M := Lib.hid (show Blk w112 _ _ _ by rw [hw112]; exact M.out.alloc _)
  replace N := Lib.hid (show Blk w112 _ _ _ by rw [hw112]; exact N.out.alloc _)
  replace L := Lib.hid (show Blk w112 _ _ _ by rw [hw112]; exact L.out.alloc _)
  replace HB := Lib.hid (show Below w.heap.size w w112 by rw [hw112]; exact HB.out.alloc HB.out.size _)
  have cL_0 := L.out.cell 0
  have cL_1 := L.out.cell 1
  rw [hw112] at cL_0 cL_1
  simp at cL_0 cL_1
  go_wp2_with fail
  rw [← hw112]
  clear hw112 cL_0 cL_1 dL_0 dL_1 lL
  refine (HPk _).mono ?_
  rintro e wz ⟨rfl, rfl⟩
  have cL_0 := L.out.cell 0
  have cL_1 := L.out.cell 1
  simp at cL_0 cL_1
  go_wp2_with fail
  clear HPk cL_0 cL_1
  refine (HTn _).mono ?_
  rintro e w113 ⟨rfl, hb⟩
  replace HB := Lib.hid (HB.out.trans (hb.mono HB.out.size))
  replace M := Lib.hid (M.out.below hb M.out.lt)
  replace N := Lib.hid (N.out.below hb N.out.lt)
  replace L := Lib.hid (L.out.below hb L.out.lt)
  replace R1 := Lib.hid (R1.out.below hb R1.out.lt)
  clear hb
  have fL := L.out.frozen 1
  have cL_0 := L.out.cell 0
  have cL_1 := L.out.cell 1
  simp at cL_0 cL_1
  obtain ⟨w114, hw114⟩ : ∃ x, x = w113.setCell ⟨(w106.heap.size + 1), 1, none⟩ (.string Tn) := ⟨_, rfl⟩
  have neM : (w.heap.size) ≠ (w106.heap.size + 1) := by intro h; have h1 := M.out; have h2 := L.out; rw [h] at h1; exact absurd (h1.symm.trans h2) (by simp)
  have neN : (w101.heap.size) ≠ (w106.heap.size + 1) := by intro h; have h1 := N.out; have h2 := L.out; rw [h] at h1; exact absurd (h1.symm.trans h2) (by simp)
  have neR1 : (w111.heap.size) ≠ (w106.heap.size + 1) := by intro h; have h1 := R1.out; have h2 := L.out; rw [h] at h1; exact absurd (h1.symm.trans h2) (by simp)
  replace L := Lib.hid (show Blk w114 (w106.heap.size + 1) _ #[.string Bm, .string Tn] by rw [hw114]; exact L.out.set_ 1 _)
  replace M := Lib.hid (show Blk w114 _ _ _ by rw [hw114]; exact M.out.far neM _)
  clear neM
  replace N := Lib.hid (show Blk w114 _ _ _ by rw [hw114]; exact N.out.far neN _)
  clear neN
  replace R1 := Lib.hid (show Blk w114 _ _ _ by rw [hw114]; exact R1.out.far neR1 _)
  clear neR1
  replace HB := Lib.hid (show Below w.heap.size w w114 by rw [hw114]; exact HB.out.setCell HLB.out _)
  have cL_0 := L.out.cell 0
  have cL_1 := L.out.cell 1
  rw [hw114] at cL_0 cL_1
  simp at cL_0 cL_1
  go_wp2_with fail
  rw [← hw114]
  clear hw114 cL_0 cL_1
  clear fL
  refine (HN2 _).mono ?_
  rintro e w115 ⟨rfl, hb⟩
  replace HB := Lib.hid (HB.out.trans (hb.mono HB.out.size))
  replace M := Lib.hid (M.out.below hb M.out.lt)
  replace N := Lib.hid (N.out.below hb N.out.lt)
  replace L := Lib.hid (L.out.below hb L.out.lt)
  replace R1 := Lib.hid (R1.out.below hb R1.out.lt)
  clear hb
  clear HN2
  obtain ⟨w116, hw116⟩ : ∃ w116, w116 = w115.alloc (.cells #[.int .u64 tx, .int .i64 128, .int .u32 rt, .int .u32 fr, .int .u32 ps] 31) := ⟨_, rfl⟩
  have lM := M.out.lt
  have dM_0 := M.out.cell 0
  have dM_1 := M.out.cell 1
  have dM_2 := M.out.cell 2
  have dM_3 := M.out.cell 3
  have dM_4 := M.out.cell 4
  have lN := N.out.lt
  have dN_0 := N.out.cell 0
  have dN_1 := N.out.cell 1
  have dN_2 := N.out.cell 2
  have dN_3 := N.out.cell 3
  have dN_4 := N.out.cell 4
  simp at dM_0 dM_1 dM_2 dM_3 dM_4 dN_0 dN_1 dN_2 dN_3 dN_4
  have R2 := Lib.hid (show Blk w116 w115.heap.size 31 #[.int .u64 tx, .int .i64 128, .int .u32 rt, .int .u32 fr, .int .u32 ps] by rw [hw116]; exact Blk.new _ _ _)
  replace M := Lib.hid (show Blk w116 _ _ _ by rw [hw116]; exact M.out.alloc _)
  replace N := Lib.hid (show Blk w116 _ _ _ by rw [hw116]; exact N.out.alloc _)
  replace L := Lib.hid (show Blk w116 _ _ _ by rw [hw116]; exact L.out.alloc _)
  replace R1 := Lib.hid (show Blk w116 _ _ _ by rw [hw116]; exact R1.out.alloc _)
  replace HB := Lib.hid (show Below w.heap.size w w116 by rw [hw116]; exact HB.out.alloc HB.out.size _)
  have hsz3 : w116.heap.size = w115.heap.size + 1 := by rw [hw116]; simp
  have cM_0 := M.out.cell 0
  have cM_1 := M.out.cell 1
  have cM_2 := M.out.cell 2
  have cM_3 := M.out.cell 3
  have cM_4 := M.out.cell 4
  have cN_0 := N.out.cell 0
  have cN_1 := N.out.cell 1
  have cN_2 := N.out.cell 2
  have cN_3 := N.out.cell 3
  have cN_4 := N.out.cell 4
  rw [hw116] at cM_0 cM_1 cM_2 cM_3 cM_4 cN_0 cN_1 cN_2 cN_3 cN_4
  simp at cM_0 cM_1 cM_2 cM_3 cM_4 cN_0 cN_1 cN_2 cN_3 cN_4
  go_wp2_with fail
  rw [← hw116]
  clear hw116 cM_0 cM_1 cM_2 cM_3 cM_4 cN_0 cN_1 cN_2 cN_3 cN_4 dM_0 dM_1 dM_2 dM_3 dM_4 dN_0 dN_1 dN_2 dN_3 dN_4 lM lN
  have hMW := Lib.hid M.out.lt
  have hNW := Lib.hid N.out.lt
  have hLW := Lib.hid L.out.lt
  have hR1W := Lib.hid R1.out.lt
  have hR2W := Lib.hid R2.out.lt
  have hWB := Lib.hid (Nat.le_of_lt hMW.out)
  obtain ⟨w117, hw117⟩ : ∃ w117, w117 = w116.alloc (.cells #[.int .u64 tx, .int .i64 128, .int .u32 rt, .int .u32 fr, .int .u32 ps] 31) := ⟨_, rfl⟩
  have Wt := Lib.hid (show Blk w117 w116.heap.size 31 #[.int .u64 tx, .int .i64 128, .int .u32 rt, .int .u32 fr, .int .u32 ps] by rw [hw117]; exact Blk.new _ _ _)
  replace M := Lib.hid (show Blk w117 _ _ _ by rw [hw117]; exact M.out.alloc _)
  replace N := Lib.hid (show Blk w117 _ _ _ by rw [hw117]; exact N.out.alloc _)
  replace L := Lib.hid (show Blk w117 _ _ _ by rw [hw117]; exact L.out.alloc _)
  replace R1 := Lib.hid (show Blk w117 _ _ _ by rw [hw117]; exact R1.out.alloc _)
  replace R2 := Lib.hid (show Blk w117 _ _ _ by rw [hw117]; exact R2.out.alloc _)
  replace HB := Lib.hid (show Below w.heap.size w w117 by rw [hw117]; exact HB.out.alloc HB.out.size _)
  rw [← hw117]
  clear hw117
  rw [hsz3] at Wt hWB hMW hNW hLW hR1W hR2W
  refine (HS2 _).mono ?_
  rintro e w118 ⟨rfl, rfl⟩
  have cN_0 := N.out.cell 0
  have cN_1 := N.out.cell 1
  have cN_2 := N.out.cell 2
  have cN_3 := N.out.cell 3
  have cN_4 := N.out.cell 4
  have cWt_0 := Wt.out.cell 0
  have cWt_1 := Wt.out.cell 1
  have cWt_2 := Wt.out.cell 2
  have cWt_3 := Wt.out.cell 3
  have cWt_4 := Wt.out.cell 4
  have cL_0 := L.out.cell 0
  have cL_1 := L.out.cell 1
  simp at cN_0 cN_1 cN_2 cN_3 cN_4 cWt_0 cWt_1 cWt_2 cWt_3 cWt_4 cL_0 cL_1
  go_wp2_with fail
  clear cN_0 cN_1 cN_2 cN_3 cN_4 cWt_0 cWt_1 cWt_2 cWt_3 cWt_4 cL_0 cL_1
  refine (HTm _).mono ?_
  rintro e w119 ⟨rfl, hb⟩
  replace HB := Lib.hid (HB.out.trans (hb.mono HB.out.size))
  replace M := Lib.hid (M.out.below hb M.out.lt)
  replace N := Lib.hid (N.out.below hb N.out.lt)
  replace L := Lib.hid (L.out.below hb L.out.lt)
  replace R1 := Lib.hid (R1.out.below hb R1.out.lt)
  replace R2 := Lib.hid (R2.out.below hb R2.out.lt)
  replace Wt := Lib.hid (Wt.out.below hb Wt.out.lt)
  clear hb
  have fL := L.out.frozen 0
  have cL_0 := L.out.cell 0
  have cL_1 := L.out.cell 1
  simp at cL_0 cL_1
  obtain ⟨w120, hw120⟩ : ∃ x, x = w119.setCell ⟨(w106.heap.size + 1), 0, none⟩ (.string Tm) := ⟨_, rfl⟩
  have neM : (w.heap.size) ≠ (w106.heap.size + 1) := by intro h; have h1 := M.out; have h2 := L.out; rw [h] at h1; exact absurd (h1.symm.trans h2) (by simp)
  have neN : (w101.heap.size) ≠ (w106.heap.size + 1) := by intro h; have h1 := N.out; have h2 := L.out; rw [h] at h1; exact absurd (h1.symm.trans h2) (by simp)
  have neR1 : (w111.heap.size) ≠ (w106.heap.size + 1) := by intro h; have h1 := R1.out; have h2 := L.out; rw [h] at h1; exact absurd (h1.symm.trans h2) (by simp)
  have neR2 : (w115.heap.size) ≠ (w106.heap.size + 1) := by intro h; have h1 := R2.out; have h2 := L.out; rw [h] at h1; exact absurd (h1.symm.trans h2) (by simp)
  have neWt : (w115.heap.size + 1) ≠ (w106.heap.size + 1) := by intro h; have h1 := Wt.out; have h2 := L.out; rw [h] at h1; exact absurd (h1.symm.trans h2) (by simp)
  replace L := Lib.hid (show Blk w120 (w106.heap.size + 1) _ #[.string Tm, .string Tn] by rw [hw120]; exact L.out.set_ 0 _)
  replace M := Lib.hid (show Blk w120 _ _ _ by rw [hw120]; exact M.out.far neM _)
  clear neM
  replace N := Lib.hid (show Blk w120 _ _ _ by rw [hw120]; exact N.out.far neN _)
  clear neN
  replace R1 := Lib.hid (show Blk w120 _ _ _ by rw [hw120]; exact R1.out.far neR1 _)
  clear neR1
  replace R2 := Lib.hid (show Blk w120 _ _ _ by rw [hw120]; exact R2.out.far neR2 _)
  clear neR2
  replace Wt := Lib.hid (show Blk w120 _ _ _ by rw [hw120]; exact Wt.out.far neWt _)
  clear neWt
  replace HB := Lib.hid (show Below w.heap.size w w120 by rw [hw120]; exact HB.out.setCell HLB.out _)
  have cL_0 := L.out.cell 0
  have cL_1 := L.out.cell 1
  rw [hw120] at cL_0 cL_1
  simp at cL_0 cL_1
  go_wp2_with fail
  rw [← hw120]
  clear hw120 cL_0 cL_1
  clear fL
  refine (HN3 _).mono ?_
  rintro e w121 ⟨rfl, hb⟩
  replace HB := Lib.hid (HB.out.trans (hb.mono HB.out.size))
  replace M := Lib.hid (M.out.below hb M.out.lt)
  replace N := Lib.hid (N.out.below hb N.out.lt)
  replace L := Lib.hid (L.out.below hb L.out.lt)
  replace R1 := Lib.hid (R1.out.below hb R1.out.lt)
  replace R2 := Lib.hid (R2.out.below hb R2.out.lt)
  replace Wt := Lib.hid (Wt.out.below hb Wt.out.lt)
  clear hb
  clear HN3
  obtain ⟨w122, hw122⟩ : ∃ w122, w122 = w121.alloc (.cells #[.int .u64 0, .int .i64 0, .int .u32 0, .int .u32 0, .int .u32 0] 31) := ⟨_, rfl⟩
  have lR1 := R1.out.lt
  have dR1_0 := R1.out.cell 0
  have dR1_1 := R1.out.cell 1
  have dR1_2 := R1.out.cell 2
  have dR1_3 := R1.out.cell 3
  have dR1_4 := R1.out.cell 4
  have lN := N.out.lt
  have dN_0 := N.out.cell 0
  have dN_1 := N.out.cell 1
  have dN_2 := N.out.cell 2
  have dN_3 := N.out.cell 3
  have dN_4 := N.out.cell 4
  have lR2 := R2.out.lt
  have dR2_0 := R2.out.cell 0
  have dR2_1 := R2.out.cell 1
  have dR2_2 := R2.out.cell 2
  have dR2_3 := R2.out.cell 3
  have dR2_4 := R2.out.cell 4
  have lWt := Wt.out.lt
  have dWt_0 := Wt.out.cell 0
  have dWt_1 := Wt.out.cell 1
  have dWt_2 := Wt.out.cell 2
  have dWt_3 := Wt.out.cell 3
  have dWt_4 := Wt.out.cell 4
  simp at dR1_0 dR1_1 dR1_2 dR1_3 dR1_4 dN_0 dN_1 dN_2 dN_3 dN_4 dR2_0 dR2_1 dR2_2 dR2_3 dR2_4 dWt_0 dWt_1 dWt_2 dWt_3 dWt_4
  have R3 := Lib.hid (show Blk w122 w121.heap.size 31 #[.int .u64 0, .int .i64 0, .int .u32 0, .int .u32 0, .int .u32 0] by rw [hw122]; exact Blk.new _ _ _)
  replace M := Lib.hid (show Blk w122 _ _ _ by rw [hw122]; exact M.out.alloc _)
  replace N := Lib.hid (show Blk w122 _ _ _ by rw [hw122]; exact N.out.alloc _)
  replace L := Lib.hid (show Blk w122 _ _ _ by rw [hw122]; exact L.out.alloc _)
  replace R1 := Lib.hid (show Blk w122 _ _ _ by rw [hw122]; exact R1.out.alloc _)
  replace R2 := Lib.hid (show Blk w122 _ _ _ by rw [hw122]; exact R2.out.alloc _)
  replace Wt := Lib.hid (show Blk w122 _ _ _ by rw [hw122]; exact Wt.out.alloc _)
  replace HB := Lib.hid (show Below w.heap.size w w122 by rw [hw122]; exact HB.out.alloc HB.out.size _)
  have cR1_0 := R1.out.cell 0
  have cR1_1 := R1.out.cell 1
  have cR1_2 := R1.out.cell 2
  have cR1_3 := R1.out.cell 3
  have cR1_4 := R1.out.cell 4
  have cN_0 := N.out.cell 0
  have cN_1 := N.out.cell 1
  have cN_2 := N.out.cell 2
  have cN_3 := N.out.cell 3
  have cN_4 := N.out.cell 4
  have cR2_0 := R2.out.cell 0
  have cR2_1 := R2.out.cell 1
  have cR2_2 := R2.out.cell 2
  have cR2_3 := R2.out.cell 3
  have cR2_4 := R2.out.cell 4
  have cWt_0 := Wt.out.cell 0
  have cWt_1 := Wt.out.cell 1
  have cWt_2 := Wt.out.cell 2
  have cWt_3 := Wt.out.cell 3
  have cWt_4 := Wt.out.cell 4
  rw [hw122] at cR1_0 cR1_1 cR1_2 cR1_3 cR1_4 cN_0 cN_1 cN_2 cN_3 cN_4 cR2_0 cR2_1 cR2_2 cR2_3 cR2_4 cWt_0 cWt_1 cWt_2 cWt_3 cWt_4
  simp at cR1_0 cR1_1 cR1_2 cR1_3 cR1_4 cN_0 cN_1 cN_2 cN_3 cN_4 cR2_0 cR2_1 cR2_2 cR2_3 cR2_4 cWt_0 cWt_1 cWt_2 cWt_3 cWt_4
  go_wp2_with fail
  go_ret
  exact ⟨rfl, by rw [← hw122]; exact HB.out⟩
set_option maxRecDepth 100000 in
set_option maxHeartbeats 12800000 in
theorem mnewer_d10 (tx : Nat) (z : Int) (rt fr ps ra la : Nat) (wh at_ : Int) (d : Nat) (w : World) (ty : Nat) (hty : (ty : Int) = ((tx : Int) + 1) % 18446744073709551616) (hm : mayM tx 128 rt fr ps = true) (hn : mayM ty 128 ra la ps = true) (hd0 : d ≠ 0) (hdl : d < 4294967296) (hpl : tx % 2 = 1) (hwv : wh % 2 = 0) :
    Calls Try.prog 6 #[.agg #[.int .u64 tx, .int .i64 z, .int .u32 rt, .int .u32 fr, .int .u32 ps], .int .u32 ra, .int .u32 la, .int .i64 wh, .int .i64 at_, .int .u32 d] w fun e w' => e = .returned (.bool true) ∧ Below w.heap.size w w' := by
  obtain ⟨b, hb⟩ : ∃ b, b = bodyM 128 rt fr ps := ⟨_, rfl⟩
  obtain ⟨sl, hsl⟩ : ∃ sl, sl = tx % 2 := ⟨_, rfl⟩
  obtain ⟨c, hc⟩ : ∃ c, c = bodyM 128 ra la ps := ⟨_, rfl⟩
  obtain ⟨so, hso⟩ : ∃ so, so = ty % 2 := ⟨_, rfl⟩
  have HP1 : ∀ w : World, Calls Try.prog 10 #[.agg #[.int .u64 tx, .int .i64 128, .int .u32 rt, .int .u32 fr, .int .u32 ps]] w fun e w' => e = .returned (.tuple #[.agg #[.int .i64 1, .int .i64 0, .int .u32 sl, .int .u32 0, .int .u64 tx, .string b], .int .i64 0]) ∧ Below w.heap.size w w' := fun w => mpage_yes tx 128 rt fr ps sl b w hm hb hsl
  have HP2 : ∀ w : World, Calls Try.prog 10 #[.agg #[.int .u64 ty, .int .i64 128, .int .u32 ra, .int .u32 la, .int .u32 ps]] w fun e w' => e = .returned (.tuple #[.agg #[.int .i64 1, .int .i64 0, .int .u32 so, .int .u32 0, .int .u64 ty, .string c], .int .i64 0]) ∧ Below w.heap.size w w' := fun w => mpage_yes ty 128 ra la ps so c w hn hc hso
  have hmg := (mayM_good hm).1
  have htyx : ty = tx + 1 := by omega
  have hno : ty % 2 = 0 := by omega
  obtain ⟨Bm, hBm⟩ : ∃ B, B = metaB tx 128 rt fr ps := ⟨_, rfl⟩
  obtain ⟨Bn, hBn⟩ : ∃ B, B = metaB ty 128 ra la ps := ⟨_, rfl⟩
  have hd1 : ((d : Int) == 0) = false := by simpa using hd0
  obtain ⟨q, hq⟩ : ∃ q : Nat, (q : Int) = 4 + at_ % ((128 - 7 : Nat) : Int) := ⟨(4 + at_ % ((128 - 7 : Nat) : Int)).toNat, by have := Int.emod_nonneg at_ (show ((128 - 7 : Nat) : Int) ≠ 0 by decide); omega⟩
  have hq2 : 4 ≤ q ∧ q + 4 ≤ 128 := by have h1 := Int.emod_nonneg at_ (show ((128 - 7 : Nat) : Int) ≠ 0 by decide); have h2 := Int.emod_lt_of_pos at_ (show (0 : Int) < ((128 - 7 : Nat) : Int) by decide); omega
  have sBm : Bm.size = 128 := by rw [hBm]; exact metaB_size tx 128 rt fr ps (by decide)
  have sBn : Bn.size = 128 := by rw [hBn]; exact metaB_size ty 128 ra la ps (by decide)
  obtain ⟨Tm, hTm⟩ : ∃ T, T = turnB Bm q d := ⟨_, rfl⟩
  obtain ⟨Tn, hTn⟩ : ∃ T, T = turnB Bn q d := ⟨_, rfl⟩
  have sTm : Tm.size = 128 := by rw [hTm, turnB_size]; exact sBm
  have sTn : Tn.size = 128 := by rw [hTn, turnB_size]; exact sBn
  have HTm := fun w => turned_any Bm at_ d q Tm w (by omega) (by omega) hdl (by rw [sBm]; exact hq) hTm
  have HTn := fun w => turned_any Bn at_ d q Tn w (by omega) (by omega) hdl (by rw [sBn]; exact hq) hTn
  have okm : blockOk 128 1 Bm = true := by rw [hBm, ← hpl]; exact (metaB_parts tx 128 rt fr ps hm).1
  have okn : blockOk 128 0 Bn = true := by rw [hBn, ← hno]; exact (metaB_parts ty 128 ra la ps hn).1
  have badm : ∀ k, blockOk 128 k Tm = false := fun k => by rw [hTm]; exact turn_bad 128 1 k Bm q d okm hdl hd0 hq2.1 (by omega)
  have badn : ∀ k, blockOk 128 k Tn = false := fun k => by rw [hTn]; exact turn_bad 128 0 k Bn q d okn hdl hd0 hq2.1 (by omega)
  have hg : goodSize ((128 : Nat) : Int) = true := by decide
  obtain ⟨i1, i2, i3⟩ := blk_two 128 Bn Bm sBn sBm
  have HN1 : ∀ w : World, Calls Try.prog 15 #[.int .i64 128, .string (Bn ++ Bm)] w fun e w' => e = .returned (.tuple #[.agg #[.int .u64 ty, .int .i64 128, .int .u32 ra, .int .u32 la, .int .u32 ps], .int .i64 0]) ∧ Below w.heap.size w w' := fun w => mnew_ba 128 (Bn ++ Bm) ty 128 ra la ps tx 128 rt fr ps w hg (metaAt_block 128 0 (Bn ++ Bm) ty ra la ps hn hno.symm (by rw [i3]; decide) (by rw [i1, hBn])) (metaAt_block 128 1 (Bn ++ Bm) tx rt fr ps hm hpl.symm (by rw [i3]; decide) (by rw [i2, hBm])) (by rw [i3]; decide) (by omega)
  obtain ⟨j1, j2, j3⟩ := blk_two 128 Tn Bm sTn sBm
  have HN2 : ∀ w : World, Calls Try.prog 15 #[.int .i64 128, .string (Tn ++ Bm)] w fun e w' => e = .returned (.tuple #[.agg #[.int .u64 tx, .int .i64 128, .int .u32 rt, .int .u32 fr, .int .u32 ps], .int .i64 0]) ∧ Below w.heap.size w w' := fun w => mnew_b 128 (Tn ++ Bm) 0 0 0 0 0 tx 128 rt fr ps w hg (metaAt_bad 128 0 (Tn ++ Bm) (by rw [j1]; exact badn 0)) (metaAt_block 128 1 (Tn ++ Bm) tx rt fr ps hm hpl.symm (by rw [j3]; decide) (by rw [j2, hBm])) (by rw [j3]; decide)
  obtain ⟨k1, k2, k3⟩ := blk_two 128 Tn Tm sTn sTm
  have HN3 : ∀ w : World, Calls Try.prog 15 #[.int .i64 128, .string (Tn ++ Tm)] w fun e w' => e = .returned (.tuple #[.agg #[.int .u64 0, .int .i64 0, .int .u32 0, .int .u32 0, .int .u32 0], .int .i64 5]) ∧ Below w.heap.size w w' := fun w => mnew_none 128 (Tn ++ Tm) 0 0 0 0 0 0 0 0 0 0 w hg (metaAt_bad 128 0 (Tn ++ Tm) (by rw [k1]; exact badn 0)) (metaAt_bad 128 1 (Tn ++ Tm) (by rw [k2]; exact badm 1)) (by rw [k3]; decide)
  have cat0 : ¬ (9223372036854775807 < Bn.size + Bm.size) := by omega
  have cat1 : ¬ (9223372036854775807 < Tn.size + Bm.size) := by omega
  have cat2 : ¬ (9223372036854775807 < Tn.size + Tm.size) := by omega
  have HS1 : ∀ w : World, Calls Try.prog 17 #[.int .u64 tx] w fun e w' => e = .returned (.int .u32 1) ∧ w' = w := fun w => slot_is tx 1 w hpl.symm
  have HS2 : ∀ w : World, Calls Try.prog 17 #[.int .u64 ty] w fun e w' => e = .returned (.int .u32 0) ∧ w' = w := fun w => slot_is ty 0 w hno.symm
  have HK1 : ∀ w : World, Calls Try.prog 13 #[.agg #[.int .u64 tx, .int .i64 128, .int .u32 rt, .int .u32 fr, .int .u32 ps]] w fun e w' => e = .returned (.string Bm) ∧ Below w.heap.size w w' := fun w => mblock_is tx 128 rt fr ps Bm w hm hBm
  have HK2 : ∀ w : World, Calls Try.prog 13 #[.agg #[.int .u64 ty, .int .i64 128, .int .u32 ra, .int .u32 la, .int .u32 ps]] w fun e w' => e = .returned (.string Bn) ∧ Below w.heap.size w w' := fun w => mblock_is ty 128 ra la ps Bn w hn hBn
  have HPk : ∀ w : World, Calls Try.prog 23 #[.int .i64 wh, .int .i64 2] w fun e w' => e = .returned (.int .i64 0) ∧ w = w' := fun w => by
    have := pick_any wh 2 w (by decide) (by decide)
    rw [show wh % ((2 : Nat) : Int) = 0 from hwv] at this
    exact this
  have hen := fun w => meta_same ty 128 ra la ps w
  have hem := fun w => meta_same tx 128 rt fr ps w
  obtain ⟨hz2, hi2⟩ := zero_of_info infoS2
  have HI2 := Lib.hid hi2
  clear hm hn hb hsl hc hso hd0 hdl hpl hwv hmg htyx hno hBm hBn hq hq2 sBm sBn hTm hTn sTm sTn okm okn badm badn hg i1 i2 i3 j1 j2 j3 k1 k2 k3 hi2
  have hty1 : ((tx : Int) + 1) % 18446744073709551616 = (ty : Int) := by omega
  have hty2 : IntKind.u64.wrap ((tx : Int) + 1) = (ty : Int) := by rw [IntKind.wrap_u64]; omega
  clear hty
  obtain ⟨w0, hw0⟩ : ∃ w0, w0 = w.alloc (.cells #[.int .u64 tx, .int .i64 z, .int .u32 rt, .int .u32 fr, .int .u32 ps] 31) := ⟨_, rfl⟩
  have M := Lib.hid (show Blk w0 w.heap.size 31 #[.int .u64 tx, .int .i64 z, .int .u32 rt, .int .u32 fr, .int .u32 ps] by rw [hw0]; exact Blk.new _ _ _)
  have HB := Lib.hid (show Below w.heap.size w w0 by rw [hw0]; exact (Below.refl _ _).alloc (Nat.le_refl _) _)
  go_enter Try.func6, Try.ntmps6
  go_wp2_with fail
  rw [← hw0]
  clear hw0
  refine (lives5_any _).mono ?_
  rintro e w101 ⟨rfl, hb⟩
  replace HB := Lib.hid (HB.out.trans (hb.mono HB.out.size))
  replace M := Lib.hid (M.out.below hb M.out.lt)
  clear hb
  have cM_0 := M.out.cell 0
  have cM_1 := M.out.cell 1
  have cM_2 := M.out.cell 2
  have cM_3 := M.out.cell 3
  have cM_4 := M.out.cell 4
  simp at cM_0 cM_1 cM_2 cM_3 cM_4
  have fM1 := M.out.frozen 1
  obtain ⟨w102, hw102⟩ : ∃ x, x = w101.setCell ⟨w.heap.size, 1, none⟩ (.int .i64 128) := ⟨_, rfl⟩
  have lM := M.out.lt
  replace M := Lib.hid (show Blk w102 w.heap.size 31 #[.int .u64 tx, .int .i64 128, .int .u32 rt, .int .u32 fr, .int .u32 ps] by rw [hw102]; exact M.out.set_ 1 _)
  replace HB := Lib.hid (show Below w.heap.size w w102 by rw [hw102]; exact HB.out.setCell (Nat.le_refl _) _)
  have hsz : w102.heap.size = w101.heap.size := by rw [hw102]; simp [World.setCell]
  have uM_0 := M.out.cell 0
  have uM_1 := M.out.cell 1
  have uM_2 := M.out.cell 2
  have uM_3 := M.out.cell 3
  have uM_4 := M.out.cell 4
  rw [hw102] at uM_0 uM_1 uM_2 uM_3 uM_4
  simp at uM_0 uM_1 uM_2 uM_3 uM_4
  go_wp2_with fail
  rw [← hw102]
  clear hw102 fM1 lM cM_0 cM_1 cM_2 cM_3 cM_4 uM_0 uM_1 uM_2 uM_3 uM_4
  obtain ⟨w103, hw103⟩ : ∃ w103, w103 = w102.alloc (.cells #[.int .u64 ty, .int .i64 128, .int .u32 ra, .int .u32 la, .int .u32 ps] 31) := ⟨_, rfl⟩
  have N := Lib.hid (show Blk w103 w102.heap.size 31 #[.int .u64 ty, .int .i64 128, .int .u32 ra, .int .u32 la, .int .u32 ps] by rw [hw103]; exact Blk.new _ _ _)
  replace M := Lib.hid (show Blk w103 _ _ _ by rw [hw103]; exact M.out.alloc _)
  replace HB := Lib.hid (show Below w.heap.size w w103 by rw [hw103]; exact HB.out.alloc HB.out.size _)
  rw [← hw103]
  clear hw103
  rw [hsz] at N
  refine (HP1 _).mono ?_
  rintro e w104 ⟨rfl, hb⟩
  replace HB := Lib.hid (HB.out.trans (hb.mono HB.out.size))
  replace M := Lib.hid (M.out.below hb M.out.lt)
  replace N := Lib.hid (N.out.below hb N.out.lt)
  clear hb
  clear HP1
  obtain ⟨w105, hw105⟩ : ∃ w105, w105 = w104.alloc (.cells #[.int .i64 1, .int .i64 0, .int .u32 sl, .int .u32 0, .int .u64 tx, .string b] 26) := ⟨_, rfl⟩
  have lM := M.out.lt
  have dM_0 := M.out.cell 0
  have dM_1 := M.out.cell 1
  have dM_2 := M.out.cell 2
  have dM_3 := M.out.cell 3
  have dM_4 := M.out.cell 4
  have lN := N.out.lt
  have dN_0 := N.out.cell 0
  have dN_1 := N.out.cell 1
  have dN_2 := N.out.cell 2
  have dN_3 := N.out.cell 3
  have dN_4 := N.out.cell 4
  simp at dM_0 dM_1 dM_2 dM_3 dM_4 dN_0 dN_1 dN_2 dN_3 dN_4
  have P1 := Lib.hid (show Blk w105 w104.heap.size 26 #[.int .i64 1, .int .i64 0, .int .u32 sl, .int .u32 0, .int .u64 tx, .string b] by rw [hw105]; exact Blk.new _ _ _)
  replace M := Lib.hid (show Blk w105 _ _ _ by rw [hw105]; exact M.out.alloc _)
  replace N := Lib.hid (show Blk w105 _ _ _ by rw [hw105]; exact N.out.alloc _)
  replace HB := Lib.hid (show Below w.heap.size w w105 by rw [hw105]; exact HB.out.alloc HB.out.size _)
  have cM_0 := M.out.cell 0
  have cM_1 := M.out.cell 1
  have cM_2 := M.out.cell 2
  have cM_3 := M.out.cell 3
  have cM_4 := M.out.cell 4
  have cN_0 := N.out.cell 0
  have cN_1 := N.out.cell 1
  have cN_2 := N.out.cell 2
  have cN_3 := N.out.cell 3
  have cN_4 := N.out.cell 4
  rw [hw105] at cM_0 cM_1 cM_2 cM_3 cM_4 cN_0 cN_1 cN_2 cN_3 cN_4
  simp at cM_0 cM_1 cM_2 cM_3 cM_4 cN_0 cN_1 cN_2 cN_3 cN_4
  go_wp2_with fail
  rw [← hw105]
  clear hw105 cM_0 cM_1 cM_2 cM_3 cM_4 cN_0 cN_1 cN_2 cN_3 cN_4 dM_0 dM_1 dM_2 dM_3 dM_4 dN_0 dN_1 dN_2 dN_3 dN_4 lM lN
  refine (HP2 _).mono ?_
  rintro e w106 ⟨rfl, hb⟩
  replace HB := Lib.hid (HB.out.trans (hb.mono HB.out.size))
  replace M := Lib.hid (M.out.below hb M.out.lt)
  replace N := Lib.hid (N.out.below hb N.out.lt)
  replace P1 := Lib.hid (P1.out.below hb P1.out.lt)
  clear hb
  clear HP2
  obtain ⟨w107, hw107⟩ : ∃ w107, w107 = w106.alloc (.cells #[.int .i64 1, .int .i64 0, .int .u32 so, .int .u32 0, .int .u64 ty, .string c] 26) := ⟨_, rfl⟩
  have lM := M.out.lt
  have dM_0 := M.out.cell 0
  have dM_1 := M.out.cell 1
  have dM_2 := M.out.cell 2
  have dM_3 := M.out.cell 3
  have dM_4 := M.out.cell 4
  have lN := N.out.lt
  have dN_0 := N.out.cell 0
  have dN_1 := N.out.cell 1
  have dN_2 := N.out.cell 2
  have dN_3 := N.out.cell 3
  have dN_4 := N.out.cell 4
  simp at dM_0 dM_1 dM_2 dM_3 dM_4 dN_0 dN_1 dN_2 dN_3 dN_4
  have P2 := Lib.hid (show Blk w107 w106.heap.size 26 #[.int .i64 1, .int .i64 0, .int .u32 so, .int .u32 0, .int .u64 ty, .string c] by rw [hw107]; exact Blk.new _ _ _)
  replace M := Lib.hid (show Blk w107 _ _ _ by rw [hw107]; exact M.out.alloc _)
  replace N := Lib.hid (show Blk w107 _ _ _ by rw [hw107]; exact N.out.alloc _)
  replace P1 := Lib.hid (show Blk w107 _ _ _ by rw [hw107]; exact P1.out.alloc _)
  replace HB := Lib.hid (show Below w.heap.size w w107 by rw [hw107]; exact HB.out.alloc HB.out.size _)
  have cM_0 := M.out.cell 0
  have cM_1 := M.out.cell 1
  have cM_2 := M.out.cell 2
  have cM_3 := M.out.cell 3
  have cM_4 := M.out.cell 4
  have cN_0 := N.out.cell 0
  have cN_1 := N.out.cell 1
  have cN_2 := N.out.cell 2
  have cN_3 := N.out.cell 3
  have cN_4 := N.out.cell 4
  rw [hw107] at cM_0 cM_1 cM_2 cM_3 cM_4 cN_0 cN_1 cN_2 cN_3 cN_4
  simp at cM_0 cM_1 cM_2 cM_3 cM_4 cN_0 cN_1 cN_2 cN_3 cN_4
  have hsz2 : w107.heap.size = w106.heap.size + 1 := by rw [hw107]; simp
  go_wp2_with fail
  rw [← hw107]
  clear hw107 cM_0 cM_1 cM_2 cM_3 cM_4 cN_0 cN_1 cN_2 cN_3 cN_4 dM_0 dM_1 dM_2 dM_3 dM_4 dN_0 dN_1 dN_2 dN_3 dN_4 lM lN
  clear P1
  clear P2
  have hML := Lib.hid M.out.lt
  obtain ⟨w108, hw108⟩ : ∃ w108, w108 = w107.alloc (.cells #[.string ByteArray.empty, .string ByteArray.empty] 45) := ⟨_, rfl⟩
  have L := Lib.hid (show Blk w108 w107.heap.size 45 #[.string ByteArray.empty, .string ByteArray.empty] by rw [hw108]; exact Blk.new _ _ _)
  replace M := Lib.hid (show Blk w108 _ _ _ by rw [hw108]; exact M.out.alloc _)
  replace N := Lib.hid (show Blk w108 _ _ _ by rw [hw108]; exact N.out.alloc _)
  replace HB := Lib.hid (show Below w.heap.size w w108 by rw [hw108]; exact HB.out.alloc HB.out.size _)
  rw [← hw108]
  clear hw108
  rw [hsz2] at L hML
  have HLB := Lib.hid (show w.heap.size ≤ w106.heap.size + 1 from Nat.le_of_lt hML.out)
  replace M := Lib.hid M.out.drew
  replace N := Lib.hid N.out.drew
  replace L := Lib.hid L.out.drew
  replace HB := Lib.hid HB.out.drew
  refine wp_region_held_drew (S := fun w' => (w'.cell? ⟨w.heap.size, 0, none⟩ = some (.int .u64 tx) ∧ w'.cell? ⟨w.heap.size, 1, none⟩ = some (.int .i64 128) ∧ w'.cell? ⟨w.heap.size, 2, none⟩ = some (.int .u32 rt) ∧ w'.cell? ⟨w.heap.size, 3, none⟩ = some (.int .u32 fr) ∧ w'.cell? ⟨w.heap.size, 4, none⟩ = some (.int .u32 ps)) ∧ (w'.cell? ⟨w101.heap.size, 0, none⟩ = some (.int .u64 ty) ∧ w'.cell? ⟨w101.heap.size, 1, none⟩ = some (.int .i64 128) ∧ w'.cell? ⟨w101.heap.size, 2, none⟩ = some (.int .u32 ra) ∧ w'.cell? ⟨w101.heap.size, 3, none⟩ = some (.int .u32 la) ∧ w'.cell? ⟨w101.heap.size, 4, none⟩ = some (.int .u32 ps))) (by kernel_rfl) ⟨meta_cells M.out, meta_cells N.out⟩ (fun hHeld => ?_)
  have NEM : w.heap.size ≠ (w106.heap.size + 1) := by intro h; have h1 := M.out; have h2 := L.out; rw [h] at h1; exact absurd (h1.symm.trans h2) (by simp)
  have NEN : w101.heap.size ≠ (w106.heap.size + 1) := by intro h; have h1 := N.out; have h2 := L.out; rw [h] at h1; exact absurd (h1.symm.trans h2) (by simp)
  refine wpAnyH_takeL (i := 0) (v := ?_) rfl (by kernel_rfl) (by kernel_rfl) (by kernel_rfl) (fun _ _ _ h => h) (Or.inl ⟨by rfl, ?_⟩) (by first | trivial | assumption) ?_
  rotate_left
  · intro wz hSz; (try dsimp only at hSz); go_simp; (try with_reducible rfl)
  try simp only [Act.put, List.setIfInBounds_toArray, List.set_cons_zero, List.set_cons_succ]
  refine wpAnyH_takeL (i := 1) (v := ?_) rfl (by kernel_rfl) (by kernel_rfl) (by kernel_rfl) (fun _ _ _ h => h) (Or.inl ⟨by rfl, ?_⟩) (by first | trivial | assumption) ?_
  rotate_left
  · intro wz hSz; (try dsimp only at hSz); go_simp; (try with_reducible rfl)
  try simp only [Act.put, List.setIfInBounds_toArray, List.set_cons_zero, List.set_cons_succ]
  refine wpAnyH_takeL (i := 3) (v := ?_) rfl (by kernel_rfl) (by kernel_rfl) (by kernel_rfl) (fun _ _ _ h => h) (Or.inl ⟨by rfl, ?_⟩) (by first | trivial | assumption) ?_
  rotate_left
  · intro wz hSz; (try dsimp only at hSz); go_simp; (try with_reducible rfl)
  try simp only [Act.put, List.setIfInBounds_toArray, List.set_cons_zero, List.set_cons_succ]
  refine wpAnyH_takeL (i := 4) (v := ?_) rfl (by kernel_rfl) (by kernel_rfl) (by kernel_rfl) (fun _ _ _ h => h) (Or.inl ⟨by rfl, ?_⟩) (by first | trivial | assumption) ?_
  rotate_left
  · intro wz hSz; (try dsimp only at hSz); go_simp; (try with_reducible rfl)
  try simp only [Act.put, List.setIfInBounds_toArray, List.set_cons_zero, List.set_cons_succ]
  refine wpAnyH_takeL (i := 6) (v := ?_) rfl (by kernel_rfl) (by kernel_rfl) (by kernel_rfl) (fun _ _ _ h => h) (Or.inl ⟨by rfl, ?_⟩) (by first | trivial | assumption) ?_
  rotate_left
  · intro wz hSz; (try dsimp only at hSz); go_simp; (try with_reducible rfl)
  try simp only [Act.put, List.setIfInBounds_toArray, List.set_cons_zero, List.set_cons_succ]
  refine wpAnyH_takeL (i := 8) (v := ?_) rfl (by kernel_rfl) (by kernel_rfl) (by kernel_rfl) (fun _ _ _ h => h) (Or.inl ⟨by rfl, ?_⟩) (by first | trivial | assumption) ?_
  rotate_left
  · intro wz hSz; (try dsimp only at hSz); go_simp; (try with_reducible rfl)
  try simp only [Act.put, List.setIfInBounds_toArray, List.set_cons_zero, List.set_cons_succ]
  refine wpAnyH_ready (rs := [2]) (by kernel_rfl) (by simp) ?_
  refine AllReadyH.consL rfl (fun K hK => ?_) AllReadyH.nil
  go_simp
  refine (HS1 _).mono ?_
  rintro e wq ⟨rfl, rfl⟩
  refine hK.out _ _ (⟨meta_cells M.out, meta_cells N.out⟩) (fun hHeld => ?_)
  clear hK K
  try simp only [Act.put, List.setIfInBounds_toArray, List.set_cons_zero, List.set_cons_succ]
  refine wpAnyH_ready (rs := [5]) (by kernel_rfl) (by simp) ?_
  refine AllReadyH.consL rfl (fun K hK => ?_) AllReadyH.nil
  go_simp
  refine (HS2 _).mono ?_
  rintro e wq ⟨rfl, rfl⟩
  refine hK.out _ _ (⟨meta_cells M.out, meta_cells N.out⟩) (fun hHeld => ?_)
  clear hK K
  try simp only [Act.put, List.setIfInBounds_toArray, List.set_cons_zero, List.set_cons_succ]
  refine wpAnyH_ready (rs := [7]) (by kernel_rfl) (by simp) ?_
  refine AllReadyH.consL rfl (fun K hK => ?_) AllReadyH.nil
  go_simp
  refine (HK1 _).mono ?_
  rintro e wq ⟨rfl, hb⟩
  replace M := Lib.hid (M.out.below hb M.out.lt)
  replace N := Lib.hid (N.out.below hb N.out.lt)
  replace L := Lib.hid (L.out.below hb L.out.lt)
  replace HB := Lib.hid (HB.out.trans (hb.mono HB.out.size))
  clear hb
  refine hK.out _ _ (⟨meta_cells M.out, meta_cells N.out⟩) (fun hHeld => ?_)
  clear hK K
  try simp only [Act.put, List.setIfInBounds_toArray, List.set_cons_zero, List.set_cons_succ]
  refine wpAnyH_takeL (i := 10) (v := ?_) rfl (by kernel_rfl) (by kernel_rfl) (by kernel_rfl) (fun _ _ _ h => h) (Or.inl ⟨by rfl, ?_⟩) (by first | trivial | assumption) ?_
  rotate_left
  · intro wz hSz; (try dsimp only at hSz); go_simp; (try with_reducible rfl)
  try simp only [Act.put, List.setIfInBounds_toArray, List.set_cons_zero, List.set_cons_succ]
  refine wpAnyH_ready (rs := [9]) (by kernel_rfl) (by simp) ?_
  refine AllReadyH.consL rfl (fun K hK => ?_) AllReadyH.nil
  go_simp
  refine (HK2 _).mono ?_
  rintro e wb ⟨rfl, hb⟩
  replace M := Lib.hid (M.out.below hb M.out.lt)
  replace N := Lib.hid (N.out.below hb N.out.lt)
  replace L := Lib.hid (L.out.below hb L.out.lt)
  replace HB := Lib.hid (HB.out.trans (hb.mono HB.out.size))
  clear hb
  refine hK.out _ _ (⟨meta_cells M.out, meta_cells N.out⟩) (fun hHeld => ?_)
  clear hK K
  try simp only [Act.put, List.setIfInBounds_toArray, List.set_cons_zero, List.set_cons_succ]
  have l0 := L.out.cell 0
  have l1 := L.out.cell 1
  have f0 := L.out.frozen 0
  have f1 := L.out.frozen 1
  simp at l0 l1
  have hne := Lib.hid (show True from trivial)
  refine wpAnyH_ready (rs := [11]) (by kernel_rfl) (by simp) ?_
  refine AllReadyH.consL rfl (fun K hK => ?_) AllReadyH.nil
  go_simp
  refine hK.out _ _ (⟨meta_cells (M.out.far (p := ⟨(w106.heap.size + 1), 1, none⟩) NEM _), meta_cells (N.out.far (p := ⟨(w106.heap.size + 1), 1, none⟩) NEN _)⟩) (fun hHeld => ?_)
  clear hK K
  try simp only [Act.put, List.setIfInBounds_toArray, List.set_cons_zero, List.set_cons_succ]
  refine wpAnyH_takeL (i := 12) (v := ?_) rfl (by kernel_rfl) (by kernel_rfl) (by kernel_rfl) (fun _ _ _ h => h) (Or.inl ⟨by rfl, ?_⟩) (by first | trivial | assumption) ?_
  rotate_left
  · intro wz hSz; (try dsimp only at hSz); go_simp; (try with_reducible rfl)
  try simp only [Act.put, List.setIfInBounds_toArray, List.set_cons_zero, List.set_cons_succ]
  refine wpAnyH_ready (rs := [13]) (by kernel_rfl) (by simp) ?_
  refine AllReadyH.consL rfl (fun K hK => ?_) AllReadyH.nil
  go_simp
  refine hK.out _ _ (⟨meta_cells ((M.out.far (p := ⟨(w106.heap.size + 1), 1, none⟩) NEM _).far (p := ⟨(w106.heap.size + 1), 0, none⟩) NEM _), meta_cells ((N.out.far (p := ⟨(w106.heap.size + 1), 1, none⟩) NEN _).far (p := ⟨(w106.heap.size + 1), 0, none⟩) NEN _)⟩) (fun hHeld => ?_)
  clear hK K
  try simp only [Act.put, List.setIfInBounds_toArray, List.set_cons_zero, List.set_cons_succ]
  refine wpAnyH_done (by kernel_rfl) ?_ _
  clear l0 l1 f0 f1 hne HK1 HK2
  obtain ⟨w109, hw109⟩ : ∃ x, x = wb.setCell ⟨(w106.heap.size + 1), 1, none⟩ (.string Bm) := ⟨_, rfl⟩
  rw [← hw109]
  replace L := Lib.hid (show Blk w109 (w106.heap.size + 1) _ #[.string ByteArray.empty, .string Bm] by rw [hw109]; exact L.out.set_ 1 _)
  replace M := Lib.hid (show Blk w109 _ _ _ by rw [hw109]; exact M.out.far NEM _)
  replace N := Lib.hid (show Blk w109 _ _ _ by rw [hw109]; exact N.out.far NEN _)
  replace HB := Lib.hid (show Below w.heap.size w w109 by rw [hw109]; exact HB.out.setCell HLB.out _)
  clear hw109
  obtain ⟨w110, hw110⟩ : ∃ x, x = w109.setCell ⟨(w106.heap.size + 1), 0, none⟩ (.string Bn) := ⟨_, rfl⟩
  rw [← hw110]
  replace L := Lib.hid (show Blk w110 (w106.heap.size + 1) _ #[.string Bn, .string Bm] by rw [hw110]; exact L.out.set_ 0 _)
  replace M := Lib.hid (show Blk w110 _ _ _ by rw [hw110]; exact M.out.far NEM _)
  replace N := Lib.hid (show Blk w110 _ _ _ by rw [hw110]; exact N.out.far NEN _)
  replace HB := Lib.hid (show Below w.heap.size w w110 by rw [hw110]; exact HB.out.setCell HLB.out _)
  clear hw110
  clear NEM NEN hHeld
  have cL_0 := L.out.cell 0
  have cL_1 := L.out.cell 1
  simp at cL_0 cL_1
  go_wp2_with fail
  clear cL_0 cL_1
  refine (HN1 _).mono ?_
  rintro e w111 ⟨rfl, hb⟩
  replace HB := Lib.hid (HB.out.trans (hb.mono HB.out.size))
  replace M := Lib.hid (M.out.below hb M.out.lt)
  replace N := Lib.hid (N.out.below hb N.out.lt)
  replace L := Lib.hid (L.out.below hb L.out.lt)
  clear hb
  clear HN1
  obtain ⟨w112, hw112⟩ : ∃ w112, w112 = w111.alloc (.cells #[.int .u64 ty, .int .i64 128, .int .u32 ra, .int .u32 la, .int .u32 ps] 31) := ⟨_, rfl⟩
  have lL := L.out.lt
  have dL_0 := L.out.cell 0
  have dL_1 := L.out.cell 1
  simp at dL_0 dL_1
  have R1 := Lib.hid (show Blk w112 w111.heap.size 31 #[.int .u64 ty, .int .i64 128, .int .u32 ra, .int .u32 la, .int .u32 ps] by rw [hw112]; exact Blk.new _ _ _)
  replace M := Lib.hid (show Blk w112 _ _ _ by rw [hw112]; exact M.out.alloc _)
  replace N := Lib.hid (show Blk w112 _ _ _ by rw [hw112]; exact N.out.alloc _)
  replace L := Lib.hid (show Blk w112 _ _ _ by rw [hw112]; exact L.out.alloc _)
  replace HB := Lib.hid (show Below w.heap.size w w112 by rw [hw112]; exact HB.out.alloc HB.out.size _)
  have cL_0 := L.out.cell 0
  have cL_1 := L.out.cell 1
  rw [hw112] at cL_0 cL_1
  simp at cL_0 cL_1
  go_wp2_with fail
  rw [← hw112]
  clear hw112 cL_0 cL_1 dL_0 dL_1 lL
  refine (HPk _).mono ?_
  rintro e wz ⟨rfl, rfl⟩
  have cL_0 := L.out.cell 0
  have cL_1 := L.out.cell 1
  simp at cL_0 cL_1
  go_wp2_with fail
  clear HPk cL_0 cL_1
  refine (HTn _).mono ?_
  rintro e w113 ⟨rfl, hb⟩
  replace HB := Lib.hid (HB.out.trans (hb.mono HB.out.size))
  replace M := Lib.hid (M.out.below hb M.out.lt)
  replace N := Lib.hid (N.out.below hb N.out.lt)
  replace L := Lib.hid (L.out.below hb L.out.lt)
  replace R1 := Lib.hid (R1.out.below hb R1.out.lt)
  clear hb
  have fL := L.out.frozen 0
  have cL_0 := L.out.cell 0
  have cL_1 := L.out.cell 1
  simp at cL_0 cL_1
  obtain ⟨w114, hw114⟩ : ∃ x, x = w113.setCell ⟨(w106.heap.size + 1), 0, none⟩ (.string Tn) := ⟨_, rfl⟩
  have neM : (w.heap.size) ≠ (w106.heap.size + 1) := by intro h; have h1 := M.out; have h2 := L.out; rw [h] at h1; exact absurd (h1.symm.trans h2) (by simp)
  have neN : (w101.heap.size) ≠ (w106.heap.size + 1) := by intro h; have h1 := N.out; have h2 := L.out; rw [h] at h1; exact absurd (h1.symm.trans h2) (by simp)
  have neR1 : (w111.heap.size) ≠ (w106.heap.size + 1) := by intro h; have h1 := R1.out; have h2 := L.out; rw [h] at h1; exact absurd (h1.symm.trans h2) (by simp)
  replace L := Lib.hid (show Blk w114 (w106.heap.size + 1) _ #[.string Tn, .string Bm] by rw [hw114]; exact L.out.set_ 0 _)
  replace M := Lib.hid (show Blk w114 _ _ _ by rw [hw114]; exact M.out.far neM _)
  clear neM
  replace N := Lib.hid (show Blk w114 _ _ _ by rw [hw114]; exact N.out.far neN _)
  clear neN
  replace R1 := Lib.hid (show Blk w114 _ _ _ by rw [hw114]; exact R1.out.far neR1 _)
  clear neR1
  replace HB := Lib.hid (show Below w.heap.size w w114 by rw [hw114]; exact HB.out.setCell HLB.out _)
  have cL_0 := L.out.cell 0
  have cL_1 := L.out.cell 1
  rw [hw114] at cL_0 cL_1
  simp at cL_0 cL_1
  go_wp2_with fail
  rw [← hw114]
  clear hw114 cL_0 cL_1
  clear fL
  refine (HN2 _).mono ?_
  rintro e w115 ⟨rfl, hb⟩
  replace HB := Lib.hid (HB.out.trans (hb.mono HB.out.size))
  replace M := Lib.hid (M.out.below hb M.out.lt)
  replace N := Lib.hid (N.out.below hb N.out.lt)
  replace L := Lib.hid (L.out.below hb L.out.lt)
  replace R1 := Lib.hid (R1.out.below hb R1.out.lt)
  clear hb
  clear HN2
  obtain ⟨w116, hw116⟩ : ∃ w116, w116 = w115.alloc (.cells #[.int .u64 tx, .int .i64 128, .int .u32 rt, .int .u32 fr, .int .u32 ps] 31) := ⟨_, rfl⟩
  have lM := M.out.lt
  have dM_0 := M.out.cell 0
  have dM_1 := M.out.cell 1
  have dM_2 := M.out.cell 2
  have dM_3 := M.out.cell 3
  have dM_4 := M.out.cell 4
  have lN := N.out.lt
  have dN_0 := N.out.cell 0
  have dN_1 := N.out.cell 1
  have dN_2 := N.out.cell 2
  have dN_3 := N.out.cell 3
  have dN_4 := N.out.cell 4
  simp at dM_0 dM_1 dM_2 dM_3 dM_4 dN_0 dN_1 dN_2 dN_3 dN_4
  have R2 := Lib.hid (show Blk w116 w115.heap.size 31 #[.int .u64 tx, .int .i64 128, .int .u32 rt, .int .u32 fr, .int .u32 ps] by rw [hw116]; exact Blk.new _ _ _)
  replace M := Lib.hid (show Blk w116 _ _ _ by rw [hw116]; exact M.out.alloc _)
  replace N := Lib.hid (show Blk w116 _ _ _ by rw [hw116]; exact N.out.alloc _)
  replace L := Lib.hid (show Blk w116 _ _ _ by rw [hw116]; exact L.out.alloc _)
  replace R1 := Lib.hid (show Blk w116 _ _ _ by rw [hw116]; exact R1.out.alloc _)
  replace HB := Lib.hid (show Below w.heap.size w w116 by rw [hw116]; exact HB.out.alloc HB.out.size _)
  have hsz3 : w116.heap.size = w115.heap.size + 1 := by rw [hw116]; simp
  have cM_0 := M.out.cell 0
  have cM_1 := M.out.cell 1
  have cM_2 := M.out.cell 2
  have cM_3 := M.out.cell 3
  have cM_4 := M.out.cell 4
  have cN_0 := N.out.cell 0
  have cN_1 := N.out.cell 1
  have cN_2 := N.out.cell 2
  have cN_3 := N.out.cell 3
  have cN_4 := N.out.cell 4
  rw [hw116] at cM_0 cM_1 cM_2 cM_3 cM_4 cN_0 cN_1 cN_2 cN_3 cN_4
  simp at cM_0 cM_1 cM_2 cM_3 cM_4 cN_0 cN_1 cN_2 cN_3 cN_4
  go_wp2_with fail
  rw [← hw116]
  clear hw116 cM_0 cM_1 cM_2 cM_3 cM_4 cN_0 cN_1 cN_2 cN_3 cN_4 dM_0 dM_1 dM_2 dM_3 dM_4 dN_0 dN_1 dN_2 dN_3 dN_4 lM lN
  have hMW := Lib.hid M.out.lt
  have hNW := Lib.hid N.out.lt
  have hLW := Lib.hid L.out.lt
  have hR1W := Lib.hid R1.out.lt
  have hR2W := Lib.hid R2.out.lt
  have hWB := Lib.hid (Nat.le_of_lt hMW.out)
  obtain ⟨w117, hw117⟩ : ∃ w117, w117 = w116.alloc (.cells #[.int .u64 tx, .int .i64 128, .int .u32 rt, .int .u32 fr, .int .u32 ps] 31) := ⟨_, rfl⟩
  have Wt := Lib.hid (show Blk w117 w116.heap.size 31 #[.int .u64 tx, .int .i64 128, .int .u32 rt, .int .u32 fr, .int .u32 ps] by rw [hw117]; exact Blk.new _ _ _)
  replace M := Lib.hid (show Blk w117 _ _ _ by rw [hw117]; exact M.out.alloc _)
  replace N := Lib.hid (show Blk w117 _ _ _ by rw [hw117]; exact N.out.alloc _)
  replace L := Lib.hid (show Blk w117 _ _ _ by rw [hw117]; exact L.out.alloc _)
  replace R1 := Lib.hid (show Blk w117 _ _ _ by rw [hw117]; exact R1.out.alloc _)
  replace R2 := Lib.hid (show Blk w117 _ _ _ by rw [hw117]; exact R2.out.alloc _)
  replace HB := Lib.hid (show Below w.heap.size w w117 by rw [hw117]; exact HB.out.alloc HB.out.size _)
  rw [← hw117]
  clear hw117
  rw [hsz3] at Wt hWB hMW hNW hLW hR1W hR2W
  refine (HS2 _).mono ?_
  rintro e w118 ⟨rfl, rfl⟩
  have cN_0 := N.out.cell 0
  have cN_1 := N.out.cell 1
  have cN_2 := N.out.cell 2
  have cN_3 := N.out.cell 3
  have cN_4 := N.out.cell 4
  have cWt_0 := Wt.out.cell 0
  have cWt_1 := Wt.out.cell 1
  have cWt_2 := Wt.out.cell 2
  have cWt_3 := Wt.out.cell 3
  have cWt_4 := Wt.out.cell 4
  have cL_0 := L.out.cell 0
  have cL_1 := L.out.cell 1
  simp at cN_0 cN_1 cN_2 cN_3 cN_4 cWt_0 cWt_1 cWt_2 cWt_3 cWt_4 cL_0 cL_1
  go_wp2_with fail
  clear cN_0 cN_1 cN_2 cN_3 cN_4 cWt_0 cWt_1 cWt_2 cWt_3 cWt_4 cL_0 cL_1
  refine (HTm _).mono ?_
  rintro e w119 ⟨rfl, hb⟩
  replace HB := Lib.hid (HB.out.trans (hb.mono HB.out.size))
  replace M := Lib.hid (M.out.below hb M.out.lt)
  replace N := Lib.hid (N.out.below hb N.out.lt)
  replace L := Lib.hid (L.out.below hb L.out.lt)
  replace R1 := Lib.hid (R1.out.below hb R1.out.lt)
  replace R2 := Lib.hid (R2.out.below hb R2.out.lt)
  replace Wt := Lib.hid (Wt.out.below hb Wt.out.lt)
  clear hb
  have fL := L.out.frozen 1
  have cL_0 := L.out.cell 0
  have cL_1 := L.out.cell 1
  simp at cL_0 cL_1
  obtain ⟨w120, hw120⟩ : ∃ x, x = w119.setCell ⟨(w106.heap.size + 1), 1, none⟩ (.string Tm) := ⟨_, rfl⟩
  have neM : (w.heap.size) ≠ (w106.heap.size + 1) := by intro h; have h1 := M.out; have h2 := L.out; rw [h] at h1; exact absurd (h1.symm.trans h2) (by simp)
  have neN : (w101.heap.size) ≠ (w106.heap.size + 1) := by intro h; have h1 := N.out; have h2 := L.out; rw [h] at h1; exact absurd (h1.symm.trans h2) (by simp)
  have neR1 : (w111.heap.size) ≠ (w106.heap.size + 1) := by intro h; have h1 := R1.out; have h2 := L.out; rw [h] at h1; exact absurd (h1.symm.trans h2) (by simp)
  have neR2 : (w115.heap.size) ≠ (w106.heap.size + 1) := by intro h; have h1 := R2.out; have h2 := L.out; rw [h] at h1; exact absurd (h1.symm.trans h2) (by simp)
  have neWt : (w115.heap.size + 1) ≠ (w106.heap.size + 1) := by intro h; have h1 := Wt.out; have h2 := L.out; rw [h] at h1; exact absurd (h1.symm.trans h2) (by simp)
  replace L := Lib.hid (show Blk w120 (w106.heap.size + 1) _ #[.string Tn, .string Tm] by rw [hw120]; exact L.out.set_ 1 _)
  replace M := Lib.hid (show Blk w120 _ _ _ by rw [hw120]; exact M.out.far neM _)
  clear neM
  replace N := Lib.hid (show Blk w120 _ _ _ by rw [hw120]; exact N.out.far neN _)
  clear neN
  replace R1 := Lib.hid (show Blk w120 _ _ _ by rw [hw120]; exact R1.out.far neR1 _)
  clear neR1
  replace R2 := Lib.hid (show Blk w120 _ _ _ by rw [hw120]; exact R2.out.far neR2 _)
  clear neR2
  replace Wt := Lib.hid (show Blk w120 _ _ _ by rw [hw120]; exact Wt.out.far neWt _)
  clear neWt
  replace HB := Lib.hid (show Below w.heap.size w w120 by rw [hw120]; exact HB.out.setCell HLB.out _)
  have cL_0 := L.out.cell 0
  have cL_1 := L.out.cell 1
  rw [hw120] at cL_0 cL_1
  simp at cL_0 cL_1
  go_wp2_with fail
  rw [← hw120]
  clear hw120 cL_0 cL_1
  clear fL
  refine (HN3 _).mono ?_
  rintro e w121 ⟨rfl, hb⟩
  replace HB := Lib.hid (HB.out.trans (hb.mono HB.out.size))
  replace M := Lib.hid (M.out.below hb M.out.lt)
  replace N := Lib.hid (N.out.below hb N.out.lt)
  replace L := Lib.hid (L.out.below hb L.out.lt)
  replace R1 := Lib.hid (R1.out.below hb R1.out.lt)
  replace R2 := Lib.hid (R2.out.below hb R2.out.lt)
  replace Wt := Lib.hid (Wt.out.below hb Wt.out.lt)
  clear hb
  clear HN3
  obtain ⟨w122, hw122⟩ : ∃ w122, w122 = w121.alloc (.cells #[.int .u64 0, .int .i64 0, .int .u32 0, .int .u32 0, .int .u32 0] 31) := ⟨_, rfl⟩
  have lR1 := R1.out.lt
  have dR1_0 := R1.out.cell 0
  have dR1_1 := R1.out.cell 1
  have dR1_2 := R1.out.cell 2
  have dR1_3 := R1.out.cell 3
  have dR1_4 := R1.out.cell 4
  have lN := N.out.lt
  have dN_0 := N.out.cell 0
  have dN_1 := N.out.cell 1
  have dN_2 := N.out.cell 2
  have dN_3 := N.out.cell 3
  have dN_4 := N.out.cell 4
  have lR2 := R2.out.lt
  have dR2_0 := R2.out.cell 0
  have dR2_1 := R2.out.cell 1
  have dR2_2 := R2.out.cell 2
  have dR2_3 := R2.out.cell 3
  have dR2_4 := R2.out.cell 4
  have lWt := Wt.out.lt
  have dWt_0 := Wt.out.cell 0
  have dWt_1 := Wt.out.cell 1
  have dWt_2 := Wt.out.cell 2
  have dWt_3 := Wt.out.cell 3
  have dWt_4 := Wt.out.cell 4
  simp at dR1_0 dR1_1 dR1_2 dR1_3 dR1_4 dN_0 dN_1 dN_2 dN_3 dN_4 dR2_0 dR2_1 dR2_2 dR2_3 dR2_4 dWt_0 dWt_1 dWt_2 dWt_3 dWt_4
  have R3 := Lib.hid (show Blk w122 w121.heap.size 31 #[.int .u64 0, .int .i64 0, .int .u32 0, .int .u32 0, .int .u32 0] by rw [hw122]; exact Blk.new _ _ _)
  replace M := Lib.hid (show Blk w122 _ _ _ by rw [hw122]; exact M.out.alloc _)
  replace N := Lib.hid (show Blk w122 _ _ _ by rw [hw122]; exact N.out.alloc _)
  replace L := Lib.hid (show Blk w122 _ _ _ by rw [hw122]; exact L.out.alloc _)
  replace R1 := Lib.hid (show Blk w122 _ _ _ by rw [hw122]; exact R1.out.alloc _)
  replace R2 := Lib.hid (show Blk w122 _ _ _ by rw [hw122]; exact R2.out.alloc _)
  replace Wt := Lib.hid (show Blk w122 _ _ _ by rw [hw122]; exact Wt.out.alloc _)
  replace HB := Lib.hid (show Below w.heap.size w w122 by rw [hw122]; exact HB.out.alloc HB.out.size _)
  have cR1_0 := R1.out.cell 0
  have cR1_1 := R1.out.cell 1
  have cR1_2 := R1.out.cell 2
  have cR1_3 := R1.out.cell 3
  have cR1_4 := R1.out.cell 4
  have cN_0 := N.out.cell 0
  have cN_1 := N.out.cell 1
  have cN_2 := N.out.cell 2
  have cN_3 := N.out.cell 3
  have cN_4 := N.out.cell 4
  have cR2_0 := R2.out.cell 0
  have cR2_1 := R2.out.cell 1
  have cR2_2 := R2.out.cell 2
  have cR2_3 := R2.out.cell 3
  have cR2_4 := R2.out.cell 4
  have cWt_0 := Wt.out.cell 0
  have cWt_1 := Wt.out.cell 1
  have cWt_2 := Wt.out.cell 2
  have cWt_3 := Wt.out.cell 3
  have cWt_4 := Wt.out.cell 4
  rw [hw122] at cR1_0 cR1_1 cR1_2 cR1_3 cR1_4 cN_0 cN_1 cN_2 cN_3 cN_4 cR2_0 cR2_1 cR2_2 cR2_3 cR2_4 cWt_0 cWt_1 cWt_2 cWt_3 cWt_4
  simp at cR1_0 cR1_1 cR1_2 cR1_3 cR1_4 cN_0 cN_1 cN_2 cN_3 cN_4 cR2_0 cR2_1 cR2_2 cR2_3 cR2_4 cWt_0 cWt_1 cWt_2 cWt_3 cWt_4
  go_wp2_with fail
  go_ret
  exact ⟨rfl, by rw [← hw122]; exact HB.out⟩
set_option maxRecDepth 100000 in
set_option maxHeartbeats 12800000 in
theorem mnewer_d11 (tx : Nat) (z : Int) (rt fr ps ra la : Nat) (wh at_ : Int) (d : Nat) (w : World) (ty : Nat) (hty : (ty : Int) = ((tx : Int) + 1) % 18446744073709551616) (hm : mayM tx 128 rt fr ps = true) (hn : mayM ty 128 ra la ps = true) (hd0 : d ≠ 0) (hdl : d < 4294967296) (hpl : tx % 2 = 1) (hwv : wh % 2 = 1) :
    Calls Try.prog 6 #[.agg #[.int .u64 tx, .int .i64 z, .int .u32 rt, .int .u32 fr, .int .u32 ps], .int .u32 ra, .int .u32 la, .int .i64 wh, .int .i64 at_, .int .u32 d] w fun e w' => e = .returned (.bool true) ∧ Below w.heap.size w w' := by
  obtain ⟨b, hb⟩ : ∃ b, b = bodyM 128 rt fr ps := ⟨_, rfl⟩
  obtain ⟨sl, hsl⟩ : ∃ sl, sl = tx % 2 := ⟨_, rfl⟩
  obtain ⟨c, hc⟩ : ∃ c, c = bodyM 128 ra la ps := ⟨_, rfl⟩
  obtain ⟨so, hso⟩ : ∃ so, so = ty % 2 := ⟨_, rfl⟩
  have HP1 : ∀ w : World, Calls Try.prog 10 #[.agg #[.int .u64 tx, .int .i64 128, .int .u32 rt, .int .u32 fr, .int .u32 ps]] w fun e w' => e = .returned (.tuple #[.agg #[.int .i64 1, .int .i64 0, .int .u32 sl, .int .u32 0, .int .u64 tx, .string b], .int .i64 0]) ∧ Below w.heap.size w w' := fun w => mpage_yes tx 128 rt fr ps sl b w hm hb hsl
  have HP2 : ∀ w : World, Calls Try.prog 10 #[.agg #[.int .u64 ty, .int .i64 128, .int .u32 ra, .int .u32 la, .int .u32 ps]] w fun e w' => e = .returned (.tuple #[.agg #[.int .i64 1, .int .i64 0, .int .u32 so, .int .u32 0, .int .u64 ty, .string c], .int .i64 0]) ∧ Below w.heap.size w w' := fun w => mpage_yes ty 128 ra la ps so c w hn hc hso
  have hmg := (mayM_good hm).1
  have htyx : ty = tx + 1 := by omega
  have hno : ty % 2 = 0 := by omega
  obtain ⟨Bm, hBm⟩ : ∃ B, B = metaB tx 128 rt fr ps := ⟨_, rfl⟩
  obtain ⟨Bn, hBn⟩ : ∃ B, B = metaB ty 128 ra la ps := ⟨_, rfl⟩
  have hd1 : ((d : Int) == 0) = false := by simpa using hd0
  obtain ⟨q, hq⟩ : ∃ q : Nat, (q : Int) = 4 + at_ % ((128 - 7 : Nat) : Int) := ⟨(4 + at_ % ((128 - 7 : Nat) : Int)).toNat, by have := Int.emod_nonneg at_ (show ((128 - 7 : Nat) : Int) ≠ 0 by decide); omega⟩
  have hq2 : 4 ≤ q ∧ q + 4 ≤ 128 := by have h1 := Int.emod_nonneg at_ (show ((128 - 7 : Nat) : Int) ≠ 0 by decide); have h2 := Int.emod_lt_of_pos at_ (show (0 : Int) < ((128 - 7 : Nat) : Int) by decide); omega
  have sBm : Bm.size = 128 := by rw [hBm]; exact metaB_size tx 128 rt fr ps (by decide)
  have sBn : Bn.size = 128 := by rw [hBn]; exact metaB_size ty 128 ra la ps (by decide)
  obtain ⟨Tm, hTm⟩ : ∃ T, T = turnB Bm q d := ⟨_, rfl⟩
  obtain ⟨Tn, hTn⟩ : ∃ T, T = turnB Bn q d := ⟨_, rfl⟩
  have sTm : Tm.size = 128 := by rw [hTm, turnB_size]; exact sBm
  have sTn : Tn.size = 128 := by rw [hTn, turnB_size]; exact sBn
  have HTm := fun w => turned_any Bm at_ d q Tm w (by omega) (by omega) hdl (by rw [sBm]; exact hq) hTm
  have HTn := fun w => turned_any Bn at_ d q Tn w (by omega) (by omega) hdl (by rw [sBn]; exact hq) hTn
  have okm : blockOk 128 1 Bm = true := by rw [hBm, ← hpl]; exact (metaB_parts tx 128 rt fr ps hm).1
  have okn : blockOk 128 0 Bn = true := by rw [hBn, ← hno]; exact (metaB_parts ty 128 ra la ps hn).1
  have badm : ∀ k, blockOk 128 k Tm = false := fun k => by rw [hTm]; exact turn_bad 128 1 k Bm q d okm hdl hd0 hq2.1 (by omega)
  have badn : ∀ k, blockOk 128 k Tn = false := fun k => by rw [hTn]; exact turn_bad 128 0 k Bn q d okn hdl hd0 hq2.1 (by omega)
  have hg : goodSize ((128 : Nat) : Int) = true := by decide
  obtain ⟨i1, i2, i3⟩ := blk_two 128 Bn Bm sBn sBm
  have HN1 : ∀ w : World, Calls Try.prog 15 #[.int .i64 128, .string (Bn ++ Bm)] w fun e w' => e = .returned (.tuple #[.agg #[.int .u64 ty, .int .i64 128, .int .u32 ra, .int .u32 la, .int .u32 ps], .int .i64 0]) ∧ Below w.heap.size w w' := fun w => mnew_ba 128 (Bn ++ Bm) ty 128 ra la ps tx 128 rt fr ps w hg (metaAt_block 128 0 (Bn ++ Bm) ty ra la ps hn hno.symm (by rw [i3]; decide) (by rw [i1, hBn])) (metaAt_block 128 1 (Bn ++ Bm) tx rt fr ps hm hpl.symm (by rw [i3]; decide) (by rw [i2, hBm])) (by rw [i3]; decide) (by omega)
  obtain ⟨j1, j2, j3⟩ := blk_two 128 Bn Tm sBn sTm
  have HN2 : ∀ w : World, Calls Try.prog 15 #[.int .i64 128, .string (Bn ++ Tm)] w fun e w' => e = .returned (.tuple #[.agg #[.int .u64 ty, .int .i64 128, .int .u32 ra, .int .u32 la, .int .u32 ps], .int .i64 0]) ∧ Below w.heap.size w w' := fun w => mnew_a 128 (Bn ++ Tm) ty 128 ra la ps 0 0 0 0 0 w hg (metaAt_block 128 0 (Bn ++ Tm) ty ra la ps hn hno.symm (by rw [j3]; decide) (by rw [j1, hBn])) (metaAt_bad 128 1 (Bn ++ Tm) (by rw [j2]; exact badm 1)) (by rw [j3]; decide)
  obtain ⟨k1, k2, k3⟩ := blk_two 128 Tn Tm sTn sTm
  have HN3 : ∀ w : World, Calls Try.prog 15 #[.int .i64 128, .string (Tn ++ Tm)] w fun e w' => e = .returned (.tuple #[.agg #[.int .u64 0, .int .i64 0, .int .u32 0, .int .u32 0, .int .u32 0], .int .i64 5]) ∧ Below w.heap.size w w' := fun w => mnew_none 128 (Tn ++ Tm) 0 0 0 0 0 0 0 0 0 0 w hg (metaAt_bad 128 0 (Tn ++ Tm) (by rw [k1]; exact badn 0)) (metaAt_bad 128 1 (Tn ++ Tm) (by rw [k2]; exact badm 1)) (by rw [k3]; decide)
  have cat0 : ¬ (9223372036854775807 < Bn.size + Bm.size) := by omega
  have cat1 : ¬ (9223372036854775807 < Bn.size + Tm.size) := by omega
  have cat2 : ¬ (9223372036854775807 < Tn.size + Tm.size) := by omega
  have HS1 : ∀ w : World, Calls Try.prog 17 #[.int .u64 tx] w fun e w' => e = .returned (.int .u32 1) ∧ w' = w := fun w => slot_is tx 1 w hpl.symm
  have HS2 : ∀ w : World, Calls Try.prog 17 #[.int .u64 ty] w fun e w' => e = .returned (.int .u32 0) ∧ w' = w := fun w => slot_is ty 0 w hno.symm
  have HK1 : ∀ w : World, Calls Try.prog 13 #[.agg #[.int .u64 tx, .int .i64 128, .int .u32 rt, .int .u32 fr, .int .u32 ps]] w fun e w' => e = .returned (.string Bm) ∧ Below w.heap.size w w' := fun w => mblock_is tx 128 rt fr ps Bm w hm hBm
  have HK2 : ∀ w : World, Calls Try.prog 13 #[.agg #[.int .u64 ty, .int .i64 128, .int .u32 ra, .int .u32 la, .int .u32 ps]] w fun e w' => e = .returned (.string Bn) ∧ Below w.heap.size w w' := fun w => mblock_is ty 128 ra la ps Bn w hn hBn
  have HPk : ∀ w : World, Calls Try.prog 23 #[.int .i64 wh, .int .i64 2] w fun e w' => e = .returned (.int .i64 1) ∧ w = w' := fun w => by
    have := pick_any wh 2 w (by decide) (by decide)
    rw [show wh % ((2 : Nat) : Int) = 1 from hwv] at this
    exact this
  have hen := fun w => meta_same ty 128 ra la ps w
  have hem := fun w => meta_same tx 128 rt fr ps w
  obtain ⟨hz2, hi2⟩ := zero_of_info infoS2
  have HI2 := Lib.hid hi2
  clear hm hn hb hsl hc hso hd0 hdl hpl hwv hmg htyx hno hBm hBn hq hq2 sBm sBn hTm hTn sTm sTn okm okn badm badn hg i1 i2 i3 j1 j2 j3 k1 k2 k3 hi2
  have hty1 : ((tx : Int) + 1) % 18446744073709551616 = (ty : Int) := by omega
  have hty2 : IntKind.u64.wrap ((tx : Int) + 1) = (ty : Int) := by rw [IntKind.wrap_u64]; omega
  clear hty
  obtain ⟨w0, hw0⟩ : ∃ w0, w0 = w.alloc (.cells #[.int .u64 tx, .int .i64 z, .int .u32 rt, .int .u32 fr, .int .u32 ps] 31) := ⟨_, rfl⟩
  have M := Lib.hid (show Blk w0 w.heap.size 31 #[.int .u64 tx, .int .i64 z, .int .u32 rt, .int .u32 fr, .int .u32 ps] by rw [hw0]; exact Blk.new _ _ _)
  have HB := Lib.hid (show Below w.heap.size w w0 by rw [hw0]; exact (Below.refl _ _).alloc (Nat.le_refl _) _)
  go_enter Try.func6, Try.ntmps6
  go_wp2_with fail
  rw [← hw0]
  clear hw0
  refine (lives5_any _).mono ?_
  rintro e w101 ⟨rfl, hb⟩
  replace HB := Lib.hid (HB.out.trans (hb.mono HB.out.size))
  replace M := Lib.hid (M.out.below hb M.out.lt)
  clear hb
  have cM_0 := M.out.cell 0
  have cM_1 := M.out.cell 1
  have cM_2 := M.out.cell 2
  have cM_3 := M.out.cell 3
  have cM_4 := M.out.cell 4
  simp at cM_0 cM_1 cM_2 cM_3 cM_4
  have fM1 := M.out.frozen 1
  obtain ⟨w102, hw102⟩ : ∃ x, x = w101.setCell ⟨w.heap.size, 1, none⟩ (.int .i64 128) := ⟨_, rfl⟩
  have lM := M.out.lt
  replace M := Lib.hid (show Blk w102 w.heap.size 31 #[.int .u64 tx, .int .i64 128, .int .u32 rt, .int .u32 fr, .int .u32 ps] by rw [hw102]; exact M.out.set_ 1 _)
  replace HB := Lib.hid (show Below w.heap.size w w102 by rw [hw102]; exact HB.out.setCell (Nat.le_refl _) _)
  have hsz : w102.heap.size = w101.heap.size := by rw [hw102]; simp [World.setCell]
  have uM_0 := M.out.cell 0
  have uM_1 := M.out.cell 1
  have uM_2 := M.out.cell 2
  have uM_3 := M.out.cell 3
  have uM_4 := M.out.cell 4
  rw [hw102] at uM_0 uM_1 uM_2 uM_3 uM_4
  simp at uM_0 uM_1 uM_2 uM_3 uM_4
  go_wp2_with fail
  rw [← hw102]
  clear hw102 fM1 lM cM_0 cM_1 cM_2 cM_3 cM_4 uM_0 uM_1 uM_2 uM_3 uM_4
  obtain ⟨w103, hw103⟩ : ∃ w103, w103 = w102.alloc (.cells #[.int .u64 ty, .int .i64 128, .int .u32 ra, .int .u32 la, .int .u32 ps] 31) := ⟨_, rfl⟩
  have N := Lib.hid (show Blk w103 w102.heap.size 31 #[.int .u64 ty, .int .i64 128, .int .u32 ra, .int .u32 la, .int .u32 ps] by rw [hw103]; exact Blk.new _ _ _)
  replace M := Lib.hid (show Blk w103 _ _ _ by rw [hw103]; exact M.out.alloc _)
  replace HB := Lib.hid (show Below w.heap.size w w103 by rw [hw103]; exact HB.out.alloc HB.out.size _)
  rw [← hw103]
  clear hw103
  rw [hsz] at N
  refine (HP1 _).mono ?_
  rintro e w104 ⟨rfl, hb⟩
  replace HB := Lib.hid (HB.out.trans (hb.mono HB.out.size))
  replace M := Lib.hid (M.out.below hb M.out.lt)
  replace N := Lib.hid (N.out.below hb N.out.lt)
  clear hb
  clear HP1
  obtain ⟨w105, hw105⟩ : ∃ w105, w105 = w104.alloc (.cells #[.int .i64 1, .int .i64 0, .int .u32 sl, .int .u32 0, .int .u64 tx, .string b] 26) := ⟨_, rfl⟩
  have lM := M.out.lt
  have dM_0 := M.out.cell 0
  have dM_1 := M.out.cell 1
  have dM_2 := M.out.cell 2
  have dM_3 := M.out.cell 3
  have dM_4 := M.out.cell 4
  have lN := N.out.lt
  have dN_0 := N.out.cell 0
  have dN_1 := N.out.cell 1
  have dN_2 := N.out.cell 2
  have dN_3 := N.out.cell 3
  have dN_4 := N.out.cell 4
  simp at dM_0 dM_1 dM_2 dM_3 dM_4 dN_0 dN_1 dN_2 dN_3 dN_4
  have P1 := Lib.hid (show Blk w105 w104.heap.size 26 #[.int .i64 1, .int .i64 0, .int .u32 sl, .int .u32 0, .int .u64 tx, .string b] by rw [hw105]; exact Blk.new _ _ _)
  replace M := Lib.hid (show Blk w105 _ _ _ by rw [hw105]; exact M.out.alloc _)
  replace N := Lib.hid (show Blk w105 _ _ _ by rw [hw105]; exact N.out.alloc _)
  replace HB := Lib.hid (show Below w.heap.size w w105 by rw [hw105]; exact HB.out.alloc HB.out.size _)
  have cM_0 := M.out.cell 0
  have cM_1 := M.out.cell 1
  have cM_2 := M.out.cell 2
  have cM_3 := M.out.cell 3
  have cM_4 := M.out.cell 4
  have cN_0 := N.out.cell 0
  have cN_1 := N.out.cell 1
  have cN_2 := N.out.cell 2
  have cN_3 := N.out.cell 3
  have cN_4 := N.out.cell 4
  rw [hw105] at cM_0 cM_1 cM_2 cM_3 cM_4 cN_0 cN_1 cN_2 cN_3 cN_4
  simp at cM_0 cM_1 cM_2 cM_3 cM_4 cN_0 cN_1 cN_2 cN_3 cN_4
  go_wp2_with fail
  rw [← hw105]
  clear hw105 cM_0 cM_1 cM_2 cM_3 cM_4 cN_0 cN_1 cN_2 cN_3 cN_4 dM_0 dM_1 dM_2 dM_3 dM_4 dN_0 dN_1 dN_2 dN_3 dN_4 lM lN
  refine (HP2 _).mono ?_
  rintro e w106 ⟨rfl, hb⟩
  replace HB := Lib.hid (HB.out.trans (hb.mono HB.out.size))
  replace M := Lib.hid (M.out.below hb M.out.lt)
  replace N := Lib.hid (N.out.below hb N.out.lt)
  replace P1 := Lib.hid (P1.out.below hb P1.out.lt)
  clear hb
  clear HP2
  obtain ⟨w107, hw107⟩ : ∃ w107, w107 = w106.alloc (.cells #[.int .i64 1, .int .i64 0, .int .u32 so, .int .u32 0, .int .u64 ty, .string c] 26) := ⟨_, rfl⟩
  have lM := M.out.lt
  have dM_0 := M.out.cell 0
  have dM_1 := M.out.cell 1
  have dM_2 := M.out.cell 2
  have dM_3 := M.out.cell 3
  have dM_4 := M.out.cell 4
  have lN := N.out.lt
  have dN_0 := N.out.cell 0
  have dN_1 := N.out.cell 1
  have dN_2 := N.out.cell 2
  have dN_3 := N.out.cell 3
  have dN_4 := N.out.cell 4
  simp at dM_0 dM_1 dM_2 dM_3 dM_4 dN_0 dN_1 dN_2 dN_3 dN_4
  have P2 := Lib.hid (show Blk w107 w106.heap.size 26 #[.int .i64 1, .int .i64 0, .int .u32 so, .int .u32 0, .int .u64 ty, .string c] by rw [hw107]; exact Blk.new _ _ _)
  replace M := Lib.hid (show Blk w107 _ _ _ by rw [hw107]; exact M.out.alloc _)
  replace N := Lib.hid (show Blk w107 _ _ _ by rw [hw107]; exact N.out.alloc _)
  replace P1 := Lib.hid (show Blk w107 _ _ _ by rw [hw107]; exact P1.out.alloc _)
  replace HB := Lib.hid (show Below w.heap.size w w107 by rw [hw107]; exact HB.out.alloc HB.out.size _)
  have cM_0 := M.out.cell 0
  have cM_1 := M.out.cell 1
  have cM_2 := M.out.cell 2
  have cM_3 := M.out.cell 3
  have cM_4 := M.out.cell 4
  have cN_0 := N.out.cell 0
  have cN_1 := N.out.cell 1
  have cN_2 := N.out.cell 2
  have cN_3 := N.out.cell 3
  have cN_4 := N.out.cell 4
  rw [hw107] at cM_0 cM_1 cM_2 cM_3 cM_4 cN_0 cN_1 cN_2 cN_3 cN_4
  simp at cM_0 cM_1 cM_2 cM_3 cM_4 cN_0 cN_1 cN_2 cN_3 cN_4
  have hsz2 : w107.heap.size = w106.heap.size + 1 := by rw [hw107]; simp
  go_wp2_with fail
  rw [← hw107]
  clear hw107 cM_0 cM_1 cM_2 cM_3 cM_4 cN_0 cN_1 cN_2 cN_3 cN_4 dM_0 dM_1 dM_2 dM_3 dM_4 dN_0 dN_1 dN_2 dN_3 dN_4 lM lN
  clear P1
  clear P2
  have hML := Lib.hid M.out.lt
  obtain ⟨w108, hw108⟩ : ∃ w108, w108 = w107.alloc (.cells #[.string ByteArray.empty, .string ByteArray.empty] 45) := ⟨_, rfl⟩
  have L := Lib.hid (show Blk w108 w107.heap.size 45 #[.string ByteArray.empty, .string ByteArray.empty] by rw [hw108]; exact Blk.new _ _ _)
  replace M := Lib.hid (show Blk w108 _ _ _ by rw [hw108]; exact M.out.alloc _)
  replace N := Lib.hid (show Blk w108 _ _ _ by rw [hw108]; exact N.out.alloc _)
  replace HB := Lib.hid (show Below w.heap.size w w108 by rw [hw108]; exact HB.out.alloc HB.out.size _)
  rw [← hw108]
  clear hw108
  rw [hsz2] at L hML
  have HLB := Lib.hid (show w.heap.size ≤ w106.heap.size + 1 from Nat.le_of_lt hML.out)
  replace M := Lib.hid M.out.drew
  replace N := Lib.hid N.out.drew
  replace L := Lib.hid L.out.drew
  replace HB := Lib.hid HB.out.drew
  refine wp_region_held_drew (S := fun w' => (w'.cell? ⟨w.heap.size, 0, none⟩ = some (.int .u64 tx) ∧ w'.cell? ⟨w.heap.size, 1, none⟩ = some (.int .i64 128) ∧ w'.cell? ⟨w.heap.size, 2, none⟩ = some (.int .u32 rt) ∧ w'.cell? ⟨w.heap.size, 3, none⟩ = some (.int .u32 fr) ∧ w'.cell? ⟨w.heap.size, 4, none⟩ = some (.int .u32 ps)) ∧ (w'.cell? ⟨w101.heap.size, 0, none⟩ = some (.int .u64 ty) ∧ w'.cell? ⟨w101.heap.size, 1, none⟩ = some (.int .i64 128) ∧ w'.cell? ⟨w101.heap.size, 2, none⟩ = some (.int .u32 ra) ∧ w'.cell? ⟨w101.heap.size, 3, none⟩ = some (.int .u32 la) ∧ w'.cell? ⟨w101.heap.size, 4, none⟩ = some (.int .u32 ps))) (by kernel_rfl) ⟨meta_cells M.out, meta_cells N.out⟩ (fun hHeld => ?_)
  have NEM : w.heap.size ≠ (w106.heap.size + 1) := by intro h; have h1 := M.out; have h2 := L.out; rw [h] at h1; exact absurd (h1.symm.trans h2) (by simp)
  have NEN : w101.heap.size ≠ (w106.heap.size + 1) := by intro h; have h1 := N.out; have h2 := L.out; rw [h] at h1; exact absurd (h1.symm.trans h2) (by simp)
  refine wpAnyH_takeL (i := 0) (v := ?_) rfl (by kernel_rfl) (by kernel_rfl) (by kernel_rfl) (fun _ _ _ h => h) (Or.inl ⟨by rfl, ?_⟩) (by first | trivial | assumption) ?_
  rotate_left
  · intro wz hSz; (try dsimp only at hSz); go_simp; (try with_reducible rfl)
  try simp only [Act.put, List.setIfInBounds_toArray, List.set_cons_zero, List.set_cons_succ]
  refine wpAnyH_takeL (i := 1) (v := ?_) rfl (by kernel_rfl) (by kernel_rfl) (by kernel_rfl) (fun _ _ _ h => h) (Or.inl ⟨by rfl, ?_⟩) (by first | trivial | assumption) ?_
  rotate_left
  · intro wz hSz; (try dsimp only at hSz); go_simp; (try with_reducible rfl)
  try simp only [Act.put, List.setIfInBounds_toArray, List.set_cons_zero, List.set_cons_succ]
  refine wpAnyH_takeL (i := 3) (v := ?_) rfl (by kernel_rfl) (by kernel_rfl) (by kernel_rfl) (fun _ _ _ h => h) (Or.inl ⟨by rfl, ?_⟩) (by first | trivial | assumption) ?_
  rotate_left
  · intro wz hSz; (try dsimp only at hSz); go_simp; (try with_reducible rfl)
  try simp only [Act.put, List.setIfInBounds_toArray, List.set_cons_zero, List.set_cons_succ]
  refine wpAnyH_takeL (i := 4) (v := ?_) rfl (by kernel_rfl) (by kernel_rfl) (by kernel_rfl) (fun _ _ _ h => h) (Or.inl ⟨by rfl, ?_⟩) (by first | trivial | assumption) ?_
  rotate_left
  · intro wz hSz; (try dsimp only at hSz); go_simp; (try with_reducible rfl)
  try simp only [Act.put, List.setIfInBounds_toArray, List.set_cons_zero, List.set_cons_succ]
  refine wpAnyH_takeL (i := 6) (v := ?_) rfl (by kernel_rfl) (by kernel_rfl) (by kernel_rfl) (fun _ _ _ h => h) (Or.inl ⟨by rfl, ?_⟩) (by first | trivial | assumption) ?_
  rotate_left
  · intro wz hSz; (try dsimp only at hSz); go_simp; (try with_reducible rfl)
  try simp only [Act.put, List.setIfInBounds_toArray, List.set_cons_zero, List.set_cons_succ]
  refine wpAnyH_takeL (i := 8) (v := ?_) rfl (by kernel_rfl) (by kernel_rfl) (by kernel_rfl) (fun _ _ _ h => h) (Or.inl ⟨by rfl, ?_⟩) (by first | trivial | assumption) ?_
  rotate_left
  · intro wz hSz; (try dsimp only at hSz); go_simp; (try with_reducible rfl)
  try simp only [Act.put, List.setIfInBounds_toArray, List.set_cons_zero, List.set_cons_succ]
  refine wpAnyH_ready (rs := [2]) (by kernel_rfl) (by simp) ?_
  refine AllReadyH.consL rfl (fun K hK => ?_) AllReadyH.nil
  go_simp
  refine (HS1 _).mono ?_
  rintro e wq ⟨rfl, rfl⟩
  refine hK.out _ _ (⟨meta_cells M.out, meta_cells N.out⟩) (fun hHeld => ?_)
  clear hK K
  try simp only [Act.put, List.setIfInBounds_toArray, List.set_cons_zero, List.set_cons_succ]
  refine wpAnyH_ready (rs := [5]) (by kernel_rfl) (by simp) ?_
  refine AllReadyH.consL rfl (fun K hK => ?_) AllReadyH.nil
  go_simp
  refine (HS2 _).mono ?_
  rintro e wq ⟨rfl, rfl⟩
  refine hK.out _ _ (⟨meta_cells M.out, meta_cells N.out⟩) (fun hHeld => ?_)
  clear hK K
  try simp only [Act.put, List.setIfInBounds_toArray, List.set_cons_zero, List.set_cons_succ]
  refine wpAnyH_ready (rs := [7]) (by kernel_rfl) (by simp) ?_
  refine AllReadyH.consL rfl (fun K hK => ?_) AllReadyH.nil
  go_simp
  refine (HK1 _).mono ?_
  rintro e wq ⟨rfl, hb⟩
  replace M := Lib.hid (M.out.below hb M.out.lt)
  replace N := Lib.hid (N.out.below hb N.out.lt)
  replace L := Lib.hid (L.out.below hb L.out.lt)
  replace HB := Lib.hid (HB.out.trans (hb.mono HB.out.size))
  clear hb
  refine hK.out _ _ (⟨meta_cells M.out, meta_cells N.out⟩) (fun hHeld => ?_)
  clear hK K
  try simp only [Act.put, List.setIfInBounds_toArray, List.set_cons_zero, List.set_cons_succ]
  refine wpAnyH_takeL (i := 10) (v := ?_) rfl (by kernel_rfl) (by kernel_rfl) (by kernel_rfl) (fun _ _ _ h => h) (Or.inl ⟨by rfl, ?_⟩) (by first | trivial | assumption) ?_
  rotate_left
  · intro wz hSz; (try dsimp only at hSz); go_simp; (try with_reducible rfl)
  try simp only [Act.put, List.setIfInBounds_toArray, List.set_cons_zero, List.set_cons_succ]
  refine wpAnyH_ready (rs := [9]) (by kernel_rfl) (by simp) ?_
  refine AllReadyH.consL rfl (fun K hK => ?_) AllReadyH.nil
  go_simp
  refine (HK2 _).mono ?_
  rintro e wb ⟨rfl, hb⟩
  replace M := Lib.hid (M.out.below hb M.out.lt)
  replace N := Lib.hid (N.out.below hb N.out.lt)
  replace L := Lib.hid (L.out.below hb L.out.lt)
  replace HB := Lib.hid (HB.out.trans (hb.mono HB.out.size))
  clear hb
  refine hK.out _ _ (⟨meta_cells M.out, meta_cells N.out⟩) (fun hHeld => ?_)
  clear hK K
  try simp only [Act.put, List.setIfInBounds_toArray, List.set_cons_zero, List.set_cons_succ]
  have l0 := L.out.cell 0
  have l1 := L.out.cell 1
  have f0 := L.out.frozen 0
  have f1 := L.out.frozen 1
  simp at l0 l1
  have hne := Lib.hid (show True from trivial)
  refine wpAnyH_ready (rs := [11]) (by kernel_rfl) (by simp) ?_
  refine AllReadyH.consL rfl (fun K hK => ?_) AllReadyH.nil
  go_simp
  refine hK.out _ _ (⟨meta_cells (M.out.far (p := ⟨(w106.heap.size + 1), 1, none⟩) NEM _), meta_cells (N.out.far (p := ⟨(w106.heap.size + 1), 1, none⟩) NEN _)⟩) (fun hHeld => ?_)
  clear hK K
  try simp only [Act.put, List.setIfInBounds_toArray, List.set_cons_zero, List.set_cons_succ]
  refine wpAnyH_takeL (i := 12) (v := ?_) rfl (by kernel_rfl) (by kernel_rfl) (by kernel_rfl) (fun _ _ _ h => h) (Or.inl ⟨by rfl, ?_⟩) (by first | trivial | assumption) ?_
  rotate_left
  · intro wz hSz; (try dsimp only at hSz); go_simp; (try with_reducible rfl)
  try simp only [Act.put, List.setIfInBounds_toArray, List.set_cons_zero, List.set_cons_succ]
  refine wpAnyH_ready (rs := [13]) (by kernel_rfl) (by simp) ?_
  refine AllReadyH.consL rfl (fun K hK => ?_) AllReadyH.nil
  go_simp
  refine hK.out _ _ (⟨meta_cells ((M.out.far (p := ⟨(w106.heap.size + 1), 1, none⟩) NEM _).far (p := ⟨(w106.heap.size + 1), 0, none⟩) NEM _), meta_cells ((N.out.far (p := ⟨(w106.heap.size + 1), 1, none⟩) NEN _).far (p := ⟨(w106.heap.size + 1), 0, none⟩) NEN _)⟩) (fun hHeld => ?_)
  clear hK K
  try simp only [Act.put, List.setIfInBounds_toArray, List.set_cons_zero, List.set_cons_succ]
  refine wpAnyH_done (by kernel_rfl) ?_ _
  clear l0 l1 f0 f1 hne HK1 HK2
  obtain ⟨w109, hw109⟩ : ∃ x, x = wb.setCell ⟨(w106.heap.size + 1), 1, none⟩ (.string Bm) := ⟨_, rfl⟩
  rw [← hw109]
  replace L := Lib.hid (show Blk w109 (w106.heap.size + 1) _ #[.string ByteArray.empty, .string Bm] by rw [hw109]; exact L.out.set_ 1 _)
  replace M := Lib.hid (show Blk w109 _ _ _ by rw [hw109]; exact M.out.far NEM _)
  replace N := Lib.hid (show Blk w109 _ _ _ by rw [hw109]; exact N.out.far NEN _)
  replace HB := Lib.hid (show Below w.heap.size w w109 by rw [hw109]; exact HB.out.setCell HLB.out _)
  clear hw109
  obtain ⟨w110, hw110⟩ : ∃ x, x = w109.setCell ⟨(w106.heap.size + 1), 0, none⟩ (.string Bn) := ⟨_, rfl⟩
  rw [← hw110]
  replace L := Lib.hid (show Blk w110 (w106.heap.size + 1) _ #[.string Bn, .string Bm] by rw [hw110]; exact L.out.set_ 0 _)
  replace M := Lib.hid (show Blk w110 _ _ _ by rw [hw110]; exact M.out.far NEM _)
  replace N := Lib.hid (show Blk w110 _ _ _ by rw [hw110]; exact N.out.far NEN _)
  replace HB := Lib.hid (show Below w.heap.size w w110 by rw [hw110]; exact HB.out.setCell HLB.out _)
  clear hw110
  clear NEM NEN hHeld
  have cL_0 := L.out.cell 0
  have cL_1 := L.out.cell 1
  simp at cL_0 cL_1
  go_wp2_with fail
  clear cL_0 cL_1
  refine (HN1 _).mono ?_
  rintro e w111 ⟨rfl, hb⟩
  replace HB := Lib.hid (HB.out.trans (hb.mono HB.out.size))
  replace M := Lib.hid (M.out.below hb M.out.lt)
  replace N := Lib.hid (N.out.below hb N.out.lt)
  replace L := Lib.hid (L.out.below hb L.out.lt)
  clear hb
  clear HN1
  obtain ⟨w112, hw112⟩ : ∃ w112, w112 = w111.alloc (.cells #[.int .u64 ty, .int .i64 128, .int .u32 ra, .int .u32 la, .int .u32 ps] 31) := ⟨_, rfl⟩
  have lL := L.out.lt
  have dL_0 := L.out.cell 0
  have dL_1 := L.out.cell 1
  simp at dL_0 dL_1
  have R1 := Lib.hid (show Blk w112 w111.heap.size 31 #[.int .u64 ty, .int .i64 128, .int .u32 ra, .int .u32 la, .int .u32 ps] by rw [hw112]; exact Blk.new _ _ _)
  replace M := Lib.hid (show Blk w112 _ _ _ by rw [hw112]; exact M.out.alloc _)
  replace N := Lib.hid (show Blk w112 _ _ _ by rw [hw112]; exact N.out.alloc _)
  replace L := Lib.hid (show Blk w112 _ _ _ by rw [hw112]; exact L.out.alloc _)
  replace HB := Lib.hid (show Below w.heap.size w w112 by rw [hw112]; exact HB.out.alloc HB.out.size _)
  have cL_0 := L.out.cell 0
  have cL_1 := L.out.cell 1
  rw [hw112] at cL_0 cL_1
  simp at cL_0 cL_1
  go_wp2_with fail
  rw [← hw112]
  clear hw112 cL_0 cL_1 dL_0 dL_1 lL
  refine (HPk _).mono ?_
  rintro e wz ⟨rfl, rfl⟩
  have cL_0 := L.out.cell 0
  have cL_1 := L.out.cell 1
  simp at cL_0 cL_1
  go_wp2_with fail
  clear HPk cL_0 cL_1
  refine (HTm _).mono ?_
  rintro e w113 ⟨rfl, hb⟩
  replace HB := Lib.hid (HB.out.trans (hb.mono HB.out.size))
  replace M := Lib.hid (M.out.below hb M.out.lt)
  replace N := Lib.hid (N.out.below hb N.out.lt)
  replace L := Lib.hid (L.out.below hb L.out.lt)
  replace R1 := Lib.hid (R1.out.below hb R1.out.lt)
  clear hb
  have fL := L.out.frozen 1
  have cL_0 := L.out.cell 0
  have cL_1 := L.out.cell 1
  simp at cL_0 cL_1
  obtain ⟨w114, hw114⟩ : ∃ x, x = w113.setCell ⟨(w106.heap.size + 1), 1, none⟩ (.string Tm) := ⟨_, rfl⟩
  have neM : (w.heap.size) ≠ (w106.heap.size + 1) := by intro h; have h1 := M.out; have h2 := L.out; rw [h] at h1; exact absurd (h1.symm.trans h2) (by simp)
  have neN : (w101.heap.size) ≠ (w106.heap.size + 1) := by intro h; have h1 := N.out; have h2 := L.out; rw [h] at h1; exact absurd (h1.symm.trans h2) (by simp)
  have neR1 : (w111.heap.size) ≠ (w106.heap.size + 1) := by intro h; have h1 := R1.out; have h2 := L.out; rw [h] at h1; exact absurd (h1.symm.trans h2) (by simp)
  replace L := Lib.hid (show Blk w114 (w106.heap.size + 1) _ #[.string Bn, .string Tm] by rw [hw114]; exact L.out.set_ 1 _)
  replace M := Lib.hid (show Blk w114 _ _ _ by rw [hw114]; exact M.out.far neM _)
  clear neM
  replace N := Lib.hid (show Blk w114 _ _ _ by rw [hw114]; exact N.out.far neN _)
  clear neN
  replace R1 := Lib.hid (show Blk w114 _ _ _ by rw [hw114]; exact R1.out.far neR1 _)
  clear neR1
  replace HB := Lib.hid (show Below w.heap.size w w114 by rw [hw114]; exact HB.out.setCell HLB.out _)
  have cL_0 := L.out.cell 0
  have cL_1 := L.out.cell 1
  rw [hw114] at cL_0 cL_1
  simp at cL_0 cL_1
  go_wp2_with fail
  rw [← hw114]
  clear hw114 cL_0 cL_1
  clear fL
  refine (HN2 _).mono ?_
  rintro e w115 ⟨rfl, hb⟩
  replace HB := Lib.hid (HB.out.trans (hb.mono HB.out.size))
  replace M := Lib.hid (M.out.below hb M.out.lt)
  replace N := Lib.hid (N.out.below hb N.out.lt)
  replace L := Lib.hid (L.out.below hb L.out.lt)
  replace R1 := Lib.hid (R1.out.below hb R1.out.lt)
  clear hb
  clear HN2
  obtain ⟨w116, hw116⟩ : ∃ w116, w116 = w115.alloc (.cells #[.int .u64 ty, .int .i64 128, .int .u32 ra, .int .u32 la, .int .u32 ps] 31) := ⟨_, rfl⟩
  have lM := M.out.lt
  have dM_0 := M.out.cell 0
  have dM_1 := M.out.cell 1
  have dM_2 := M.out.cell 2
  have dM_3 := M.out.cell 3
  have dM_4 := M.out.cell 4
  have lN := N.out.lt
  have dN_0 := N.out.cell 0
  have dN_1 := N.out.cell 1
  have dN_2 := N.out.cell 2
  have dN_3 := N.out.cell 3
  have dN_4 := N.out.cell 4
  simp at dM_0 dM_1 dM_2 dM_3 dM_4 dN_0 dN_1 dN_2 dN_3 dN_4
  have R2 := Lib.hid (show Blk w116 w115.heap.size 31 #[.int .u64 ty, .int .i64 128, .int .u32 ra, .int .u32 la, .int .u32 ps] by rw [hw116]; exact Blk.new _ _ _)
  replace M := Lib.hid (show Blk w116 _ _ _ by rw [hw116]; exact M.out.alloc _)
  replace N := Lib.hid (show Blk w116 _ _ _ by rw [hw116]; exact N.out.alloc _)
  replace L := Lib.hid (show Blk w116 _ _ _ by rw [hw116]; exact L.out.alloc _)
  replace R1 := Lib.hid (show Blk w116 _ _ _ by rw [hw116]; exact R1.out.alloc _)
  replace HB := Lib.hid (show Below w.heap.size w w116 by rw [hw116]; exact HB.out.alloc HB.out.size _)
  have hsz3 : w116.heap.size = w115.heap.size + 1 := by rw [hw116]; simp
  have cM_0 := M.out.cell 0
  have cM_1 := M.out.cell 1
  have cM_2 := M.out.cell 2
  have cM_3 := M.out.cell 3
  have cM_4 := M.out.cell 4
  have cN_0 := N.out.cell 0
  have cN_1 := N.out.cell 1
  have cN_2 := N.out.cell 2
  have cN_3 := N.out.cell 3
  have cN_4 := N.out.cell 4
  rw [hw116] at cM_0 cM_1 cM_2 cM_3 cM_4 cN_0 cN_1 cN_2 cN_3 cN_4
  simp at cM_0 cM_1 cM_2 cM_3 cM_4 cN_0 cN_1 cN_2 cN_3 cN_4
  go_wp2_with fail
  rw [← hw116]
  clear hw116 cM_0 cM_1 cM_2 cM_3 cM_4 cN_0 cN_1 cN_2 cN_3 cN_4 dM_0 dM_1 dM_2 dM_3 dM_4 dN_0 dN_1 dN_2 dN_3 dN_4 lM lN
  have hMW := Lib.hid M.out.lt
  have hNW := Lib.hid N.out.lt
  have hLW := Lib.hid L.out.lt
  have hR1W := Lib.hid R1.out.lt
  have hR2W := Lib.hid R2.out.lt
  have hWB := Lib.hid (Nat.le_of_lt hMW.out)
  obtain ⟨w117, hw117⟩ : ∃ w117, w117 = w116.alloc (.cells #[.int .u64 tx, .int .i64 128, .int .u32 rt, .int .u32 fr, .int .u32 ps] 31) := ⟨_, rfl⟩
  have Wt := Lib.hid (show Blk w117 w116.heap.size 31 #[.int .u64 tx, .int .i64 128, .int .u32 rt, .int .u32 fr, .int .u32 ps] by rw [hw117]; exact Blk.new _ _ _)
  replace M := Lib.hid (show Blk w117 _ _ _ by rw [hw117]; exact M.out.alloc _)
  replace N := Lib.hid (show Blk w117 _ _ _ by rw [hw117]; exact N.out.alloc _)
  replace L := Lib.hid (show Blk w117 _ _ _ by rw [hw117]; exact L.out.alloc _)
  replace R1 := Lib.hid (show Blk w117 _ _ _ by rw [hw117]; exact R1.out.alloc _)
  replace R2 := Lib.hid (show Blk w117 _ _ _ by rw [hw117]; exact R2.out.alloc _)
  replace HB := Lib.hid (show Below w.heap.size w w117 by rw [hw117]; exact HB.out.alloc HB.out.size _)
  rw [← hw117]
  clear hw117
  rw [hsz3] at Wt hWB hMW hNW hLW hR1W hR2W
  refine (HS2 _).mono ?_
  rintro e w118 ⟨rfl, rfl⟩
  have cN_0 := N.out.cell 0
  have cN_1 := N.out.cell 1
  have cN_2 := N.out.cell 2
  have cN_3 := N.out.cell 3
  have cN_4 := N.out.cell 4
  have cWt_0 := Wt.out.cell 0
  have cWt_1 := Wt.out.cell 1
  have cWt_2 := Wt.out.cell 2
  have cWt_3 := Wt.out.cell 3
  have cWt_4 := Wt.out.cell 4
  have cL_0 := L.out.cell 0
  have cL_1 := L.out.cell 1
  simp at cN_0 cN_1 cN_2 cN_3 cN_4 cWt_0 cWt_1 cWt_2 cWt_3 cWt_4 cL_0 cL_1
  have fW0 := Wt.out.frozen 0
  have fW1 := Wt.out.frozen 1
  have fW2 := Wt.out.frozen 2
  have fW3 := Wt.out.frozen 3
  have fW4 := Wt.out.frozen 4
  obtain ⟨w119, hw119⟩ : ∃ x, x = ((((w118.setCell ⟨(w115.heap.size + 1), 0, none⟩ (.int .u64 ty)).setCell ⟨(w115.heap.size + 1), 1, none⟩ (.int .i64 128)).setCell ⟨(w115.heap.size + 1), 2, none⟩ (.int .u32 ra)).setCell ⟨(w115.heap.size + 1), 3, none⟩ (.int .u32 la)).setCell ⟨(w115.heap.size + 1), 4, none⟩ (.int .u32 ps) := ⟨_, rfl⟩
  have neM : w.heap.size ≠ (w115.heap.size + 1) := Nat.ne_of_lt hMW.out
  have neN : w101.heap.size ≠ (w115.heap.size + 1) := Nat.ne_of_lt hNW.out
  have neL : (w106.heap.size + 1) ≠ (w115.heap.size + 1) := Nat.ne_of_lt hLW.out
  have neR1 : w111.heap.size ≠ (w115.heap.size + 1) := Nat.ne_of_lt hR1W.out
  have neR2 : w115.heap.size ≠ (w115.heap.size + 1) := Nat.ne_of_lt hR2W.out
  replace M := Lib.hid (show Blk w119 _ _ _ by rw [hw119]; exact five_far M.out neM)
  clear neM
  replace N := Lib.hid (show Blk w119 _ _ _ by rw [hw119]; exact five_far N.out neN)
  clear neN
  replace L := Lib.hid (show Blk w119 _ _ _ by rw [hw119]; exact five_far L.out neL)
  clear neL
  replace R1 := Lib.hid (show Blk w119 _ _ _ by rw [hw119]; exact five_far R1.out neR1)
  clear neR1
  replace R2 := Lib.hid (show Blk w119 _ _ _ by rw [hw119]; exact five_far R2.out neR2)
  clear neR2
  replace Wt := Lib.hid (show Blk w119 (w115.heap.size + 1) _ #[.int .u64 ty, .int .i64 128, .int .u32 ra, .int .u32 la, .int .u32 ps] by rw [hw119]; exact five_at Wt.out)
  replace HB := Lib.hid (show Below w.heap.size w w119 by rw [hw119]; exact five_below HB.out hWB.out)
  have vL_0 := L.out.cell 0
  have vL_1 := L.out.cell 1
  rw [hw119] at vL_0 vL_1
  simp at vL_0 vL_1
  go_wp2_with fail
  rw [← hw119]
  clear hw119 fW0 fW1 fW2 fW3 fW4 cN_0 cN_1 cN_2 cN_3 cN_4 cWt_0 cWt_1 cWt_2 cWt_3 cWt_4 cL_0 cL_1 vL_0 vL_1
  refine (HTn _).mono ?_
  rintro e w120 ⟨rfl, hb⟩
  replace HB := Lib.hid (HB.out.trans (hb.mono HB.out.size))
  replace M := Lib.hid (M.out.below hb M.out.lt)
  replace N := Lib.hid (N.out.below hb N.out.lt)
  replace L := Lib.hid (L.out.below hb L.out.lt)
  replace R1 := Lib.hid (R1.out.below hb R1.out.lt)
  replace R2 := Lib.hid (R2.out.below hb R2.out.lt)
  replace Wt := Lib.hid (Wt.out.below hb Wt.out.lt)
  clear hb
  have fL := L.out.frozen 0
  have cL_0 := L.out.cell 0
  have cL_1 := L.out.cell 1
  simp at cL_0 cL_1
  obtain ⟨w121, hw121⟩ : ∃ x, x = w120.setCell ⟨(w106.heap.size + 1), 0, none⟩ (.string Tn) := ⟨_, rfl⟩
  have neM : (w.heap.size) ≠ (w106.heap.size + 1) := by intro h; have h1 := M.out; have h2 := L.out; rw [h] at h1; exact absurd (h1.symm.trans h2) (by simp)
  have neN : (w101.heap.size) ≠ (w106.heap.size + 1) := by intro h; have h1 := N.out; have h2 := L.out; rw [h] at h1; exact absurd (h1.symm.trans h2) (by simp)
  have neR1 : (w111.heap.size) ≠ (w106.heap.size + 1) := by intro h; have h1 := R1.out; have h2 := L.out; rw [h] at h1; exact absurd (h1.symm.trans h2) (by simp)
  have neR2 : (w115.heap.size) ≠ (w106.heap.size + 1) := by intro h; have h1 := R2.out; have h2 := L.out; rw [h] at h1; exact absurd (h1.symm.trans h2) (by simp)
  have neWt : ((w115.heap.size + 1)) ≠ (w106.heap.size + 1) := by intro h; have h1 := Wt.out; have h2 := L.out; rw [h] at h1; exact absurd (h1.symm.trans h2) (by simp)
  replace L := Lib.hid (show Blk w121 (w106.heap.size + 1) _ #[.string Tn, .string Tm] by rw [hw121]; exact L.out.set_ 0 _)
  replace M := Lib.hid (show Blk w121 _ _ _ by rw [hw121]; exact M.out.far neM _)
  clear neM
  replace N := Lib.hid (show Blk w121 _ _ _ by rw [hw121]; exact N.out.far neN _)
  clear neN
  replace R1 := Lib.hid (show Blk w121 _ _ _ by rw [hw121]; exact R1.out.far neR1 _)
  clear neR1
  replace R2 := Lib.hid (show Blk w121 _ _ _ by rw [hw121]; exact R2.out.far neR2 _)
  clear neR2
  replace Wt := Lib.hid (show Blk w121 _ _ _ by rw [hw121]; exact Wt.out.far neWt _)
  clear neWt
  replace HB := Lib.hid (show Below w.heap.size w w121 by rw [hw121]; exact HB.out.setCell HLB.out _)
  have cL_0 := L.out.cell 0
  have cL_1 := L.out.cell 1
  rw [hw121] at cL_0 cL_1
  simp at cL_0 cL_1
  go_wp2_with fail
  rw [← hw121]
  clear hw121 cL_0 cL_1
  clear fL
  refine (HN3 _).mono ?_
  rintro e w122 ⟨rfl, hb⟩
  replace HB := Lib.hid (HB.out.trans (hb.mono HB.out.size))
  replace M := Lib.hid (M.out.below hb M.out.lt)
  replace N := Lib.hid (N.out.below hb N.out.lt)
  replace L := Lib.hid (L.out.below hb L.out.lt)
  replace R1 := Lib.hid (R1.out.below hb R1.out.lt)
  replace R2 := Lib.hid (R2.out.below hb R2.out.lt)
  replace Wt := Lib.hid (Wt.out.below hb Wt.out.lt)
  clear hb
  clear HN3
  obtain ⟨w123, hw123⟩ : ∃ w123, w123 = w122.alloc (.cells #[.int .u64 0, .int .i64 0, .int .u32 0, .int .u32 0, .int .u32 0] 31) := ⟨_, rfl⟩
  have lR1 := R1.out.lt
  have dR1_0 := R1.out.cell 0
  have dR1_1 := R1.out.cell 1
  have dR1_2 := R1.out.cell 2
  have dR1_3 := R1.out.cell 3
  have dR1_4 := R1.out.cell 4
  have lN := N.out.lt
  have dN_0 := N.out.cell 0
  have dN_1 := N.out.cell 1
  have dN_2 := N.out.cell 2
  have dN_3 := N.out.cell 3
  have dN_4 := N.out.cell 4
  have lR2 := R2.out.lt
  have dR2_0 := R2.out.cell 0
  have dR2_1 := R2.out.cell 1
  have dR2_2 := R2.out.cell 2
  have dR2_3 := R2.out.cell 3
  have dR2_4 := R2.out.cell 4
  have lWt := Wt.out.lt
  have dWt_0 := Wt.out.cell 0
  have dWt_1 := Wt.out.cell 1
  have dWt_2 := Wt.out.cell 2
  have dWt_3 := Wt.out.cell 3
  have dWt_4 := Wt.out.cell 4
  simp at dR1_0 dR1_1 dR1_2 dR1_3 dR1_4 dN_0 dN_1 dN_2 dN_3 dN_4 dR2_0 dR2_1 dR2_2 dR2_3 dR2_4 dWt_0 dWt_1 dWt_2 dWt_3 dWt_4
  have R3 := Lib.hid (show Blk w123 w122.heap.size 31 #[.int .u64 0, .int .i64 0, .int .u32 0, .int .u32 0, .int .u32 0] by rw [hw123]; exact Blk.new _ _ _)
  replace M := Lib.hid (show Blk w123 _ _ _ by rw [hw123]; exact M.out.alloc _)
  replace N := Lib.hid (show Blk w123 _ _ _ by rw [hw123]; exact N.out.alloc _)
  replace L := Lib.hid (show Blk w123 _ _ _ by rw [hw123]; exact L.out.alloc _)
  replace R1 := Lib.hid (show Blk w123 _ _ _ by rw [hw123]; exact R1.out.alloc _)
  replace R2 := Lib.hid (show Blk w123 _ _ _ by rw [hw123]; exact R2.out.alloc _)
  replace Wt := Lib.hid (show Blk w123 _ _ _ by rw [hw123]; exact Wt.out.alloc _)
  replace HB := Lib.hid (show Below w.heap.size w w123 by rw [hw123]; exact HB.out.alloc HB.out.size _)
  have cR1_0 := R1.out.cell 0
  have cR1_1 := R1.out.cell 1
  have cR1_2 := R1.out.cell 2
  have cR1_3 := R1.out.cell 3
  have cR1_4 := R1.out.cell 4
  have cN_0 := N.out.cell 0
  have cN_1 := N.out.cell 1
  have cN_2 := N.out.cell 2
  have cN_3 := N.out.cell 3
  have cN_4 := N.out.cell 4
  have cR2_0 := R2.out.cell 0
  have cR2_1 := R2.out.cell 1
  have cR2_2 := R2.out.cell 2
  have cR2_3 := R2.out.cell 3
  have cR2_4 := R2.out.cell 4
  have cWt_0 := Wt.out.cell 0
  have cWt_1 := Wt.out.cell 1
  have cWt_2 := Wt.out.cell 2
  have cWt_3 := Wt.out.cell 3
  have cWt_4 := Wt.out.cell 4
  rw [hw123] at cR1_0 cR1_1 cR1_2 cR1_3 cR1_4 cN_0 cN_1 cN_2 cN_3 cN_4 cR2_0 cR2_1 cR2_2 cR2_3 cR2_4 cWt_0 cWt_1 cWt_2 cWt_3 cWt_4
  simp at cR1_0 cR1_1 cR1_2 cR1_3 cR1_4 cN_0 cN_1 cN_2 cN_3 cN_4 cR2_0 cR2_1 cR2_2 cR2_3 cR2_4 cWt_0 cWt_1 cWt_2 cWt_3 cWt_4
  go_wp2_with fail
  go_ret
  exact ⟨rfl, by rw [← hw123]; exact HB.out⟩
theorem mnewer_walk (tx : Nat) (z : Int) (rt fr ps : Nat) (ra0 la0 wh at_ d0 : Int) (w : World) (_h0 : tx < 18446744073709551616 ∧ -9223372036854775808 ≤ z ∧ z ≤ 9223372036854775807 ∧ rt < 4294967296 ∧ fr < 4294967296 ∧ ps < 4294967296) (h1 : (Lit.int .u32 ra0).wf = true) (h2 : (Lit.int .u32 la0).wf = true) (_h3 : (Lit.int .i64 wh).wf = true) (_h4 : (Lit.int .i64 at_).wf = true) (h5 : (Lit.int .u32 d0).wf = true) :
    Calls Try.prog 6 #[.agg #[.int .u64 tx, .int .i64 z, .int .u32 rt, .int .u32 fr, .int .u32 ps], .int .u32 ra0, .int .u32 la0, .int .i64 wh, .int .i64 at_, .int .u32 d0] w fun e w' => e = .returned (.bool true) ∧ Below w.heap.size w w' := by
  have u1 := lit_u32b h1
  have u2 := lit_u32b h2
  have u5 := lit_u32b h5
  obtain ⟨ra, rfl⟩ := Int.eq_ofNat_of_zero_le u1.1
  obtain ⟨la, rfl⟩ := Int.eq_ofNat_of_zero_le u2.1
  obtain ⟨d, rfl⟩ := Int.eq_ofNat_of_zero_le u5.1
  obtain ⟨ty, hty⟩ : ∃ ty : Nat, (ty : Int) = ((tx : Int) + 1) % 18446744073709551616 := ⟨(((tx : Int) + 1) % 18446744073709551616).toNat, by omega⟩
  rcases hm : mayM tx 128 rt fr ps with _ | _
  · exact mnewer_a tx z rt fr ps ra la wh at_ d w ty hty hm
  rcases hn : mayM ty 128 ra la ps with _ | _
  · exact mnewer_b tx z rt fr ps ra la wh at_ d w ty hty hm hn
  by_cases hd : d = 0
  · exact mnewer_c tx z rt fr ps ra la wh at_ d w ty hty hm hn hd
  have hdl : d < 4294967296 := by omega
  rcases Nat.mod_two_eq_zero_or_one tx with hp | hp <;> rcases Int.emod_two_eq wh with hv | hv
  · exact mnewer_d00 tx z rt fr ps ra la wh at_ d w ty hty hm hn hd hdl hp hv
  · exact mnewer_d01 tx z rt fr ps ra la wh at_ d w ty hty hm hn hd hdl hp hv
  · exact mnewer_d10 tx z rt fr ps ra la wh at_ d w ty hty hm hn hd hdl hp hv
  · exact mnewer_d11 tx z rt fr ps ra la wh at_ d w ty hty hm hn hd hdl hp hv
end Go.Proofs.Ytfmalohaaibhiaa
