/-
  Contract of package meta's Page, with its conditions in its own statement: the page of a meta.
-/
import Derived.Test.YtfmalohaaibhiaaMetaNum
import Derived.Test.YtfmalohaaibhiaaFrameBody
import Derived.Deep.RegionHeld3
import Derived.Deep.DrawnRows
namespace Go.Proofs.Ytfmalohaaibhiaa
open Go.RowKit
open Go.Lib
set_option linter.unusedVariables false
set_option linter.unusedSimpArgs false
attribute [local go_sem ↓] Go.wp_at_zero Go.wp_at_succ

theorem numbers_is (tx z rt fr pg : Nat) (b : ByteArray) (w : World) (h : mayM tx z rt fr pg = true) (hb : b = bodyM z rt fr pg) :
    Calls Try.prog 28 #[.agg #[.int .u64 tx, .int .i64 z, .int .u32 rt, .int .u32 fr, .int .u32 pg]] w fun e w' => ∃ A c, e = .returned (.slice A 22 c) ∧ Below w.heap.size w w' ∧
      ∀ w2, Below w'.heap.size w' w2 → Calls Try.prog 27 #[.int .i64 z, .slice A 22 c] w2 fun e w' => e = .returned (.tuple #[.string b, .int .i64 0]) ∧ Below w2.heap.size w2 w' := by
  simp only [mayM, refM, Bool.and_eq_true, decide_eq_true_eq] at h
  obtain ⟨h0, hg, h2, h3, ⟨h4, _⟩, ⟨h5, _⟩⟩ := h
  have hgp := good_pos hg
  refine (numbers_any tx z rt fr pg w hgp.2 (by omega) (by omega) (by omega)).mono ?_
  rintro e w1 ⟨A, c, rfl, hr, hb1⟩
  refine ⟨A, c, rfl, hb1, fun w2 hb2 => ?_⟩
  have := fbody_ok z A 22 c (numsL z rt fr pg) w2 hg ((hr.below hb2).more hb2.size) (by omega)
  rw [hb]
  exact this

theorem meta_tx {w : World} {g : Nat} {v0 v1 v2 v3 v4 : Value} (h : Blk w g 31 #[v0, v1, v2, v3, v4]) : w.cell? ⟨g, 0, none⟩ = some v0 := h.cell 0
theorem meta_cells {w : World} {g : Nat} {v0 v1 v2 v3 v4 : Value} (h : Blk w g 31 #[v0, v1, v2, v3, v4]) : w.cell? ⟨g, 0, none⟩ = some v0 ∧ w.cell? ⟨g, 1, none⟩ = some v1 ∧ w.cell? ⟨g, 2, none⟩ = some v2 ∧ w.cell? ⟨g, 3, none⟩ = some v3 ∧ w.cell? ⟨g, 4, none⟩ = some v4 :=
  ⟨h.cell 0, h.cell 1, h.cell 2, h.cell 3, h.cell 4⟩
theorem mpage_no (tx : Nat) (z : Int) (rt fr pg : Nat) (w : World) (h : mayM tx z rt fr pg = false) :
    Calls Try.prog 10 #[.agg #[.int .u64 tx, .int .i64 z, .int .u32 rt, .int .u32 fr, .int .u32 pg]] w fun e w' => e = .returned (.tuple #[.agg #[.int .i64 0, .int .i64 0, .int .u32 0, .int .u32 0, .int .u64 0, .string ByteArray.empty], .int .i64 2]) ∧ Below w.heap.size w w' := by
  obtain ⟨hz, hi⟩ := zero_of_info infoPg
  have HI := Lib.hid hi
  clear hi
  obtain ⟨w0, hw0⟩ : ∃ w0, w0 = (w.alloc (.cells #[.int .u64 tx, .int .i64 z, .int .u32 rt, .int .u32 fr, .int .u32 pg] 31)).alloc (.cells #[.int .i64 0, .int .i64 0, .int .u32 0, .int .u32 0, .int .u64 0, .string ByteArray.empty] 26) := ⟨_, rfl⟩
  have M0 := Lib.hid (show Blk w0 w.heap.size 31 #[.int .u64 tx, .int .i64 z, .int .u32 rt, .int .u32 fr, .int .u32 pg] by rw [hw0]; exact (Blk.new _ _ _).alloc _)
  have R0 := Lib.hid (show Blk w0 (w.heap.size + 1) 26 #[.int .i64 0, .int .i64 0, .int .u32 0, .int .u32 0, .int .u64 0, .string ByteArray.empty] by rw [hw0, show w.heap.size + 1 = (w.alloc (.cells #[.int .u64 tx, .int .i64 z, .int .u32 rt, .int .u32 fr, .int .u32 pg] 31)).heap.size by simp]; exact Blk.new _ _ _)
  have HB := Lib.hid (show Below w.heap.size w w0 by rw [hw0]; exact ((Below.refl _ _).alloc (Nat.le_refl _) _).alloc (by simp) _)
  have c0 := M0.out.cell 0
  have c1 := M0.out.cell 1
  have c2 := M0.out.cell 2
  have c3 := M0.out.cell 3
  have c4 := M0.out.cell 4
  rw [hw0] at c0 c1 c2 c3 c4
  simp at c0 c1 c2 c3 c4
  have HV := fun w => mvalid_any tx z rt fr pg w
  rw [h] at HV
  go_enter Try.func10, Try.ntmps10
  go_wp2_with fail
  rw [← hw0]
  clear hw0 c0 c1 c2 c3 c4
  refine (HV _).mono ?_
  rintro e w1 ⟨rfl, hb⟩
  replace R0 := Lib.hid (R0.out.below hb R0.out.lt)
  replace HB := Lib.hid (HB.out.trans (hb.mono HB.out.size))
  clear hb M0
  have k0 := R0.out.cell 0
  have k1 := R0.out.cell 1
  have k2 := R0.out.cell 2
  have k3 := R0.out.cell 3
  have k4 := R0.out.cell 4
  have k5 := R0.out.cell 5
  have f0 := R0.out.frozen 0
  have f1 := R0.out.frozen 1
  have f2 := R0.out.frozen 2
  have f3 := R0.out.frozen 3
  have f4 := R0.out.frozen 4
  have f5 := R0.out.frozen 5
  simp at k0 k1 k2 k3 k4 k5
  go_wp2_with fail
  refine bodyPost_ret (read_row rfl _ _ _ (w.heap.size + 1) #[.int .i64 0, .int .i64 0, .int .u32 0, .int .u32 0, .int .u64 0, .string ByteArray.empty] rfl (load_page (six_at R0.out))) rfl ⟨rfl, six_below HB.out (Nat.le_succ _)⟩

set_option maxRecDepth 100000 in
set_option maxHeartbeats 3200000 in
theorem mpage_yes (tx z rt fr pg sl : Nat) (b : ByteArray) (w : World) (h : mayM tx z rt fr pg = true) (hb : b = bodyM z rt fr pg) (hsl : sl = tx % 2) :
    Calls Try.prog 10 #[.agg #[.int .u64 tx, .int .i64 z, .int .u32 rt, .int .u32 fr, .int .u32 pg]] w fun e w' => e = .returned (.tuple #[.agg #[.int .i64 1, .int .i64 0, .int .u32 sl, .int .u32 0, .int .u64 tx, .string b], .int .i64 0]) ∧ Below w.heap.size w w' := by
  obtain ⟨hz, hi⟩ := zero_of_info infoPg
  have HI := Lib.hid hi
  clear hi
  have HN := fun w => numbers_is tx z rt fr pg b w h hb
  have HSL := fun w => slot_is tx sl w hsl
  clear hsl
  obtain ⟨w0, hw0⟩ : ∃ w0, w0 = (w.alloc (.cells #[.int .u64 tx, .int .i64 z, .int .u32 rt, .int .u32 fr, .int .u32 pg] 31)).alloc (.cells #[.int .i64 0, .int .i64 0, .int .u32 0, .int .u32 0, .int .u64 0, .string ByteArray.empty] 26) := ⟨_, rfl⟩
  have M0 := Lib.hid (show Blk w0 w.heap.size 31 #[.int .u64 tx, .int .i64 z, .int .u32 rt, .int .u32 fr, .int .u32 pg] by rw [hw0]; exact (Blk.new _ _ _).alloc _)
  have R0 := Lib.hid (show Blk w0 (w.heap.size + 1) 26 #[.int .i64 0, .int .i64 0, .int .u32 0, .int .u32 0, .int .u64 0, .string ByteArray.empty] by rw [hw0, show w.heap.size + 1 = (w.alloc (.cells #[.int .u64 tx, .int .i64 z, .int .u32 rt, .int .u32 fr, .int .u32 pg] 31)).heap.size by simp]; exact Blk.new _ _ _)
  have HB := Lib.hid (show Below w.heap.size w w0 by rw [hw0]; exact ((Below.refl _ _).alloc (Nat.le_refl _) _).alloc (by simp) _)
  have c0 := M0.out.cell 0
  have c1 := M0.out.cell 1
  have c2 := M0.out.cell 2
  have c3 := M0.out.cell 3
  have c4 := M0.out.cell 4
  rw [hw0] at c0 c1 c2 c3 c4
  simp at c0 c1 c2 c3 c4
  have HV := fun w => mvalid_any tx z rt fr pg w
  rw [h] at HV
  clear h hb
  go_enter Try.func10, Try.ntmps10
  go_wp2_with fail
  rw [← hw0]
  clear hw0 c0 c1 c2 c3 c4
  refine (HV _).mono ?_
  rintro e w1 ⟨rfl, hb⟩
  replace R0 := Lib.hid (R0.out.below hb R0.out.lt).drew
  replace M0 := Lib.hid (M0.out.below hb M0.out.lt).drew
  replace HB := Lib.hid (HB.out.trans (hb.mono HB.out.size)).drew
  clear hb
  go_wp2_with fail
  go_region_held3 (fun w' => w'.cell? ⟨w.heap.size, 0, none⟩ = some (.int .u64 tx) ∧ w'.cell? ⟨w.heap.size, 1, none⟩ = some (.int .i64 z) ∧ w'.cell? ⟨w.heap.size, 2, none⟩ = some (.int .u32 rt) ∧ w'.cell? ⟨w.heap.size, 3, none⟩ = some (.int .u32 fr) ∧ w'.cell? ⟨w.heap.size, 4, none⟩ = some (.int .u32 pg))
    (exact ⟨M0.out.cell 0, M0.out.cell 1, M0.out.cell 2, M0.out.cell 3, M0.out.cell 4⟩)
    (first
    | (go_at_call 28
       with_reducible refine (HN _).mono ?_
       rintro e w2 ⟨A, c, rfl, hb2, hbd⟩
       replace R0 := Lib.hid (R0.out.below hb2 R0.out.lt)
       replace M0 := Lib.hid (M0.out.below hb2 M0.out.lt)
       replace HB := Lib.hid (HB.out.trans (hb2.mono HB.out.size))
       clear hb2)
    | (go_at_call 27
       with_reducible refine (hbd _ (Below.refl _ _)).mono ?_
       rintro e w3 ⟨rfl, hb3⟩
       replace R0 := Lib.hid (R0.out.below hb3 R0.out.lt)
       replace M0 := Lib.hid (M0.out.below hb3 M0.out.lt)
       replace HB := Lib.hid (HB.out.trans (hb3.mono HB.out.size))
       clear hb3))
  clear hbd HN HV
  have R1 := Lib.hid R0.out.drew
  have M1 := Lib.hid M0.out.drew
  have k0 := R0.out.cell 0
  have k1 := R0.out.cell 1
  have k2 := R0.out.cell 2
  have k3 := R0.out.cell 3
  have k4 := R0.out.cell 4
  have k5 := R0.out.cell 5
  have f0 := R0.out.frozen 0
  have f1 := R0.out.frozen 1
  have f2 := R0.out.frozen 2
  have f3 := R0.out.frozen 3
  have f4 := R0.out.frozen 4
  have f5 := R0.out.frozen 5
  have c0 := M0.out.cell 0
  simp at k0 k1 k2 k3 k4 k5 c0
  go_wp2_with fail
  go_region_held3 (fun w' => w'.cell? ⟨w.heap.size, 0, none⟩ = some (.int .u64 tx)) (first | with_reducible exact meta_tx M1.out | with_reducible exact meta_tx (six_far M0.out (Nat.ne_of_lt (Nat.lt_succ_self _))).drew)
    (first
    | (go_at_call 17
       with_reducible refine (HSL _).mono ?_
       rintro e w' ⟨rfl, rfl⟩))
  go_wp2_with fail
  refine bodyPost_ret (read_row rfl _ _ _ (w.heap.size + 1) #[.int .i64 1, .int .i64 0, .int .u32 sl, .int .u32 0, .int .u64 tx, .string b] rfl (load_page (six_at R0.out).drew)) rfl ⟨rfl, (six_below HB.out (Nat.le_succ _)).drew⟩
end Go.Proofs.Ytfmalohaaibhiaa
