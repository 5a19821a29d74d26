/-
  Contracts of the reference's Slot and Page of layer 5, each with its conditions in its own statement.
-/
import Derived.Test.YtfmalohaaibhiaaRef5May
import Derived.Test.YtfmalohaaibhiaaRef4Use
import Derived.Test.YtfmalohaaibhiaaMetaPage
import Derived.Lib.AppendStr
import Derived.Deep.RegionHeld3
import Derived.Deep.DrawnRows
namespace Go.Proofs.Ytfmalohaaibhiaa
open Go.RowKit
open Go.Lib
set_option linter.unusedVariables false
set_option linter.unusedSimpArgs false
attribute [local go_sem ↓] Go.wp_at_zero Go.wp_at_succ

theorem reads_front (w : World) (o : Obj) (A Z : Array Value) (t : TypeId) : Reads ((w.alloc o).alloc (.cells (A ++ Z) t)).drew ((w.alloc o).alloc (.cells (A ++ Z) t)).drew.heap.size 1 (some ⟨w.heap.size + 1, 0, none⟩) A.size A.toList := by
  have h := reads_new (w.alloc o) (A ++ Z) t (0, 0)
  have hs : (w.alloc o).heap.size = w.heap.size + 1 := by simp
  rw [hs] at h
  refine ⟨by simp, fun hn => ?_⟩
  obtain ⟨ad, e, hb, hc⟩ := h.2 (by rw [Array.size_append]; omega)
  refine ⟨ad, e, by rw [show ((w.alloc o).alloc (.cells (A ++ Z) t)).drew.heap.size = w.heap.size + 1 + 1 by show ((w.alloc o).alloc (.cells (A ++ Z) t)).heap.size = _; simp]; exact hb, fun j u hu => ?_⟩
  refine hc j u ?_
  rw [Array.toList_append, List.getElem?_append_left]
  · exact hu
  · exact (List.getElem?_eq_some_iff.1 hu).1
theorem rslot_is (tx sl : Nat) (w : World) (h : sl = tx % 2) :
    Calls Try.prog 22 #[.int .u64 tx] w fun e w' => e = .returned (.int .u32 sl) ∧ w' = w := by
  have h2 : IntKind.u32.wrap ((tx : Int) % 2) = (sl : Int) := by rw [IntKind.wrap_u32]; omega
  have h3 : (tx : Int) % 2 = (sl : Int) := by omega
  clear h
  go_enter Try.func22, Try.ntmps22
  go_wp2
  go_ret
  exact ⟨rfl, rfl⟩
theorem rpage5_no (tx : Nat) (z : Int) (rt fr pg : Nat) (w : World) (h : mayM tx z rt fr pg = false) :
    Calls Try.prog 18 #[.agg #[.int .u64 tx, .int .i64 z, .int .u32 rt, .int .u32 fr, .int .u32 pg]] w fun e w' => e = .returned (.tuple #[.agg #[.int .i64 0, .int .i64 0, .int .u32 0, .int .u32 0, .int .u64 0, .string ByteArray.empty], .int .i64 2]) ∧ Below w.heap.size w w' := by
  obtain ⟨hz, hi⟩ := zero_of_info infoPg
  have HI := Lib.hid hi
  clear hi
  obtain ⟨w0, hw0⟩ : ∃ w0, w0 = (w.alloc (.cells #[.int .u64 tx, .int .i64 z, .int .u32 rt, .int .u32 fr, .int .u32 pg] 31)).alloc (.cells #[.int .i64 0, .int .i64 0, .int .u32 0, .int .u32 0, .int .u64 0, .string ByteArray.empty] 26) := ⟨_, rfl⟩
  have M0 := Lib.hid (show Blk w0 w.heap.size 31 #[.int .u64 tx, .int .i64 z, .int .u32 rt, .int .u32 fr, .int .u32 pg] by rw [hw0]; exact (Blk.new _ _ _).alloc _)
  have R0 := Lib.hid (show Blk w0 (w.heap.size + 1) 26 #[.int .i64 0, .int .i64 0, .int .u32 0, .int .u32 0, .int .u64 0, .string ByteArray.empty] by rw [hw0, show w.heap.size + 1 = (w.alloc (.cells #[.int .u64 tx, .int .i64 z, .int .u32 rt, .int .u32 fr, .int .u32 pg] 31)).heap.size by simp]; exact Blk.new _ _ _)
  have HB := Lib.hid (show Below w.heap.size w w0 by rw [hw0]; exact ((Below.refl _ _).alloc (Nat.le_refl _) _).alloc (by simp) _)
  have c0 := M0.out.cell 0
  have c1 := M0.out.cell 1
  have c2 := M0.out.cell 2
  have c3 := M0.out.cell 3
  have c4 := M0.out.cell 4
  rw [hw0] at c0 c1 c2 c3 c4
  simp at c0 c1 c2 c3 c4
  have HV := fun w => rmeta_any tx z rt fr pg w
  rw [h] at HV
  go_enter Try.func18, Try.ntmps18
  go_wp2_with fail
  rw [← hw0]
  clear hw0 c0 c1 c2 c3 c4
  refine (HV _).mono ?_
  rintro e w1 ⟨rfl, hb⟩
  replace R0 := Lib.hid (R0.out.below hb R0.out.lt)
  replace HB := Lib.hid (HB.out.trans (hb.mono HB.out.size))
  clear hb M0
  have k0 := R0.out.cell 0
  have k1 := R0.out.cell 1
  have k2 := R0.out.cell 2
  have k3 := R0.out.cell 3
  have k4 := R0.out.cell 4
  have k5 := R0.out.cell 5
  have f0 := R0.out.frozen 0
  have f1 := R0.out.frozen 1
  have f2 := R0.out.frozen 2
  have f3 := R0.out.frozen 3
  have f4 := R0.out.frozen 4
  have f5 := R0.out.frozen 5
  simp at k0 k1 k2 k3 k4 k5
  go_wp2_with fail
  refine bodyPost_ret (read_row rfl _ _ _ (w.heap.size + 1) #[.int .i64 0, .int .i64 0, .int .u32 0, .int .u32 0, .int .u64 0, .string ByteArray.empty] rfl (load_page (six_at R0.out))) rfl ⟨rfl, six_below HB.out (Nat.le_succ _)⟩

set_option maxRecDepth 100000 in
set_option maxHeartbeats 6400000 in
theorem rpage5_yes (tx z rt fr pg sl : Nat) (b : ByteArray) (w : World) (h : mayM tx z rt fr pg = true) (hb : b = bodyM z rt fr pg) (hsl : sl = tx % 2) :
    Calls Try.prog 18 #[.agg #[.int .u64 tx, .int .i64 z, .int .u32 rt, .int .u32 fr, .int .u32 pg]] w fun e w' => e = .returned (.tuple #[.agg #[.int .i64 1, .int .i64 0, .int .u32 sl, .int .u32 0, .int .u64 tx, .string b], .int .i64 0]) ∧ Below w.heap.size w w' := by
  obtain ⟨hz, hi⟩ := zero_of_info infoPg
  have HI := Lib.hid hi
  clear hi
  obtain ⟨i0, hi0, hz0, hz1, hz2⟩ := info_parts infoU8
  obtain ⟨w0, hw0⟩ : ∃ w0, w0 = (w.alloc (.cells #[.int .u64 tx, .int .i64 z, .int .u32 rt, .int .u32 fr, .int .u32 pg] 31)).alloc (.cells #[.int .i64 0, .int .i64 0, .int .u32 0, .int .u32 0, .int .u64 0, .string ByteArray.empty] 26) := ⟨_, rfl⟩
  have M0 := Lib.hid (show Blk w0 w.heap.size 31 #[.int .u64 tx, .int .i64 z, .int .u32 rt, .int .u32 fr, .int .u32 pg] by rw [hw0]; exact (Blk.new _ _ _).alloc _)
  have R0 := Lib.hid (show Blk w0 (w.heap.size + 1) 26 #[.int .i64 0, .int .i64 0, .int .u32 0, .int .u32 0, .int .u64 0, .string ByteArray.empty] by rw [hw0, show w.heap.size + 1 = (w.alloc (.cells #[.int .u64 tx, .int .i64 z, .int .u32 rt, .int .u32 fr, .int .u32 pg] 31)).heap.size by simp]; exact Blk.new _ _ _)
  have HB := Lib.hid (show Below w.heap.size w w0 by rw [hw0]; exact ((Below.refl _ _).alloc (Nat.le_refl _) _).alloc (by simp) _)
  have c0 := M0.out.cell 0
  have c1 := M0.out.cell 1
  have c2 := M0.out.cell 2
  have c3 := M0.out.cell 3
  have c4 := M0.out.cell 4
  rw [hw0] at c0 c1 c2 c3 c4
  simp at c0 c1 c2 c3 c4
  have HV := fun w => rmeta_any tx z rt fr pg w
  rw [h] at HV
  have HSL := fun w => rslot_is tx sl w hsl
  have hh := h
  simp only [mayM, refM, Bool.and_eq_true, decide_eq_true_eq] at hh
  obtain ⟨h0, hg, h2, h3, ⟨h4, _⟩, ⟨h5, _⟩⟩ := hh
  have hgp := good_pos hg
  have e0 := u64_nat z (by omega)
  have e1 := u64_nat rt (by omega)
  have e2 := u64_nat fr (by omega)
  have e3 := u64_nat pg (by omega)
  have HG := Lib.hid hg
  have HP := Lib.hid hgp
  have HBB := Lib.hid hb
  clear h hsl h0 hg h2 h3 h4 h5 hgp hb
  go_enter Try.func18, Try.ntmps18
  go_wp2_with fail
  rw [← hw0]
  clear hw0 c0 c1 c2 c3 c4
  refine (HV _).mono ?_
  rintro e w1 ⟨rfl, hb⟩
  replace R0 := Lib.hid (R0.out.below hb R0.out.lt)
  replace M0 := Lib.hid (M0.out.below hb M0.out.lt)
  replace HB := Lib.hid (HB.out.trans (hb.mono HB.out.size))
  clear hb HV
  have hltM := M0.out.lt
  have m0 := M0.out.cell 0
  have m1 := M0.out.cell 1
  have m2 := M0.out.cell 2
  have m3 := M0.out.cell 3
  have m4 := M0.out.cell 4
  simp at m0 m1 m2 m3 m4
  go_wp2_with fail
  generalize (Question.appendCap 8 0 5).cut (w1.tape w1.drawn (Question.appendCap 8 0 5)) = cap
  obtain ⟨w2, hw2⟩ : ∃ w2, w2 = ((w1.alloc (.cells #[] 5)).alloc (.cells (#[.int .u8 99, .int .u8 97, .int .u8 114, .int .u8 101, .int .u8 101, .int .u8 110, .int .u8 48, .int .u8 49] ++ Builtin.zeroCells #[.int .u8 0] (cap - 8)) 5)).drew := ⟨_, rfl⟩
  rw [← hw2]
  have RD := Lib.hid (show Reads w2 w2.heap.size 1 (some ⟨w1.heap.size + 1, 0, none⟩) 8 (bcells markL) by rw [hw2]; exact reads_front w1 _ #[.int .u8 99, .int .u8 97, .int .u8 114, .int .u8 101, .int .u8 101, .int .u8 110, .int .u8 48, .int .u8 49] _ _)
  replace R0 := Lib.hid (show Blk w2 _ _ _ by rw [hw2]; exact ((R0.out.alloc _).alloc _).drew)
  replace M0 := Lib.hid (show Blk w2 _ _ _ by rw [hw2]; exact ((M0.out.alloc _).alloc _).drew)
  replace HB := Lib.hid (show Below w.heap.size w w2 by rw [hw2]; exact ((HB.out.alloc HB.out.size _).alloc (HB.out.alloc HB.out.size _).size _).drew)
  clear hw2 m0 m1 m2 m3 m4 hltM
  refine (rput_reads (some ⟨w1.heap.size + 1, 0, none⟩) 8 cap z 2 markL _ RD.out (by omega) (by omega) (by omega)).mono ?_
  rintro e w3 ⟨A1, d1, rfl, hr1, hb⟩
  have R1 := Lib.hid hr1
  replace R0 := Lib.hid (R0.out.below hb R0.out.lt)
  replace M0 := Lib.hid (M0.out.below hb M0.out.lt)
  replace HB := Lib.hid (HB.out.trans (hb.mono HB.out.size))
  clear hb hr1
  have m0 := M0.out.cell 0
  have m1 := M0.out.cell 1
  have m2 := M0.out.cell 2
  have m3 := M0.out.cell 3
  have m4 := M0.out.cell 4
  simp at m0 m1 m2 m3 m4
  go_wp2_with fail
  refine (rput_reads A1 10 d1 rt 4 _ _ R1.out (by omega) (by omega) (by omega)).mono ?_
  rintro e w4 ⟨A2, d2, rfl, hr1, hb⟩
  clear m0 m1 m2 m3 m4 R1
  have R2 := Lib.hid hr1
  replace R0 := Lib.hid (R0.out.below hb R0.out.lt)
  replace M0 := Lib.hid (M0.out.below hb M0.out.lt)
  replace HB := Lib.hid (HB.out.trans (hb.mono HB.out.size))
  clear hb hr1
  have m0 := M0.out.cell 0
  have m1 := M0.out.cell 1
  have m2 := M0.out.cell 2
  have m3 := M0.out.cell 3
  have m4 := M0.out.cell 4
  simp at m0 m1 m2 m3 m4
  go_wp2_with fail
  refine (rput_reads A2 14 d2 fr 4 _ _ R2.out (by omega) (by omega) (by omega)).mono ?_
  rintro e w5 ⟨A3, d3, rfl, hr1, hb⟩
  clear m0 m1 m2 m3 m4 R2
  have R3 := Lib.hid hr1
  replace R0 := Lib.hid (R0.out.below hb R0.out.lt)
  replace M0 := Lib.hid (M0.out.below hb M0.out.lt)
  replace HB := Lib.hid (HB.out.trans (hb.mono HB.out.size))
  clear hb hr1
  have m0 := M0.out.cell 0
  have m1 := M0.out.cell 1
  have m2 := M0.out.cell 2
  have m3 := M0.out.cell 3
  have m4 := M0.out.cell 4
  simp at m0 m1 m2 m3 m4
  go_wp2_with fail
  refine (rput_reads A3 18 d3 pg 4 _ _ R3.out (by omega) (by omega) (by omega)).mono ?_
  rintro e w6 ⟨A4, d4, rfl, hr1, hb⟩
  clear m0 m1 m2 m3 m4 R3
  have R4 := Lib.hid hr1
  replace R0 := Lib.hid (R0.out.below hb R0.out.lt)
  replace M0 := Lib.hid (M0.out.below hb M0.out.lt)
  replace HB := Lib.hid (HB.out.trans (hb.mono HB.out.size))
  clear hb hr1
  have m0 := M0.out.cell 0
  have m1 := M0.out.cell 1
  have m2 := M0.out.cell 2
  have m3 := M0.out.cell 3
  have m4 := M0.out.cell 4
  simp at m0 m1 m2 m3 m4
  have HBd := fun (hg : goodSize z = true) => rbody_ok z A4 22 d4 (numsL z rt fr pg) b w6 hg R4.out (by have := HP.out; omega) HBB.out
  go_wp2_with fail
  refine (HBd HG.out).mono ?_
  rintro e w7 ⟨rfl, hb⟩
  replace R0 := Lib.hid (R0.out.below hb R0.out.lt)
  replace M0 := Lib.hid (M0.out.below hb M0.out.lt)
  replace HB := Lib.hid (HB.out.trans (hb.mono HB.out.size))
  clear hb HBd m0 m1 m2 m3 m4 R4
  have R9 := Lib.hid R0.out.drew
  have M9 := Lib.hid M0.out.drew
  have k0 := R0.out.cell 0
  have k1 := R0.out.cell 1
  have k2 := R0.out.cell 2
  have k3 := R0.out.cell 3
  have k4 := R0.out.cell 4
  have k5 := R0.out.cell 5
  have f0 := R0.out.frozen 0
  have f1 := R0.out.frozen 1
  have f2 := R0.out.frozen 2
  have f3 := R0.out.frozen 3
  have f4 := R0.out.frozen 4
  have f5 := R0.out.frozen 5
  have c0 := M0.out.cell 0
  simp at k0 k1 k2 k3 k4 k5 c0
  go_wp2_with fail
  go_region_held3 (fun w' => w'.cell? ⟨w.heap.size, 0, none⟩ = some (.int .u64 tx)) (first | with_reducible exact meta_tx M9.out | with_reducible exact meta_tx (six_far M0.out (Nat.ne_of_lt (Nat.lt_succ_self _))).drew)
    (first
    | (go_at_call 22
       with_reducible refine (HSL _).mono ?_
       rintro e w' ⟨rfl, rfl⟩))
  go_wp2_with fail
  refine bodyPost_ret (read_row rfl _ _ _ (w.heap.size + 1) #[.int .i64 1, .int .i64 0, .int .u32 sl, .int .u32 0, .int .u64 tx, .string b] rfl (load_page (six_at R0.out).drew)) rfl ⟨rfl, (six_below HB.out (Nat.le_succ _)).drew⟩
end Go.Proofs.Ytfmalohaaibhiaa
