/-
  Contracts of package meta's numbers, with its conditions in its own statement: the bytes of a meta.
-/
import Derived.Test.YtfmalohaaibhiaaMetaValid
import Derived.Test.YtfmalohaaibhiaaFramePut
import Derived.Test.YtfmalohaaibhiaaBytes
import Derived.Lib.SlBytesConst
import Derived.Deep.RegionHeld3
namespace Go.Proofs.Ytfmalohaaibhiaa
open Go.RowKit
open Go.Lib
set_option linter.unusedVariables false
set_option linter.unusedSimpArgs false
attribute [local go_sem ↓] Go.wp_at_zero Go.wp_at_succ

/-- What a meta's body begins with. -/
def markL : List UInt8 := [99, 97, 114, 101, 101, 110, 48, 49]
/-- The numbers of a meta, behind the mark. -/
def numsL (z rt fr pg : Nat) : List UInt8 := markL ++ leBytes 2 z ++ leBytes 4 rt ++ leBytes 4 fr ++ leBytes 4 pg
theorem numsL_len (z rt fr pg : Nat) : (numsL z rt fr pg).length = 22 := by simp [numsL, markL, leB_len]
/-- The body of a meta's page. -/
def bodyM (z rt fr pg : Nat) : ByteArray := ⟨(numsL z rt fr pg ++ List.replicate (z - 24 - 22) 0).toArray⟩
theorem bodyM_list (z rt fr pg : Nat) : (bodyM z rt fr pg).data.toList = numsL z rt fr pg ++ List.replicate (z - 24 - 22) 0 := by simp [bodyM]
theorem bodyM_size (z rt fr pg : Nat) (h : 46 ≤ z) : (bodyM z rt fr pg).size = z - 24 := by
  rw [← size_list, bodyM_list, List.length_append, numsL_len, List.length_replicate]; omega

set_option maxRecDepth 100000 in
set_option maxHeartbeats 3200000 in
theorem numbers_any (tx z rt fr pg : Nat) (w : World) (hz : z ≤ 4096) (h1 : rt < 4294967296) (h2 : fr < 4294967296) (h3 : pg < 4294967296) :
    Calls Try.prog 28 #[.agg #[.int .u64 tx, .int .i64 z, .int .u32 rt, .int .u32 fr, .int .u32 pg]] w fun e w' => ∃ A c, e = .returned (.slice A 22 c) ∧ Reads w' w'.heap.size 1 A 22 (bcells (numsL z rt fr pg)) ∧ Below w.heap.size w w' := by
  obtain ⟨w0, hw0⟩ : ∃ w0, w0 = w.alloc (.cells #[.int .u64 tx, .int .i64 z, .int .u32 rt, .int .u32 fr, .int .u32 pg] 31) := ⟨_, rfl⟩
  have B0 := Lib.hid (show Blk w0 w.heap.size 31 #[.int .u64 tx, .int .i64 z, .int .u32 rt, .int .u32 fr, .int .u32 pg] by rw [hw0]; exact Blk.new _ _ _)
  have HB := Lib.hid (show Below w.heap.size w w0 by rw [hw0]; exact (Below.refl _ _).alloc (Nat.le_refl _) _)
  have hsz : w0.heap.size = w.heap.size + 1 := by rw [hw0]; simp
  have kc := Lib.run_convert_bytes_const (P := Try.prog) w0 56 5 #[.int .u8 99, .int .u8 97, .int .u8 114, .int .u8 101, .int .u8 101, .int .u8 110, .int .u8 48, .int .u8 49] 8 8 Try.underlying56 Try.underlying5
  rw [hsz, hw0] at kc
  have e0 := u64_nat z (by omega)
  have e1 := u64_nat rt (by omega)
  have e2 := u64_nat fr (by omega)
  have e3 := u64_nat pg (by omega)
  have b1 : Blk (w0.alloc (.cells #[.int .u8 99, .int .u8 97, .int .u8 114, .int .u8 101, .int .u8 101, .int .u8 110, .int .u8 48, .int .u8 49] 5 (8, 9))) w.heap.size 31 #[.int .u64 tx, .int .i64 z, .int .u32 rt, .int .u32 fr, .int .u32 pg] := B0.out.alloc _
  have c0 := b1.cell 0
  have c1 := b1.cell 1
  have c2 := b1.cell 2
  have c3 := b1.cell 3
  have c4 := b1.cell 4
  simp at c0 c1 c2 c3 c4
  clear b1
  have hrd : Reads (w0.alloc (.cells #[.int .u8 99, .int .u8 97, .int .u8 114, .int .u8 101, .int .u8 101, .int .u8 110, .int .u8 48, .int .u8 49] 5 (8, 9))) (w0.alloc (.cells #[.int .u8 99, .int .u8 97, .int .u8 114, .int .u8 101, .int .u8 101, .int .u8 110, .int .u8 48, .int .u8 49] 5 (8, 9))).heap.size 1 (some ⟨w0.heap.size, 0, none⟩) 8 (bcells markL) := (reads_new w0 #[.int .u8 99, .int .u8 97, .int .u8 114, .int .u8 101, .int .u8 101, .int .u8 110, .int .u8 48, .int .u8 49] 5 (8, 9)).more (by simp)
  rw [show (some ⟨w0.heap.size, 0, none⟩ : Option Addr) = some ⟨w.heap.size + 1, 0, none⟩ by rw [hsz]] at hrd
  have RD := Lib.hid hrd
  clear hrd hsz
  go_enter Try.func28, Try.ntmps28
  go_wp2_with fail
  rw [← hw0]
  clear hw0
  refine (put_reads (some ⟨w.heap.size + 1, 0, none⟩) 8 8 z 2 markL _ RD.out (by omega) (by omega) (by omega)).mono ?_
  rintro e w1 ⟨A1, d1, rfl, hr1, hb1⟩
  have R1 := Lib.hid hr1
  replace HB := Lib.hid ((HB.out.alloc HB.out.size _).trans (hb1.mono (HB.out.alloc HB.out.size _).size))
  replace B0 := Lib.hid ((B0.out.alloc _).below hb1 (B0.out.alloc _).lt)
  clear c0 c1 c2 c3 c4 hb1 hr1 RD
  have c2 := B0.out.cell 2
  have c3 := B0.out.cell 3
  have c4 := B0.out.cell 4
  simp at c2 c3 c4
  go_wp2_with fail
  refine (put_reads A1 10 d1 rt 4 _ _ R1.out (by omega) (by omega) (by omega)).mono ?_
  rintro e w2 ⟨A2, d2, rfl, hr2, hb2⟩
  have R2 := Lib.hid hr2
  replace HB := Lib.hid (HB.out.trans (hb2.mono HB.out.size))
  replace B0 := Lib.hid (B0.out.below hb2 B0.out.lt)
  clear c2 c3 c4 hb2 hr2 R1
  have c3 := B0.out.cell 3
  have c4 := B0.out.cell 4
  simp at c3 c4
  go_wp2_with fail
  refine (put_reads A2 14 d2 fr 4 _ _ R2.out (by omega) (by omega) (by omega)).mono ?_
  rintro e w3 ⟨A3, d3, rfl, hr3, hb3⟩
  have R3 := Lib.hid hr3
  replace HB := Lib.hid (HB.out.trans (hb3.mono HB.out.size))
  replace B0 := Lib.hid (B0.out.below hb3 B0.out.lt)
  clear c3 c4 hb3 hr3 R2
  have c4 := B0.out.cell 4
  simp at c4
  go_wp2_with fail
  refine (put_reads A3 18 d3 pg 4 _ _ R3.out (by omega) (by omega) (by omega)).mono ?_
  rintro e w4 ⟨A4, d4, rfl, hr4, hb4⟩
  have R4 := Lib.hid hr4
  replace HB := Lib.hid (HB.out.trans (hb4.mono HB.out.size))
  clear c4 hb4 hr4 R3
  go_wp2_with fail
  go_ret
  exact ⟨A4, d4, rfl, R4.out, HB.out⟩

end Go.Proofs.Ytfmalohaaibhiaa
