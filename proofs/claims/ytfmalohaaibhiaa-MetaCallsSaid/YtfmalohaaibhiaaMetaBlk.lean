/-
  The block of a meta (by the reference), and what an image that holds it is read as.
-/
import Derived.Test.YtfmalohaaibhiaaRef5Page
import Derived.Test.YtfmalohaaibhiaaMetaNew
import Derived.Deep.DrawnRows
namespace Go.Proofs.Ytfmalohaaibhiaa
open Go.RowKit
open Go.Lib
set_option linter.unusedVariables false
set_option linter.unusedSimpArgs false
attribute [local go_sem ↓] Go.wp_at_zero Go.wp_at_succ

theorem meta_mayPg (tx z rt fr ps sl : Nat) (b : ByteArray) (h : mayM tx z rt fr ps = true) (hb : b = bodyM z rt fr ps) (hsl : sl = tx % 2) : mayPg z ((1 : Nat) : Int) ((0 : Nat) : Int) sl 0 tx b = true := by
  obtain ⟨h0, hg, h2, h3, h4, h5⟩ := mayM_good h
  have hp := good_pos hg
  have hz : b.size = z - 24 := by rw [hb]; exact bodyM_size z rt fr ps (by omega)
  simp only [mayPg, Bool.and_eq_true, decide_eq_true_eq]
  exact ⟨hg, by omega, by omega, by omega, by omega, by omega, by omega, h0, by omega⟩
/-- The bytes of a meta's page. -/
def metaB (tx z rt fr ps : Nat) : ByteArray := pageB 1 0 (tx % 2) 0 tx (bodyM z rt fr ps)
theorem metaB_size (tx z rt fr ps : Nat) (h : 46 ≤ z) : (metaB tx z rt fr ps).size = z := by
  rw [metaB, pageB_size, bodyM_size z rt fr ps h]; omega
set_option maxRecDepth 100000 in
set_option maxHeartbeats 1600000 in
theorem mblock_is (tx z rt fr ps : Nat) (B : ByteArray) (w : World) (h : mayM tx z rt fr ps = true) (hB : B = metaB tx z rt fr ps) :
    Calls Try.prog 13 #[.agg #[.int .u64 tx, .int .i64 z, .int .u32 rt, .int .u32 fr, .int .u32 ps]] w fun e w' => e = .returned (.string B) ∧ Below w.heap.size w w' := by
  obtain ⟨b, hb⟩ : ∃ b, b = bodyM z rt fr ps := ⟨_, rfl⟩
  obtain ⟨sl, hsl⟩ : ∃ sl, sl = tx % 2 := ⟨_, rfl⟩
  have HP := fun w => rpage5_yes tx z rt fr ps sl b w h hb hsl
  have HQ : ∀ w : World, Calls Try.prog 30 #[.int .i64 z, .agg #[.int .i64 1, .int .i64 0, .int .u32 sl, .int .u32 0, .int .u64 tx, .string b]] w fun e w' => e = .returned (.tuple #[.string B, .int .i64 0]) ∧ Below w.heap.size w w' := fun w => by
    rw [hB, metaB, ← hsl, ← hb]
    exact rfput_yes z 1 0 sl 0 tx b w (meta_mayPg tx z rt fr ps sl b h hb hsl)
  clear h hB hb hsl
  obtain ⟨w0, hw0⟩ : ∃ w0, w0 = w.alloc (.cells #[.int .u64 tx, .int .i64 z, .int .u32 rt, .int .u32 fr, .int .u32 ps] 31) := ⟨_, rfl⟩
  have M0 := Lib.hid (show Blk w0 w.heap.size 31 #[.int .u64 tx, .int .i64 z, .int .u32 rt, .int .u32 fr, .int .u32 ps] by rw [hw0]; exact Blk.new _ _ _)
  have HB := Lib.hid (show Below w.heap.size w w0 by rw [hw0]; exact (Below.refl _ _).alloc (Nat.le_refl _) _)
  have c0 := M0.out.cell 0
  have c1 := M0.out.cell 1
  have c2 := M0.out.cell 2
  have c3 := M0.out.cell 3
  have c4 := M0.out.cell 4
  rw [hw0] at c0 c1 c2 c3 c4
  simp at c0 c1 c2 c3 c4
  go_enter Try.func13, Try.ntmps13
  go_wp2_with fail
  rw [← hw0]
  clear hw0 c0 c1 c2 c3 c4
  refine (HP _).mono ?_
  rintro e w1 ⟨rfl, hb⟩
  replace M0 := Lib.hid (M0.out.below hb M0.out.lt)
  replace HB := Lib.hid (HB.out.trans (hb.mono HB.out.size))
  clear hb HP
  obtain ⟨w2, hw2⟩ : ∃ w2, w2 = w1.alloc (.cells #[.int .i64 1, .int .i64 0, .int .u32 sl, .int .u32 0, .int .u64 tx, .string b] 26) := ⟨_, rfl⟩
  have Q0 := Lib.hid (show Blk w2 w1.heap.size 26 #[.int .i64 1, .int .i64 0, .int .u32 sl, .int .u32 0, .int .u64 tx, .string b] by rw [hw2]; exact Blk.new _ _ _)
  have hlt := M0.out.lt
  have n1 := M0.out.cell 1
  replace M0 := Lib.hid (show Blk w2 _ _ _ by rw [hw2]; exact M0.out.alloc _)
  replace HB := Lib.hid (show Below w.heap.size w w2 by rw [hw2]; exact HB.out.alloc HB.out.size _)
  have m1 := M0.out.cell 1
  have q0 := Q0.out.cell 0
  have q1 := Q0.out.cell 1
  have q2 := Q0.out.cell 2
  have q3 := Q0.out.cell 3
  have q4 := Q0.out.cell 4
  have q5 := Q0.out.cell 5
  rw [hw2] at m1 q0 q1 q2 q3 q4 q5
  simp at m1 n1 q0 q1 q2 q3 q4 q5
  go_wp2_with fail
  rw [← hw2]
  clear hw2 m1 n1 q0 q1 q2 q3 q4 q5
  refine (HQ _).mono ?_
  rintro e w3 ⟨rfl, hb⟩
  replace HB := Lib.hid (HB.out.trans (hb.mono HB.out.size))
  clear hb HQ
  go_wp2_with fail
  go_ret
  exact ⟨rfl, HB.out⟩
theorem metaB_parts (tx z rt fr ps : Nat) (h : mayM tx z rt fr ps = true) : blockOk z (tx % 2) (metaB tx z rt fr ps) = true ∧ numAt (metaB tx z rt fr ps) 4 1 = 1 ∧ numAt (metaB tx z rt fr ps) 6 2 = 0 ∧ numAt (metaB tx z rt fr ps) 8 4 = tx % 2 ∧ numAt (metaB tx z rt fr ps) 12 4 = 0 ∧ numAt (metaB tx z rt fr ps) 16 8 = tx ∧ (metaB tx z rt fr ps).extract 24 (metaB tx z rt fr ps).size = bodyM z rt fr ps := by
  obtain ⟨h0, hg, h2, h3, h4, h5⟩ := mayM_good h
  have hp := good_pos hg
  have hm := meta_mayPg tx z rt fr ps (tx % 2) _ h rfl rfl
  obtain ⟨e1, e2, e3, e4, e5, e6, e7⟩ := pageB_at 1 0 (tx % 2) 0 tx (bodyM z rt fr ps) (by omega) (by omega) (by omega) (by omega) (by omega)
  have hs := metaB_size tx z rt fr ps (by omega)
  have hsum := pageB_sum 1 0 (tx % 2) 0 tx (bodyM z rt fr ps)
  refine ⟨?_, e1, e3, e4, e5, e6, e7⟩
  simp only [blockOk, Bool.and_eq_true, decide_eq_true_eq]
  refine ⟨by rw [hs], hsum, e2, e4, ?_⟩
  have a1 : numAt (metaB tx z rt fr ps) 4 1 = 1 := e1
  have a3 : numAt (metaB tx z rt fr ps) 6 2 = 0 := e3
  have a4 : numAt (metaB tx z rt fr ps) 8 4 = tx % 2 := e4
  have a5 : numAt (metaB tx z rt fr ps) 12 4 = 0 := e5
  have a6 : numAt (metaB tx z rt fr ps) 16 8 = tx := e6
  have a7 : (metaB tx z rt fr ps).extract 24 (metaB tx z rt fr ps).size = bodyM z rt fr ps := e7
  rw [a1, a3, a4, a5, a6, a7]
  exact hm
/-- Where an image holds the block of a meta in its slot, that meta is read. -/
theorem metaAt_block (z n : Nat) (s : ByteArray) (tx rt fr ps : Nat) (h : mayM tx z rt fr ps = true) (hsl : n = tx % 2) (hn : n < s.size / z) (hblk : blkAt z s n = metaB tx z rt fr ps) : MetaAt z s n tx z rt fr ps true := by
  obtain ⟨h0, hg, h2, h3, h4, h5⟩ := mayM_good h
  have hp := good_pos hg
  obtain ⟨p0, p1, p2, p3, p4, p5, p6⟩ := metaB_parts tx z rt fr ps h
  obtain ⟨n1, n2, n3, n4⟩ := bodyM_nums z rt fr ps (by omega) (by omega) (by omega) (by omega)
  refine .inl ⟨z, rfl, ?_, ?_, rfl, ?_, ?_, ?_, rfl⟩
  · rw [metaOk, hblk, p1, p2, p3, p4, p5, p6]
    simp only [Bool.and_eq_true, decide_eq_true_eq]
    refine ⟨hg, hn, by rw [hsl]; exact p0, ?_⟩
    have := isM_page z tx z rt fr ps (tx % 2) _ h rfl rfl
    rw [decide_eq_true (rfl : (z : Int) = z)] at this
    exact this
  · rw [hblk, p5]
  · rw [hblk, p6, n2]
  · rw [hblk, p6, n3]
  · rw [hblk, p6, n4]
/-- Where the block is no right page, no meta is read. -/
theorem metaAt_bad (z n : Nat) (s : ByteArray) (h : blockOk z n (blkAt z s n) = false) : MetaAt z s n 0 0 0 0 0 false := by
  refine .inr ⟨fun q hq => ?_, rfl, rfl, rfl, rfl, rfl, rfl⟩
  obtain rfl : z = q := by omega
  rw [metaOk, h]
  simp
/-- Two pages of an image. -/
theorem blk_two (z : Nat) (a b : ByteArray) (ha : a.size = z) (hb : b.size = z) : blkAt z (a ++ b) 0 = a ∧ blkAt z (a ++ b) 1 = b ∧ (a ++ b).size = 2 * z := by
  refine ⟨?_, ?_, by rw [ByteArray.size_append]; omega⟩
  · apply bytes_ext
    rw [blkAt, Lib.extract_data, ByteArray.data_append, Array.toList_append]
    have : a.data.toList.length = z := by rw [size_list, ha]
    simp [this]
  · apply bytes_ext
    have h1 : a.data.toList.length = z := by rw [size_list, ha]
    have h2 : b.data.toList.length = z := by rw [size_list, hb]
    rw [blkAt, Lib.extract_data, ByteArray.data_append, Array.toList_append, Nat.one_mul, List.drop_left' h1, List.take_of_length_le (by omega)]
end Go.Proofs.Ytfmalohaaibhiaa
