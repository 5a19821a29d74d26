/-
  Contracts of what the statements on package meta call: the example that each begins with; the page of a meta, read.
-/
import Derived.Test.YtfmalohaaibhiaaMetaOf
import Derived.Deep.RegionHeld3
import Derived.Deep.DrawnRows
namespace Go.Proofs.Ytfmalohaaibhiaa
open Go.RowKit
open Go.Lib
set_option linter.unusedVariables false
set_option linter.unusedSimpArgs false
attribute [local go_sem ↓] Go.wp_at_zero Go.wp_at_succ

theorem meta_same (a0 a1 a2 a3 a4 : Int) (w : World) : (binOp .eql 31 (.agg #[.int .u64 a0, .int .i64 a1, .int .u32 a2, .int .u32 a3, .int .u32 a4]) (.agg #[.int .u64 a0, .int .i64 a1, .int .u32 a2, .int .u32 a3, .int .u32 a4])).run Try.prog w = .ok (.bool true) w := by
  simp [go_sem]
theorem numAt_mid (A B C : List UInt8) (s : ByteArray) (f k : Nat) (v : Nat) (hs : s.data.toList = A ++ (B ++ C)) (hf : A.length = f) (hk : B.length = k) (hv : leNat B = v) : numAt s f k = v := by
  rw [numAt, hs, mid A B C f k hf hk, hv]
/-- The numbers of a meta's body. -/
theorem bodyM_nums (z rt fr ps : Nat) (hz : z < 65536) (h1 : rt < 4294967296) (h2 : fr < 4294967296) (h3 : ps < 4294967296) :
    numAt (bodyM z rt fr ps) 8 2 = z ∧ numAt (bodyM z rt fr ps) 10 4 = rt ∧ numAt (bodyM z rt fr ps) 14 4 = fr ∧ numAt (bodyM z rt fr ps) 18 4 = ps := by
  have hl := bodyM_list z rt fr ps
  have hm : markL.length = 8 := rfl
  have a1 := leB_len 2 z
  have a2 := leB_len 4 rt
  have a3 := leB_len 4 fr
  have a4 := leB_len 4 ps
  have n1 := leNat_le 2 z (by omega)
  have n2 := leNat_le 4 rt (by omega)
  have n3 := leNat_le 4 fr (by omega)
  have n4 := leNat_le 4 ps (by omega)
  rw [numsL] at hl
  generalize leBytes 2 z = B1 at *
  generalize leBytes 4 rt = B2 at *
  generalize leBytes 4 fr = B3 at *
  generalize leBytes 4 ps = B4 at *
  generalize List.replicate (z - 24 - 22) (0 : UInt8) = Z at *
  generalize markL = M at *
  refine ⟨numAt_mid M B1 (B2 ++ (B3 ++ (B4 ++ Z))) _ 8 2 z ?_ hm a1 n1, numAt_mid (M ++ B1) B2 (B3 ++ (B4 ++ Z)) _ 10 4 rt ?_ ?_ a2 n2, numAt_mid (M ++ B1 ++ B2) B3 (B4 ++ Z) _ 14 4 fr ?_ ?_ a3 n3, numAt_mid (M ++ B1 ++ B2 ++ B3) B4 Z _ 18 4 ps ?_ ?_ a4 n4⟩
  all_goals first | (rw [hl]; simp only [List.append_assoc]; done) | (simp [hm, a1, a2, a3, a4]; done)
theorem mayM_good {tx : Nat} {z : Int} {rt fr pg : Nat} (h : mayM tx z rt fr pg = true) : tx ≤ 4611686018427387904 ∧ goodSize z = true ∧ 2 ≤ pg ∧ pg ≤ 2147483647 ∧ rt < pg ∧ fr < pg := by
  simp only [mayM, refM, Bool.and_eq_true, decide_eq_true_eq] at h
  obtain ⟨h0, hg, h2, h3, ⟨h4, _⟩, ⟨h5, _⟩⟩ := h
  exact ⟨h0, hg, h2, h3, h4, h5⟩
/-- The page of a valid meta is a meta of its own size only. -/
theorem isM_page (size : Int) (tx z rt fr ps sl : Nat) (b : ByteArray) (h : mayM tx z rt fr ps = true) (hb : b = bodyM z rt fr ps) (hsl : sl = tx % 2) : isM size 1 0 sl 0 tx b = decide ((z : Int) = size) := by
  obtain ⟨h0, hg, h2, h3, h4, h5⟩ := mayM_good h
  have hp := good_pos hg
  obtain ⟨e1, e2, e3, e4⟩ := bodyM_nums z rt fr ps (by omega) (by omega) (by omega) (by omega)
  have hiff := isM_iff size 1 0 sl 0 tx b z rt fr ps sl b hsl hb (fun _ => by rw [hb]; exact ⟨e1.symm, e2.symm, e3.symm, e4.symm⟩)
  rw [Bool.eq_iff_iff, hiff, decide_eq_true_eq]
  exact ⟨fun h => h.2.1, fun hs => ⟨h, hs, rfl, rfl, rfl, rfl, rfl, rfl⟩⟩
/-- Of on the page of a meta, with its own size. -/
theorem of_page (tx z rt fr ps sl : Nat) (b : ByteArray) (w : World) (h : mayM tx z rt fr ps = true) (hb : b = bodyM z rt fr ps) (hsl : sl = tx % 2) :
    Calls Try.prog 12 #[.int .i64 z, .agg #[.int .i64 1, .int .i64 0, .int .u32 sl, .int .u32 0, .int .u64 tx, .string b]] w fun e w' => e = .returned (.tuple #[.agg #[.int .u64 tx, .int .i64 z, .int .u32 rt, .int .u32 fr, .int .u32 ps], .int .i64 0]) ∧ Below w.heap.size w w' := by
  obtain ⟨h0, hg, h2, h3, h4, h5⟩ := mayM_good h
  have hp := good_pos hg
  obtain ⟨e1, e2, e3, e4⟩ := bodyM_nums z rt fr ps (by omega) (by omega) (by omega) (by omega)
  have := of_yes z 1 0 sl 0 tx b w (by rw [isM_page z tx z rt fr ps sl b h hb hsl]; simp)
  rw [hb, e2, e3, e4, ← hb] at this
  exact this
theorem of_page_no (size : Int) (tx z rt fr ps sl : Nat) (b : ByteArray) (w : World) (h : mayM tx z rt fr ps = true) (hb : b = bodyM z rt fr ps) (hsl : sl = tx % 2) (hs : ¬ (z : Int) = size) :
    Calls Try.prog 12 #[.int .i64 size, .agg #[.int .i64 1, .int .i64 0, .int .u32 sl, .int .u32 0, .int .u64 tx, .string b]] w fun e w' => e = .returned (.tuple #[.agg #[.int .u64 0, .int .i64 0, .int .u32 0, .int .u32 0, .int .u32 0], .int .i64 4]) ∧ Below w.heap.size w w' :=
  of_no size 1 0 sl 0 tx b w (by rw [isM_page size tx z rt fr ps sl b h hb hsl]; simpa using hs)
theorem one_is (tx : Nat) (w : World) :
    Calls Try.prog 11 #[.int .u64 tx] w fun e w' => e = .returned (.agg #[.int .u64 tx, .int .i64 128, .int .u32 2, .int .u32 3, .int .u32 9]) ∧ Below w.heap.size w w' := by
  obtain ⟨hz, hi⟩ := zero_of_info infoMt
  have HI := Lib.hid hi
  clear hi
  go_enter Try.func11, Try.ntmps11
  go_wp2_with fail
  exact bodyPost_ret (results_cell_row rfl _ _ w.heap.size 31 #[.int .u64 tx, .int .i64 128, .int .u32 2, .int .u32 3, .int .u32 9] (0, 0) _ rfl (Blk.new _ _ _) Try.underlying31 rfl HI.out) rfl ⟨rfl, (Below.refl _ _).alloc (Nat.le_refl _) _⟩

set_option maxHeartbeats 1600000 in
set_option maxRecDepth 100000 in
theorem lives5_any (w : World) : Calls Try.prog 9 #[] w fun e w' => e = .returned (.bool true) ∧ Below w.heap.size w w' := by
  obtain ⟨b, hb⟩ : ∃ b, b = bodyM 128 2 3 9 := ⟨_, rfl⟩
  have hm : mayM 7 128 2 3 9 = true := by decide
  have HO : ∀ w : World, Calls Try.prog 11 #[.int .u64 7] w fun e w' => e = .returned (.agg #[.int .u64 7, .int .i64 128, .int .u32 2, .int .u32 3, .int .u32 9]) ∧ Below w.heap.size w w' := fun w => one_is 7 w
  have HP := fun w => mpage_yes 7 128 2 3 9 1 b w hm hb rfl
  have HF := fun w => of_page 7 128 2 3 9 1 b w hm hb rfl
  have HS : ∀ w : World, Calls Try.prog 17 #[.int .u64 7] w fun e w' => e = .returned (.int .u32 1) ∧ w' = w := fun w => slot_is 7 1 w rfl
  have heq := fun w => meta_same 7 128 2 3 9 w
  have HB := Lib.hid (Below.refl w.heap.size w)
  clear hb hm
  go_enter Try.func9, Try.ntmps9
  go_wp2_with fail
  refine (HO _).mono ?_
  rintro e w1 ⟨rfl, hb⟩
  replace HB := Lib.hid (HB.out.trans (hb.mono HB.out.size))
  clear hb
  go_wp2_with fail
  refine (HP _).mono ?_
  rintro e w2 ⟨rfl, hb⟩
  replace HB := Lib.hid (HB.out.trans (hb.mono HB.out.size))
  clear hb
  obtain ⟨w3, hw3⟩ : ∃ w3, w3 = w2.alloc (.cells #[.int .i64 1, .int .i64 0, .int .u32 1, .int .u32 0, .int .u64 7, .string b] 26) := ⟨_, rfl⟩
  have P0 := Lib.hid (show Blk w3 w2.heap.size 26 #[.int .i64 1, .int .i64 0, .int .u32 1, .int .u32 0, .int .u64 7, .string b] by rw [hw3]; exact Blk.new _ _ _)
  replace HB := Lib.hid (show Below w.heap.size w w3 by rw [hw3]; exact HB.out.alloc HB.out.size _)
  go_wp2_with fail
  rw [← hw3]
  clear hw3
  refine (HF _).mono ?_
  rintro e w4 ⟨rfl, hb⟩
  replace HB := Lib.hid (HB.out.trans (hb.mono HB.out.size))
  replace P0 := Lib.hid (P0.out.below hb P0.out.lt)
  clear hb
  obtain ⟨w5, hw5⟩ : ∃ w5, w5 = w4.alloc (.cells #[.int .u64 7, .int .i64 128, .int .u32 2, .int .u32 3, .int .u32 9] 31) := ⟨_, rfl⟩
  have M0 := Lib.hid (show Blk w5 w4.heap.size 31 #[.int .u64 7, .int .i64 128, .int .u32 2, .int .u32 3, .int .u32 9] by rw [hw5]; exact Blk.new _ _ _)
  replace HB := Lib.hid (show Below w.heap.size w w5 by rw [hw5]; exact HB.out.alloc HB.out.size _)
  replace P0 := Lib.hid (show Blk w5 w2.heap.size _ _ by rw [hw5]; exact P0.out.alloc _)
  go_wp2_with fail
  rw [← hw5]
  clear hw5
  replace M0 := Lib.hid M0.out.drew
  replace P0 := Lib.hid P0.out.drew
  replace HB := Lib.hid HB.out.drew
  go_region_held3 (fun w' => (w'.cell? ⟨w2.heap.size, 2, none⟩ = some (.int .u32 1)) ∧ (w'.cell? ⟨w4.heap.size, 0, none⟩ = some (.int .u64 7) ∧ w'.cell? ⟨w4.heap.size, 1, none⟩ = some (.int .i64 128) ∧ w'.cell? ⟨w4.heap.size, 2, none⟩ = some (.int .u32 2) ∧ w'.cell? ⟨w4.heap.size, 3, none⟩ = some (.int .u32 3) ∧ w'.cell? ⟨w4.heap.size, 4, none⟩ = some (.int .u32 9)))
    (exact ⟨P0.out.cell 2, meta_cells M0.out⟩)
    (first
    | (go_at_call 17
       with_reducible refine (HS _).mono ?_
       rintro e w' ⟨rfl, rfl⟩)
    | (go_at_call 11
       with_reducible refine (HO _).mono ?_
       rintro e w' ⟨rfl, hb⟩
       replace P0 := Lib.hid (P0.out.below hb P0.out.lt)
       replace M0 := Lib.hid (M0.out.below hb M0.out.lt)
       replace HB := Lib.hid (HB.out.trans (hb.mono HB.out.size))
       clear hb))
  all_goals (try go_wp2_with fail)
  go_ret
  exact ⟨rfl, HB.out⟩
end Go.Proofs.Ytfmalohaaibhiaa
