/-
  Contracts of what the statements of layer 6 share: row and lives.
-/
import Derived.Test.YtgljmcameeeaiaaCatImpl
import Derived.Test.YtgljmcameeeaiaaKit6
import Derived.Deep.CutRange
namespace Go.Proofs.Ytgljmcameeeaiaa
open Go.RowKit
open Go.Lib hiding intOf
set_option linter.unusedVariables false
set_option linter.unusedSimpArgs false
attribute [local go_sem ↓] Go.wp_at_zero Go.wp_at_succ

def bkA : Bk := ⟨⟨#[97]⟩, 5, 3⟩
def bkC : Bk := ⟨⟨#[99]⟩, 0, 0⟩
def rowL : List Bk := [bkA, bkC]
theorem row_is (w : World) : Calls Try.prog 10 #[] w fun e w' => ∃ A c, e = .returned (.slice A 2 c) ∧ Reads w' w'.heap.size 3 A 2 (bkc rowL) ∧ 2 ≤ c ∧ c ≤ maxLen ∧ Below w.heap.size w w' := by
  go_enter Try.func10, Try.ntmps10
  go_wp2
  go_ret
  exact ⟨_, 2, rfl, (reads_own (n := 2) (Blk.new w _ _) rfl).more (by simp), by decide, by decide, (Below.refl _ _).alloc (Nat.le_refl _) _⟩
theorem row_may : mayC ((128 : Nat) : Int) 7 5 rowL = true := by decide +kernel
set_option maxRecDepth 100000 in
set_option maxHeartbeats 3200000 in
theorem lives6_any (w : World) : Calls Try.prog 8 #[] w fun e w' => e = .returned (.bool true) ∧ Below w.heap.size w w' := by
  obtain ⟨B, hB⟩ : ∃ B, B = catBody 128 rowL := ⟨_, rfl⟩
  have hBs : B.size = 104 := by rw [hB, catBody_size 128 rowL (by decide)]
  have HOf := fun w => cof6_any 2 2 7 0 5 B w (by omega)
  have hrd : readC 2 2 7 0 5 B = some rowL := by rw [hB]; exact readC_page row_may
  rw [hrd] at HOf
  have HPg := fun (A : Option Addr) (c : Nat) (w : World) (hr : Reads w w.heap.size 3 A 2 (bkc rowL)) => cpage6_yes 128 7 5 A 2 c rowL w hr (by decide) row_may
  rw [← hB] at HPg
  clear hB hBs hrd
  obtain ⟨hz, hi⟩ := zero_of_info infoPg
  have HI := Lib.hid hi
  clear hi
  go_enter Try.func8, Try.ntmps8
  go_wp2_with fail
  refine (row_is w).mono ?_
  rintro e w1 ⟨A, c, rfl, hr, _, _, hb⟩
  have HB := Lib.hid hb
  have HR := Lib.hid hr
  clear hb hr
  go_wp2_with fail
  refine (HPg A c _ HR.out).mono ?_
  rintro e w2 ⟨rfl, hb⟩
  replace HB := Lib.hid (HB.out.trans (hb.mono HB.out.size))
  clear hb HPg HR
  obtain ⟨w3, hw3⟩ : ∃ x, x = w2.alloc (.cells #[.int .i64 2, .int .i64 2, .int .u32 7, .int .u32 0, .int .u64 5, .string B] 26) := ⟨_, rfl⟩
  have X := Lib.hid (show Blk w3 w2.heap.size 26 #[.int .i64 2, .int .i64 2, .int .u32 7, .int .u32 0, .int .u64 5, .string B] by rw [hw3]; exact Blk.new _ _ _)
  replace HB := Lib.hid (show Below w.heap.size w w3 by rw [hw3]; exact HB.out.alloc HB.out.size _)
  go_upto_region 2 with fail
  rw [← hw3]
  clear hw3
  generalize w2.heap.size = gX at *
  have x0 := X.out.cell 0
  have x1 := X.out.cell 1
  have x2 := X.out.cell 2
  have x3 := X.out.cell 3
  have x4 := X.out.cell 4
  have x5 := X.out.cell 5
  simp at x0 x1 x2 x3 x4 x5
  go_wp2_with fail
  refine (HOf _).mono ?_
  intro e w4 hpost
  obtain ⟨A4, n4, c4, rfl, hr4, hc4, hm4, hb⟩ := hpost
  obtain rfl : n4 = 2 := (bk_len hr4).symm
  replace HB := Lib.hid (HB.out.trans (hb.mono HB.out.size))
  have HR4 := Lib.hid hr4
  clear hb HOf x0 x1 x2 x3 x4 x5 X hr4
  obtain ⟨w5, hw5⟩ : ∃ x, x = w4.alloc (.cells #[.string ⟨#[97]⟩, .int .u32 0, .int .i64 0] 33) := ⟨_, rfl⟩
  have HS := csize_any (some ⟨w4.heap.size, 0, none⟩) 1 1 [⟨⟨#[97]⟩, 0, 0⟩] w5 (by rw [hw5]; exact (reads_own (n := 1) (Blk.new w4 _ _) rfl).more (by simp)) (by decide) (by decide)
  replace HB := Lib.hid (show Below w.heap.size w w5 by rw [hw5]; exact HB.out.alloc HB.out.size _)
  replace HR4 := Lib.hid (show Reads w5 w5.heap.size 3 A4 2 (bkc rowL) by rw [hw5]; exact (HR4.out.alloc (Nat.le_refl _) _).more (by simp))
  have hz10 : ((sizeB [⟨⟨#[97]⟩, 0, 0⟩] : Nat) : Int) = 10 := by decide
  rw [hz10] at HS
  clear hz10
  go_wp2_with fail
  rw [← hw5]
  clear hw5
  refine HS.mono ?_
  rintro e w6 ⟨rfl, hb⟩
  replace HB := Lib.hid (HB.out.trans (hb.mono HB.out.size))
  replace HR4 := Lib.hid ((HR4.out.below hb).more hb.size)
  clear hb HS
  go_wp2_with fail
  refine (row_is _).mono ?_
  rintro e w7 ⟨A7, c7, rfl, hr, _, _, hb⟩
  have HR7 := Lib.hid hr
  replace HB := Lib.hid (HB.out.trans (hb.mono HB.out.size))
  replace HR4 := Lib.hid ((HR4.out.below hb).more hb.size)
  clear hb hr
  go_wp2_with fail
  refine (same6_yes A4 2 c4 A7 c7 rowL _ HR4.out HR7.out (by decide)).mono ?_
  rintro e w8 ⟨rfl, q, hq⟩
  subst hq
  go_wp2_with fail
  go_ret
  exact ⟨rfl, below_drewN HB.out q⟩
theorem light_size {l : List Bk} (h : lightB l = true) (hb : ∀ b, b ∈ l → b.nm.size ≤ 140737488351232) : l.length ≤ 60 ∧ sizeB l ≤ 9007199254740992 := by
  have h0 : ∀ l : List Bk, (∀ b, b ∈ l → b.nm.size ≤ 140737488351232) → sizeB l ≤ l.length * 140737488351241 := by
    intro l
    induction l with
    | nil => simp [sizeB]
    | cons b l ih =>
      intro hx
      have h1 := hx b List.mem_cons_self
      have h2 := ih fun x hx' => hx x (List.mem_cons_of_mem _ hx')
      simp only [sizeB, List.length_cons, Nat.add_mul]
      omega
  simp only [lightB, Bool.and_eq_true, decide_eq_true_eq] at h
  have := h0 l hb
  exact ⟨h.1, by omega⟩
end Go.Proofs.Ytgljmcameeeaiaa
