/-
  The walk of the statement CatalogSets: from every start, at every argument, it returns true and changes no block that was there before.
-/
import Derived.Test.YtgljmcameeeaiaaCatLaw
import Derived.Test.YtgljmcameeeaiaaBkOpen
import Derived.Test.YtgljmcameeeaiaaOrder
import Derived.Deep.CutRange
import Derived.Deep.RegionHeld3
namespace Go.Proofs.Ytgljmcameeeaiaa
open Go.RowKit
open Go.Lib hiding intOf
set_option linter.unusedVariables false
set_option linter.unusedSimpArgs false
attribute [local go_sem ↓] Go.wp_at_zero Go.wp_at_succ

theorem light_size2 {l : List Bk} (h : lightB l = true) (hb : ∀ b, b ∈ l → b.nm.size ≤ 140737488351232) : l.length ≤ 60 ∧ sizeB l ≤ 8444249301074460 := by
  have h0 : ∀ l : List Bk, (∀ b, b ∈ l → b.nm.size ≤ 140737488351232) → sizeB l ≤ l.length * 140737488351241 := by
    intro l
    induction l with
    | nil => simp [sizeB]
    | cons b l ih =>
      intro hx
      have h1 := hx b List.mem_cons_self
      have h2 := ih fun x hx' => hx x (List.mem_cons_of_mem _ hx')
      simp only [sizeB, List.length_cons, Nat.add_mul]
      omega
  simp only [lightB, Bool.and_eq_true, decide_eq_true_eq] at h
  have := h0 l hb
  exact ⟨h.1, by omega⟩
theorem size_drop_le : ∀ (l : List Bk) (k : Nat), sizeB (l.drop k) ≤ sizeB l
  | [], k => by simp [sizeB]
  | b :: l, 0 => by simp
  | b :: l, k + 1 => by
    have := size_drop_le l k
    simp only [List.drop_succ_cons, sizeB]
    omega
theorem size_setB (l : List Bk) (b : Bk) : sizeB (setB l b) ≤ sizeB l + 9 + b.nm.size := by
  unfold setB
  rw [sizeB_append]
  simp only [sizeB]
  have h1 : sizeB (l.take (fI l b.nm)) + sizeB (l.drop (fI l b.nm)) = sizeB l := by rw [← sizeB_append, List.take_append_drop]
  have h2 : sizeB (l.drop (if isI l b.nm = true then fI l b.nm + 1 else fI l b.nm)) ≤ sizeB (l.drop (fI l b.nm)) := by
    split
    · rw [← List.drop_drop]; exact size_drop_le _ 1
    · exact Nat.le_refl _
  omega
theorem bk_same3 (a : ByteArray) (b c : Int) (w : World) : (binOp .neq 33 (.agg #[.string a, .int .u32 b, .int .i64 c]) (.agg #[.string a, .int .u32 b, .int .i64 c])).run Try.prog w = .ok (.bool false) w := by
  simp [go_sem]
theorem bk_cells3 {w : World} {g : Nat} {a0 a1 a2 : Value} (h : Blk w g 33 #[a0, a1, a2]) : w.cell? ⟨g, 0, none⟩ = some a0 ∧ w.cell? ⟨g, 1, none⟩ = some a1 ∧ w.cell? ⟨g, 2, none⟩ = some a2 := ⟨h.cell 0, h.cell 1, h.cell 2⟩
/-- The first k names ascend, one after the other. -/
def upTo (l : List Bk) (k : Nat) : Prop := ∀ j a b, j + 1 < k → l[j]? = some a → l[j + 1]? = some b → Op.bytesLess a.nm.toList b.nm.toList = true
theorem upTo_one (l : List Bk) : upTo l 1 := fun j a b h => absurd h (by omega)
theorem upTo_succ {l : List Bk} {k : Nat} {a b : Bk} (h : upTo l k) (hk : 1 ≤ k) (ha : l[k - 1]? = some a) (hb : l[k]? = some b) (hl : Op.bytesLess a.nm.toList b.nm.toList = true) : upTo l (k + 1) := fun j x y hj hx hy => by
  by_cases hjk : j + 1 < k
  · exact h j x y hjk hx hy
  · obtain rfl : j = k - 1 := by omega
    rw [ha] at hx
    rw [show k - 1 + 1 = k by omega, hb] at hy
    injection hx with hx
    injection hy with hy
    subst hx hy
    exact hl
theorem upTo_asc {l : List Bk} {k : Nat} (h : upTo l k) (hk : l.length ≤ k) : Asc l := by
  rw [← ascB_Asc]
  intro i j a b hij ha hb
  induction j generalizing b with
  | zero => omega
  | succ j ih =>
    have hj := (List.getElem?_eq_some_iff.1 hb).1
    obtain ⟨y, hy⟩ : ∃ y, l[j]? = some y := ⟨l[j], List.getElem?_eq_getElem (by omega)⟩
    have h2 := h j y b (by omega) hy hb
    by_cases hji : i = j
    · subst hji
      rw [ha] at hy
      injection hy with hy
      rw [hy]
      exact h2
    · exact less_trans (ih y (by omega) hy) h2

set_option maxRecDepth 100000 in
set_option maxHeartbeats 12800000 in
theorem csets_no (A : Option Addr) (m c : Nat) (l : List Bk) (an : ByteArray) (ar : Nat) (ak : Int) (bn : ByteArray) (br : Nat) (bk : Int) (w : World) (hr : Reads w w.heap.size 3 A m (bkc l)) (hm : m ≤ 4398046511104) (hmc : m ≤ c) (hcm : c ≤ maxLen) (hl : lightB l = false) :
    Calls Try.prog 7 #[.slice A m c, .agg #[.string an, .int .u32 ar, .int .i64 ak], .agg #[.string bn, .int .u32 br, .int .i64 bk]] w fun e w' => e = .returned (.bool true) ∧ Below w.heap.size w w' := by
  have HR := Lib.hid hr
  have HM := Lib.hid hm
  have HLi := Lib.hid hl
  clear hr hm hl hmc hcm
  have HB := Lib.hid (Below.refl w.heap.size w)
  go_enter Try.func7, Try.ntmps7
  obtain ⟨v102, hv102⟩ : ∃ x, x = w.alloc (.cells #[.string an, .int .u32 ar, .int .i64 ak] 33) := ⟨_, rfl⟩
  have sav102 : w.heap.size = w.heap.size := by first | rfl | omega
  have ge_Ba := Lib.hid (show w.heap.size ≤ w.heap.size from sav102 ▸ HB.out.size)
  replace HB := Lib.hid (show Below w.heap.size w v102 by rw [hv102]; exact HB.out.alloc HB.out.size _)
  have Ba := Lib.hid (show Blk v102 w.heap.size 33 #[.string an, .int .u32 ar, .int .i64 ak] by rw [hv102, ← sav102]; exact Blk.new _ _ _)
  have szv102 : v102.heap.size = w.heap.size + 1 := by rw [hv102]; simp
  obtain ⟨w101, hw101⟩ : ∃ x, x = v102.alloc (.cells #[.string bn, .int .u32 br, .int .i64 bk] 33) := ⟨_, rfl⟩
  have saw101 : v102.heap.size = (w.heap.size + 1) := by first | rfl | omega
  have lt_Ba_Bb := Lib.hid (show w.heap.size < (w.heap.size + 1) from saw101 ▸ Ba.out.lt)
  replace Ba := Lib.hid (show Blk w101 w.heap.size 33 #[.string an, .int .u32 ar, .int .i64 ak] by rw [hw101]; exact Ba.out.alloc _)
  have ge_Bb := Lib.hid (show w.heap.size ≤ (w.heap.size + 1) from saw101 ▸ HB.out.size)
  replace HB := Lib.hid (show Below w.heap.size w w101 by rw [hw101]; exact HB.out.alloc HB.out.size _)
  have Bb := Lib.hid (show Blk w101 (w.heap.size + 1) 33 #[.string bn, .int .u32 br, .int .i64 bk] by rw [hw101, ← saw101]; exact Blk.new _ _ _)
  have szw101 : w101.heap.size = v102.heap.size + 1 := by rw [hw101]; simp
  clear sav102 szv102 saw101 szw101
  go_wp2_with fail
  rw [← hv102, ← hw101]
  clear hv102 hw101
  generalize (w.heap.size + 1) = gBb at *
  refine (lives6_any _).mono ?_
  rintro e w103 ⟨rfl, hb⟩
  replace HB := Lib.hid (HB.out.trans (hb.mono HB.out.size))
  replace Ba := Lib.hid (Ba.out.below hb Ba.out.lt)
  replace Bb := Lib.hid (Bb.out.below hb Bb.out.lt)
  clear hb
  have uBa_0 := Ba.out.cell 0
  have uBa_1 := Ba.out.cell 1
  have uBa_2 := Ba.out.cell 2
  have uBb_0 := Bb.out.cell 0
  have uBb_1 := Bb.out.cell 1
  have uBb_2 := Bb.out.cell 2
  simp at uBa_0 uBa_1 uBa_2 uBb_0 uBb_1 uBb_2
  go_wp2_with fail
  refine (light6_any A m c l _ (HR.out.below HB.out) (Nat.le_trans HM.out (by decide))).mono ?_
  rintro e w104 ⟨rfl, rfl⟩
  rw [HLi.out]
  go_wp2_with fail
  go_ret
  exact ⟨rfl, HB.out⟩
set_option maxRecDepth 100000 in
set_option maxHeartbeats 12800000 in
theorem csets_a (A : Option Addr) (m c : Nat) (l : List Bk) (an : ByteArray) (ar : Nat) (ak : Int) (bn : ByteArray) (br : Nat) (bk : Int) (w : World) (hr : Reads w w.heap.size 3 A m (bkc l)) (hm : m ≤ 4398046511104) (hmc : m ≤ c) (hcm : c ≤ maxLen) (hl : lightB l = true) (ha : 100 < an.size) :
    Calls Try.prog 7 #[.slice A m c, .agg #[.string an, .int .u32 ar, .int .i64 ak], .agg #[.string bn, .int .u32 br, .int .i64 bk]] w fun e w' => e = .returned (.bool true) ∧ Below w.heap.size w w' := by
  have HR := Lib.hid hr
  have HM := Lib.hid hm
  have HLi := Lib.hid hl
  have hdan : decide ((100 : Int) < an.size) = true := by simp; omega
  have hean : decide (100 < an.size) = true := by simp; omega
  clear ha
  clear hr hm hl hmc hcm
  have HB := Lib.hid (Below.refl w.heap.size w)
  go_enter Try.func7, Try.ntmps7
  obtain ⟨v102, hv102⟩ : ∃ x, x = w.alloc (.cells #[.string an, .int .u32 ar, .int .i64 ak] 33) := ⟨_, rfl⟩
  have sav102 : w.heap.size = w.heap.size := by first | rfl | omega
  have ge_Ba := Lib.hid (show w.heap.size ≤ w.heap.size from sav102 ▸ HB.out.size)
  replace HB := Lib.hid (show Below w.heap.size w v102 by rw [hv102]; exact HB.out.alloc HB.out.size _)
  have Ba := Lib.hid (show Blk v102 w.heap.size 33 #[.string an, .int .u32 ar, .int .i64 ak] by rw [hv102, ← sav102]; exact Blk.new _ _ _)
  have szv102 : v102.heap.size = w.heap.size + 1 := by rw [hv102]; simp
  obtain ⟨w101, hw101⟩ : ∃ x, x = v102.alloc (.cells #[.string bn, .int .u32 br, .int .i64 bk] 33) := ⟨_, rfl⟩
  have saw101 : v102.heap.size = (w.heap.size + 1) := by first | rfl | omega
  have lt_Ba_Bb := Lib.hid (show w.heap.size < (w.heap.size + 1) from saw101 ▸ Ba.out.lt)
  replace Ba := Lib.hid (show Blk w101 w.heap.size 33 #[.string an, .int .u32 ar, .int .i64 ak] by rw [hw101]; exact Ba.out.alloc _)
  have ge_Bb := Lib.hid (show w.heap.size ≤ (w.heap.size + 1) from saw101 ▸ HB.out.size)
  replace HB := Lib.hid (show Below w.heap.size w w101 by rw [hw101]; exact HB.out.alloc HB.out.size _)
  have Bb := Lib.hid (show Blk w101 (w.heap.size + 1) 33 #[.string bn, .int .u32 br, .int .i64 bk] by rw [hw101, ← saw101]; exact Blk.new _ _ _)
  have szw101 : w101.heap.size = v102.heap.size + 1 := by rw [hw101]; simp
  clear sav102 szv102 saw101 szw101
  go_wp2_with fail
  rw [← hv102, ← hw101]
  clear hv102 hw101
  generalize (w.heap.size + 1) = gBb at *
  refine (lives6_any _).mono ?_
  rintro e w103 ⟨rfl, hb⟩
  replace HB := Lib.hid (HB.out.trans (hb.mono HB.out.size))
  replace Ba := Lib.hid (Ba.out.below hb Ba.out.lt)
  replace Bb := Lib.hid (Bb.out.below hb Bb.out.lt)
  clear hb
  have uBa_0 := Ba.out.cell 0
  have uBa_1 := Ba.out.cell 1
  have uBa_2 := Ba.out.cell 2
  have uBb_0 := Bb.out.cell 0
  have uBb_1 := Bb.out.cell 1
  have uBb_2 := Bb.out.cell 2
  simp at uBa_0 uBa_1 uBa_2 uBb_0 uBb_1 uBb_2
  go_wp2_with fail
  refine (light6_any A m c l _ (HR.out.below HB.out) (Nat.le_trans HM.out (by decide))).mono ?_
  rintro e w104 ⟨rfl, rfl⟩
  rw [HLi.out]
  go_wp2_with fail
  go_ret
  exact ⟨rfl, HB.out⟩
set_option maxRecDepth 100000 in
set_option maxHeartbeats 12800000 in
theorem csets_b (A : Option Addr) (m c : Nat) (l : List Bk) (an : ByteArray) (ar : Nat) (ak : Int) (bn : ByteArray) (br : Nat) (bk : Int) (w : World) (hr : Reads w w.heap.size 3 A m (bkc l)) (hm : m ≤ 4398046511104) (hmc : m ≤ c) (hcm : c ≤ maxLen) (hl : lightB l = true) (ha : ¬ 100 < an.size) (hb : 100 < bn.size) :
    Calls Try.prog 7 #[.slice A m c, .agg #[.string an, .int .u32 ar, .int .i64 ak], .agg #[.string bn, .int .u32 br, .int .i64 bk]] w fun e w' => e = .returned (.bool true) ∧ Below w.heap.size w w' := by
  have HR := Lib.hid hr
  have HM := Lib.hid hm
  have HLi := Lib.hid hl
  have hdan : decide ((100 : Int) < an.size) = false := by simp; omega
  have hean : decide (100 < an.size) = false := by simp; omega
  have hdbn : decide ((100 : Int) < bn.size) = true := by simp; omega
  have hebn : decide (100 < bn.size) = true := by simp; omega
  clear ha hb
  clear hr hm hl hmc hcm
  have HB := Lib.hid (Below.refl w.heap.size w)
  go_enter Try.func7, Try.ntmps7
  obtain ⟨v102, hv102⟩ : ∃ x, x = w.alloc (.cells #[.string an, .int .u32 ar, .int .i64 ak] 33) := ⟨_, rfl⟩
  have sav102 : w.heap.size = w.heap.size := by first | rfl | omega
  have ge_Ba := Lib.hid (show w.heap.size ≤ w.heap.size from sav102 ▸ HB.out.size)
  replace HB := Lib.hid (show Below w.heap.size w v102 by rw [hv102]; exact HB.out.alloc HB.out.size _)
  have Ba := Lib.hid (show Blk v102 w.heap.size 33 #[.string an, .int .u32 ar, .int .i64 ak] by rw [hv102, ← sav102]; exact Blk.new _ _ _)
  have szv102 : v102.heap.size = w.heap.size + 1 := by rw [hv102]; simp
  obtain ⟨w101, hw101⟩ : ∃ x, x = v102.alloc (.cells #[.string bn, .int .u32 br, .int .i64 bk] 33) := ⟨_, rfl⟩
  have saw101 : v102.heap.size = (w.heap.size + 1) := by first | rfl | omega
  have lt_Ba_Bb := Lib.hid (show w.heap.size < (w.heap.size + 1) from saw101 ▸ Ba.out.lt)
  replace Ba := Lib.hid (show Blk w101 w.heap.size 33 #[.string an, .int .u32 ar, .int .i64 ak] by rw [hw101]; exact Ba.out.alloc _)
  have ge_Bb := Lib.hid (show w.heap.size ≤ (w.heap.size + 1) from saw101 ▸ HB.out.size)
  replace HB := Lib.hid (show Below w.heap.size w w101 by rw [hw101]; exact HB.out.alloc HB.out.size _)
  have Bb := Lib.hid (show Blk w101 (w.heap.size + 1) 33 #[.string bn, .int .u32 br, .int .i64 bk] by rw [hw101, ← saw101]; exact Blk.new _ _ _)
  have szw101 : w101.heap.size = v102.heap.size + 1 := by rw [hw101]; simp
  clear sav102 szv102 saw101 szw101
  go_wp2_with fail
  rw [← hv102, ← hw101]
  clear hv102 hw101
  generalize (w.heap.size + 1) = gBb at *
  refine (lives6_any _).mono ?_
  rintro e w103 ⟨rfl, hb⟩
  replace HB := Lib.hid (HB.out.trans (hb.mono HB.out.size))
  replace Ba := Lib.hid (Ba.out.below hb Ba.out.lt)
  replace Bb := Lib.hid (Bb.out.below hb Bb.out.lt)
  clear hb
  have uBa_0 := Ba.out.cell 0
  have uBa_1 := Ba.out.cell 1
  have uBa_2 := Ba.out.cell 2
  have uBb_0 := Bb.out.cell 0
  have uBb_1 := Bb.out.cell 1
  have uBb_2 := Bb.out.cell 2
  simp at uBa_0 uBa_1 uBa_2 uBb_0 uBb_1 uBb_2
  go_wp2_with fail
  refine (light6_any A m c l _ (HR.out.below HB.out) (Nat.le_trans HM.out (by decide))).mono ?_
  rintro e w104 ⟨rfl, rfl⟩
  rw [HLi.out]
  go_wp2_with fail
  go_ret
  exact ⟨rfl, HB.out⟩
set_option maxRecDepth 100000 in
set_option maxHeartbeats 12800000 in
theorem csets_main (A : Option Addr) (m c : Nat) (l : List Bk) (an : ByteArray) (ar : Nat) (ak : Int) (bn : ByteArray) (br : Nat) (bk : Int) (w : World) (hr : Reads w w.heap.size 3 A m (bkc l)) (hm : m ≤ 4398046511104) (hmc : m ≤ c) (hcm : c ≤ maxLen) (hl : lightB l = true) (ha : ¬ 100 < an.size) (hb : ¬ 100 < bn.size) (h60 : m ≤ 60) (hsz : sizeB l ≤ 8444249301074460) :
    Calls Try.prog 7 #[.slice A m c, .agg #[.string an, .int .u32 ar, .int .i64 ak], .agg #[.string bn, .int .u32 br, .int .i64 bk]] w fun e w' => e = .returned (.bool true) ∧ Below w.heap.size w w' := by
  have HR := Lib.hid hr
  have HM := Lib.hid hm
  have HLi := Lib.hid hl
  have HMC := Lib.hid hmc
  have HCM := Lib.hid hcm
  have H60 := Lib.hid h60
  have HSZ := Lib.hid hsz
  have HAn := Lib.hid (show an.size ≤ 100 by omega)
  have HL := Lib.hid (bk_len hr)
  have hdan : decide ((100 : Int) < an.size) = false := by simp; omega
  have hean : decide (100 < an.size) = false := by simp; omega
  have hdbn : decide ((100 : Int) < bn.size) = false := by simp; omega
  have hebn : decide (100 < bn.size) = false := by simp; omega
  clear hr hm hl ha hb hmc hcm hsz
  have HB := Lib.hid (Below.refl w.heap.size w)
  go_enter Try.func7, Try.ntmps7
  obtain ⟨v102, hv102⟩ : ∃ x, x = w.alloc (.cells #[.string an, .int .u32 ar, .int .i64 ak] 33) := ⟨_, rfl⟩
  have sav102 : w.heap.size = w.heap.size := by first | rfl | omega
  have ge_Ba := Lib.hid (show w.heap.size ≤ w.heap.size from sav102 ▸ HB.out.size)
  replace HB := Lib.hid (show Below w.heap.size w v102 by rw [hv102]; exact HB.out.alloc HB.out.size _)
  have Ba := Lib.hid (show Blk v102 w.heap.size 33 #[.string an, .int .u32 ar, .int .i64 ak] by rw [hv102, ← sav102]; exact Blk.new _ _ _)
  have szv102 : v102.heap.size = w.heap.size + 1 := by rw [hv102]; simp
  obtain ⟨w101, hw101⟩ : ∃ x, x = v102.alloc (.cells #[.string bn, .int .u32 br, .int .i64 bk] 33) := ⟨_, rfl⟩
  have saw101 : v102.heap.size = (w.heap.size + 1) := by first | rfl | omega
  have lt_Ba_Bb := Lib.hid (show w.heap.size < (w.heap.size + 1) from saw101 ▸ Ba.out.lt)
  replace Ba := Lib.hid (show Blk w101 w.heap.size 33 #[.string an, .int .u32 ar, .int .i64 ak] by rw [hw101]; exact Ba.out.alloc _)
  have ge_Bb := Lib.hid (show w.heap.size ≤ (w.heap.size + 1) from saw101 ▸ HB.out.size)
  replace HB := Lib.hid (show Below w.heap.size w w101 by rw [hw101]; exact HB.out.alloc HB.out.size _)
  have Bb := Lib.hid (show Blk w101 (w.heap.size + 1) 33 #[.string bn, .int .u32 br, .int .i64 bk] by rw [hw101, ← saw101]; exact Blk.new _ _ _)
  have szw101 : w101.heap.size = v102.heap.size + 1 := by rw [hw101]; simp
  clear sav102 szv102 saw101 szw101
  go_wp2_with fail
  rw [← hv102, ← hw101]
  clear hv102 hw101
  generalize (w.heap.size + 1) = gBb at *
  refine (lives6_any _).mono ?_
  rintro e w103 ⟨rfl, hb⟩
  replace HB := Lib.hid (HB.out.trans (hb.mono HB.out.size))
  replace Ba := Lib.hid (Ba.out.below hb Ba.out.lt)
  replace Bb := Lib.hid (Bb.out.below hb Bb.out.lt)
  clear hb
  have uBa_0 := Ba.out.cell 0
  have uBa_1 := Ba.out.cell 1
  have uBa_2 := Ba.out.cell 2
  have uBb_0 := Bb.out.cell 0
  have uBb_1 := Bb.out.cell 1
  have uBb_2 := Bb.out.cell 2
  simp at uBa_0 uBa_1 uBa_2 uBb_0 uBb_1 uBb_2
  go_wp2_with fail
  refine (light6_any A m c l _ (HR.out.below HB.out) (Nat.le_trans HM.out (by decide))).mono ?_
  rintro e w104 ⟨rfl, rfl⟩
  rw [HLi.out]
  go_wp2_with fail
  clear hdan hean hdbn hebn
  go_loopw [7] (fun i wr => ∃ k : Nat, 1 ≤ k ∧ (k ≤ m ∨ k = 1) ∧ i = .int .i64 k ∧ Hid (upTo l k) ∧ Hid (Blk wr w.heap.size 33 #[.string an, .int .u32 ar, .int .i64 ak]) ∧ Hid (Blk wr gBb 33 #[.string bn, .int .u32 br, .int .i64 bk]) ∧ Hid (Below w.heap.size w wr)) (fun i _ => m + 1 - (intOf i).toNat)
  case atStart => exact ⟨1, Nat.le_refl _, .inr rfl, rfl, Lib.hid (upTo_one l), Ba, Bb, HB⟩
  case round =>
    clear Ba Bb HB
    obtain ⟨k, hk1, hk2, rfl, HU, Ba, Bb, HB⟩ := hrel
    by_cases hlt : k < m
    · obtain ⟨j, hj⟩ : ∃ j, j = k - 1 := ⟨_, rfl⟩
      obtain ⟨ad, y, rfl, _, hpy, hy, hcy⟩ := bk_at HR.out (show j < m by omega)
      obtain ⟨ad', x, had, _, hpx, hx, hcx⟩ := bk_at HR.out hlt
      injection had with had
      subst had
      obtain ⟨y0, _, _⟩ := hcy.below HB.out hpy
      obtain ⟨x0, _, _⟩ := hcx.below HB.out hpx
      have hj1 : IntKind.i64.wrap ((k : Int) - 1) = (j : Int) := by rw [IntKind.wrap_i64]; omega
      have hj2 : (k : Int) - 1 = (j : Int) := by omega
      have hj3 : (0 : Int) ≤ j := by omega
      have hj4 : (j : Int) < m := by omega
      have hk3 : (0 : Int) ≤ k := by omega
      have hk4 : (k : Int) < m := by omega
      rw [hj] at hy
      have HY := Lib.hid hy
      have HX := Lib.hid hx
      clear hy hx hj hcy hcx
      rcases hless : Op.bytesLess y.nm.toList x.nm.toList with _ | _
      · go_wp2_with fail
        go_quiet (fail)
        go_wp2_with fail
        go_ret
        exact ⟨rfl, below_drewN HB.out _⟩
      · go_wp2_with fail
        go_quiet (fail)
        clear hj1 hj2
        go_wp2_with fail
        have HU' := Lib.hid (upTo_succ HU.out hk1 HY.out HX.out hless)
        have Ba' := Lib.hid (Ba.out.drewN nq)
        have Bb' := Lib.hid (Bb.out.drewN nq)
        have HB' := Lib.hid (below_drewN HB.out nq)
        go_roundw
        case rel =>
          first
            | exact ⟨k + 1, by omega, .inl (by omega), by go_num, HU', Ba', Bb', HB'⟩
            | ((repeat apply Exists.intro); exact ⟨⟨k + 1, by omega, .inl (by omega), by go_num, HU', Ba', Bb', HB'⟩, rfl⟩)
        case measure => simp [intOf]; omega
    · have hasc := upTo_asc HU.out (by rw [HL.out]; omega)
      have HAsc := Lib.hid hasc
      have hk4 : ¬ (k : Int) < m := by omega
      have hk5 : (k : Int) ≤ 1000 := by omega
      clear HU hasc hlt
      go_wp2_with fail
      clear hk4 hk5
      have hax := asc_setB HAsc.out ⟨an, ar, ak⟩
      obtain ⟨X, hX⟩ : ∃ X, X = setB l ⟨an, ar, ak⟩ := ⟨_, rfl⟩
      obtain ⟨hf1, hf2, hf3⟩ := find_setB HAsc.out ⟨an, ar, ak⟩
      have hsd := size_set_del HAsc.out ⟨an, ar, ak⟩
      have hsx := size_setB l ⟨an, ar, ak⟩
      have hxl := setB_len l ⟨an, ar, ak⟩
      rw [← hX] at hax hf1 hf2 hf3 hsd hsx hxl
      obtain ⟨nx, hnx⟩ : ∃ n, n = X.length := ⟨_, rfl⟩
      obtain ⟨fi, hfi⟩ : ∃ n, n = fI X an := ⟨_, rfl⟩
      have hfi2 : fi < nx := by rw [hnx, hfi]; exact hf2
      have hfi3 : X[fi]? = some ⟨an, ar, ak⟩ := by rw [hfi]; exact hf3
      obtain ⟨SX, hSX⟩ : ∃ n, n = sizeB X := ⟨_, rfl⟩
      obtain ⟨Dx, hDx⟩ : ∃ D, D = delB X an := ⟨_, rfl⟩
      obtain ⟨SD, hSD⟩ : ∃ n, n = sizeB Dx := ⟨_, rfl⟩
      have hsx2 : SX ≤ 9007199254740000 := by rw [hSX]; have := HSZ.out; have := HAn.out; simp only at hsx; omega
      have hsd2 : SX = SD + 9 + an.size := by rw [hSX, hSD, hDx]; exact hsd
      have hn61 : nx ≤ 61 := by have := HL.out; omega
      have HX := Lib.hid hX
      have HAX := Lib.hid hax
      have HNX := Lib.hid hnx
      have HI1 := Lib.hid (show isI X an = true from hf1)
      have HFI := Lib.hid hfi
      have HI3 := Lib.hid hfi3
      have HSXe := Lib.hid hSX
      have HDXe := Lib.hid hDx
      have HSDe := Lib.hid hSD
      have HN61 := Lib.hid hn61
      clear hax hf1 hf2 hf3 hsd hsx hxl hX hnx hfi hfi3 hSX hDx hSD hn61
      replace Ba := Lib.hid Ba.out.drew
      replace Bb := Lib.hid Bb.out.drew
      replace HB := Lib.hid HB.out.drew
      refine wp_region_held_drew (S := (fun w' => (w'.cell? ⟨w.heap.size, 0, none⟩ = some (.string an) ∧ w'.cell? ⟨w.heap.size, 1, none⟩ = some (.int .u32 ar) ∧ w'.cell? ⟨w.heap.size, 2, none⟩ = some (.int .i64 ak)) ∧ (w'.cell? ⟨gBb, 0, none⟩ = some (.string bn) ∧ w'.cell? ⟨gBb, 1, none⟩ = some (.int .u32 br) ∧ w'.cell? ⟨gBb, 2, none⟩ = some (.int .i64 bk)))) (by kernel_rfl) ⟨bk_cells3 Ba.out, bk_cells3 Bb.out⟩ (fun hHeld => ?_)
      refine wpAnyH_takeL (i := 0) (v := ?_) rfl (by kernel_rfl) (by kernel_rfl) (by kernel_rfl) (fun _ _ _ h => h) (Or.inl ⟨by rfl, ?_⟩) (by first | trivial | assumption) ?_
      rotate_left
      · intro wz hSz; (try dsimp only at hSz); go_simp; (try with_reducible rfl)
      try simp only [Act.put, List.setIfInBounds_toArray, List.set_cons_zero, List.set_cons_succ]
      refine wpAnyH_takeL (i := 2) (v := ?_) rfl (by kernel_rfl) (by kernel_rfl) (by kernel_rfl) (fun _ _ _ h => h) (Or.inl ⟨by rfl, ?_⟩) (by first | trivial | assumption) ?_
      rotate_left
      · intro wz hSz; (try dsimp only at hSz); go_simp; (try with_reducible rfl)
      try simp only [Act.put, List.setIfInBounds_toArray, List.set_cons_zero, List.set_cons_succ]
      refine wpAnyH_ready (rs := [1]) (by kernel_rfl) (by simp) ?_
      refine AllReadyH.consL rfl (fun K hK => ?_) AllReadyH.nil
      go_simp
      refine (own6_any A m c l _ ((HR.out.below HB.out).more HB.out.size) (Nat.le_trans H60.out (by decide))).mono ?_
      rintro e w10 ⟨A1, c1, rfl, hr1, hc1, hm1, hb⟩
      replace HB := Lib.hid (HB.out.trans (hb.mono HB.out.size))
      replace Ba := Lib.hid (Ba.out.below hb Ba.out.lt)
      replace Bb := Lib.hid (Bb.out.below hb Bb.out.lt)
      have R1 := Lib.hid hr1
      have C1 := Lib.hid hc1
      have M1 := Lib.hid hm1
      clear hb hr1 hc1 hm1
      refine hK.out _ _ (⟨bk_cells3 Ba.out, bk_cells3 Bb.out⟩) (fun hHeld => ?_)
      clear hK K
      try simp only [Act.put, List.setIfInBounds_toArray, List.set_cons_zero, List.set_cons_succ]
      refine wpAnyH_ready (rs := [3]) (by kernel_rfl) (by simp) ?_
      refine AllReadyH.consL rfl (fun K hK => ?_) AllReadyH.nil
      go_simp
      refine (cset_any A1 m c1 l ⟨an, ar, ak⟩ _ R1.out (Nat.le_trans H60.out (by decide)) C1.out M1.out).mono ?_
      rintro e w11 ⟨A2, n2, c2, rfl, hr2, hc2, hm2, hb⟩
      rw [← HX.out] at hr2
      obtain rfl : nx = n2 := HNX.out.trans (bk_len hr2)
      clear R1 C1 M1
      replace HB := Lib.hid (HB.out.trans (hb.mono HB.out.size))
      replace Ba := Lib.hid (Ba.out.below hb Ba.out.lt)
      replace Bb := Lib.hid (Bb.out.below hb Bb.out.lt)
      have R2 := Lib.hid hr2
      have C2 := Lib.hid hc2
      have M2 := Lib.hid hm2
      clear hb hr2 hc2 hm2
      refine hK.out _ _ (⟨bk_cells3 Ba.out, bk_cells3 Bb.out⟩) (fun hHeld => ?_)
      clear hK K
      try simp only [Act.put, List.setIfInBounds_toArray, List.set_cons_zero, List.set_cons_succ]
      refine wpAnyH_takeL (i := 4) (v := ?_) rfl (by kernel_rfl) (by kernel_rfl) (by kernel_rfl) (fun _ _ _ h => h) (Or.inl ⟨by rfl, ?_⟩) (by first | trivial | assumption) ?_
      rotate_left
      · intro wz hSz; (try dsimp only at hSz); go_simp; (try with_reducible rfl)
      try simp only [Act.put, List.setIfInBounds_toArray, List.set_cons_zero, List.set_cons_succ]
      refine wpAnyH_done (by kernel_rfl) ?_ _
      go_wp2_with fail
      have vBa_0 := Ba.out.cell 0
      have vBa_1 := Ba.out.cell 1
      have vBa_2 := Ba.out.cell 2
      simp at vBa_0 vBa_1 vBa_2
      refine (cfind_any A2 nx c2 X an _ R2.out (Nat.le_trans HN61.out (by decide))).mono ?_
      rintro e w12 ⟨rfl, hb⟩
      rw [← HFI.out, HI1.out]
      replace HB := Lib.hid (HB.out.trans (hb.mono HB.out.size))
      replace Ba := Lib.hid (Ba.out.below hb Ba.out.lt)
      replace Bb := Lib.hid (Bb.out.below hb Bb.out.lt)
      replace R2 := Lib.hid ((R2.out.below hb).more hb.size)
      clear hb vBa_0 vBa_1 vBa_2
      go_wp2_with fail
      replace Ba := Lib.hid Ba.out.drew
      replace Bb := Lib.hid Bb.out.drew
      replace R2 := Lib.hid (show Reads _ _ 3 _ _ _ from R2.out.drew)
      replace HB := Lib.hid HB.out.drew
      obtain ⟨ad, x, hA2, _, hp4, hx4, hc4⟩ := bk_at R2.out hfi2
      rw [HI3.out] at hx4
      injection hx4 with hx4
      subst hx4
      subst hA2
      have BA := Lib.hid hc4
      have HP4 := Lib.hid hp4
      have hf0 : (0 : Int) ≤ fi := by omega
      have hf1 : (fi : Int) < nx := by omega
      have hf3 : decide ((fi : Int) < 0) = false := decide_eq_false (by omega)
      have hf4 : decide ((nx : Int) ≤ fi) = false := by simp; omega
      have hf5 : decide ((fi : Int) ≥ nx) = false := by simp; omega
      have hf6 : decide (nx ≤ fi) = false := decide_eq_false (by omega)
      have hneq := fun w => bk_same3 an ar ak w
      have hs1 : ((SX : Nat) : Int) = ((SD : Nat) : Int) + 9 + (an.size : Int) := by omega
      have hs2 : (((SX : Nat) : Int) != ((SD : Nat) : Int) + 9 + (an.size : Int)) = false := by simp; omega
      have hs3 : SD + 9 + an.size ≤ 9007199254740000 := by omega
      have hs4 : IntKind.i64.wrap ((SD : Int) + 9) = (SD : Int) + 9 := by rw [IntKind.wrap_i64]; omega
      have hs5 : IntKind.i64.wrap ((SD : Int) + 9 + (an.size : Int)) = (SD : Int) + 9 + (an.size : Int) := by rw [IntKind.wrap_i64]; omega
      clear hc4 hp4 hs1
      refine wp_region_held_drew (S := (fun w' => (w'.cell? ⟨w.heap.size, 0, none⟩ = some (.string an) ∧ w'.cell? ⟨w.heap.size, 1, none⟩ = some (.int .u32 ar) ∧ w'.cell? ⟨w.heap.size, 2, none⟩ = some (.int .i64 ak)) ∧ (w'.cell? (ad.add (fi * 3)) = some (.string an) ∧ w'.cell? ⟨(ad.add (fi * 3)).block, (ad.add (fi * 3)).off + 1, none⟩ = some (.int .u32 ar) ∧ w'.cell? ⟨(ad.add (fi * 3)).block, (ad.add (fi * 3)).off + 2, none⟩ = some (.int .i64 ak)))) (by kernel_rfl) ⟨bk_cells3 Ba.out, BA.out⟩ (fun hHeld => ?_)
      refine wpAnyH_takeL (i := 0) (v := ?_) rfl (by kernel_rfl) (by kernel_rfl) (by kernel_rfl) (fun _ _ _ h => h) (Or.inl ⟨by rfl, ?_⟩) (by first | trivial | assumption) ?_
      rotate_left
      · intro wz hSz; (try dsimp only at hSz); go_simp; (try with_reducible rfl)
      try simp only [Act.put, List.setIfInBounds_toArray, List.set_cons_zero, List.set_cons_succ]
      refine wpAnyH_takeL (i := 1) (v := ?_) rfl (by kernel_rfl) (by kernel_rfl) (by kernel_rfl) (fun _ _ _ h => h) (Or.inl ⟨by rfl, ?_⟩) (by first | trivial | assumption) ?_
      rotate_left
      · intro wz hSz; (try dsimp only at hSz); go_simp; (try with_reducible rfl)
      try simp only [Act.put, List.setIfInBounds_toArray, List.set_cons_zero, List.set_cons_succ]
      refine wpAnyH_takeL (i := 2) (v := ?_) rfl (by kernel_rfl) (by kernel_rfl) (by kernel_rfl) (fun _ _ _ h => h) (Or.inl ⟨by rfl, ?_⟩) (by first | trivial | assumption) ?_
      rotate_left
      · intro wz hSz; (try dsimp only at hSz); go_simp; (try with_reducible rfl)
      try simp only [Act.put, List.setIfInBounds_toArray, List.set_cons_zero, List.set_cons_succ]
      refine wpAnyH_takeL (i := 3) (v := ?_) rfl (by kernel_rfl) (by kernel_rfl) (by kernel_rfl) (fun _ _ _ h => h) (Or.inl ⟨by rfl, ?_⟩) (by first | trivial | assumption) ?_
      rotate_left
      · intro wz hSz; (try dsimp only at hSz); go_simp; (try with_reducible rfl)
      try simp only [Act.put, List.setIfInBounds_toArray, List.set_cons_zero, List.set_cons_succ]
      refine wpAnyH_takeL (i := 4) (v := ?_) rfl (by kernel_rfl) (by kernel_rfl) (by kernel_rfl) (fun _ _ _ h => h) (Or.inl ⟨by rfl, ?_⟩) (by first | trivial | assumption) ?_
      rotate_left
      · intro wz hSz; (try dsimp only at hSz); go_simp; (try with_reducible rfl)
      try simp only [Act.put, List.setIfInBounds_toArray, List.set_cons_zero, List.set_cons_succ]
      refine wpAnyH_takeL (i := 5) (v := ?_) rfl (by kernel_rfl) (by kernel_rfl) (by kernel_rfl) (fun _ _ _ h => h) (Or.inl ⟨by rfl, ?_⟩) (by first | trivial | assumption) ?_
      rotate_left
      · intro wz hSz; (try dsimp only at hSz); go_simp; (try with_reducible rfl)
      try simp only [Act.put, List.setIfInBounds_toArray, List.set_cons_zero, List.set_cons_succ]
      refine wpAnyH_takeL (i := 6) (v := ?_) rfl (by kernel_rfl) (by kernel_rfl) (by kernel_rfl) (fun _ _ _ h => h) (Or.inl ⟨by rfl, ?_⟩) (by first | trivial | assumption) ?_
      rotate_left
      · intro wz hSz; (try dsimp only at hSz); go_simp; (try with_reducible rfl)
      try simp only [Act.put, List.setIfInBounds_toArray, List.set_cons_zero, List.set_cons_succ]
      refine wpAnyH_takeL (i := 7) (v := ?_) rfl (by kernel_rfl) (by kernel_rfl) (by kernel_rfl) (fun _ _ _ h => h) (Or.inl ⟨by rfl, ?_⟩) (by first | trivial | assumption) ?_
      rotate_left
      · intro wz hSz; (try dsimp only at hSz); go_simp; (try with_reducible rfl)
      try simp only [Act.put, List.setIfInBounds_toArray, List.set_cons_zero, List.set_cons_succ]
      refine wpAnyH_takeL (i := 8) (v := ?_) rfl (by kernel_rfl) (by kernel_rfl) (by kernel_rfl) (fun _ _ _ h => h) (Or.inl ⟨by rfl, ?_⟩) (by first | trivial | assumption) ?_
      rotate_left
      · intro wz hSz; (try dsimp only at hSz); go_simp; (try with_reducible rfl)
      try simp only [Act.put, List.setIfInBounds_toArray, List.set_cons_zero, List.set_cons_succ]
      refine wpAnyH_takeL (i := 9) (v := ?_) rfl (by kernel_rfl) (by kernel_rfl) (by kernel_rfl) (fun _ _ _ h => h) (Or.inl ⟨by rfl, ?_⟩) (by first | trivial | assumption) ?_
      rotate_left
      · intro wz hSz; (try dsimp only at hSz); go_simp; (try with_reducible rfl)
      try simp only [Act.put, List.setIfInBounds_toArray, List.set_cons_zero, List.set_cons_succ]
      refine wpAnyH_takeL (i := 10) (v := ?_) rfl (by kernel_rfl) (by kernel_rfl) (by kernel_rfl) (fun _ _ _ h => h) (Or.inl ⟨by rfl, ?_⟩) (by first | trivial | assumption) ?_
      rotate_left
      · intro wz hSz; (try dsimp only at hSz); go_simp; (try with_reducible rfl)
      try simp only [Act.put, List.setIfInBounds_toArray, List.set_cons_zero, List.set_cons_succ]
      refine wpAnyH_takeL (i := 11) (v := ?_) rfl (by kernel_rfl) (by kernel_rfl) (by kernel_rfl) (fun _ _ _ h => h) (Or.inl ⟨by rfl, ?_⟩) (by first | trivial | assumption) ?_
      rotate_left
      · intro wz hSz; (try dsimp only at hSz); go_simp; (try with_reducible rfl)
      try simp only [Act.put, List.setIfInBounds_toArray, List.set_cons_zero, List.set_cons_succ]
      refine wpAnyH_takeL (i := 12) (v := ?_) rfl (by kernel_rfl) (by kernel_rfl) (by kernel_rfl) (fun _ _ _ h => h) (Or.inl ⟨by rfl, ?_⟩) (by first | trivial | assumption) ?_
      rotate_left
      · intro wz hSz; (try dsimp only at hSz); go_simp; (try with_reducible rfl)
      try simp only [Act.put, List.setIfInBounds_toArray, List.set_cons_zero, List.set_cons_succ]
      refine wpAnyH_takeL (i := 13) (v := ?_) rfl (by kernel_rfl) (by kernel_rfl) (by kernel_rfl) (fun _ _ _ h => h) (Or.inl ⟨by rfl, ?_⟩) (by first | trivial | assumption) ?_
      rotate_left
      · intro wz hSz; (try dsimp only at hSz); go_simp; (try with_reducible rfl)
      try simp only [Act.put, List.setIfInBounds_toArray, List.set_cons_zero, List.set_cons_succ]
      refine wpAnyH_takeL (i := 14) (v := ?_) rfl (by kernel_rfl) (by kernel_rfl) (by kernel_rfl) (fun _ _ _ h => h) (Or.inl ⟨by rfl, ?_⟩) (by first | trivial | assumption) ?_
      rotate_left
      · intro wz hSz; (try dsimp only at hSz); go_simp; (try with_reducible rfl)
      try simp only [Act.put, List.setIfInBounds_toArray, List.set_cons_zero, List.set_cons_succ]
      refine wpAnyH_takeL (i := 15) (v := ?_) rfl (by kernel_rfl) (by kernel_rfl) (by kernel_rfl) (fun _ _ _ h => h) (Or.inl ⟨by rfl, ?_⟩) (by first | trivial | assumption) ?_
      rotate_left
      · intro wz hSz; (try dsimp only at hSz); go_simp; (try with_reducible rfl)
      try simp only [Act.put, List.setIfInBounds_toArray, List.set_cons_zero, List.set_cons_succ]
      refine wpAnyH_takeL (i := 16) (v := ?_) rfl (by kernel_rfl) (by kernel_rfl) (by kernel_rfl) (fun _ _ _ h => h) (Or.inl ⟨by rfl, ?_⟩) (by first | trivial | assumption) ?_
      rotate_left
      · intro wz hSz; (try dsimp only at hSz); go_simp; (try with_reducible rfl)
      try simp only [Act.put, List.setIfInBounds_toArray, List.set_cons_zero, List.set_cons_succ]
      refine wpAnyH_takeL (i := 17) (v := ?_) rfl (by kernel_rfl) (by kernel_rfl) (by kernel_rfl) (fun _ _ _ h => h) (Or.inl ⟨by rfl, ?_⟩) (by first | trivial | assumption) ?_
      rotate_left
      · intro wz hSz; (try dsimp only at hSz); go_simp; (try with_reducible rfl)
      try simp only [Act.put, List.setIfInBounds_toArray, List.set_cons_zero, List.set_cons_succ]
      refine wpAnyH_takeL (i := 18) (v := ?_) rfl (by kernel_rfl) (by kernel_rfl) (by kernel_rfl) (fun _ _ _ h => h) (Or.inl ⟨by rfl, ?_⟩) (by first | trivial | assumption) ?_
      rotate_left
      · intro wz hSz; (try dsimp only at hSz); go_simp; (try with_reducible rfl)
      try simp only [Act.put, List.setIfInBounds_toArray, List.set_cons_zero, List.set_cons_succ]
      refine wpAnyH_takeL (i := 19) (v := ?_) rfl (by kernel_rfl) (by kernel_rfl) (by kernel_rfl) (fun _ _ _ h => h) (Or.inl ⟨by rfl, ?_⟩) (by first | trivial | assumption) ?_
      rotate_left
      · intro wz hSz; (try dsimp only at hSz); go_simp; (try with_reducible rfl)
      try simp only [Act.put, List.setIfInBounds_toArray, List.set_cons_zero, List.set_cons_succ]
      refine wpAnyH_takeL (i := 20) (v := ?_) rfl (by kernel_rfl) (by kernel_rfl) (by kernel_rfl) (fun _ _ _ h => h) (Or.inl ⟨by rfl, ?_⟩) (by first | trivial | assumption) ?_
      rotate_left
      · intro wz hSz; (try dsimp only at hSz); go_simp; (try with_reducible rfl)
      try simp only [Act.put, List.setIfInBounds_toArray, List.set_cons_zero, List.set_cons_succ]
      refine wpAnyH_takeL (i := 21) (v := ?_) rfl (by kernel_rfl) (by kernel_rfl) (by kernel_rfl) (fun _ _ _ h => h) (Or.inl ⟨by rfl, ?_⟩) (by first | trivial | assumption) ?_
      rotate_left
      · intro wz hSz; (try dsimp only at hSz); go_simp; (try with_reducible rfl)
      try simp only [Act.put, List.setIfInBounds_toArray, List.set_cons_zero, List.set_cons_succ]
      refine wpAnyH_takeL (i := 23) (v := ?_) rfl (by kernel_rfl) (by kernel_rfl) (by kernel_rfl) (fun _ _ _ h => h) (Or.inl ⟨by rfl, ?_⟩) (by first | trivial | assumption) ?_
      rotate_left
      · intro wz hSz; (try dsimp only at hSz); go_simp; (try with_reducible rfl)
      try simp only [Act.put, List.setIfInBounds_toArray, List.set_cons_zero, List.set_cons_succ]
      refine wpAnyH_takeL (i := 24) (v := ?_) rfl (by kernel_rfl) (by kernel_rfl) (by kernel_rfl) (fun _ _ _ h => h) (Or.inl ⟨by rfl, ?_⟩) (by first | trivial | assumption) ?_
      rotate_left
      · intro wz hSz; (try dsimp only at hSz); go_simp; (try with_reducible rfl)
      try simp only [Act.put, List.setIfInBounds_toArray, List.set_cons_zero, List.set_cons_succ]
      refine wpAnyH_takeL (i := 25) (v := ?_) rfl (by kernel_rfl) (by kernel_rfl) (by kernel_rfl) (fun _ _ _ h => h) (Or.inl ⟨by rfl, ?_⟩) (by first | trivial | assumption) ?_
      rotate_left
      · intro wz hSz; (try dsimp only at hSz); go_simp; (try with_reducible rfl)
      try simp only [Act.put, List.setIfInBounds_toArray, List.set_cons_zero, List.set_cons_succ]
      refine wpAnyH_takeL (i := 29) (v := ?_) rfl (by kernel_rfl) (by kernel_rfl) (by kernel_rfl) (fun _ _ _ h => h) (Or.inl ⟨by rfl, ?_⟩) (by first | trivial | assumption) ?_
      rotate_left
      · intro wz hSz; (try dsimp only at hSz); go_simp; (try with_reducible rfl)
      try simp only [Act.put, List.setIfInBounds_toArray, List.set_cons_zero, List.set_cons_succ]
      refine wpAnyH_takeL (i := 30) (v := ?_) rfl (by kernel_rfl) (by kernel_rfl) (by kernel_rfl) (fun _ _ _ h => h) (Or.inl ⟨by rfl, ?_⟩) (by first | trivial | assumption) ?_
      rotate_left
      · intro wz hSz; (try dsimp only at hSz); go_simp; (try with_reducible rfl)
      try simp only [Act.put, List.setIfInBounds_toArray, List.set_cons_zero, List.set_cons_succ]
      refine wpAnyH_takeL (i := 31) (v := ?_) rfl (by kernel_rfl) (by kernel_rfl) (by kernel_rfl) (fun _ _ _ h => h) (Or.inl ⟨by rfl, ?_⟩) (by first | trivial | assumption) ?_
      rotate_left
      · intro wz hSz; (try dsimp only at hSz); go_simp; (try with_reducible rfl)
      try simp only [Act.put, List.setIfInBounds_toArray, List.set_cons_zero, List.set_cons_succ]
      refine wpAnyH_ready (rs := [22]) (by kernel_rfl) (by simp) ?_
      refine AllReadyH.consL rfl (fun K hK => ?_) AllReadyH.nil
      go_simp
      refine (csize_any (some ad) nx c2 X _ R2.out (Nat.le_trans HN61.out (by decide)) (by rw [← HSXe.out]; omega)).mono ?_
      rw [← HSXe.out]
      rintro e w13 ⟨rfl, hb⟩
      replace HB := Lib.hid (HB.out.trans (hb.mono HB.out.size))
      replace Ba := Lib.hid (Ba.out.below hb Ba.out.lt)
      replace Bb := Lib.hid (Bb.out.below hb Bb.out.lt)
      replace R2 := Lib.hid ((R2.out.below hb).more hb.size)
      replace BA := Lib.hid (BA.out.below hb HP4.out)
      replace HP4 := Lib.hid (Nat.lt_of_lt_of_le HP4.out hb.size)
      clear hb
      refine hK.out _ _ (⟨bk_cells3 Ba.out, BA.out⟩) (fun hHeld => ?_)
      clear hK K
      try simp only [Act.put, List.setIfInBounds_toArray, List.set_cons_zero, List.set_cons_succ]
      refine wpAnyH_ready (rs := [26]) (by kernel_rfl) (by simp) ?_
      refine AllReadyH.consL rfl (fun K hK => ?_) AllReadyH.nil
      go_simp
      refine (cdel_any (some ad) nx c2 X an _ R2.out (Nat.le_trans HN61.out (by decide)) C2.out M2.out).mono ?_
      rintro e w14 ⟨A3, n3, c3, rfl, hr3, hc3, hm3, hb⟩
      rw [← HDXe.out] at hr3
      replace HB := Lib.hid (HB.out.trans (hb.mono HB.out.size))
      replace Ba := Lib.hid (Ba.out.below hb Ba.out.lt)
      replace Bb := Lib.hid (Bb.out.below hb Bb.out.lt)
      replace R2 := Lib.hid ((R2.out.below hb).more hb.size)
      replace BA := Lib.hid (BA.out.below hb HP4.out)
      replace HP4 := Lib.hid (Nat.lt_of_lt_of_le HP4.out hb.size)
      have R3 := Lib.hid hr3
      clear hb hr3 hc3 hm3
      refine hK.out _ _ (⟨bk_cells3 Ba.out, BA.out⟩) (fun hHeld => ?_)
      clear hK K
      try simp only [Act.put, List.setIfInBounds_toArray, List.set_cons_zero, List.set_cons_succ]
      refine wpAnyH_ready (rs := [27]) (by kernel_rfl) (by simp) ?_
      refine AllReadyH.consL rfl (fun K hK => ?_) AllReadyH.nil
      go_simp
      refine (csize_any A3 n3 c3 Dx _ R3.out (by have h1 := bk_len R3.out; have h2 := delB_len X an; rw [← HDXe.out] at h2; have h3 := HNX.out; have h4 := HN61.out; omega) (by rw [← HSDe.out]; omega)).mono ?_
      rw [← HSDe.out]
      rintro e w15 ⟨rfl, hb⟩
      replace HB := Lib.hid (HB.out.trans (hb.mono HB.out.size))
      replace Ba := Lib.hid (Ba.out.below hb Ba.out.lt)
      replace Bb := Lib.hid (Bb.out.below hb Bb.out.lt)
      replace R2 := Lib.hid ((R2.out.below hb).more hb.size)
      replace BA := Lib.hid (BA.out.below hb HP4.out)
      replace HP4 := Lib.hid (Nat.lt_of_lt_of_le HP4.out hb.size)
      clear hb R3
      refine hK.out _ _ (⟨bk_cells3 Ba.out, BA.out⟩) (fun hHeld => ?_)
      clear hK K
      try simp only [Act.put, List.setIfInBounds_toArray, List.set_cons_zero, List.set_cons_succ]
      refine wpAnyH_takeL (i := 28) (v := ?_) rfl (by kernel_rfl) (by kernel_rfl) (by kernel_rfl) (fun _ _ _ h => h) (Or.inl ⟨by rfl, ?_⟩) (by first | trivial | assumption) ?_
      rotate_left
      · intro wz hSz; (try dsimp only at hSz); go_simp; (try with_reducible rfl)
      try simp only [Act.put, List.setIfInBounds_toArray, List.set_cons_zero, List.set_cons_succ]
      refine wpAnyH_takeL (i := 32) (v := ?_) rfl (by kernel_rfl) (by kernel_rfl) (by kernel_rfl) (fun _ _ _ h => h) (Or.inl ⟨by rfl, ?_⟩) (by first | trivial | assumption) ?_
      rotate_left
      · intro wz hSz; (try dsimp only at hSz); go_simp; (try with_reducible rfl)
      try simp only [Act.put, List.setIfInBounds_toArray, List.set_cons_zero, List.set_cons_succ]
      refine wpAnyH_takeL (i := 33) (v := ?_) rfl (by kernel_rfl) (by kernel_rfl) (by kernel_rfl) (fun _ _ _ h => h) (Or.inl ⟨by rfl, ?_⟩) (by first | trivial | assumption) ?_
      rotate_left
      · intro wz hSz; (try dsimp only at hSz); go_simp; (try with_reducible rfl)
      try simp only [Act.put, List.setIfInBounds_toArray, List.set_cons_zero, List.set_cons_succ]
      refine wpAnyH_takeL (i := 34) (v := ?_) rfl (by kernel_rfl) (by kernel_rfl) (by kernel_rfl) (fun _ _ _ h => h) (Or.inl ⟨by rfl, ?_⟩) (by first | trivial | assumption) ?_
      rotate_left
      · intro wz hSz; (try dsimp only at hSz); go_simp; (try with_reducible rfl)
      try simp only [Act.put, List.setIfInBounds_toArray, List.set_cons_zero, List.set_cons_succ]
      refine wpAnyH_done (by kernel_rfl) ?_ _
      clear hf3 hf4 hf5 hf6 hneq hs2 hs3 hs4 hs5
      go_wp2_with fail
      clear hf0 hf1 BA HP4
      go_loopw [11] (fun i wr2 => ∃ k : Nat, 1 ≤ k ∧ (k ≤ nx ∨ k = 1) ∧ i = .int .i64 k ∧ Hid (Blk wr2 w.heap.size 33 #[.string an, .int .u32 ar, .int .i64 ak]) ∧ Hid (Blk wr2 gBb 33 #[.string bn, .int .u32 br, .int .i64 bk]) ∧ Hid (Reads wr2 wr2.heap.size 3 (some ad) nx (bkc X)) ∧ Hid (Below w.heap.size w wr2)) (fun i _ => nx + 1 - (intOf i).toNat)
      case atStart => exact ⟨1, Nat.le_refl _, .inr rfl, rfl, Ba, Bb, R2, HB⟩
      case round =>
        clear Ba Bb HB R2
        obtain ⟨k2, hk1, hk2, rfl, Ba, Bb, R2, HB⟩ := hrel
        by_cases hlt : k2 < nx
        · obtain ⟨j, hj⟩ : ∃ j, j = k2 - 1 := ⟨_, rfl⟩
          obtain ⟨ad1, y, had1, _, hpy, hy, hcy⟩ := bk_at R2.out (show j < nx by omega)
          obtain ⟨ad2, x, had2, _, hpx, hx, hcx⟩ := bk_at R2.out hlt
          injection had1 with had1
          subst had1
          injection had2 with had2
          subst had2
          obtain ⟨y0, _, _⟩ := hcy
          obtain ⟨x0, _, _⟩ := hcx
          have hj1 : IntKind.i64.wrap ((k2 : Int) - 1) = (j : Int) := by have h61 := HN61.out; rw [IntKind.wrap_i64]; omega
          have hj2 : (k2 : Int) - 1 = (j : Int) := by omega
          have hj3 : (0 : Int) ≤ j := by omega
          have hj4 : (j : Int) < nx := by omega
          have hk3 : (0 : Int) ≤ k2 := by omega
          have hk4 : (k2 : Int) < nx := by omega
          have hless : Op.bytesLess y.nm.toList x.nm.toList = true := (ascB_Asc.2 HAX.out) j k2 y x (by omega) hy hx
          clear hy hx hj
          have h61 := HN61.out
          go_wp2_with fail
          go_quiet (fail)
          clear hj1 hj2
          go_wp2_with fail
          have Ba' := Lib.hid (Ba.out.drewN nq)
          have Bb' := Lib.hid (Bb.out.drewN nq)
          have R2' := Lib.hid (show Reads (wr.drewN nq) (wr.drewN nq).heap.size 3 (some ad) nx (bkc X) from R2.out.drewN nq)
          have HB' := Lib.hid (below_drewN HB.out nq)
          go_roundw
          case rel =>
            first
              | exact ⟨k2 + 1, by omega, .inl (by omega), by go_num, Ba', Bb', R2', HB'⟩
              | ((repeat apply Exists.intro); exact ⟨⟨k2 + 1, by omega, .inl (by omega), by go_num, Ba', Bb', R2', HB'⟩, rfl⟩)
          case measure => simp [intOf]; omega
        · have hk4 : ¬ (k2 : Int) < nx := by omega
          have hk5 : (k2 : Int) ≤ 1000 := by have := HN61.out; omega
          clear hlt
          go_upto_region 19 with fail
          clear hk4 hk5
          have vBa_0 := Ba.out.cell 0
          have vBa_1 := Ba.out.cell 1
          have vBa_2 := Ba.out.cell 2
          have vBb_0 := Bb.out.cell 0
          have vBb_1 := Bb.out.cell 1
          have vBb_2 := Bb.out.cell 2
          simp at vBa_0 vBa_1 vBa_2 vBb_0 vBb_1 vBb_2
          rcases hne : (an.toList == bn.toList) with _ | _
          · skip
            have hne2 : an ≠ bn := fun e => by rw [e] at hne; simp at hne
            obtain ⟨Y, hY⟩ : ∃ Y, Y = setB (setB l ⟨bn, br, bk⟩) ⟨an, ar, ak⟩ := ⟨_, rfl⟩
            have hsc := set_comm HAsc.out ⟨an, ar, ak⟩ ⟨bn, br, bk⟩ hne2
            rw [← HX.out, ← hY] at hsc
            obtain ⟨Dn, hDn⟩ : ∃ D, D = delB X bn := ⟨_, rfl⟩
            have hds := del_set HAX.out ⟨bn, br, bk⟩
            have HY := Lib.hid hY
            have HSC := Lib.hid hsc
            have HDN := Lib.hid hDn
            have HDS := Lib.hid (show delB Y bn = Dn from by rw [← hsc, hDn]; exact hds)
            have HYL := Lib.hid (show Y.length ≤ 62 from by rw [← hsc]; have h1 := setB_len X ⟨bn, br, bk⟩; have h2 := HNX.out; have h3 := HN61.out; omega)
            have HBL := Lib.hid (show (setB l ⟨bn, br, bk⟩).length ≤ 61 from by have h1 := setB_len l ⟨bn, br, bk⟩; have h2 := HL.out; omega)
            clear hY hsc hds hDn hne2
            go_wp2_with fail
            clear hne vBa_0 vBa_1 vBa_2 vBb_0 vBb_1 vBb_2
            replace Ba := Lib.hid Ba.out.drew
            replace Bb := Lib.hid Bb.out.drew
            replace R2 := Lib.hid (show Reads _ _ 3 _ _ _ from R2.out.drew)
            replace HB := Lib.hid HB.out.drew
            refine wp_region_held_drew (S := (fun w' => (w'.cell? ⟨w.heap.size, 0, none⟩ = some (.string an) ∧ w'.cell? ⟨w.heap.size, 1, none⟩ = some (.int .u32 ar) ∧ w'.cell? ⟨w.heap.size, 2, none⟩ = some (.int .i64 ak)) ∧ (w'.cell? ⟨gBb, 0, none⟩ = some (.string bn) ∧ w'.cell? ⟨gBb, 1, none⟩ = some (.int .u32 br) ∧ w'.cell? ⟨gBb, 2, none⟩ = some (.int .i64 bk)))) (by kernel_rfl) ⟨bk_cells3 Ba.out, bk_cells3 Bb.out⟩ (fun hHeld => ?_)
            refine wpAnyH_takeL (i := 0) (v := ?_) rfl (by kernel_rfl) (by kernel_rfl) (by kernel_rfl) (fun _ _ _ h => h) (Or.inl ⟨by rfl, ?_⟩) (by first | trivial | assumption) ?_
            rotate_left
            · intro wz hSz; (try dsimp only at hSz); go_simp; (try with_reducible rfl)
            try simp only [Act.put, List.setIfInBounds_toArray, List.set_cons_zero, List.set_cons_succ]
            refine wpAnyH_takeL (i := 2) (v := ?_) rfl (by kernel_rfl) (by kernel_rfl) (by kernel_rfl) (fun _ _ _ h => h) (Or.inl ⟨by rfl, ?_⟩) (by first | trivial | assumption) ?_
            rotate_left
            · intro wz hSz; (try dsimp only at hSz); go_simp; (try with_reducible rfl)
            try simp only [Act.put, List.setIfInBounds_toArray, List.set_cons_zero, List.set_cons_succ]
            refine wpAnyH_takeL (i := 4) (v := ?_) rfl (by kernel_rfl) (by kernel_rfl) (by kernel_rfl) (fun _ _ _ h => h) (Or.inl ⟨by rfl, ?_⟩) (by first | trivial | assumption) ?_
            rotate_left
            · intro wz hSz; (try dsimp only at hSz); go_simp; (try with_reducible rfl)
            try simp only [Act.put, List.setIfInBounds_toArray, List.set_cons_zero, List.set_cons_succ]
            refine wpAnyH_ready (rs := [1]) (by kernel_rfl) (by simp) ?_
            refine AllReadyH.consL rfl (fun K hK => ?_) AllReadyH.nil
            go_simp
            refine (own6_any A m c l _ ((HR.out.below HB.out).more HB.out.size) (Nat.le_trans H60.out (by decide))).mono ?_
            rintro e w21 ⟨A4, c4, rfl, hr4, hc4, hm4, hb⟩
            replace HB := Lib.hid (HB.out.trans (hb.mono HB.out.size))
            replace Ba := Lib.hid (Ba.out.below hb Ba.out.lt)
            replace Bb := Lib.hid (Bb.out.below hb Bb.out.lt)
            replace R2 := Lib.hid ((R2.out.below hb).more hb.size)
            have R4 := Lib.hid hr4
            have C4 := Lib.hid hc4
            have M4 := Lib.hid hm4
            clear hb hr4 hc4 hm4
            refine hK.out _ _ (⟨bk_cells3 Ba.out, bk_cells3 Bb.out⟩) (fun hHeld => ?_)
            clear hK K
            try simp only [Act.put, List.setIfInBounds_toArray, List.set_cons_zero, List.set_cons_succ]
            refine wpAnyH_ready (rs := [3]) (by kernel_rfl) (by simp) ?_
            refine AllReadyH.consL rfl (fun K hK => ?_) AllReadyH.nil
            go_simp
            refine (cset_any A4 m c4 l ⟨bn, br, bk⟩ _ R4.out (Nat.le_trans H60.out (by decide)) C4.out M4.out).mono ?_
            rintro e w22 ⟨A5, n5, c5, rfl, hr5, hc5, hm5, hb⟩
            clear R4 C4 M4
            replace HB := Lib.hid (HB.out.trans (hb.mono HB.out.size))
            replace Ba := Lib.hid (Ba.out.below hb Ba.out.lt)
            replace Bb := Lib.hid (Bb.out.below hb Bb.out.lt)
            replace R2 := Lib.hid ((R2.out.below hb).more hb.size)
            have R5 := Lib.hid hr5
            have C5 := Lib.hid hc5
            have M5 := Lib.hid hm5
            clear hb hr5 hc5 hm5
            refine hK.out _ _ (⟨bk_cells3 Ba.out, bk_cells3 Bb.out⟩) (fun hHeld => ?_)
            clear hK K
            try simp only [Act.put, List.setIfInBounds_toArray, List.set_cons_zero, List.set_cons_succ]
            refine wpAnyH_ready (rs := [5]) (by kernel_rfl) (by simp) ?_
            refine AllReadyH.consL rfl (fun K hK => ?_) AllReadyH.nil
            go_simp
            refine (cset_any A5 n5 c5 (setB l ⟨bn, br, bk⟩) ⟨an, ar, ak⟩ _ R5.out (by have h1 := bk_len R5.out; have h2 := HBL.out; omega) C5.out M5.out).mono ?_
            rintro e w23 ⟨A6, n6, c6, rfl, hr6, hc6, hm6, hb⟩
            rw [← HY.out] at hr6
            clear R5 C5 M5
            replace HB := Lib.hid (HB.out.trans (hb.mono HB.out.size))
            replace Ba := Lib.hid (Ba.out.below hb Ba.out.lt)
            replace Bb := Lib.hid (Bb.out.below hb Bb.out.lt)
            replace R2 := Lib.hid ((R2.out.below hb).more hb.size)
            have R6 := Lib.hid hr6
            have C6 := Lib.hid hc6
            have M6 := Lib.hid hm6
            clear hb hr6 hc6 hm6
            refine hK.out _ _ (⟨bk_cells3 Ba.out, bk_cells3 Bb.out⟩) (fun hHeld => ?_)
            clear hK K
            try simp only [Act.put, List.setIfInBounds_toArray, List.set_cons_zero, List.set_cons_succ]
            refine wpAnyH_takeL (i := 6) (v := ?_) rfl (by kernel_rfl) (by kernel_rfl) (by kernel_rfl) (fun _ _ _ h => h) (Or.inl ⟨by rfl, ?_⟩) (by first | trivial | assumption) ?_
            rotate_left
            · intro wz hSz; (try dsimp only at hSz); go_simp; (try with_reducible rfl)
            try simp only [Act.put, List.setIfInBounds_toArray, List.set_cons_zero, List.set_cons_succ]
            refine wpAnyH_done (by kernel_rfl) ?_ _
            go_wp2_with fail
            replace Ba := Lib.hid Ba.out.drew
            replace Bb := Lib.hid Bb.out.drew
            replace R2 := Lib.hid (show Reads _ _ 3 _ _ _ from R2.out.drew)
            replace R6 := Lib.hid (show Reads _ _ 3 _ _ _ from R6.out.drew)
            replace HB := Lib.hid HB.out.drew
            refine wp_region_held_drew (S := (fun w' => (w'.cell? ⟨w.heap.size, 0, none⟩ = some (.string an) ∧ w'.cell? ⟨w.heap.size, 1, none⟩ = some (.int .u32 ar) ∧ w'.cell? ⟨w.heap.size, 2, none⟩ = some (.int .i64 ak)) ∧ (w'.cell? ⟨gBb, 0, none⟩ = some (.string bn) ∧ w'.cell? ⟨gBb, 1, none⟩ = some (.int .u32 br) ∧ w'.cell? ⟨gBb, 2, none⟩ = some (.int .i64 bk)))) (by kernel_rfl) ⟨bk_cells3 Ba.out, bk_cells3 Bb.out⟩ (fun hHeld => ?_)
            refine wpAnyH_takeL (i := 0) (v := ?_) rfl (by kernel_rfl) (by kernel_rfl) (by kernel_rfl) (fun _ _ _ h => h) (Or.inl ⟨by rfl, ?_⟩) (by first | trivial | assumption) ?_
            rotate_left
            · intro wz hSz; (try dsimp only at hSz); go_simp; (try with_reducible rfl)
            try simp only [Act.put, List.setIfInBounds_toArray, List.set_cons_zero, List.set_cons_succ]
            refine wpAnyH_takeL (i := 1) (v := ?_) rfl (by kernel_rfl) (by kernel_rfl) (by kernel_rfl) (fun _ _ _ h => h) (Or.inl ⟨by rfl, ?_⟩) (by first | trivial | assumption) ?_
            rotate_left
            · intro wz hSz; (try dsimp only at hSz); go_simp; (try with_reducible rfl)
            try simp only [Act.put, List.setIfInBounds_toArray, List.set_cons_zero, List.set_cons_succ]
            refine wpAnyH_takeL (i := 3) (v := ?_) rfl (by kernel_rfl) (by kernel_rfl) (by kernel_rfl) (fun _ _ _ h => h) (Or.inl ⟨by rfl, ?_⟩) (by first | trivial | assumption) ?_
            rotate_left
            · intro wz hSz; (try dsimp only at hSz); go_simp; (try with_reducible rfl)
            try simp only [Act.put, List.setIfInBounds_toArray, List.set_cons_zero, List.set_cons_succ]
            refine wpAnyH_takeL (i := 4) (v := ?_) rfl (by kernel_rfl) (by kernel_rfl) (by kernel_rfl) (fun _ _ _ h => h) (Or.inl ⟨by rfl, ?_⟩) (by first | trivial | assumption) ?_
            rotate_left
            · intro wz hSz; (try dsimp only at hSz); go_simp; (try with_reducible rfl)
            try simp only [Act.put, List.setIfInBounds_toArray, List.set_cons_zero, List.set_cons_succ]
            refine wpAnyH_ready (rs := [2]) (by kernel_rfl) (by simp) ?_
            refine AllReadyH.consL rfl (fun K hK => ?_) AllReadyH.nil
            go_simp
            refine (cset_any (some ad) nx c2 X ⟨bn, br, bk⟩ _ R2.out (Nat.le_trans HN61.out (by decide)) C2.out M2.out).mono ?_
            rintro e w24 ⟨A7, n7, c7, rfl, hr7, hc7, hm7, hb⟩
            rw [HSC.out] at hr7
            replace HB := Lib.hid (HB.out.trans (hb.mono HB.out.size))
            replace Ba := Lib.hid (Ba.out.below hb Ba.out.lt)
            replace Bb := Lib.hid (Bb.out.below hb Bb.out.lt)
            replace R2 := Lib.hid ((R2.out.below hb).more hb.size)
            replace R6 := Lib.hid ((R6.out.below hb).more hb.size)
            have R7 := Lib.hid hr7
            have C7 := Lib.hid hc7
            have M7 := Lib.hid hm7
            clear hb hr7 hc7 hm7
            refine hK.out _ _ (⟨bk_cells3 Ba.out, bk_cells3 Bb.out⟩) (fun hHeld => ?_)
            clear hK K
            try simp only [Act.put, List.setIfInBounds_toArray, List.set_cons_zero, List.set_cons_succ]
            refine wpAnyH_ready (rs := [5]) (by kernel_rfl) (by simp) ?_
            refine AllReadyH.consL rfl (fun K hK => ?_) AllReadyH.nil
            go_simp
            refine (cdel_any A7 n7 c7 Y bn _ R7.out (by have h1 := bk_len R7.out; have h2 := HYL.out; omega) C7.out M7.out).mono ?_
            rintro e w25 ⟨A8, n8, c8, rfl, hr8, hc8, hm8, hb⟩
            rw [HDS.out] at hr8
            clear R7 C7 M7
            replace HB := Lib.hid (HB.out.trans (hb.mono HB.out.size))
            replace Ba := Lib.hid (Ba.out.below hb Ba.out.lt)
            replace Bb := Lib.hid (Bb.out.below hb Bb.out.lt)
            replace R2 := Lib.hid ((R2.out.below hb).more hb.size)
            replace R6 := Lib.hid ((R6.out.below hb).more hb.size)
            have R8 := Lib.hid hr8
            have C8 := Lib.hid hc8
            have M8 := Lib.hid hm8
            clear hb hr8 hc8 hm8
            refine hK.out _ _ (⟨bk_cells3 Ba.out, bk_cells3 Bb.out⟩) (fun hHeld => ?_)
            clear hK K
            try simp only [Act.put, List.setIfInBounds_toArray, List.set_cons_zero, List.set_cons_succ]
            refine wpAnyH_takeL (i := 6) (v := ?_) rfl (by kernel_rfl) (by kernel_rfl) (by kernel_rfl) (fun _ _ _ h => h) (Or.inl ⟨by rfl, ?_⟩) (by first | trivial | assumption) ?_
            rotate_left
            · intro wz hSz; (try dsimp only at hSz); go_simp; (try with_reducible rfl)
            try simp only [Act.put, List.setIfInBounds_toArray, List.set_cons_zero, List.set_cons_succ]
            refine wpAnyH_done (by kernel_rfl) ?_ _
            go_wp2_with fail
            have n6Y := bk_len R6.out
            have n8D := bk_len R8.out
            have vBa_0 := Ba.out.cell 0
            have vBa_1 := Ba.out.cell 1
            have vBa_2 := Ba.out.cell 2
            have vBb_0 := Bb.out.cell 0
            have vBb_1 := Bb.out.cell 1
            have vBb_2 := Bb.out.cell 2
            simp at vBa_0 vBa_1 vBa_2 vBb_0 vBb_1 vBb_2
            go_wp2_with fail
            refine (cset_any (some ad) nx c2 X ⟨bn, br, bk⟩ _ R2.out (Nat.le_trans HN61.out (by decide)) C2.out M2.out).mono ?_
            rintro e w26 ⟨A9, n9, c9, rfl, hr9, hc9, hm9, hb⟩
            rw [HSC.out] at hr9
            replace HB := Lib.hid (HB.out.trans (hb.mono HB.out.size))
            replace Ba := Lib.hid (Ba.out.below hb Ba.out.lt)
            replace Bb := Lib.hid (Bb.out.below hb Bb.out.lt)
            replace R2 := Lib.hid ((R2.out.below hb).more hb.size)
            replace R6 := Lib.hid ((R6.out.below hb).more hb.size)
            replace R8 := Lib.hid ((R8.out.below hb).more hb.size)
            have R9 := Lib.hid hr9
            have C9 := Lib.hid hc9
            have M9 := Lib.hid hm9
            clear hb hr9 hc9 hm9
            clear vBa_0 vBa_1 vBa_2 vBb_0 vBb_1 vBb_2
            have n9Y := bk_len R9.out
            obtain rfl : n9 = n6 := n9Y.symm.trans n6Y
            go_wp2_with fail
            refine (same6_yes A9 n9 c9 A6 c6 Y _ R9.out R6.out (by have h2 := HYL.out; unfold maxLen; omega)).mono ?_
            rintro e w27 ⟨rfl, q, hq⟩
            have hb : Below w26.heap.size w26 w27 := by rw [hq]; exact below_drewN (Below.refl _ _) q
            replace HB := Lib.hid (HB.out.trans (hb.mono HB.out.size))
            replace Ba := Lib.hid (Ba.out.below hb Ba.out.lt)
            replace Bb := Lib.hid (Bb.out.below hb Bb.out.lt)
            replace R2 := Lib.hid ((R2.out.below hb).more hb.size)
            replace R6 := Lib.hid ((R6.out.below hb).more hb.size)
            replace R8 := Lib.hid ((R8.out.below hb).more hb.size)
            replace R9 := Lib.hid ((R9.out.below hb).more hb.size)
            clear hb hq
            have vBa_0 := Ba.out.cell 0
            have vBa_1 := Ba.out.cell 1
            have vBa_2 := Ba.out.cell 2
            have vBb_0 := Bb.out.cell 0
            have vBb_1 := Bb.out.cell 1
            have vBb_2 := Bb.out.cell 2
            simp at vBa_0 vBa_1 vBa_2 vBb_0 vBb_1 vBb_2
            go_wp2_with fail
            refine (cdel_any (some ad) nx c2 X bn _ R2.out (Nat.le_trans HN61.out (by decide)) C2.out M2.out).mono ?_
            rintro e w28 ⟨A10, n10, c10, rfl, hr10, hc10, hm10, hb⟩
            rw [← HDN.out] at hr10
            replace HB := Lib.hid (HB.out.trans (hb.mono HB.out.size))
            replace Ba := Lib.hid (Ba.out.below hb Ba.out.lt)
            replace Bb := Lib.hid (Bb.out.below hb Bb.out.lt)
            replace R2 := Lib.hid ((R2.out.below hb).more hb.size)
            replace R6 := Lib.hid ((R6.out.below hb).more hb.size)
            replace R8 := Lib.hid ((R8.out.below hb).more hb.size)
            replace R9 := Lib.hid ((R9.out.below hb).more hb.size)
            have R10 := Lib.hid hr10
            have C10 := Lib.hid hc10
            have M10 := Lib.hid hm10
            clear hb hr10 hc10 hm10
            clear vBa_0 vBa_1 vBa_2 vBb_0 vBb_1 vBb_2
            have n10D := bk_len R10.out
            obtain rfl : n10 = n8 := n10D.symm.trans n8D
            go_wp2_with fail
            refine (same6_yes A8 n10 c8 A10 c10 Dn _ R8.out R10.out (by have h1 := delB_len X bn; rw [← HDN.out] at h1; have h2 := HNX.out; have h3 := HN61.out; unfold maxLen; omega)).mono ?_
            rintro e w29 ⟨rfl, q2, hq⟩
            have hb : Below w28.heap.size w28 w29 := by rw [hq]; exact below_drewN (Below.refl _ _) q2
            replace HB := Lib.hid (HB.out.trans (hb.mono HB.out.size))
            clear hq hb
            go_wp2_with fail
            go_ret
            exact ⟨rfl, HB.out⟩
          · skip
            have hnm : an = bn := bytes_of_list (by simpa using hne)
            have hss := set_set HAsc.out ⟨an, ar, ak⟩ ⟨bn, br, bk⟩ hnm
            rw [← HX.out] at hss
            obtain ⟨Y, hY⟩ : ∃ Y, Y = setB l ⟨bn, br, bk⟩ := ⟨_, rfl⟩
            rw [← hY] at hss
            have HY := Lib.hid hY
            have HSS := Lib.hid hss
            have HYL := Lib.hid (show Y.length ≤ 61 from by rw [hY]; have h1 := setB_len l ⟨bn, br, bk⟩; have h2 := HL.out; omega)
            clear hY hss hnm
            go_wp2_with fail
            clear hne vBa_0 vBa_1 vBa_2 vBb_0 vBb_1 vBb_2
            replace Ba := Lib.hid Ba.out.drew
            replace Bb := Lib.hid Bb.out.drew
            replace R2 := Lib.hid (show Reads _ _ 3 _ _ _ from R2.out.drew)
            replace HB := Lib.hid HB.out.drew
            refine wp_region_held_drew (S := (fun w' => (w'.cell? ⟨w.heap.size, 0, none⟩ = some (.string an) ∧ w'.cell? ⟨w.heap.size, 1, none⟩ = some (.int .u32 ar) ∧ w'.cell? ⟨w.heap.size, 2, none⟩ = some (.int .i64 ak)) ∧ (w'.cell? ⟨gBb, 0, none⟩ = some (.string bn) ∧ w'.cell? ⟨gBb, 1, none⟩ = some (.int .u32 br) ∧ w'.cell? ⟨gBb, 2, none⟩ = some (.int .i64 bk)))) (by kernel_rfl) ⟨bk_cells3 Ba.out, bk_cells3 Bb.out⟩ (fun hHeld => ?_)
            refine wpAnyH_takeL (i := 0) (v := ?_) rfl (by kernel_rfl) (by kernel_rfl) (by kernel_rfl) (fun _ _ _ h => h) (Or.inl ⟨by rfl, ?_⟩) (by first | trivial | assumption) ?_
            rotate_left
            · intro wz hSz; (try dsimp only at hSz); go_simp; (try with_reducible rfl)
            try simp only [Act.put, List.setIfInBounds_toArray, List.set_cons_zero, List.set_cons_succ]
            refine wpAnyH_takeL (i := 1) (v := ?_) rfl (by kernel_rfl) (by kernel_rfl) (by kernel_rfl) (fun _ _ _ h => h) (Or.inl ⟨by rfl, ?_⟩) (by first | trivial | assumption) ?_
            rotate_left
            · intro wz hSz; (try dsimp only at hSz); go_simp; (try with_reducible rfl)
            try simp only [Act.put, List.setIfInBounds_toArray, List.set_cons_zero, List.set_cons_succ]
            refine wpAnyH_takeL (i := 3) (v := ?_) rfl (by kernel_rfl) (by kernel_rfl) (by kernel_rfl) (fun _ _ _ h => h) (Or.inl ⟨by rfl, ?_⟩) (by first | trivial | assumption) ?_
            rotate_left
            · intro wz hSz; (try dsimp only at hSz); go_simp; (try with_reducible rfl)
            try simp only [Act.put, List.setIfInBounds_toArray, List.set_cons_zero, List.set_cons_succ]
            refine wpAnyH_takeL (i := 5) (v := ?_) rfl (by kernel_rfl) (by kernel_rfl) (by kernel_rfl) (fun _ _ _ h => h) (Or.inl ⟨by rfl, ?_⟩) (by first | trivial | assumption) ?_
            rotate_left
            · intro wz hSz; (try dsimp only at hSz); go_simp; (try with_reducible rfl)
            try simp only [Act.put, List.setIfInBounds_toArray, List.set_cons_zero, List.set_cons_succ]
            refine wpAnyH_ready (rs := [2]) (by kernel_rfl) (by simp) ?_
            refine AllReadyH.consL rfl (fun K hK => ?_) AllReadyH.nil
            go_simp
            refine (cset_any (some ad) nx c2 X ⟨bn, br, bk⟩ _ R2.out (Nat.le_trans HN61.out (by decide)) C2.out M2.out).mono ?_
            rintro e w21 ⟨A4, n4, c4, rfl, hr4, hc4, hm4, hb⟩
            rw [HSS.out] at hr4
            replace HB := Lib.hid (HB.out.trans (hb.mono HB.out.size))
            replace Ba := Lib.hid (Ba.out.below hb Ba.out.lt)
            replace Bb := Lib.hid (Bb.out.below hb Bb.out.lt)
            replace R2 := Lib.hid ((R2.out.below hb).more hb.size)
            have R4 := Lib.hid hr4
            have C4 := Lib.hid hc4
            have M4 := Lib.hid hm4
            clear hb hr4 hc4 hm4
            refine hK.out _ _ (⟨bk_cells3 Ba.out, bk_cells3 Bb.out⟩) (fun hHeld => ?_)
            clear hK K
            try simp only [Act.put, List.setIfInBounds_toArray, List.set_cons_zero, List.set_cons_succ]
            refine wpAnyH_ready (rs := [4]) (by kernel_rfl) (by simp) ?_
            refine AllReadyH.consL rfl (fun K hK => ?_) AllReadyH.nil
            go_simp
            refine (own6_any A m c l _ ((HR.out.below HB.out).more HB.out.size) (Nat.le_trans H60.out (by decide))).mono ?_
            rintro e w22 ⟨A5, c5, rfl, hr5, hc5, hm5, hb⟩
            replace HB := Lib.hid (HB.out.trans (hb.mono HB.out.size))
            replace Ba := Lib.hid (Ba.out.below hb Ba.out.lt)
            replace Bb := Lib.hid (Bb.out.below hb Bb.out.lt)
            replace R2 := Lib.hid ((R2.out.below hb).more hb.size)
            replace R4 := Lib.hid ((R4.out.below hb).more hb.size)
            have R5 := Lib.hid hr5
            have C5 := Lib.hid hc5
            have M5 := Lib.hid hm5
            clear hb hr5 hc5 hm5
            refine hK.out _ _ (⟨bk_cells3 Ba.out, bk_cells3 Bb.out⟩) (fun hHeld => ?_)
            clear hK K
            try simp only [Act.put, List.setIfInBounds_toArray, List.set_cons_zero, List.set_cons_succ]
            refine wpAnyH_ready (rs := [6]) (by kernel_rfl) (by simp) ?_
            refine AllReadyH.consL rfl (fun K hK => ?_) AllReadyH.nil
            go_simp
            refine (cset_any A5 m c5 l ⟨bn, br, bk⟩ _ R5.out (Nat.le_trans H60.out (by decide)) C5.out M5.out).mono ?_
            rintro e w23 ⟨A6, n6, c6, rfl, hr6, hc6, hm6, hb⟩
            rw [← HY.out] at hr6
            clear R5 C5 M5
            replace HB := Lib.hid (HB.out.trans (hb.mono HB.out.size))
            replace Ba := Lib.hid (Ba.out.below hb Ba.out.lt)
            replace Bb := Lib.hid (Bb.out.below hb Bb.out.lt)
            replace R2 := Lib.hid ((R2.out.below hb).more hb.size)
            replace R4 := Lib.hid ((R4.out.below hb).more hb.size)
            have R6 := Lib.hid hr6
            have C6 := Lib.hid hc6
            have M6 := Lib.hid hm6
            clear hb hr6 hc6 hm6
            refine hK.out _ _ (⟨bk_cells3 Ba.out, bk_cells3 Bb.out⟩) (fun hHeld => ?_)
            clear hK K
            try simp only [Act.put, List.setIfInBounds_toArray, List.set_cons_zero, List.set_cons_succ]
            have n4Y := bk_len R4.out
            have n6Y := bk_len R6.out
            obtain rfl : n6 = n4 := n6Y.symm.trans n4Y
            refine wpAnyH_ready (rs := [7]) (by kernel_rfl) (by simp) ?_
            refine AllReadyH.consL rfl (fun K hK => ?_) AllReadyH.nil
            go_simp
            refine (same6_yes A4 n6 c4 A6 c6 Y _ R4.out R6.out (by have h2 := HYL.out; unfold maxLen; omega)).mono ?_
            rintro e w24 ⟨rfl, q, hq⟩
            have hb : Below w23.heap.size w23 w24 := by rw [hq]; exact below_drewN (Below.refl _ _) q
            replace HB := Lib.hid (HB.out.trans (hb.mono HB.out.size))
            replace Ba := Lib.hid (Ba.out.below hb Ba.out.lt)
            replace Bb := Lib.hid (Bb.out.below hb Bb.out.lt)
            replace R2 := Lib.hid ((R2.out.below hb).more hb.size)
            clear hb hq
            refine hK.out _ _ (⟨bk_cells3 Ba.out, bk_cells3 Bb.out⟩) (fun hHeld => ?_)
            clear hK K
            try simp only [Act.put, List.setIfInBounds_toArray, List.set_cons_zero, List.set_cons_succ]
            refine wpAnyH_takeL (i := 8) (v := ?_) rfl (by kernel_rfl) (by kernel_rfl) (by kernel_rfl) (fun _ _ _ h => h) (Or.inl ⟨by rfl, ?_⟩) (by first | trivial | assumption) ?_
            rotate_left
            · intro wz hSz; (try dsimp only at hSz); go_simp; (try with_reducible rfl)
            try simp only [Act.put, List.setIfInBounds_toArray, List.set_cons_zero, List.set_cons_succ]
            refine wpAnyH_done (by kernel_rfl) ?_ _
            go_wp2_with fail
            go_ret
            exact ⟨rfl, HB.out⟩
theorem csets_walk (A : Option Addr) (m c : Nat) (l : List Bk) (an : ByteArray) (ar : Nat) (ak : Int) (bn : ByteArray) (br : Nat) (bk : Int) (w : World) (hl : Bks w w.heap.size A m c l) (_h1 : BkOk ⟨an, ar, ak⟩) (_h2 : BkOk ⟨bn, br, bk⟩) :
    Calls Try.prog 7 #[.slice A m c, .agg #[.string an, .int .u32 ar, .int .i64 ak], .agg #[.string bn, .int .u32 br, .int .i64 bk]] w fun e w' => e = .returned (.bool true) ∧ Below w.heap.size w w' := by
  obtain ⟨hr, hmc, hcm, hm, hok⟩ := hl
  rcases hli : lightB l with _ | _
  · exact csets_no A m c l an ar ak bn br bk w hr hm hmc hcm hli
  by_cases ha : 100 < an.size
  · exact csets_a A m c l an ar ak bn br bk w hr hm hmc hcm hli ha
  by_cases hb : 100 < bn.size
  · exact csets_b A m c l an ar ak bn br bk w hr hm hmc hcm hli ha hb
  obtain ⟨h60, hsz⟩ := light_size2 hli fun b hb => (hok b hb).2
  rw [bk_len hr] at h60
  exact csets_main A m c l an ar ak bn br bk w hr hm hmc hcm hli ha hb h60 hsz
end Go.Proofs.Ytgljmcameeeaiaa
