/-
  The walk of the statement BranchFits: from every start, at every argument, it returns true and changes no block that was there before.
-/
import Derived.Test.YtddnfmdplkmmdaaFkLaw
import Derived.Test.YtddnfmdplkmmdaaFkOpen
import Derived.Test.YtddnfmdplkmmdaaFkMath
import Derived.Test.YtddnfmdplkmmdaaOrder
import Derived.Test.YtddnfmdplkmmdaaPgWords
import Derived.Test.YtddnfmdplkmmdaaKitLaw
import Derived.Deep.RegionHeld3
import Derived.Deep.CutRange
import Derived.Lib.SliceRun
namespace Go.Proofs.Ytddnfmdplkmmdaa
open Go.RowKit
open Go.Lib hiding intOf
set_option linter.unusedVariables false
set_option linter.unusedSimpArgs false
attribute [local go_sem ↓] Go.wp_at_zero Go.wp_at_succ

theorem slice7_mid (A : Option Addr) (n c i j : Nat) (hi : i ≤ j) (hj : j ≤ c) : ∃ X q r, X = (if c = i then A else A.map (·.add (i * 2))) ∧ q = j - i ∧ r = c - i ∧ ∀ w : World, (Instr.sliceAt 30 (.slice A n c) (some (.int .i64 (i : Int))) (some (.int .i64 (j : Int))) none).run Try.prog w = .ok (.slice X q r) w := by
  refine ⟨_, _, _, rfl, rfl, rfl, fun w => ?_⟩
  obtain ⟨i0, hi0, hz0, hz1, hz2⟩ := info_parts infoFk
  have he : Try.prog.elem 30 = 35 := by kernel_rfl
  have hu : Try.prog.underlying 30 = some (.slice (Try.prog.elem 30)) := by rw [he]; exact Try.underlying30
  rw [run_sliceAt_slice w _ _ _ _ _ hu, run_slice_lh w _ A n c hu .i64 .i64 i j (by omega) (by omega) (by omega), he]
  simp [sizeOf, typeInfo, hi0, hz1, sliced]
theorem slice7_lo (A : Option Addr) (n c j : Nat) (hj : j ≤ c) : ∃ X, X = (if c = 0 then A else A.map (·.add (0 * 2))) ∧ ∀ w : World, (Instr.sliceAt 30 (.slice A n c) none (some (.int .i64 (j : Int))) none).run Try.prog w = .ok (.slice X j c) w := by
  refine ⟨_, rfl, fun w => ?_⟩
  obtain ⟨i0, hi0, hz0, hz1, hz2⟩ := info_parts infoFk
  have he : Try.prog.elem 30 = 35 := by kernel_rfl
  have hu : Try.prog.underlying 30 = some (.slice (Try.prog.elem 30)) := by rw [he]; exact Try.underlying30
  rw [run_sliceAt_slice w _ _ _ _ _ hu, run_slice_h w _ A n c hu .i64 j (by omega) (by omega), he]
  simp [sizeOf, typeInfo, hi0, hz1, sliced]
theorem slice7_hi (A : Option Addr) (n c i : Nat) (hi : i ≤ n) (hn : n ≤ c) : ∃ X q r, X = (if c = i then A else A.map (·.add (i * 2))) ∧ q = n - i ∧ r = c - i ∧ ∀ w : World, (Instr.sliceAt 30 (.slice A n c) (some (.int .i64 (i : Int))) none none).run Try.prog w = .ok (.slice X q r) w := by
  refine ⟨_, _, _, rfl, rfl, rfl, fun w => ?_⟩
  obtain ⟨i0, hi0, hz0, hz1, hz2⟩ := info_parts infoFk
  have he : Try.prog.elem 30 = 35 := by kernel_rfl
  have hu : Try.prog.underlying 30 = some (.slice (Try.prog.elem 30)) := by rw [he]; exact Try.underlying30
  rw [run_sliceAt_slice w _ _ _ _ _ hu, run_slice_l w _ A n c hu .i64 i (by omega) (by omega), he]
  simp [sizeOf, typeInfo, hi0, hz1, sliced]
theorem part7 {size : Int} {l : List Fk} {i t : Nat} (h : mayP7 size 2 0 l = true) (hit : i < t) (htl : t ≤ l.length) : mayP7 size 2 0 ((l.take t).drop i) = true := by
  have he : (l.take t).drop i = (l.drop i).take (t - i) := by rw [List.drop_take]
  rw [he]
  have h1 := okAtF_part (l := l) (by simp only [mayP7, mayF, Bool.and_eq_true] at h; exact h.2.1.1) i (t - i)
  have h2 := sizeF_part l i (t - i)
  have h3 : 0 < ((l.drop i).take (t - i)).length := by rw [List.length_take, List.length_drop]; omega
  simp only [mayP7, mayF, Bool.and_eq_true, decide_eq_true_eq] at h ⊢
  exact ⟨h.1, ⟨h1, h3⟩, by omega, h.2.2.2⟩

set_option maxRecDepth 100000 in
set_option maxHeartbeats 12800000 in
theorem brfits_no (size : Int) (A : Option Addr) (m c : Nat) (l : List Fk) (fr tu : Int) (w : World) (hr : Reads w w.heap.size 2 A m (fkc l)) (hm : m ≤ 5864062014805) (hmc : m ≤ c) (hl : lightF l = false) :
    Calls Try.prog 7 #[.int .i64 size, .slice A m c, .int .i64 fr, .int .i64 tu] w fun e w' => e = .returned (.bool true) ∧ Below w.heap.size w w' := by
  have HR := Lib.hid hr
  have HM := Lib.hid hm
  have HLi := Lib.hid hl
  clear hr hm hl
  have HB := Lib.hid (Below.refl w.heap.size w)
  go_enter Try.func7, Try.ntmps7
  go_wp2_with fail
  refine (lives7_any _).mono ?_
  rintro e w101 ⟨rfl, hb⟩
  replace HB := Lib.hid (HB.out.trans (hb.mono HB.out.size))
  clear hb
  go_wp2_with fail
  refine (light7_any A m c l _ (HR.out.below HB.out) (Nat.le_trans HM.out (by decide))).mono ?_
  rintro e w102 ⟨rfl, rfl⟩
  rw [HLi.out]
  go_wp2_with fail
  go_ret
  exact ⟨rfl, HB.out⟩
set_option maxRecDepth 100000 in
set_option maxHeartbeats 12800000 in
theorem brfits_nil (size : Int) (A : Option Addr) (m c : Nat) (l : List Fk) (fr tu : Int) (w : World) (hr : Reads w w.heap.size 2 A m (fkc l)) (hm : m ≤ 5864062014805) (hmc : m ≤ c) (hl : lightF l = true) (h0 : m = 0) :
    Calls Try.prog 7 #[.int .i64 size, .slice A m c, .int .i64 fr, .int .i64 tu] w fun e w' => e = .returned (.bool true) ∧ Below w.heap.size w w' := by
  subst h0
  have HR := Lib.hid hr
  have HM := Lib.hid hm
  have HLi := Lib.hid hl
  clear hr hm hl
  have HB := Lib.hid (Below.refl w.heap.size w)
  go_enter Try.func7, Try.ntmps7
  go_wp2_with fail
  refine (lives7_any _).mono ?_
  rintro e w101 ⟨rfl, hb⟩
  replace HB := Lib.hid (HB.out.trans (hb.mono HB.out.size))
  clear hb
  go_wp2_with fail
  refine (light7_any A 0 c l _ (HR.out.below HB.out) (Nat.le_trans HM.out (by decide))).mono ?_
  rintro e w102 ⟨rfl, rfl⟩
  rw [HLi.out]
  go_wp2_with fail
  go_ret
  exact ⟨rfl, HB.out⟩
set_option maxRecDepth 100000 in
set_option maxHeartbeats 12800000 in
theorem brfits_g11 (z : Nat) (A : Option Addr) (m c : Nat) (l : List Fk) (fr tu : Int) (w : World) (hr : Reads w w.heap.size 2 A m (fkc l)) (hm : m ≤ 5864062014805) (hmc : m ≤ c) (hl : lightF l = true) (h0 : 0 < m) (h60 : m ≤ 100) (hsz : sizeF l ≤ 8000000000000000) (h1 : 128 ≤ z) (h2 : z ≤ 4096) (h3 : z % 64 = 0) (hy : mayP7 z 2 0 l = true) (hbig : mayP7 4096 2 0 l = true) (hfit : sizeF l ≤ z - 24) :
    Calls Try.prog 7 #[.int .i64 z, .slice A m c, .int .i64 fr, .int .i64 tu] w fun e w' => e = .returned (.bool true) ∧ Below w.heap.size w w' := by
  have HR := Lib.hid hr
  have HM := Lib.hid hm
  have HLi := Lib.hid hl
  have HLn := Lib.hid (fk_len hr)
  obtain ⟨b0, b1, b2, b3, b4, b5, be, HPb, hbe⟩ : ∃ (b0 b1 : Int) (b2 b3 b4 : Nat) (b5 : ByteArray) (be : Int), (∀ w' : World, Reads w' w'.heap.size 2 A m (fkc l) → Calls Try.prog 9 #[.int .i64 4096, .int .u32 2, .int .u64 0, .slice A m c] w' fun e w'' => e = .returned (.tuple #[.agg #[.int .i64 b0, .int .i64 b1, .int .u32 b2, .int .u32 b3, .int .u64 b4, .string b5], .int .i64 be]) ∧ Below w'.heap.size w' w'') ∧ be = (if mayP7 4096 2 0 l = true then 0 else 2) := by
    rcases hy : mayP7 4096 2 0 l with _ | _
    · exact ⟨0, 0, 0, 0, 0, ByteArray.empty, 2, fun w' hr => bpage7_no 4096 2 0 A m c l w' hr (by omega) hy, rfl⟩
    · obtain ⟨z, hzz, _, _, _⟩ := good_nat (by simp only [mayP7, Bool.and_eq_true] at hy; exact hy.1 : goodSize 4096 = true)
      refine ⟨3, m, 2, 0, 0, forkBody z l, 0, fun w' hr => ?_, rfl⟩
      have h := bpage7_yes z 2 0 A m c l w' hr (by omega) (by rw [← hzz]; exact hy)
      rw [← hzz] at h
      exact h
  rw [hbig] at hbe
  simp only [if_pos, Bool.false_eq_true, if_false, if_true, ↓reduceIte] at hbe
  subst hbe
  obtain ⟨a0, a1, a2, a3, a4, a5, ae, HPa, hae⟩ : ∃ (a0 a1 : Int) (a2 a3 a4 : Nat) (a5 : ByteArray) (ae : Int), (∀ w' : World, Reads w' w'.heap.size 2 A m (fkc l) → Calls Try.prog 9 #[.int .i64 z, .int .u32 2, .int .u64 0, .slice A m c] w' fun e w'' => e = .returned (.tuple #[.agg #[.int .i64 a0, .int .i64 a1, .int .u32 a2, .int .u32 a3, .int .u64 a4, .string a5], .int .i64 ae]) ∧ Below w'.heap.size w' w'') ∧ ae = (if mayP7 z 2 0 l = true then 0 else 2) := by
    rcases hy : mayP7 z 2 0 l with _ | _
    · exact ⟨0, 0, 0, 0, 0, ByteArray.empty, 2, fun w' hr => bpage7_no z 2 0 A m c l w' hr (by omega) hy, rfl⟩
    · obtain ⟨z, hzz, _, _, _⟩ := good_nat (by simp only [mayP7, Bool.and_eq_true] at hy; exact hy.1 : goodSize z = true)
      refine ⟨3, m, 2, 0, 0, forkBody z l, 0, fun w' hr => ?_, rfl⟩
      have h := bpage7_yes z 2 0 A m c l w' hr (by omega) (by rw [← hzz]; exact hy)
      rw [← hzz] at h
      exact h
  rw [hy] at hae
  simp only [if_pos, Bool.false_eq_true, if_false, if_true, ↓reduceIte] at hae
  subst hae
  have hml : (m == 0) = false := by simp; omega
  have hml2 : ((m : Int) == 0) = false := by simp; omega
  have hfm0 : (0 : Int) ≤ fr % m := Int.emod_nonneg _ (by omega)
  have hfm1 : fr % (m : Int) < m := Int.emod_lt_of_pos _ (by omega)
  obtain ⟨i, hi⟩ := Int.eq_ofNat_of_zero_le hfm0
  rw [hi] at hfm1
  have him : i < m := by omega
  obtain ⟨k, hk⟩ : ∃ k, k = m - i := ⟨_, rfl⟩
  have hk0 : 1 ≤ k := by omega
  have htm0 : (0 : Int) ≤ tu % k := Int.emod_nonneg _ (by omega)
  have htm1 : tu % (k : Int) < k := Int.emod_lt_of_pos _ (by omega)
  obtain ⟨j, hj⟩ := Int.eq_ofNat_of_zero_le htm0
  rw [hj] at htm1
  obtain ⟨t, ht⟩ : ∃ t, t = i + 1 + j := ⟨_, rfl⟩
  have htm : t ≤ m := by omega
  have hki : (m : Int) - i = (k : Int) := by omega
  have hti : (i : Int) + 1 + (j : Int) = (t : Int) := by omega
  have HP1 := fun w => pick_any fr m w (by omega) (by omega)
  have HP2 := fun w => pick_any tu k w (by omega) (by omega)
  rw [hi] at HP1
  rw [hj] at HP2
  obtain ⟨X, q, r, hX, hq, hrr, hsl⟩ := slice7_mid A m c i t (by omega) (by omega)
  obtain ⟨Q, hQ⟩ : ∃ Q, Q = (l.take t).drop i := ⟨_, rfl⟩
  have hXr : ∀ w : World, Reads w w.heap.size 2 A m (fkc l) → Reads w w.heap.size 2 X q (fkc Q) := fun w h => by
    rw [hX, hq, hQ]
    exact fk_drop (fk_take h htm) (by omega) (by omega)
  have HXr := Lib.hid hXr
  have hql : q ≤ 5864062014805 := by omega
  have hz1 : decide ((128 : Int) ≤ z) = true := by simp; omega
  have hz2 : decide ((z : Int) ≤ 4096) = true := by simp; omega
  have hz3 : decide (128 ≤ z) = true := by simp; omega
  have hz4 : decide (z ≤ 4096) = true := by simp; omega
  have hz5 : (z % 64 == 0) = true := by simpa using h3
  have hz6 : ((z : Int) % 64 == 0) = true := by simp; omega
  obtain ⟨SL, hSL⟩ : ∃ s, s = sizeF l := ⟨_, rfl⟩
  have HSL := Lib.hid hSL
  have HSz := Lib.hid (show sizeF l ≤ 9007199254740992 by omega)
  have hf1 : decide ((SL : Int) ≤ (z : Int) - 24) = true := by simp; omega
  have hzs : (z : Int) - 24 = ((z - 24 : Nat) : Int) := by omega
  have hf2 : decide (SL ≤ z - 24) = true := by simp; omega
  have hf3 : decide ((SL : Int) ≤ ((z - 24 : Nat) : Int)) = true := by simp; omega
  have hpy := part7 (i := i) (t := t) hy (by omega) (by rw [fk_len hr]; exact htm)
  rw [← hQ] at hpy
  have hlq : Q.length = q := fk_len (hXr w hr)
  obtain ⟨Y, hY⟩ : ∃ Y, Y = forkBody z Q := ⟨_, rfl⟩
  have hYs : Y.size = z - 24 := by rw [hY]; exact forkBody_size z Q (mayP7_parts hpy).2.2.2.1.1
  have HPc := fun (w : World) (hr : Reads w w.heap.size 2 X q (fkc Q)) => bpage7_yes z 2 0 X q r Q w hr hql hpy
  rw [← hY] at HPc
  have HOx := fun w => bof7_any 3 q 2 0 0 Y w (by omega)
  have hrd : readF 3 q 2 0 0 Y = some Q := by rw [hY, ← hlq]; exact readF_page hpy
  rw [hrd] at HOx
  obtain ⟨X1, hX1, hsl1⟩ := slice7_lo A m c i (by omega)
  obtain ⟨X2, q2, r2, hX2, hq2, hr2, hsl2⟩ := slice7_hi A m c i (by omega) hmc
  have HR1 := Lib.hid (show ∀ w : World, Reads w w.heap.size 2 A m (fkc l) → Reads w w.heap.size 2 X1 i (fkc (l.take i)) from fun w h => by
    rw [hX1]
    exact fk_drop (fk_take h (by omega)) (by omega) (by omega))
  have HR2 := Lib.hid (show ∀ w : World, Reads w w.heap.size 2 A m (fkc l) → Reads w w.heap.size 2 X2 q2 (fkc (l.drop i)) from fun w h => by
    rw [hX2, hq2]
    exact fk_drop h (by omega) hmc)
  have hcut := sizeF_cut l i
  obtain ⟨S1, hS1⟩ : ∃ s, s = sizeF (l.take i) := ⟨_, rfl⟩
  obtain ⟨S2, hS2⟩ : ∃ s, s = sizeF (l.drop i) := ⟨_, rfl⟩
  have HS1 := Lib.hid hS1
  have HS2 := Lib.hid hS2
  rw [← hS1, ← hS2, ← hSL] at hcut
  have hS1z : S1 ≤ 9007199254740992 := by omega
  have hS2z : S2 ≤ 9007199254740992 := by omega
  have hsum : (S1 : Int) + (S2 : Int) = (SL : Int) := by omega
  have HLQ := Lib.hid hlq
  have hq2m : q2 ≤ 1000000 := by omega
  have hslz : SL ≤ 8000000000000000 := by omega
  have hslw : IntKind.i64.wrap (SL : Int) = (SL : Int) := by rw [IntKind.wrap_i64]; omega
  clear hpy hlq hY hYs hrd hX1 hX2 hS1 hS2 hr2
  have HQ := Lib.hid hQ
  have hm100 := h60
  have hit : i < t := by omega
  have hmc2 : t ≤ c := by omega
  clear hr hm hl hsz hy hbig hXr hX hQ hi hj hSL hfm0 htm0 hk ht hq hrr hq2 hfit
  obtain ⟨hz, hi⟩ := zero_of_info infoPg
  have HI := Lib.hid hi
  clear hi
  have HB := Lib.hid (Below.refl w.heap.size w)
  go_enter Try.func7, Try.ntmps7
  go_wp2_with fail
  refine (lives7_any _).mono ?_
  rintro e w101 ⟨rfl, hb⟩
  replace HB := Lib.hid (HB.out.trans (hb.mono HB.out.size))
  clear hb
  go_wp2_with fail
  refine (light7_any A m c l _ (HR.out.below HB.out) (Nat.le_trans HM.out (by decide))).mono ?_
  rintro e w102 ⟨rfl, rfl⟩
  rw [HLi.out]
  go_wp2_with fail
  refine (HPb _ ((HR.out.below HB.out).more HB.out.size)).mono ?_
  rintro e w103 ⟨rfl, hb⟩
  replace HB := Lib.hid (HB.out.trans (hb.mono HB.out.size))
  clear hb
  clear HPb
  obtain ⟨w104, hw104⟩ : ∃ x, x = w103.alloc (.cells #[.int .i64 b0, .int .i64 b1, .int .u32 b2, .int .u32 b3, .int .u64 b4, .string b5] 26) := ⟨_, rfl⟩
  have saw104 : w103.heap.size = w103.heap.size := by first | rfl | omega
  have ge_B0 := Lib.hid (show w.heap.size ≤ w103.heap.size from saw104 ▸ HB.out.size)
  replace HB := Lib.hid (show Below w.heap.size w w104 by rw [hw104]; exact HB.out.alloc HB.out.size _)
  have B0 := Lib.hid (show Blk w104 w103.heap.size 26 #[.int .i64 b0, .int .i64 b1, .int .u32 b2, .int .u32 b3, .int .u64 b4, .string b5] by rw [hw104, ← saw104]; exact Blk.new _ _ _)
  have szw104 : w104.heap.size = w103.heap.size + 1 := by rw [hw104]; simp
  clear saw104 szw104
  go_wp2_with fail
  rw [← hw104]
  clear hw104
  generalize w103.heap.size = gB0 at *
  clear B0
  refine (HPa _ ((HR.out.below HB.out).more HB.out.size)).mono ?_
  rintro e w105 ⟨rfl, hb⟩
  replace HB := Lib.hid (HB.out.trans (hb.mono HB.out.size))
  clear hb
  clear HPa
  obtain ⟨w106, hw106⟩ : ∃ x, x = w105.alloc (.cells #[.int .i64 a0, .int .i64 a1, .int .u32 a2, .int .u32 a3, .int .u64 a4, .string a5] 26) := ⟨_, rfl⟩
  have saw106 : w105.heap.size = w105.heap.size := by first | rfl | omega
  have ge_A0 := Lib.hid (show w.heap.size ≤ w105.heap.size from saw106 ▸ HB.out.size)
  replace HB := Lib.hid (show Below w.heap.size w w106 by rw [hw106]; exact HB.out.alloc HB.out.size _)
  have A0 := Lib.hid (show Blk w106 w105.heap.size 26 #[.int .i64 a0, .int .i64 a1, .int .u32 a2, .int .u32 a3, .int .u64 a4, .string a5] by rw [hw106, ← saw106]; exact Blk.new _ _ _)
  have szw106 : w106.heap.size = w105.heap.size + 1 := by rw [hw106]; simp
  clear saw106 szw106
  go_wp2_with fail
  rw [← hw106]
  clear hw106
  generalize w105.heap.size = gA0 at *
  clear A0
  refine (bsize_any A m c l _ ((HR.out.below HB.out).more HB.out.size) (by omega) HSz.out).mono ?_
  rintro e w107 ⟨rfl, hb⟩
  replace HB := Lib.hid (HB.out.trans (hb.mono HB.out.size))
  clear hb
  rw [← HSL.out]
  go_wp2_with fail
  refine (HP1 _).mono ?_
  rintro e w108 ⟨rfl, rfl⟩
  clear HP1
  go_wp2_with fail
  refine (HP2 _).mono ?_
  rintro e w109 ⟨rfl, rfl⟩
  clear HP2
  go_wp2_with fail
  refine (HPc _ (HXr.out _ ((HR.out.below HB.out).more HB.out.size))).mono ?_
  rintro e w110 ⟨rfl, hb⟩
  replace HB := Lib.hid (HB.out.trans (hb.mono HB.out.size))
  clear hb
  clear HPc
  obtain ⟨w111, hw111⟩ : ∃ x, x = w110.alloc (.cells #[.int .i64 3, .int .i64 q, .int .u32 2, .int .u32 0, .int .u64 0, .string Y] 26) := ⟨_, rfl⟩
  have saw111 : w110.heap.size = w110.heap.size := by first | rfl | omega
  have ge_Xx := Lib.hid (show w.heap.size ≤ w110.heap.size from saw111 ▸ HB.out.size)
  replace HB := Lib.hid (show Below w.heap.size w w111 by rw [hw111]; exact HB.out.alloc HB.out.size _)
  have Xx := Lib.hid (show Blk w111 w110.heap.size 26 #[.int .i64 3, .int .i64 q, .int .u32 2, .int .u32 0, .int .u64 0, .string Y] by rw [hw111, ← saw111]; exact Blk.new _ _ _)
  have szw111 : w111.heap.size = w110.heap.size + 1 := by rw [hw111]; simp
  clear saw111 szw111
  go_upto_region 15 with fail
  rw [← hw111]
  clear hw111
  generalize w110.heap.size = gXx at *
  have cXx_0 := Xx.out.cell 0
  have cXx_1 := Xx.out.cell 1
  have cXx_2 := Xx.out.cell 2
  have cXx_3 := Xx.out.cell 3
  have cXx_4 := Xx.out.cell 4
  have cXx_5 := Xx.out.cell 5
  simp at cXx_0 cXx_1 cXx_2 cXx_3 cXx_4 cXx_5
  go_wp2_with fail
  refine (HOx _).mono ?_
  intro e w6 hpost
  obtain ⟨A6, n6, c6, rfl, hr6, hc6, hm6, hb⟩ := hpost
  obtain rfl : q = n6 := HLQ.out.symm.trans (fk_len hr6)
  have HR6 := Lib.hid hr6
  replace HB := Lib.hid (HB.out.trans (hb.mono HB.out.size))
  clear hb hr6 HOx
  clear Xx
  go_wp2_with fail
  replace HR6 := Lib.hid (show Reads _ _ 2 _ _ _ from HR6.out.drew)
  replace HB := Lib.hid HB.out.drew
  refine wp_region_held_drew (S := fun _ => True) (by kernel_rfl) trivial (fun hHeld => ?_)
  refine wpAnyH_takeL (i := 0) (v := ?_) rfl (by kernel_rfl) (by kernel_rfl) (by kernel_rfl) (fun _ _ _ h => h) (Or.inl ⟨by rfl, ?_⟩) (by first | trivial | assumption) ?_
  rotate_left
  · intro wz hSz; (try dsimp only at hSz); go_simp; (try with_reducible rfl)
  try simp only [Act.put, List.setIfInBounds_toArray, List.set_cons_zero, List.set_cons_succ]
  refine wpAnyH_takeL (i := 1) (v := ?_) rfl (by kernel_rfl) (by kernel_rfl) (by kernel_rfl) (fun _ _ _ h => h) (Or.inl ⟨by rfl, ?_⟩) (by first | trivial | assumption) ?_
  rotate_left
  · intro wz hSz; (try dsimp only at hSz); go_simp; (try with_reducible rfl)
  try simp only [Act.put, List.setIfInBounds_toArray, List.set_cons_zero, List.set_cons_succ]
  refine wpAnyH_takeL (i := 2) (v := ?_) rfl (by kernel_rfl) (by kernel_rfl) (by kernel_rfl) (fun _ _ _ h => h) (Or.inl ⟨by rfl, ?_⟩) (by first | trivial | assumption) ?_
  rotate_left
  · intro wz hSz; (try dsimp only at hSz); go_simp; (try with_reducible rfl)
  try simp only [Act.put, List.setIfInBounds_toArray, List.set_cons_zero, List.set_cons_succ]
  refine wpAnyH_takeL (i := 3) (v := ?_) rfl (by kernel_rfl) (by kernel_rfl) (by kernel_rfl) (fun _ _ _ h => h) (Or.inl ⟨by rfl, ?_⟩) (by first | trivial | assumption) ?_
  rotate_left
  · intro wz hSz; (try dsimp only at hSz); go_simp; (try with_reducible rfl)
  try simp only [Act.put, List.setIfInBounds_toArray, List.set_cons_zero, List.set_cons_succ]
  refine wpAnyH_takeL (i := 4) (v := ?_) rfl (by kernel_rfl) (by kernel_rfl) (by kernel_rfl) (fun _ _ _ h => h) (Or.inl ⟨by rfl, ?_⟩) (by first | trivial | assumption) ?_
  rotate_left
  · intro wz hSz; (try dsimp only at hSz); go_simp; (try with_reducible rfl)
  try simp only [Act.put, List.setIfInBounds_toArray, List.set_cons_zero, List.set_cons_succ]
  refine wpAnyH_takeL (i := 5) (v := ?_) rfl (by kernel_rfl) (by kernel_rfl) (by kernel_rfl) (fun _ _ _ h => h) (Or.inl ⟨by rfl, ?_⟩) (by first | trivial | assumption) ?_
  rotate_left
  · intro wz hSz; (try dsimp only at hSz); go_simp; (try with_reducible rfl)
  try simp only [Act.put, List.setIfInBounds_toArray, List.set_cons_zero, List.set_cons_succ]
  refine wpAnyH_takeL (i := 6) (v := ?_) rfl (by kernel_rfl) (by kernel_rfl) (by kernel_rfl) (fun _ _ _ h => h) (Or.inl ⟨by rfl, ?_⟩) (by first | trivial | assumption) ?_
  rotate_left
  · intro wz hSz; (try dsimp only at hSz); go_simp; (try with_reducible rfl)
  try simp only [Act.put, List.setIfInBounds_toArray, List.set_cons_zero, List.set_cons_succ]
  refine wpAnyH_takeL (i := 7) (v := ?_) rfl (by kernel_rfl) (by kernel_rfl) (by kernel_rfl) (fun _ _ _ h => h) (Or.inl ⟨by rfl, ?_⟩) (by first | trivial | assumption) ?_
  rotate_left
  · intro wz hSz; (try dsimp only at hSz); go_simp; (try with_reducible rfl)
  try simp only [Act.put, List.setIfInBounds_toArray, List.set_cons_zero, List.set_cons_succ]
  refine wpAnyH_takeL (i := 8) (v := ?_) rfl (by kernel_rfl) (by kernel_rfl) (by kernel_rfl) (fun _ _ _ h => h) (Or.inl ⟨by rfl, ?_⟩) (by first | trivial | assumption) ?_
  rotate_left
  · intro wz hSz; (try dsimp only at hSz); go_simp; (try with_reducible rfl)
  try simp only [Act.put, List.setIfInBounds_toArray, List.set_cons_zero, List.set_cons_succ]
  refine wpAnyH_takeL (i := 9) (v := ?_) rfl (by kernel_rfl) (by kernel_rfl) (by kernel_rfl) (fun _ _ _ h => h) (Or.inl ⟨by rfl, ?_⟩) (by first | trivial | assumption) ?_
  rotate_left
  · intro wz hSz; (try dsimp only at hSz); go_simp; (try with_reducible rfl)
  try simp only [Act.put, List.setIfInBounds_toArray, List.set_cons_zero, List.set_cons_succ]
  refine wpAnyH_takeL (i := 10) (v := ?_) rfl (by kernel_rfl) (by kernel_rfl) (by kernel_rfl) (fun _ _ _ h => h) (Or.inl ⟨by rfl, ?_⟩) (by first | trivial | assumption) ?_
  rotate_left
  · intro wz hSz; (try dsimp only at hSz); go_simp; (try with_reducible rfl)
  try simp only [Act.put, List.setIfInBounds_toArray, List.set_cons_zero, List.set_cons_succ]
  refine wpAnyH_takeL (i := 11) (v := ?_) rfl (by kernel_rfl) (by kernel_rfl) (by kernel_rfl) (fun _ _ _ h => h) (Or.inl ⟨by rfl, ?_⟩) (by first | trivial | assumption) ?_
  rotate_left
  · intro wz hSz; (try dsimp only at hSz); go_simp; (try with_reducible rfl)
  try simp only [Act.put, List.setIfInBounds_toArray, List.set_cons_zero, List.set_cons_succ]
  refine wpAnyH_ready (rs := [12]) (by kernel_rfl) (by simp) ?_
  refine AllReadyH.consL rfl (fun K hK => ?_) AllReadyH.nil
  go_simp
  refine (same7_yes A6 _ c6 X r Q _ HR6.out (HXr.out _ ((HR.out.below HB.out).more HB.out.size)) (by unfold maxLen; omega)).mono ?_
  rintro e w8 ⟨rfl, q8, hq8⟩
  have hb : Below w6.drew.heap.size w6.drew w8 := by rw [hq8]; exact below_drewN (Below.refl _ _) q8
  replace HB := Lib.hid (HB.out.trans (hb.mono HB.out.size))
  clear hb hq8
  refine hK.out _ _ (trivial) (fun hHeld => ?_)
  clear hK K
  try simp only [Act.put, List.setIfInBounds_toArray, List.set_cons_zero, List.set_cons_succ]
  refine wpAnyH_takeL (i := 13) (v := ?_) rfl (by kernel_rfl) (by kernel_rfl) (by kernel_rfl) (fun _ _ _ h => h) (Or.inl ⟨by rfl, ?_⟩) (by first | trivial | assumption) ?_
  rotate_left
  · intro wz hSz; (try dsimp only at hSz); go_simp; (try with_reducible rfl)
  try simp only [Act.put, List.setIfInBounds_toArray, List.set_cons_zero, List.set_cons_succ]
  refine wpAnyH_takeL (i := 14) (v := ?_) rfl (by kernel_rfl) (by kernel_rfl) (by kernel_rfl) (fun _ _ _ h => h) (Or.inl ⟨by rfl, ?_⟩) (by first | trivial | assumption) ?_
  rotate_left
  · intro wz hSz; (try dsimp only at hSz); go_simp; (try with_reducible rfl)
  try simp only [Act.put, List.setIfInBounds_toArray, List.set_cons_zero, List.set_cons_succ]
  refine wpAnyH_takeL (i := 15) (v := ?_) rfl (by kernel_rfl) (by kernel_rfl) (by kernel_rfl) (fun _ _ _ h => h) (Or.inl ⟨by rfl, ?_⟩) (by first | trivial | assumption) ?_
  rotate_left
  · intro wz hSz; (try dsimp only at hSz); go_simp; (try with_reducible rfl)
  try simp only [Act.put, List.setIfInBounds_toArray, List.set_cons_zero, List.set_cons_succ]
  refine wpAnyH_takeL (i := 16) (v := ?_) rfl (by kernel_rfl) (by kernel_rfl) (by kernel_rfl) (fun _ _ _ h => h) (Or.inl ⟨by rfl, ?_⟩) (by first | trivial | assumption) ?_
  rotate_left
  · intro wz hSz; (try dsimp only at hSz); go_simp; (try with_reducible rfl)
  try simp only [Act.put, List.setIfInBounds_toArray, List.set_cons_zero, List.set_cons_succ]
  refine wpAnyH_takeL (i := 17) (v := ?_) rfl (by kernel_rfl) (by kernel_rfl) (by kernel_rfl) (fun _ _ _ h => h) (Or.inl ⟨by rfl, ?_⟩) (by first | trivial | assumption) ?_
  rotate_left
  · intro wz hSz; (try dsimp only at hSz); go_simp; (try with_reducible rfl)
  try simp only [Act.put, List.setIfInBounds_toArray, List.set_cons_zero, List.set_cons_succ]
  refine wpAnyH_takeL (i := 19) (v := ?_) rfl (by kernel_rfl) (by kernel_rfl) (by kernel_rfl) (fun _ _ _ h => h) (Or.inl ⟨by rfl, ?_⟩) (by first | trivial | assumption) ?_
  rotate_left
  · intro wz hSz; (try dsimp only at hSz); go_simp; (try with_reducible rfl)
  try simp only [Act.put, List.setIfInBounds_toArray, List.set_cons_zero, List.set_cons_succ]
  refine wpAnyH_takeL (i := 20) (v := ?_) rfl (by kernel_rfl) (by kernel_rfl) (by kernel_rfl) (fun _ _ _ h => h) (Or.inl ⟨by rfl, ?_⟩) (by first | trivial | assumption) ?_
  rotate_left
  · intro wz hSz; (try dsimp only at hSz); go_simp; (try with_reducible rfl)
  try simp only [Act.put, List.setIfInBounds_toArray, List.set_cons_zero, List.set_cons_succ]
  refine wpAnyH_takeL (i := 21) (v := ?_) rfl (by kernel_rfl) (by kernel_rfl) (by kernel_rfl) (fun _ _ _ h => h) (Or.inl ⟨by rfl, ?_⟩) (by first | trivial | assumption) ?_
  rotate_left
  · intro wz hSz; (try dsimp only at hSz); go_simp; (try with_reducible rfl)
  try simp only [Act.put, List.setIfInBounds_toArray, List.set_cons_zero, List.set_cons_succ]
  refine wpAnyH_takeL (i := 24) (v := ?_) rfl (by kernel_rfl) (by kernel_rfl) (by kernel_rfl) (fun _ _ _ h => h) (Or.inl ⟨by rfl, ?_⟩) (by first | trivial | assumption) ?_
  rotate_left
  · intro wz hSz; (try dsimp only at hSz); go_simp; (try with_reducible rfl)
  try simp only [Act.put, List.setIfInBounds_toArray, List.set_cons_zero, List.set_cons_succ]
  refine wpAnyH_ready (rs := [18]) (by kernel_rfl) (by simp) ?_
  refine AllReadyH.consL rfl (fun K hK => ?_) AllReadyH.nil
  go_simp
  refine (bsize_any X1 i c (l.take i) _ (HR1.out _ ((HR.out.below HB.out).more HB.out.size)) (by omega) (by rw [← HS1.out]; exact hS1z)).mono ?_
  rw [← HS1.out]
  rintro e w18 ⟨rfl, hb⟩
  replace HB := Lib.hid (HB.out.trans (hb.mono HB.out.size))
  clear hb
  refine hK.out _ _ (trivial) (fun hHeld => ?_)
  clear hK K
  try simp only [Act.put, List.setIfInBounds_toArray, List.set_cons_zero, List.set_cons_succ]
  refine wpAnyH_ready (rs := [22]) (by kernel_rfl) (by simp) ?_
  refine AllReadyH.consL rfl (fun K hK => ?_) AllReadyH.nil
  go_simp
  refine (bsize_any X2 q2 r2 (l.drop i) _ (HR2.out _ ((HR.out.below HB.out).more HB.out.size)) (by omega) (by rw [← HS2.out]; exact hS2z)).mono ?_
  rw [← HS2.out]
  rintro e w22 ⟨rfl, hb⟩
  replace HB := Lib.hid (HB.out.trans (hb.mono HB.out.size))
  clear hb
  refine hK.out _ _ (trivial) (fun hHeld => ?_)
  clear hK K
  try simp only [Act.put, List.setIfInBounds_toArray, List.set_cons_zero, List.set_cons_succ]
  refine wpAnyH_takeL (i := 23) (v := ?_) rfl (by kernel_rfl) (by kernel_rfl) (by kernel_rfl) (fun _ _ _ h => h) (Or.inl ⟨by rfl, ?_⟩) (by first | trivial | assumption) ?_
  rotate_left
  · intro wz hSz; (try dsimp only at hSz); go_simp; (try with_reducible rfl)
  try simp only [Act.put, List.setIfInBounds_toArray, List.set_cons_zero, List.set_cons_succ]
  refine wpAnyH_ready (rs := [25]) (by kernel_rfl) (by simp) ?_
  refine AllReadyH.consL rfl (fun K hK => ?_) AllReadyH.nil
  go_simp
  refine (bsize_any A m c l _ ((HR.out.below HB.out).more HB.out.size) (by omega) HSz.out).mono ?_
  rw [← HSL.out]
  rintro e w25 ⟨rfl, hb⟩
  replace HB := Lib.hid (HB.out.trans (hb.mono HB.out.size))
  clear hb
  refine hK.out _ _ (trivial) (fun hHeld => ?_)
  clear hK K
  try simp only [Act.put, List.setIfInBounds_toArray, List.set_cons_zero, List.set_cons_succ]
  refine wpAnyH_takeL (i := 26) (v := ?_) rfl (by kernel_rfl) (by kernel_rfl) (by kernel_rfl) (fun _ _ _ h => h) (Or.inl ⟨by rfl, ?_⟩) (by first | trivial | assumption) ?_
  rotate_left
  · intro wz hSz; (try dsimp only at hSz); go_simp; (try with_reducible rfl)
  try simp only [Act.put, List.setIfInBounds_toArray, List.set_cons_zero, List.set_cons_succ]
  refine wpAnyH_takeL (i := 27) (v := ?_) rfl (by kernel_rfl) (by kernel_rfl) (by kernel_rfl) (fun _ _ _ h => h) (Or.inl ⟨by rfl, ?_⟩) (by first | trivial | assumption) ?_
  rotate_left
  · intro wz hSz; (try dsimp only at hSz); go_simp; (try with_reducible rfl)
  try simp only [Act.put, List.setIfInBounds_toArray, List.set_cons_zero, List.set_cons_succ]
  refine wpAnyH_takeL (i := 28) (v := ?_) rfl (by kernel_rfl) (by kernel_rfl) (by kernel_rfl) (fun _ _ _ h => h) (Or.inl ⟨by rfl, ?_⟩) (by first | trivial | assumption) ?_
  rotate_left
  · intro wz hSz; (try dsimp only at hSz); go_simp; (try with_reducible rfl)
  try simp only [Act.put, List.setIfInBounds_toArray, List.set_cons_zero, List.set_cons_succ]
  refine wpAnyH_done (by kernel_rfl) ?_ _
  go_wp2_with fail
  go_ret
  exact ⟨rfl, HB.out⟩
set_option maxRecDepth 100000 in
set_option maxHeartbeats 12800000 in
theorem brfits_g10 (z : Nat) (A : Option Addr) (m c : Nat) (l : List Fk) (fr tu : Int) (w : World) (hr : Reads w w.heap.size 2 A m (fkc l)) (hm : m ≤ 5864062014805) (hmc : m ≤ c) (hl : lightF l = true) (h0 : 0 < m) (h60 : m ≤ 100) (hsz : sizeF l ≤ 8000000000000000) (h1 : 128 ≤ z) (h2 : z ≤ 4096) (h3 : z % 64 = 0) (hy : mayP7 z 2 0 l = false) (hbig : mayP7 4096 2 0 l = true) (hfit : ¬ sizeF l ≤ z - 24) :
    Calls Try.prog 7 #[.int .i64 z, .slice A m c, .int .i64 fr, .int .i64 tu] w fun e w' => e = .returned (.bool true) ∧ Below w.heap.size w w' := by
  have HR := Lib.hid hr
  have HM := Lib.hid hm
  have HLi := Lib.hid hl
  have HLn := Lib.hid (fk_len hr)
  obtain ⟨b0, b1, b2, b3, b4, b5, be, HPb, hbe⟩ : ∃ (b0 b1 : Int) (b2 b3 b4 : Nat) (b5 : ByteArray) (be : Int), (∀ w' : World, Reads w' w'.heap.size 2 A m (fkc l) → Calls Try.prog 9 #[.int .i64 4096, .int .u32 2, .int .u64 0, .slice A m c] w' fun e w'' => e = .returned (.tuple #[.agg #[.int .i64 b0, .int .i64 b1, .int .u32 b2, .int .u32 b3, .int .u64 b4, .string b5], .int .i64 be]) ∧ Below w'.heap.size w' w'') ∧ be = (if mayP7 4096 2 0 l = true then 0 else 2) := by
    rcases hy : mayP7 4096 2 0 l with _ | _
    · exact ⟨0, 0, 0, 0, 0, ByteArray.empty, 2, fun w' hr => bpage7_no 4096 2 0 A m c l w' hr (by omega) hy, rfl⟩
    · obtain ⟨z, hzz, _, _, _⟩ := good_nat (by simp only [mayP7, Bool.and_eq_true] at hy; exact hy.1 : goodSize 4096 = true)
      refine ⟨3, m, 2, 0, 0, forkBody z l, 0, fun w' hr => ?_, rfl⟩
      have h := bpage7_yes z 2 0 A m c l w' hr (by omega) (by rw [← hzz]; exact hy)
      rw [← hzz] at h
      exact h
  rw [hbig] at hbe
  simp only [if_pos, Bool.false_eq_true, if_false, if_true, ↓reduceIte] at hbe
  subst hbe
  obtain ⟨a0, a1, a2, a3, a4, a5, ae, HPa, hae⟩ : ∃ (a0 a1 : Int) (a2 a3 a4 : Nat) (a5 : ByteArray) (ae : Int), (∀ w' : World, Reads w' w'.heap.size 2 A m (fkc l) → Calls Try.prog 9 #[.int .i64 z, .int .u32 2, .int .u64 0, .slice A m c] w' fun e w'' => e = .returned (.tuple #[.agg #[.int .i64 a0, .int .i64 a1, .int .u32 a2, .int .u32 a3, .int .u64 a4, .string a5], .int .i64 ae]) ∧ Below w'.heap.size w' w'') ∧ ae = (if mayP7 z 2 0 l = true then 0 else 2) := by
    rcases hy : mayP7 z 2 0 l with _ | _
    · exact ⟨0, 0, 0, 0, 0, ByteArray.empty, 2, fun w' hr => bpage7_no z 2 0 A m c l w' hr (by omega) hy, rfl⟩
    · obtain ⟨z, hzz, _, _, _⟩ := good_nat (by simp only [mayP7, Bool.and_eq_true] at hy; exact hy.1 : goodSize z = true)
      refine ⟨3, m, 2, 0, 0, forkBody z l, 0, fun w' hr => ?_, rfl⟩
      have h := bpage7_yes z 2 0 A m c l w' hr (by omega) (by rw [← hzz]; exact hy)
      rw [← hzz] at h
      exact h
  rw [hy] at hae
  simp only [if_pos, Bool.false_eq_true, if_false, if_true, ↓reduceIte] at hae
  subst hae
  have hml : (m == 0) = false := by simp; omega
  have hml2 : ((m : Int) == 0) = false := by simp; omega
  have hfm0 : (0 : Int) ≤ fr % m := Int.emod_nonneg _ (by omega)
  have hfm1 : fr % (m : Int) < m := Int.emod_lt_of_pos _ (by omega)
  obtain ⟨i, hi⟩ := Int.eq_ofNat_of_zero_le hfm0
  rw [hi] at hfm1
  have him : i < m := by omega
  obtain ⟨k, hk⟩ : ∃ k, k = m - i := ⟨_, rfl⟩
  have hk0 : 1 ≤ k := by omega
  have htm0 : (0 : Int) ≤ tu % k := Int.emod_nonneg _ (by omega)
  have htm1 : tu % (k : Int) < k := Int.emod_lt_of_pos _ (by omega)
  obtain ⟨j, hj⟩ := Int.eq_ofNat_of_zero_le htm0
  rw [hj] at htm1
  obtain ⟨t, ht⟩ : ∃ t, t = i + 1 + j := ⟨_, rfl⟩
  have htm : t ≤ m := by omega
  have hki : (m : Int) - i = (k : Int) := by omega
  have hti : (i : Int) + 1 + (j : Int) = (t : Int) := by omega
  have HP1 := fun w => pick_any fr m w (by omega) (by omega)
  have HP2 := fun w => pick_any tu k w (by omega) (by omega)
  rw [hi] at HP1
  rw [hj] at HP2
  obtain ⟨X, q, r, hX, hq, hrr, hsl⟩ := slice7_mid A m c i t (by omega) (by omega)
  obtain ⟨Q, hQ⟩ : ∃ Q, Q = (l.take t).drop i := ⟨_, rfl⟩
  have hXr : ∀ w : World, Reads w w.heap.size 2 A m (fkc l) → Reads w w.heap.size 2 X q (fkc Q) := fun w h => by
    rw [hX, hq, hQ]
    exact fk_drop (fk_take h htm) (by omega) (by omega)
  have HXr := Lib.hid hXr
  have hql : q ≤ 5864062014805 := by omega
  have hz1 : decide ((128 : Int) ≤ z) = true := by simp; omega
  have hz2 : decide ((z : Int) ≤ 4096) = true := by simp; omega
  have hz3 : decide (128 ≤ z) = true := by simp; omega
  have hz4 : decide (z ≤ 4096) = true := by simp; omega
  have hz5 : (z % 64 == 0) = true := by simpa using h3
  have hz6 : ((z : Int) % 64 == 0) = true := by simp; omega
  obtain ⟨SL, hSL⟩ : ∃ s, s = sizeF l := ⟨_, rfl⟩
  have HSL := Lib.hid hSL
  have HSz := Lib.hid (show sizeF l ≤ 9007199254740992 by omega)
  have hf1 : decide ((SL : Int) ≤ (z : Int) - 24) = false := by simp; omega
  have hzs : (z : Int) - 24 = ((z - 24 : Nat) : Int) := by omega
  have hf2 : decide (SL ≤ z - 24) = false := by simp; omega
  have hf3 : decide ((SL : Int) ≤ ((z - 24 : Nat) : Int)) = false := by simp; omega
  obtain ⟨p0, p1, p2, p3, p4, p5, pe, HPc, hpe⟩ : ∃ (p0 p1 : Int) (p2 p3 p4 : Nat) (p5 : ByteArray) (pe : Int), (∀ w' : World, Reads w' w'.heap.size 2 X q (fkc Q) → Calls Try.prog 9 #[.int .i64 z, .int .u32 2, .int .u64 0, .slice X q r] w' fun e w'' => e = .returned (.tuple #[.agg #[.int .i64 p0, .int .i64 p1, .int .u32 p2, .int .u32 p3, .int .u64 p4, .string p5], .int .i64 pe]) ∧ Below w'.heap.size w' w'') ∧ pe = (if mayP7 z 2 0 Q = true then 0 else 2) := by
    rcases hy : mayP7 z 2 0 Q with _ | _
    · exact ⟨0, 0, 0, 0, 0, ByteArray.empty, 2, fun w' hr => bpage7_no z 2 0 X q r Q w' hr (by omega) hy, rfl⟩
    · obtain ⟨z, hzz, _, _, _⟩ := good_nat (by simp only [mayP7, Bool.and_eq_true] at hy; exact hy.1 : goodSize z = true)
      refine ⟨3, q, 2, 0, 0, forkBody z Q, 0, fun w' hr => ?_, rfl⟩
      have h := bpage7_yes z 2 0 X q r Q w' hr (by omega) (by rw [← hzz]; exact hy)
      rw [← hzz] at h
      exact h
  clear hpe
  have HQ := Lib.hid hQ
  have hm100 := h60
  have hit : i < t := by omega
  have hmc2 : t ≤ c := by omega
  clear hr hm hl hsz hy hbig hXr hX hQ hi hj hSL hfm0 htm0 hk ht hq hrr hfit
  obtain ⟨hz, hi⟩ := zero_of_info infoPg
  have HI := Lib.hid hi
  clear hi
  have HB := Lib.hid (Below.refl w.heap.size w)
  go_enter Try.func7, Try.ntmps7
  go_wp2_with fail
  refine (lives7_any _).mono ?_
  rintro e w101 ⟨rfl, hb⟩
  replace HB := Lib.hid (HB.out.trans (hb.mono HB.out.size))
  clear hb
  go_wp2_with fail
  refine (light7_any A m c l _ (HR.out.below HB.out) (Nat.le_trans HM.out (by decide))).mono ?_
  rintro e w102 ⟨rfl, rfl⟩
  rw [HLi.out]
  go_wp2_with fail
  refine (HPb _ ((HR.out.below HB.out).more HB.out.size)).mono ?_
  rintro e w103 ⟨rfl, hb⟩
  replace HB := Lib.hid (HB.out.trans (hb.mono HB.out.size))
  clear hb
  clear HPb
  obtain ⟨w104, hw104⟩ : ∃ x, x = w103.alloc (.cells #[.int .i64 b0, .int .i64 b1, .int .u32 b2, .int .u32 b3, .int .u64 b4, .string b5] 26) := ⟨_, rfl⟩
  have saw104 : w103.heap.size = w103.heap.size := by first | rfl | omega
  have ge_B0 := Lib.hid (show w.heap.size ≤ w103.heap.size from saw104 ▸ HB.out.size)
  replace HB := Lib.hid (show Below w.heap.size w w104 by rw [hw104]; exact HB.out.alloc HB.out.size _)
  have B0 := Lib.hid (show Blk w104 w103.heap.size 26 #[.int .i64 b0, .int .i64 b1, .int .u32 b2, .int .u32 b3, .int .u64 b4, .string b5] by rw [hw104, ← saw104]; exact Blk.new _ _ _)
  have szw104 : w104.heap.size = w103.heap.size + 1 := by rw [hw104]; simp
  clear saw104 szw104
  go_wp2_with fail
  rw [← hw104]
  clear hw104
  generalize w103.heap.size = gB0 at *
  clear B0
  refine (HPa _ ((HR.out.below HB.out).more HB.out.size)).mono ?_
  rintro e w105 ⟨rfl, hb⟩
  replace HB := Lib.hid (HB.out.trans (hb.mono HB.out.size))
  clear hb
  clear HPa
  obtain ⟨w106, hw106⟩ : ∃ x, x = w105.alloc (.cells #[.int .i64 a0, .int .i64 a1, .int .u32 a2, .int .u32 a3, .int .u64 a4, .string a5] 26) := ⟨_, rfl⟩
  have saw106 : w105.heap.size = w105.heap.size := by first | rfl | omega
  have ge_A0 := Lib.hid (show w.heap.size ≤ w105.heap.size from saw106 ▸ HB.out.size)
  replace HB := Lib.hid (show Below w.heap.size w w106 by rw [hw106]; exact HB.out.alloc HB.out.size _)
  have A0 := Lib.hid (show Blk w106 w105.heap.size 26 #[.int .i64 a0, .int .i64 a1, .int .u32 a2, .int .u32 a3, .int .u64 a4, .string a5] by rw [hw106, ← saw106]; exact Blk.new _ _ _)
  have szw106 : w106.heap.size = w105.heap.size + 1 := by rw [hw106]; simp
  clear saw106 szw106
  go_wp2_with fail
  rw [← hw106]
  clear hw106
  generalize w105.heap.size = gA0 at *
  clear A0
  refine (bsize_any A m c l _ ((HR.out.below HB.out).more HB.out.size) (by omega) HSz.out).mono ?_
  rintro e w107 ⟨rfl, hb⟩
  replace HB := Lib.hid (HB.out.trans (hb.mono HB.out.size))
  clear hb
  rw [← HSL.out]
  go_wp2_with fail
  refine (HP1 _).mono ?_
  rintro e w108 ⟨rfl, rfl⟩
  clear HP1
  go_wp2_with fail
  refine (HP2 _).mono ?_
  rintro e w109 ⟨rfl, rfl⟩
  clear HP2
  go_wp2_with fail
  refine (HPc _ (HXr.out _ ((HR.out.below HB.out).more HB.out.size))).mono ?_
  rintro e w110 ⟨rfl, hb⟩
  replace HB := Lib.hid (HB.out.trans (hb.mono HB.out.size))
  clear hb
  clear HPc
  obtain ⟨w111, hw111⟩ : ∃ x, x = w110.alloc (.cells #[.int .i64 p0, .int .i64 p1, .int .u32 p2, .int .u32 p3, .int .u64 p4, .string p5] 26) := ⟨_, rfl⟩
  have saw111 : w110.heap.size = w110.heap.size := by first | rfl | omega
  have ge_C0 := Lib.hid (show w.heap.size ≤ w110.heap.size from saw111 ▸ HB.out.size)
  replace HB := Lib.hid (show Below w.heap.size w w111 by rw [hw111]; exact HB.out.alloc HB.out.size _)
  have C0 := Lib.hid (show Blk w111 w110.heap.size 26 #[.int .i64 p0, .int .i64 p1, .int .u32 p2, .int .u32 p3, .int .u64 p4, .string p5] by rw [hw111, ← saw111]; exact Blk.new _ _ _)
  have szw111 : w111.heap.size = w110.heap.size + 1 := by rw [hw111]; simp
  clear saw111 szw111
  go_wp2_with fail
  rw [← hw111]
  clear hw111
  generalize w110.heap.size = gC0 at *
  go_ret
  exact ⟨rfl, HB.out⟩
set_option maxRecDepth 100000 in
set_option maxHeartbeats 12800000 in
theorem brfits_g00 (z : Nat) (A : Option Addr) (m c : Nat) (l : List Fk) (fr tu : Int) (w : World) (hr : Reads w w.heap.size 2 A m (fkc l)) (hm : m ≤ 5864062014805) (hmc : m ≤ c) (hl : lightF l = true) (h0 : 0 < m) (h60 : m ≤ 100) (hsz : sizeF l ≤ 8000000000000000) (h1 : 128 ≤ z) (h2 : z ≤ 4096) (h3 : z % 64 = 0) (hy : mayP7 z 2 0 l = false) (hbig : mayP7 4096 2 0 l = false)  :
    Calls Try.prog 7 #[.int .i64 z, .slice A m c, .int .i64 fr, .int .i64 tu] w fun e w' => e = .returned (.bool true) ∧ Below w.heap.size w w' := by
  have HR := Lib.hid hr
  have HM := Lib.hid hm
  have HLi := Lib.hid hl
  have HLn := Lib.hid (fk_len hr)
  obtain ⟨b0, b1, b2, b3, b4, b5, be, HPb, hbe⟩ : ∃ (b0 b1 : Int) (b2 b3 b4 : Nat) (b5 : ByteArray) (be : Int), (∀ w' : World, Reads w' w'.heap.size 2 A m (fkc l) → Calls Try.prog 9 #[.int .i64 4096, .int .u32 2, .int .u64 0, .slice A m c] w' fun e w'' => e = .returned (.tuple #[.agg #[.int .i64 b0, .int .i64 b1, .int .u32 b2, .int .u32 b3, .int .u64 b4, .string b5], .int .i64 be]) ∧ Below w'.heap.size w' w'') ∧ be = (if mayP7 4096 2 0 l = true then 0 else 2) := by
    rcases hy : mayP7 4096 2 0 l with _ | _
    · exact ⟨0, 0, 0, 0, 0, ByteArray.empty, 2, fun w' hr => bpage7_no 4096 2 0 A m c l w' hr (by omega) hy, rfl⟩
    · obtain ⟨z, hzz, _, _, _⟩ := good_nat (by simp only [mayP7, Bool.and_eq_true] at hy; exact hy.1 : goodSize 4096 = true)
      refine ⟨3, m, 2, 0, 0, forkBody z l, 0, fun w' hr => ?_, rfl⟩
      have h := bpage7_yes z 2 0 A m c l w' hr (by omega) (by rw [← hzz]; exact hy)
      rw [← hzz] at h
      exact h
  rw [hbig] at hbe
  simp only [if_pos, Bool.false_eq_true, if_false, if_true, ↓reduceIte] at hbe
  subst hbe
  obtain ⟨a0, a1, a2, a3, a4, a5, ae, HPa, hae⟩ : ∃ (a0 a1 : Int) (a2 a3 a4 : Nat) (a5 : ByteArray) (ae : Int), (∀ w' : World, Reads w' w'.heap.size 2 A m (fkc l) → Calls Try.prog 9 #[.int .i64 z, .int .u32 2, .int .u64 0, .slice A m c] w' fun e w'' => e = .returned (.tuple #[.agg #[.int .i64 a0, .int .i64 a1, .int .u32 a2, .int .u32 a3, .int .u64 a4, .string a5], .int .i64 ae]) ∧ Below w'.heap.size w' w'') ∧ ae = (if mayP7 z 2 0 l = true then 0 else 2) := by
    rcases hy : mayP7 z 2 0 l with _ | _
    · exact ⟨0, 0, 0, 0, 0, ByteArray.empty, 2, fun w' hr => bpage7_no z 2 0 A m c l w' hr (by omega) hy, rfl⟩
    · obtain ⟨z, hzz, _, _, _⟩ := good_nat (by simp only [mayP7, Bool.and_eq_true] at hy; exact hy.1 : goodSize z = true)
      refine ⟨3, m, 2, 0, 0, forkBody z l, 0, fun w' hr => ?_, rfl⟩
      have h := bpage7_yes z 2 0 A m c l w' hr (by omega) (by rw [← hzz]; exact hy)
      rw [← hzz] at h
      exact h
  rw [hy] at hae
  simp only [if_pos, Bool.false_eq_true, if_false, if_true, ↓reduceIte] at hae
  subst hae
  have hml : (m == 0) = false := by simp; omega
  have hml2 : ((m : Int) == 0) = false := by simp; omega
  have hfm0 : (0 : Int) ≤ fr % m := Int.emod_nonneg _ (by omega)
  have hfm1 : fr % (m : Int) < m := Int.emod_lt_of_pos _ (by omega)
  obtain ⟨i, hi⟩ := Int.eq_ofNat_of_zero_le hfm0
  rw [hi] at hfm1
  have him : i < m := by omega
  obtain ⟨k, hk⟩ : ∃ k, k = m - i := ⟨_, rfl⟩
  have hk0 : 1 ≤ k := by omega
  have htm0 : (0 : Int) ≤ tu % k := Int.emod_nonneg _ (by omega)
  have htm1 : tu % (k : Int) < k := Int.emod_lt_of_pos _ (by omega)
  obtain ⟨j, hj⟩ := Int.eq_ofNat_of_zero_le htm0
  rw [hj] at htm1
  obtain ⟨t, ht⟩ : ∃ t, t = i + 1 + j := ⟨_, rfl⟩
  have htm : t ≤ m := by omega
  have hki : (m : Int) - i = (k : Int) := by omega
  have hti : (i : Int) + 1 + (j : Int) = (t : Int) := by omega
  have HP1 := fun w => pick_any fr m w (by omega) (by omega)
  have HP2 := fun w => pick_any tu k w (by omega) (by omega)
  rw [hi] at HP1
  rw [hj] at HP2
  obtain ⟨X, q, r, hX, hq, hrr, hsl⟩ := slice7_mid A m c i t (by omega) (by omega)
  obtain ⟨Q, hQ⟩ : ∃ Q, Q = (l.take t).drop i := ⟨_, rfl⟩
  have hXr : ∀ w : World, Reads w w.heap.size 2 A m (fkc l) → Reads w w.heap.size 2 X q (fkc Q) := fun w h => by
    rw [hX, hq, hQ]
    exact fk_drop (fk_take h htm) (by omega) (by omega)
  have HXr := Lib.hid hXr
  have hql : q ≤ 5864062014805 := by omega
  have hz1 : decide ((128 : Int) ≤ z) = true := by simp; omega
  have hz2 : decide ((z : Int) ≤ 4096) = true := by simp; omega
  have hz3 : decide (128 ≤ z) = true := by simp; omega
  have hz4 : decide (z ≤ 4096) = true := by simp; omega
  have hz5 : (z % 64 == 0) = true := by simpa using h3
  have hz6 : ((z : Int) % 64 == 0) = true := by simp; omega
  obtain ⟨SL, hSL⟩ : ∃ s, s = sizeF l := ⟨_, rfl⟩
  have HSL := Lib.hid hSL
  have HSz := Lib.hid (show sizeF l ≤ 9007199254740992 by omega)
  obtain ⟨p0, p1, p2, p3, p4, p5, pe, HPc, hpe⟩ : ∃ (p0 p1 : Int) (p2 p3 p4 : Nat) (p5 : ByteArray) (pe : Int), (∀ w' : World, Reads w' w'.heap.size 2 X q (fkc Q) → Calls Try.prog 9 #[.int .i64 z, .int .u32 2, .int .u64 0, .slice X q r] w' fun e w'' => e = .returned (.tuple #[.agg #[.int .i64 p0, .int .i64 p1, .int .u32 p2, .int .u32 p3, .int .u64 p4, .string p5], .int .i64 pe]) ∧ Below w'.heap.size w' w'') ∧ pe = (if mayP7 z 2 0 Q = true then 0 else 2) := by
    rcases hy : mayP7 z 2 0 Q with _ | _
    · exact ⟨0, 0, 0, 0, 0, ByteArray.empty, 2, fun w' hr => bpage7_no z 2 0 X q r Q w' hr (by omega) hy, rfl⟩
    · obtain ⟨z, hzz, _, _, _⟩ := good_nat (by simp only [mayP7, Bool.and_eq_true] at hy; exact hy.1 : goodSize z = true)
      refine ⟨3, q, 2, 0, 0, forkBody z Q, 0, fun w' hr => ?_, rfl⟩
      have h := bpage7_yes z 2 0 X q r Q w' hr (by omega) (by rw [← hzz]; exact hy)
      rw [← hzz] at h
      exact h
  clear hpe
  have HQ := Lib.hid hQ
  have hm100 := h60
  have hit : i < t := by omega
  have hmc2 : t ≤ c := by omega
  clear hr hm hl hsz hy hbig hXr hX hQ hi hj hSL hfm0 htm0 hk ht hq hrr
  obtain ⟨hz, hi⟩ := zero_of_info infoPg
  have HI := Lib.hid hi
  clear hi
  have HB := Lib.hid (Below.refl w.heap.size w)
  go_enter Try.func7, Try.ntmps7
  go_wp2_with fail
  refine (lives7_any _).mono ?_
  rintro e w101 ⟨rfl, hb⟩
  replace HB := Lib.hid (HB.out.trans (hb.mono HB.out.size))
  clear hb
  go_wp2_with fail
  refine (light7_any A m c l _ (HR.out.below HB.out) (Nat.le_trans HM.out (by decide))).mono ?_
  rintro e w102 ⟨rfl, rfl⟩
  rw [HLi.out]
  go_wp2_with fail
  refine (HPb _ ((HR.out.below HB.out).more HB.out.size)).mono ?_
  rintro e w103 ⟨rfl, hb⟩
  replace HB := Lib.hid (HB.out.trans (hb.mono HB.out.size))
  clear hb
  clear HPb
  obtain ⟨w104, hw104⟩ : ∃ x, x = w103.alloc (.cells #[.int .i64 b0, .int .i64 b1, .int .u32 b2, .int .u32 b3, .int .u64 b4, .string b5] 26) := ⟨_, rfl⟩
  have saw104 : w103.heap.size = w103.heap.size := by first | rfl | omega
  have ge_B0 := Lib.hid (show w.heap.size ≤ w103.heap.size from saw104 ▸ HB.out.size)
  replace HB := Lib.hid (show Below w.heap.size w w104 by rw [hw104]; exact HB.out.alloc HB.out.size _)
  have B0 := Lib.hid (show Blk w104 w103.heap.size 26 #[.int .i64 b0, .int .i64 b1, .int .u32 b2, .int .u32 b3, .int .u64 b4, .string b5] by rw [hw104, ← saw104]; exact Blk.new _ _ _)
  have szw104 : w104.heap.size = w103.heap.size + 1 := by rw [hw104]; simp
  clear saw104 szw104
  go_wp2_with fail
  rw [← hw104]
  clear hw104
  generalize w103.heap.size = gB0 at *
  clear B0
  refine (HPa _ ((HR.out.below HB.out).more HB.out.size)).mono ?_
  rintro e w105 ⟨rfl, hb⟩
  replace HB := Lib.hid (HB.out.trans (hb.mono HB.out.size))
  clear hb
  clear HPa
  obtain ⟨w106, hw106⟩ : ∃ x, x = w105.alloc (.cells #[.int .i64 a0, .int .i64 a1, .int .u32 a2, .int .u32 a3, .int .u64 a4, .string a5] 26) := ⟨_, rfl⟩
  have saw106 : w105.heap.size = w105.heap.size := by first | rfl | omega
  have ge_A0 := Lib.hid (show w.heap.size ≤ w105.heap.size from saw106 ▸ HB.out.size)
  replace HB := Lib.hid (show Below w.heap.size w w106 by rw [hw106]; exact HB.out.alloc HB.out.size _)
  have A0 := Lib.hid (show Blk w106 w105.heap.size 26 #[.int .i64 a0, .int .i64 a1, .int .u32 a2, .int .u32 a3, .int .u64 a4, .string a5] by rw [hw106, ← saw106]; exact Blk.new _ _ _)
  have szw106 : w106.heap.size = w105.heap.size + 1 := by rw [hw106]; simp
  clear saw106 szw106
  go_wp2_with fail
  rw [← hw106]
  clear hw106
  generalize w105.heap.size = gA0 at *
  clear A0
  refine (HP1 _).mono ?_
  rintro e w107 ⟨rfl, rfl⟩
  clear HP1
  go_wp2_with fail
  refine (HP2 _).mono ?_
  rintro e w108 ⟨rfl, rfl⟩
  clear HP2
  go_wp2_with fail
  refine (HPc _ (HXr.out _ ((HR.out.below HB.out).more HB.out.size))).mono ?_
  rintro e w109 ⟨rfl, hb⟩
  replace HB := Lib.hid (HB.out.trans (hb.mono HB.out.size))
  clear hb
  clear HPc
  obtain ⟨w110, hw110⟩ : ∃ x, x = w109.alloc (.cells #[.int .i64 p0, .int .i64 p1, .int .u32 p2, .int .u32 p3, .int .u64 p4, .string p5] 26) := ⟨_, rfl⟩
  have saw110 : w109.heap.size = w109.heap.size := by first | rfl | omega
  have ge_C0 := Lib.hid (show w.heap.size ≤ w109.heap.size from saw110 ▸ HB.out.size)
  replace HB := Lib.hid (show Below w.heap.size w w110 by rw [hw110]; exact HB.out.alloc HB.out.size _)
  have C0 := Lib.hid (show Blk w110 w109.heap.size 26 #[.int .i64 p0, .int .i64 p1, .int .u32 p2, .int .u32 p3, .int .u64 p4, .string p5] by rw [hw110, ← saw110]; exact Blk.new _ _ _)
  have szw110 : w110.heap.size = w109.heap.size + 1 := by rw [hw110]; simp
  clear saw110 szw110
  go_wp2_with fail
  rw [← hw110]
  clear hw110
  generalize w109.heap.size = gC0 at *
  go_ret
  exact ⟨rfl, HB.out⟩
set_option maxRecDepth 100000 in
set_option maxHeartbeats 12800000 in
theorem brfits_r10 (z : Nat) (A : Option Addr) (m c : Nat) (l : List Fk) (fr tu : Int) (w : World) (hr : Reads w w.heap.size 2 A m (fkc l)) (hm : m ≤ 5864062014805) (hmc : m ≤ c) (hl : lightF l = true) (h0 : 0 < m) (h60 : m ≤ 100) (hsz : sizeF l ≤ 8000000000000000) (h1 : 128 ≤ z) (h2 : z ≤ 4096) (h3 : ¬ z % 64 = 0) (hy : mayP7 z 2 0 l = false) (hbig : mayP7 4096 2 0 l = true)  :
    Calls Try.prog 7 #[.int .i64 z, .slice A m c, .int .i64 fr, .int .i64 tu] w fun e w' => e = .returned (.bool true) ∧ Below w.heap.size w w' := by
  have HR := Lib.hid hr
  have HM := Lib.hid hm
  have HLi := Lib.hid hl
  have HLn := Lib.hid (fk_len hr)
  obtain ⟨b0, b1, b2, b3, b4, b5, be, HPb, hbe⟩ : ∃ (b0 b1 : Int) (b2 b3 b4 : Nat) (b5 : ByteArray) (be : Int), (∀ w' : World, Reads w' w'.heap.size 2 A m (fkc l) → Calls Try.prog 9 #[.int .i64 4096, .int .u32 2, .int .u64 0, .slice A m c] w' fun e w'' => e = .returned (.tuple #[.agg #[.int .i64 b0, .int .i64 b1, .int .u32 b2, .int .u32 b3, .int .u64 b4, .string b5], .int .i64 be]) ∧ Below w'.heap.size w' w'') ∧ be = (if mayP7 4096 2 0 l = true then 0 else 2) := by
    rcases hy : mayP7 4096 2 0 l with _ | _
    · exact ⟨0, 0, 0, 0, 0, ByteArray.empty, 2, fun w' hr => bpage7_no 4096 2 0 A m c l w' hr (by omega) hy, rfl⟩
    · obtain ⟨z, hzz, _, _, _⟩ := good_nat (by simp only [mayP7, Bool.and_eq_true] at hy; exact hy.1 : goodSize 4096 = true)
      refine ⟨3, m, 2, 0, 0, forkBody z l, 0, fun w' hr => ?_, rfl⟩
      have h := bpage7_yes z 2 0 A m c l w' hr (by omega) (by rw [← hzz]; exact hy)
      rw [← hzz] at h
      exact h
  rw [hbig] at hbe
  simp only [if_pos, Bool.false_eq_true, if_false, if_true, ↓reduceIte] at hbe
  subst hbe
  obtain ⟨a0, a1, a2, a3, a4, a5, ae, HPa, hae⟩ : ∃ (a0 a1 : Int) (a2 a3 a4 : Nat) (a5 : ByteArray) (ae : Int), (∀ w' : World, Reads w' w'.heap.size 2 A m (fkc l) → Calls Try.prog 9 #[.int .i64 z, .int .u32 2, .int .u64 0, .slice A m c] w' fun e w'' => e = .returned (.tuple #[.agg #[.int .i64 a0, .int .i64 a1, .int .u32 a2, .int .u32 a3, .int .u64 a4, .string a5], .int .i64 ae]) ∧ Below w'.heap.size w' w'') ∧ ae = (if mayP7 z 2 0 l = true then 0 else 2) := by
    rcases hy : mayP7 z 2 0 l with _ | _
    · exact ⟨0, 0, 0, 0, 0, ByteArray.empty, 2, fun w' hr => bpage7_no z 2 0 A m c l w' hr (by omega) hy, rfl⟩
    · obtain ⟨z, hzz, _, _, _⟩ := good_nat (by simp only [mayP7, Bool.and_eq_true] at hy; exact hy.1 : goodSize z = true)
      refine ⟨3, m, 2, 0, 0, forkBody z l, 0, fun w' hr => ?_, rfl⟩
      have h := bpage7_yes z 2 0 A m c l w' hr (by omega) (by rw [← hzz]; exact hy)
      rw [← hzz] at h
      exact h
  rw [hy] at hae
  simp only [if_pos, Bool.false_eq_true, if_false, if_true, ↓reduceIte] at hae
  subst hae
  have hml : (m == 0) = false := by simp; omega
  have hml2 : ((m : Int) == 0) = false := by simp; omega
  have hfm0 : (0 : Int) ≤ fr % m := Int.emod_nonneg _ (by omega)
  have hfm1 : fr % (m : Int) < m := Int.emod_lt_of_pos _ (by omega)
  obtain ⟨i, hi⟩ := Int.eq_ofNat_of_zero_le hfm0
  rw [hi] at hfm1
  have him : i < m := by omega
  obtain ⟨k, hk⟩ : ∃ k, k = m - i := ⟨_, rfl⟩
  have hk0 : 1 ≤ k := by omega
  have htm0 : (0 : Int) ≤ tu % k := Int.emod_nonneg _ (by omega)
  have htm1 : tu % (k : Int) < k := Int.emod_lt_of_pos _ (by omega)
  obtain ⟨j, hj⟩ := Int.eq_ofNat_of_zero_le htm0
  rw [hj] at htm1
  obtain ⟨t, ht⟩ : ∃ t, t = i + 1 + j := ⟨_, rfl⟩
  have htm : t ≤ m := by omega
  have hki : (m : Int) - i = (k : Int) := by omega
  have hti : (i : Int) + 1 + (j : Int) = (t : Int) := by omega
  have HP1 := fun w => pick_any fr m w (by omega) (by omega)
  have HP2 := fun w => pick_any tu k w (by omega) (by omega)
  rw [hi] at HP1
  rw [hj] at HP2
  obtain ⟨X, q, r, hX, hq, hrr, hsl⟩ := slice7_mid A m c i t (by omega) (by omega)
  obtain ⟨Q, hQ⟩ : ∃ Q, Q = (l.take t).drop i := ⟨_, rfl⟩
  have hXr : ∀ w : World, Reads w w.heap.size 2 A m (fkc l) → Reads w w.heap.size 2 X q (fkc Q) := fun w h => by
    rw [hX, hq, hQ]
    exact fk_drop (fk_take h htm) (by omega) (by omega)
  have HXr := Lib.hid hXr
  have hql : q ≤ 5864062014805 := by omega
  have hz1 : decide ((128 : Int) ≤ z) = true := by simp; omega
  have hz2 : decide ((z : Int) ≤ 4096) = true := by simp; omega
  have hz3 : decide (128 ≤ z) = true := by simp; omega
  have hz4 : decide (z ≤ 4096) = true := by simp; omega
  have hz5 : (z % 64 == 0) = false := by simpa using h3
  have hz6 : ((z : Int) % 64 == 0) = false := by simp; omega
  obtain ⟨SL, hSL⟩ : ∃ s, s = sizeF l := ⟨_, rfl⟩
  have HSL := Lib.hid hSL
  have HSz := Lib.hid (show sizeF l ≤ 9007199254740992 by omega)
  obtain ⟨p0, p1, p2, p3, p4, p5, pe, HPc, hpe⟩ : ∃ (p0 p1 : Int) (p2 p3 p4 : Nat) (p5 : ByteArray) (pe : Int), (∀ w' : World, Reads w' w'.heap.size 2 X q (fkc Q) → Calls Try.prog 9 #[.int .i64 z, .int .u32 2, .int .u64 0, .slice X q r] w' fun e w'' => e = .returned (.tuple #[.agg #[.int .i64 p0, .int .i64 p1, .int .u32 p2, .int .u32 p3, .int .u64 p4, .string p5], .int .i64 pe]) ∧ Below w'.heap.size w' w'') ∧ pe = (if mayP7 z 2 0 Q = true then 0 else 2) := by
    rcases hy : mayP7 z 2 0 Q with _ | _
    · exact ⟨0, 0, 0, 0, 0, ByteArray.empty, 2, fun w' hr => bpage7_no z 2 0 X q r Q w' hr (by omega) hy, rfl⟩
    · obtain ⟨z, hzz, _, _, _⟩ := good_nat (by simp only [mayP7, Bool.and_eq_true] at hy; exact hy.1 : goodSize z = true)
      refine ⟨3, q, 2, 0, 0, forkBody z Q, 0, fun w' hr => ?_, rfl⟩
      have h := bpage7_yes z 2 0 X q r Q w' hr (by omega) (by rw [← hzz]; exact hy)
      rw [← hzz] at h
      exact h
  clear hpe
  have HQ := Lib.hid hQ
  have hm100 := h60
  have hit : i < t := by omega
  have hmc2 : t ≤ c := by omega
  clear hr hm hl hsz hy hbig hXr hX hQ hi hj hSL hfm0 htm0 hk ht hq hrr
  obtain ⟨hz, hi⟩ := zero_of_info infoPg
  have HI := Lib.hid hi
  clear hi
  have HB := Lib.hid (Below.refl w.heap.size w)
  go_enter Try.func7, Try.ntmps7
  go_wp2_with fail
  refine (lives7_any _).mono ?_
  rintro e w101 ⟨rfl, hb⟩
  replace HB := Lib.hid (HB.out.trans (hb.mono HB.out.size))
  clear hb
  go_wp2_with fail
  refine (light7_any A m c l _ (HR.out.below HB.out) (Nat.le_trans HM.out (by decide))).mono ?_
  rintro e w102 ⟨rfl, rfl⟩
  rw [HLi.out]
  go_wp2_with fail
  refine (HPb _ ((HR.out.below HB.out).more HB.out.size)).mono ?_
  rintro e w103 ⟨rfl, hb⟩
  replace HB := Lib.hid (HB.out.trans (hb.mono HB.out.size))
  clear hb
  clear HPb
  obtain ⟨w104, hw104⟩ : ∃ x, x = w103.alloc (.cells #[.int .i64 b0, .int .i64 b1, .int .u32 b2, .int .u32 b3, .int .u64 b4, .string b5] 26) := ⟨_, rfl⟩
  have saw104 : w103.heap.size = w103.heap.size := by first | rfl | omega
  have ge_B0 := Lib.hid (show w.heap.size ≤ w103.heap.size from saw104 ▸ HB.out.size)
  replace HB := Lib.hid (show Below w.heap.size w w104 by rw [hw104]; exact HB.out.alloc HB.out.size _)
  have B0 := Lib.hid (show Blk w104 w103.heap.size 26 #[.int .i64 b0, .int .i64 b1, .int .u32 b2, .int .u32 b3, .int .u64 b4, .string b5] by rw [hw104, ← saw104]; exact Blk.new _ _ _)
  have szw104 : w104.heap.size = w103.heap.size + 1 := by rw [hw104]; simp
  clear saw104 szw104
  go_wp2_with fail
  rw [← hw104]
  clear hw104
  generalize w103.heap.size = gB0 at *
  clear B0
  refine (HPa _ ((HR.out.below HB.out).more HB.out.size)).mono ?_
  rintro e w105 ⟨rfl, hb⟩
  replace HB := Lib.hid (HB.out.trans (hb.mono HB.out.size))
  clear hb
  clear HPa
  obtain ⟨w106, hw106⟩ : ∃ x, x = w105.alloc (.cells #[.int .i64 a0, .int .i64 a1, .int .u32 a2, .int .u32 a3, .int .u64 a4, .string a5] 26) := ⟨_, rfl⟩
  have saw106 : w105.heap.size = w105.heap.size := by first | rfl | omega
  have ge_A0 := Lib.hid (show w.heap.size ≤ w105.heap.size from saw106 ▸ HB.out.size)
  replace HB := Lib.hid (show Below w.heap.size w w106 by rw [hw106]; exact HB.out.alloc HB.out.size _)
  have A0 := Lib.hid (show Blk w106 w105.heap.size 26 #[.int .i64 a0, .int .i64 a1, .int .u32 a2, .int .u32 a3, .int .u64 a4, .string a5] by rw [hw106, ← saw106]; exact Blk.new _ _ _)
  have szw106 : w106.heap.size = w105.heap.size + 1 := by rw [hw106]; simp
  clear saw106 szw106
  go_wp2_with fail
  rw [← hw106]
  clear hw106
  generalize w105.heap.size = gA0 at *
  clear A0
  refine (HP1 _).mono ?_
  rintro e w107 ⟨rfl, rfl⟩
  clear HP1
  go_wp2_with fail
  refine (HP2 _).mono ?_
  rintro e w108 ⟨rfl, rfl⟩
  clear HP2
  go_wp2_with fail
  refine (HPc _ (HXr.out _ ((HR.out.below HB.out).more HB.out.size))).mono ?_
  rintro e w109 ⟨rfl, hb⟩
  replace HB := Lib.hid (HB.out.trans (hb.mono HB.out.size))
  clear hb
  clear HPc
  obtain ⟨w110, hw110⟩ : ∃ x, x = w109.alloc (.cells #[.int .i64 p0, .int .i64 p1, .int .u32 p2, .int .u32 p3, .int .u64 p4, .string p5] 26) := ⟨_, rfl⟩
  have saw110 : w109.heap.size = w109.heap.size := by first | rfl | omega
  have ge_C0 := Lib.hid (show w.heap.size ≤ w109.heap.size from saw110 ▸ HB.out.size)
  replace HB := Lib.hid (show Below w.heap.size w w110 by rw [hw110]; exact HB.out.alloc HB.out.size _)
  have C0 := Lib.hid (show Blk w110 w109.heap.size 26 #[.int .i64 p0, .int .i64 p1, .int .u32 p2, .int .u32 p3, .int .u64 p4, .string p5] by rw [hw110, ← saw110]; exact Blk.new _ _ _)
  have szw110 : w110.heap.size = w109.heap.size + 1 := by rw [hw110]; simp
  clear saw110 szw110
  go_wp2_with fail
  rw [← hw110]
  clear hw110
  generalize w109.heap.size = gC0 at *
  go_ret
  exact ⟨rfl, HB.out⟩
set_option maxRecDepth 100000 in
set_option maxHeartbeats 12800000 in
theorem brfits_r00 (z : Nat) (A : Option Addr) (m c : Nat) (l : List Fk) (fr tu : Int) (w : World) (hr : Reads w w.heap.size 2 A m (fkc l)) (hm : m ≤ 5864062014805) (hmc : m ≤ c) (hl : lightF l = true) (h0 : 0 < m) (h60 : m ≤ 100) (hsz : sizeF l ≤ 8000000000000000) (h1 : 128 ≤ z) (h2 : z ≤ 4096) (h3 : ¬ z % 64 = 0) (hy : mayP7 z 2 0 l = false) (hbig : mayP7 4096 2 0 l = false)  :
    Calls Try.prog 7 #[.int .i64 z, .slice A m c, .int .i64 fr, .int .i64 tu] w fun e w' => e = .returned (.bool true) ∧ Below w.heap.size w w' := by
  have HR := Lib.hid hr
  have HM := Lib.hid hm
  have HLi := Lib.hid hl
  have HLn := Lib.hid (fk_len hr)
  obtain ⟨b0, b1, b2, b3, b4, b5, be, HPb, hbe⟩ : ∃ (b0 b1 : Int) (b2 b3 b4 : Nat) (b5 : ByteArray) (be : Int), (∀ w' : World, Reads w' w'.heap.size 2 A m (fkc l) → Calls Try.prog 9 #[.int .i64 4096, .int .u32 2, .int .u64 0, .slice A m c] w' fun e w'' => e = .returned (.tuple #[.agg #[.int .i64 b0, .int .i64 b1, .int .u32 b2, .int .u32 b3, .int .u64 b4, .string b5], .int .i64 be]) ∧ Below w'.heap.size w' w'') ∧ be = (if mayP7 4096 2 0 l = true then 0 else 2) := by
    rcases hy : mayP7 4096 2 0 l with _ | _
    · exact ⟨0, 0, 0, 0, 0, ByteArray.empty, 2, fun w' hr => bpage7_no 4096 2 0 A m c l w' hr (by omega) hy, rfl⟩
    · obtain ⟨z, hzz, _, _, _⟩ := good_nat (by simp only [mayP7, Bool.and_eq_true] at hy; exact hy.1 : goodSize 4096 = true)
      refine ⟨3, m, 2, 0, 0, forkBody z l, 0, fun w' hr => ?_, rfl⟩
      have h := bpage7_yes z 2 0 A m c l w' hr (by omega) (by rw [← hzz]; exact hy)
      rw [← hzz] at h
      exact h
  rw [hbig] at hbe
  simp only [if_pos, Bool.false_eq_true, if_false, if_true, ↓reduceIte] at hbe
  subst hbe
  obtain ⟨a0, a1, a2, a3, a4, a5, ae, HPa, hae⟩ : ∃ (a0 a1 : Int) (a2 a3 a4 : Nat) (a5 : ByteArray) (ae : Int), (∀ w' : World, Reads w' w'.heap.size 2 A m (fkc l) → Calls Try.prog 9 #[.int .i64 z, .int .u32 2, .int .u64 0, .slice A m c] w' fun e w'' => e = .returned (.tuple #[.agg #[.int .i64 a0, .int .i64 a1, .int .u32 a2, .int .u32 a3, .int .u64 a4, .string a5], .int .i64 ae]) ∧ Below w'.heap.size w' w'') ∧ ae = (if mayP7 z 2 0 l = true then 0 else 2) := by
    rcases hy : mayP7 z 2 0 l with _ | _
    · exact ⟨0, 0, 0, 0, 0, ByteArray.empty, 2, fun w' hr => bpage7_no z 2 0 A m c l w' hr (by omega) hy, rfl⟩
    · obtain ⟨z, hzz, _, _, _⟩ := good_nat (by simp only [mayP7, Bool.and_eq_true] at hy; exact hy.1 : goodSize z = true)
      refine ⟨3, m, 2, 0, 0, forkBody z l, 0, fun w' hr => ?_, rfl⟩
      have h := bpage7_yes z 2 0 A m c l w' hr (by omega) (by rw [← hzz]; exact hy)
      rw [← hzz] at h
      exact h
  rw [hy] at hae
  simp only [if_pos, Bool.false_eq_true, if_false, if_true, ↓reduceIte] at hae
  subst hae
  have hml : (m == 0) = false := by simp; omega
  have hml2 : ((m : Int) == 0) = false := by simp; omega
  have hfm0 : (0 : Int) ≤ fr % m := Int.emod_nonneg _ (by omega)
  have hfm1 : fr % (m : Int) < m := Int.emod_lt_of_pos _ (by omega)
  obtain ⟨i, hi⟩ := Int.eq_ofNat_of_zero_le hfm0
  rw [hi] at hfm1
  have him : i < m := by omega
  obtain ⟨k, hk⟩ : ∃ k, k = m - i := ⟨_, rfl⟩
  have hk0 : 1 ≤ k := by omega
  have htm0 : (0 : Int) ≤ tu % k := Int.emod_nonneg _ (by omega)
  have htm1 : tu % (k : Int) < k := Int.emod_lt_of_pos _ (by omega)
  obtain ⟨j, hj⟩ := Int.eq_ofNat_of_zero_le htm0
  rw [hj] at htm1
  obtain ⟨t, ht⟩ : ∃ t, t = i + 1 + j := ⟨_, rfl⟩
  have htm : t ≤ m := by omega
  have hki : (m : Int) - i = (k : Int) := by omega
  have hti : (i : Int) + 1 + (j : Int) = (t : Int) := by omega
  have HP1 := fun w => pick_any fr m w (by omega) (by omega)
  have HP2 := fun w => pick_any tu k w (by omega) (by omega)
  rw [hi] at HP1
  rw [hj] at HP2
  obtain ⟨X, q, r, hX, hq, hrr, hsl⟩ := slice7_mid A m c i t (by omega) (by omega)
  obtain ⟨Q, hQ⟩ : ∃ Q, Q = (l.take t).drop i := ⟨_, rfl⟩
  have hXr : ∀ w : World, Reads w w.heap.size 2 A m (fkc l) → Reads w w.heap.size 2 X q (fkc Q) := fun w h => by
    rw [hX, hq, hQ]
    exact fk_drop (fk_take h htm) (by omega) (by omega)
  have HXr := Lib.hid hXr
  have hql : q ≤ 5864062014805 := by omega
  have hz1 : decide ((128 : Int) ≤ z) = true := by simp; omega
  have hz2 : decide ((z : Int) ≤ 4096) = true := by simp; omega
  have hz3 : decide (128 ≤ z) = true := by simp; omega
  have hz4 : decide (z ≤ 4096) = true := by simp; omega
  have hz5 : (z % 64 == 0) = false := by simpa using h3
  have hz6 : ((z : Int) % 64 == 0) = false := by simp; omega
  obtain ⟨SL, hSL⟩ : ∃ s, s = sizeF l := ⟨_, rfl⟩
  have HSL := Lib.hid hSL
  have HSz := Lib.hid (show sizeF l ≤ 9007199254740992 by omega)
  obtain ⟨p0, p1, p2, p3, p4, p5, pe, HPc, hpe⟩ : ∃ (p0 p1 : Int) (p2 p3 p4 : Nat) (p5 : ByteArray) (pe : Int), (∀ w' : World, Reads w' w'.heap.size 2 X q (fkc Q) → Calls Try.prog 9 #[.int .i64 z, .int .u32 2, .int .u64 0, .slice X q r] w' fun e w'' => e = .returned (.tuple #[.agg #[.int .i64 p0, .int .i64 p1, .int .u32 p2, .int .u32 p3, .int .u64 p4, .string p5], .int .i64 pe]) ∧ Below w'.heap.size w' w'') ∧ pe = (if mayP7 z 2 0 Q = true then 0 else 2) := by
    rcases hy : mayP7 z 2 0 Q with _ | _
    · exact ⟨0, 0, 0, 0, 0, ByteArray.empty, 2, fun w' hr => bpage7_no z 2 0 X q r Q w' hr (by omega) hy, rfl⟩
    · obtain ⟨z, hzz, _, _, _⟩ := good_nat (by simp only [mayP7, Bool.and_eq_true] at hy; exact hy.1 : goodSize z = true)
      refine ⟨3, q, 2, 0, 0, forkBody z Q, 0, fun w' hr => ?_, rfl⟩
      have h := bpage7_yes z 2 0 X q r Q w' hr (by omega) (by rw [← hzz]; exact hy)
      rw [← hzz] at h
      exact h
  clear hpe
  have HQ := Lib.hid hQ
  have hm100 := h60
  have hit : i < t := by omega
  have hmc2 : t ≤ c := by omega
  clear hr hm hl hsz hy hbig hXr hX hQ hi hj hSL hfm0 htm0 hk ht hq hrr
  obtain ⟨hz, hi⟩ := zero_of_info infoPg
  have HI := Lib.hid hi
  clear hi
  have HB := Lib.hid (Below.refl w.heap.size w)
  go_enter Try.func7, Try.ntmps7
  go_wp2_with fail
  refine (lives7_any _).mono ?_
  rintro e w101 ⟨rfl, hb⟩
  replace HB := Lib.hid (HB.out.trans (hb.mono HB.out.size))
  clear hb
  go_wp2_with fail
  refine (light7_any A m c l _ (HR.out.below HB.out) (Nat.le_trans HM.out (by decide))).mono ?_
  rintro e w102 ⟨rfl, rfl⟩
  rw [HLi.out]
  go_wp2_with fail
  refine (HPb _ ((HR.out.below HB.out).more HB.out.size)).mono ?_
  rintro e w103 ⟨rfl, hb⟩
  replace HB := Lib.hid (HB.out.trans (hb.mono HB.out.size))
  clear hb
  clear HPb
  obtain ⟨w104, hw104⟩ : ∃ x, x = w103.alloc (.cells #[.int .i64 b0, .int .i64 b1, .int .u32 b2, .int .u32 b3, .int .u64 b4, .string b5] 26) := ⟨_, rfl⟩
  have saw104 : w103.heap.size = w103.heap.size := by first | rfl | omega
  have ge_B0 := Lib.hid (show w.heap.size ≤ w103.heap.size from saw104 ▸ HB.out.size)
  replace HB := Lib.hid (show Below w.heap.size w w104 by rw [hw104]; exact HB.out.alloc HB.out.size _)
  have B0 := Lib.hid (show Blk w104 w103.heap.size 26 #[.int .i64 b0, .int .i64 b1, .int .u32 b2, .int .u32 b3, .int .u64 b4, .string b5] by rw [hw104, ← saw104]; exact Blk.new _ _ _)
  have szw104 : w104.heap.size = w103.heap.size + 1 := by rw [hw104]; simp
  clear saw104 szw104
  go_wp2_with fail
  rw [← hw104]
  clear hw104
  generalize w103.heap.size = gB0 at *
  clear B0
  refine (HPa _ ((HR.out.below HB.out).more HB.out.size)).mono ?_
  rintro e w105 ⟨rfl, hb⟩
  replace HB := Lib.hid (HB.out.trans (hb.mono HB.out.size))
  clear hb
  clear HPa
  obtain ⟨w106, hw106⟩ : ∃ x, x = w105.alloc (.cells #[.int .i64 a0, .int .i64 a1, .int .u32 a2, .int .u32 a3, .int .u64 a4, .string a5] 26) := ⟨_, rfl⟩
  have saw106 : w105.heap.size = w105.heap.size := by first | rfl | omega
  have ge_A0 := Lib.hid (show w.heap.size ≤ w105.heap.size from saw106 ▸ HB.out.size)
  replace HB := Lib.hid (show Below w.heap.size w w106 by rw [hw106]; exact HB.out.alloc HB.out.size _)
  have A0 := Lib.hid (show Blk w106 w105.heap.size 26 #[.int .i64 a0, .int .i64 a1, .int .u32 a2, .int .u32 a3, .int .u64 a4, .string a5] by rw [hw106, ← saw106]; exact Blk.new _ _ _)
  have szw106 : w106.heap.size = w105.heap.size + 1 := by rw [hw106]; simp
  clear saw106 szw106
  go_wp2_with fail
  rw [← hw106]
  clear hw106
  generalize w105.heap.size = gA0 at *
  clear A0
  refine (HP1 _).mono ?_
  rintro e w107 ⟨rfl, rfl⟩
  clear HP1
  go_wp2_with fail
  refine (HP2 _).mono ?_
  rintro e w108 ⟨rfl, rfl⟩
  clear HP2
  go_wp2_with fail
  refine (HPc _ (HXr.out _ ((HR.out.below HB.out).more HB.out.size))).mono ?_
  rintro e w109 ⟨rfl, hb⟩
  replace HB := Lib.hid (HB.out.trans (hb.mono HB.out.size))
  clear hb
  clear HPc
  obtain ⟨w110, hw110⟩ : ∃ x, x = w109.alloc (.cells #[.int .i64 p0, .int .i64 p1, .int .u32 p2, .int .u32 p3, .int .u64 p4, .string p5] 26) := ⟨_, rfl⟩
  have saw110 : w109.heap.size = w109.heap.size := by first | rfl | omega
  have ge_C0 := Lib.hid (show w.heap.size ≤ w109.heap.size from saw110 ▸ HB.out.size)
  replace HB := Lib.hid (show Below w.heap.size w w110 by rw [hw110]; exact HB.out.alloc HB.out.size _)
  have C0 := Lib.hid (show Blk w110 w109.heap.size 26 #[.int .i64 p0, .int .i64 p1, .int .u32 p2, .int .u32 p3, .int .u64 p4, .string p5] by rw [hw110, ← saw110]; exact Blk.new _ _ _)
  have szw110 : w110.heap.size = w109.heap.size + 1 := by rw [hw110]; simp
  clear saw110 szw110
  go_wp2_with fail
  rw [← hw110]
  clear hw110
  generalize w109.heap.size = gC0 at *
  go_ret
  exact ⟨rfl, HB.out⟩
set_option maxRecDepth 100000 in
set_option maxHeartbeats 12800000 in
theorem brfits_l10 (size : Int) (A : Option Addr) (m c : Nat) (l : List Fk) (fr tu : Int) (w : World) (hr : Reads w w.heap.size 2 A m (fkc l)) (hm : m ≤ 5864062014805) (hmc : m ≤ c) (hl : lightF l = true) (h0 : 0 < m) (h60 : m ≤ 100) (hsz : sizeF l ≤ 8000000000000000) (h1 : ¬ 128 ≤ size) (hy : mayP7 size 2 0 l = false) (hbig : mayP7 4096 2 0 l = true)  :
    Calls Try.prog 7 #[.int .i64 size, .slice A m c, .int .i64 fr, .int .i64 tu] w fun e w' => e = .returned (.bool true) ∧ Below w.heap.size w w' := by
  have HR := Lib.hid hr
  have HM := Lib.hid hm
  have HLi := Lib.hid hl
  have HLn := Lib.hid (fk_len hr)
  obtain ⟨b0, b1, b2, b3, b4, b5, be, HPb, hbe⟩ : ∃ (b0 b1 : Int) (b2 b3 b4 : Nat) (b5 : ByteArray) (be : Int), (∀ w' : World, Reads w' w'.heap.size 2 A m (fkc l) → Calls Try.prog 9 #[.int .i64 4096, .int .u32 2, .int .u64 0, .slice A m c] w' fun e w'' => e = .returned (.tuple #[.agg #[.int .i64 b0, .int .i64 b1, .int .u32 b2, .int .u32 b3, .int .u64 b4, .string b5], .int .i64 be]) ∧ Below w'.heap.size w' w'') ∧ be = (if mayP7 4096 2 0 l = true then 0 else 2) := by
    rcases hy : mayP7 4096 2 0 l with _ | _
    · exact ⟨0, 0, 0, 0, 0, ByteArray.empty, 2, fun w' hr => bpage7_no 4096 2 0 A m c l w' hr (by omega) hy, rfl⟩
    · obtain ⟨z, hzz, _, _, _⟩ := good_nat (by simp only [mayP7, Bool.and_eq_true] at hy; exact hy.1 : goodSize 4096 = true)
      refine ⟨3, m, 2, 0, 0, forkBody z l, 0, fun w' hr => ?_, rfl⟩
      have h := bpage7_yes z 2 0 A m c l w' hr (by omega) (by rw [← hzz]; exact hy)
      rw [← hzz] at h
      exact h
  rw [hbig] at hbe
  simp only [if_pos, Bool.false_eq_true, if_false, if_true, ↓reduceIte] at hbe
  subst hbe
  obtain ⟨a0, a1, a2, a3, a4, a5, ae, HPa, hae⟩ : ∃ (a0 a1 : Int) (a2 a3 a4 : Nat) (a5 : ByteArray) (ae : Int), (∀ w' : World, Reads w' w'.heap.size 2 A m (fkc l) → Calls Try.prog 9 #[.int .i64 size, .int .u32 2, .int .u64 0, .slice A m c] w' fun e w'' => e = .returned (.tuple #[.agg #[.int .i64 a0, .int .i64 a1, .int .u32 a2, .int .u32 a3, .int .u64 a4, .string a5], .int .i64 ae]) ∧ Below w'.heap.size w' w'') ∧ ae = (if mayP7 size 2 0 l = true then 0 else 2) := by
    rcases hy : mayP7 size 2 0 l with _ | _
    · exact ⟨0, 0, 0, 0, 0, ByteArray.empty, 2, fun w' hr => bpage7_no size 2 0 A m c l w' hr (by omega) hy, rfl⟩
    · obtain ⟨z, hzz, _, _, _⟩ := good_nat (by simp only [mayP7, Bool.and_eq_true] at hy; exact hy.1 : goodSize size = true)
      refine ⟨3, m, 2, 0, 0, forkBody z l, 0, fun w' hr => ?_, rfl⟩
      have h := bpage7_yes z 2 0 A m c l w' hr (by omega) (by rw [← hzz]; exact hy)
      rw [← hzz] at h
      exact h
  rw [hy] at hae
  simp only [if_pos, Bool.false_eq_true, if_false, if_true, ↓reduceIte] at hae
  subst hae
  have hml : (m == 0) = false := by simp; omega
  have hml2 : ((m : Int) == 0) = false := by simp; omega
  have hfm0 : (0 : Int) ≤ fr % m := Int.emod_nonneg _ (by omega)
  have hfm1 : fr % (m : Int) < m := Int.emod_lt_of_pos _ (by omega)
  obtain ⟨i, hi⟩ := Int.eq_ofNat_of_zero_le hfm0
  rw [hi] at hfm1
  have him : i < m := by omega
  obtain ⟨k, hk⟩ : ∃ k, k = m - i := ⟨_, rfl⟩
  have hk0 : 1 ≤ k := by omega
  have htm0 : (0 : Int) ≤ tu % k := Int.emod_nonneg _ (by omega)
  have htm1 : tu % (k : Int) < k := Int.emod_lt_of_pos _ (by omega)
  obtain ⟨j, hj⟩ := Int.eq_ofNat_of_zero_le htm0
  rw [hj] at htm1
  obtain ⟨t, ht⟩ : ∃ t, t = i + 1 + j := ⟨_, rfl⟩
  have htm : t ≤ m := by omega
  have hki : (m : Int) - i = (k : Int) := by omega
  have hti : (i : Int) + 1 + (j : Int) = (t : Int) := by omega
  have HP1 := fun w => pick_any fr m w (by omega) (by omega)
  have HP2 := fun w => pick_any tu k w (by omega) (by omega)
  rw [hi] at HP1
  rw [hj] at HP2
  obtain ⟨X, q, r, hX, hq, hrr, hsl⟩ := slice7_mid A m c i t (by omega) (by omega)
  obtain ⟨Q, hQ⟩ : ∃ Q, Q = (l.take t).drop i := ⟨_, rfl⟩
  have hXr : ∀ w : World, Reads w w.heap.size 2 A m (fkc l) → Reads w w.heap.size 2 X q (fkc Q) := fun w h => by
    rw [hX, hq, hQ]
    exact fk_drop (fk_take h htm) (by omega) (by omega)
  have HXr := Lib.hid hXr
  have hql : q ≤ 5864062014805 := by omega
  have hz1 : decide ((128 : Int) ≤ size) = false := by simp; omega
  obtain ⟨SL, hSL⟩ : ∃ s, s = sizeF l := ⟨_, rfl⟩
  have HSL := Lib.hid hSL
  have HSz := Lib.hid (show sizeF l ≤ 9007199254740992 by omega)
  obtain ⟨p0, p1, p2, p3, p4, p5, pe, HPc, hpe⟩ : ∃ (p0 p1 : Int) (p2 p3 p4 : Nat) (p5 : ByteArray) (pe : Int), (∀ w' : World, Reads w' w'.heap.size 2 X q (fkc Q) → Calls Try.prog 9 #[.int .i64 size, .int .u32 2, .int .u64 0, .slice X q r] w' fun e w'' => e = .returned (.tuple #[.agg #[.int .i64 p0, .int .i64 p1, .int .u32 p2, .int .u32 p3, .int .u64 p4, .string p5], .int .i64 pe]) ∧ Below w'.heap.size w' w'') ∧ pe = (if mayP7 size 2 0 Q = true then 0 else 2) := by
    rcases hy : mayP7 size 2 0 Q with _ | _
    · exact ⟨0, 0, 0, 0, 0, ByteArray.empty, 2, fun w' hr => bpage7_no size 2 0 X q r Q w' hr (by omega) hy, rfl⟩
    · obtain ⟨z, hzz, _, _, _⟩ := good_nat (by simp only [mayP7, Bool.and_eq_true] at hy; exact hy.1 : goodSize size = true)
      refine ⟨3, q, 2, 0, 0, forkBody z Q, 0, fun w' hr => ?_, rfl⟩
      have h := bpage7_yes z 2 0 X q r Q w' hr (by omega) (by rw [← hzz]; exact hy)
      rw [← hzz] at h
      exact h
  clear hpe
  have HQ := Lib.hid hQ
  have hm100 := h60
  have hit : i < t := by omega
  have hmc2 : t ≤ c := by omega
  clear hr hm hl hsz hy hbig hXr hX hQ hi hj hSL hfm0 htm0 hk ht hq hrr
  obtain ⟨hz, hi⟩ := zero_of_info infoPg
  have HI := Lib.hid hi
  clear hi
  have HB := Lib.hid (Below.refl w.heap.size w)
  go_enter Try.func7, Try.ntmps7
  go_wp2_with fail
  refine (lives7_any _).mono ?_
  rintro e w101 ⟨rfl, hb⟩
  replace HB := Lib.hid (HB.out.trans (hb.mono HB.out.size))
  clear hb
  go_wp2_with fail
  refine (light7_any A m c l _ (HR.out.below HB.out) (Nat.le_trans HM.out (by decide))).mono ?_
  rintro e w102 ⟨rfl, rfl⟩
  rw [HLi.out]
  go_wp2_with fail
  refine (HPb _ ((HR.out.below HB.out).more HB.out.size)).mono ?_
  rintro e w103 ⟨rfl, hb⟩
  replace HB := Lib.hid (HB.out.trans (hb.mono HB.out.size))
  clear hb
  clear HPb
  obtain ⟨w104, hw104⟩ : ∃ x, x = w103.alloc (.cells #[.int .i64 b0, .int .i64 b1, .int .u32 b2, .int .u32 b3, .int .u64 b4, .string b5] 26) := ⟨_, rfl⟩
  have saw104 : w103.heap.size = w103.heap.size := by first | rfl | omega
  have ge_B0 := Lib.hid (show w.heap.size ≤ w103.heap.size from saw104 ▸ HB.out.size)
  replace HB := Lib.hid (show Below w.heap.size w w104 by rw [hw104]; exact HB.out.alloc HB.out.size _)
  have B0 := Lib.hid (show Blk w104 w103.heap.size 26 #[.int .i64 b0, .int .i64 b1, .int .u32 b2, .int .u32 b3, .int .u64 b4, .string b5] by rw [hw104, ← saw104]; exact Blk.new _ _ _)
  have szw104 : w104.heap.size = w103.heap.size + 1 := by rw [hw104]; simp
  clear saw104 szw104
  go_wp2_with fail
  rw [← hw104]
  clear hw104
  generalize w103.heap.size = gB0 at *
  clear B0
  refine (HPa _ ((HR.out.below HB.out).more HB.out.size)).mono ?_
  rintro e w105 ⟨rfl, hb⟩
  replace HB := Lib.hid (HB.out.trans (hb.mono HB.out.size))
  clear hb
  clear HPa
  obtain ⟨w106, hw106⟩ : ∃ x, x = w105.alloc (.cells #[.int .i64 a0, .int .i64 a1, .int .u32 a2, .int .u32 a3, .int .u64 a4, .string a5] 26) := ⟨_, rfl⟩
  have saw106 : w105.heap.size = w105.heap.size := by first | rfl | omega
  have ge_A0 := Lib.hid (show w.heap.size ≤ w105.heap.size from saw106 ▸ HB.out.size)
  replace HB := Lib.hid (show Below w.heap.size w w106 by rw [hw106]; exact HB.out.alloc HB.out.size _)
  have A0 := Lib.hid (show Blk w106 w105.heap.size 26 #[.int .i64 a0, .int .i64 a1, .int .u32 a2, .int .u32 a3, .int .u64 a4, .string a5] by rw [hw106, ← saw106]; exact Blk.new _ _ _)
  have szw106 : w106.heap.size = w105.heap.size + 1 := by rw [hw106]; simp
  clear saw106 szw106
  go_wp2_with fail
  rw [← hw106]
  clear hw106
  generalize w105.heap.size = gA0 at *
  clear A0
  refine (HP1 _).mono ?_
  rintro e w107 ⟨rfl, rfl⟩
  clear HP1
  go_wp2_with fail
  refine (HP2 _).mono ?_
  rintro e w108 ⟨rfl, rfl⟩
  clear HP2
  go_wp2_with fail
  refine (HPc _ (HXr.out _ ((HR.out.below HB.out).more HB.out.size))).mono ?_
  rintro e w109 ⟨rfl, hb⟩
  replace HB := Lib.hid (HB.out.trans (hb.mono HB.out.size))
  clear hb
  clear HPc
  obtain ⟨w110, hw110⟩ : ∃ x, x = w109.alloc (.cells #[.int .i64 p0, .int .i64 p1, .int .u32 p2, .int .u32 p3, .int .u64 p4, .string p5] 26) := ⟨_, rfl⟩
  have saw110 : w109.heap.size = w109.heap.size := by first | rfl | omega
  have ge_C0 := Lib.hid (show w.heap.size ≤ w109.heap.size from saw110 ▸ HB.out.size)
  replace HB := Lib.hid (show Below w.heap.size w w110 by rw [hw110]; exact HB.out.alloc HB.out.size _)
  have C0 := Lib.hid (show Blk w110 w109.heap.size 26 #[.int .i64 p0, .int .i64 p1, .int .u32 p2, .int .u32 p3, .int .u64 p4, .string p5] by rw [hw110, ← saw110]; exact Blk.new _ _ _)
  have szw110 : w110.heap.size = w109.heap.size + 1 := by rw [hw110]; simp
  clear saw110 szw110
  go_wp2_with fail
  rw [← hw110]
  clear hw110
  generalize w109.heap.size = gC0 at *
  go_ret
  exact ⟨rfl, HB.out⟩
set_option maxRecDepth 100000 in
set_option maxHeartbeats 12800000 in
theorem brfits_l00 (size : Int) (A : Option Addr) (m c : Nat) (l : List Fk) (fr tu : Int) (w : World) (hr : Reads w w.heap.size 2 A m (fkc l)) (hm : m ≤ 5864062014805) (hmc : m ≤ c) (hl : lightF l = true) (h0 : 0 < m) (h60 : m ≤ 100) (hsz : sizeF l ≤ 8000000000000000) (h1 : ¬ 128 ≤ size) (hy : mayP7 size 2 0 l = false) (hbig : mayP7 4096 2 0 l = false)  :
    Calls Try.prog 7 #[.int .i64 size, .slice A m c, .int .i64 fr, .int .i64 tu] w fun e w' => e = .returned (.bool true) ∧ Below w.heap.size w w' := by
  have HR := Lib.hid hr
  have HM := Lib.hid hm
  have HLi := Lib.hid hl
  have HLn := Lib.hid (fk_len hr)
  obtain ⟨b0, b1, b2, b3, b4, b5, be, HPb, hbe⟩ : ∃ (b0 b1 : Int) (b2 b3 b4 : Nat) (b5 : ByteArray) (be : Int), (∀ w' : World, Reads w' w'.heap.size 2 A m (fkc l) → Calls Try.prog 9 #[.int .i64 4096, .int .u32 2, .int .u64 0, .slice A m c] w' fun e w'' => e = .returned (.tuple #[.agg #[.int .i64 b0, .int .i64 b1, .int .u32 b2, .int .u32 b3, .int .u64 b4, .string b5], .int .i64 be]) ∧ Below w'.heap.size w' w'') ∧ be = (if mayP7 4096 2 0 l = true then 0 else 2) := by
    rcases hy : mayP7 4096 2 0 l with _ | _
    · exact ⟨0, 0, 0, 0, 0, ByteArray.empty, 2, fun w' hr => bpage7_no 4096 2 0 A m c l w' hr (by omega) hy, rfl⟩
    · obtain ⟨z, hzz, _, _, _⟩ := good_nat (by simp only [mayP7, Bool.and_eq_true] at hy; exact hy.1 : goodSize 4096 = true)
      refine ⟨3, m, 2, 0, 0, forkBody z l, 0, fun w' hr => ?_, rfl⟩
      have h := bpage7_yes z 2 0 A m c l w' hr (by omega) (by rw [← hzz]; exact hy)
      rw [← hzz] at h
      exact h
  rw [hbig] at hbe
  simp only [if_pos, Bool.false_eq_true, if_false, if_true, ↓reduceIte] at hbe
  subst hbe
  obtain ⟨a0, a1, a2, a3, a4, a5, ae, HPa, hae⟩ : ∃ (a0 a1 : Int) (a2 a3 a4 : Nat) (a5 : ByteArray) (ae : Int), (∀ w' : World, Reads w' w'.heap.size 2 A m (fkc l) → Calls Try.prog 9 #[.int .i64 size, .int .u32 2, .int .u64 0, .slice A m c] w' fun e w'' => e = .returned (.tuple #[.agg #[.int .i64 a0, .int .i64 a1, .int .u32 a2, .int .u32 a3, .int .u64 a4, .string a5], .int .i64 ae]) ∧ Below w'.heap.size w' w'') ∧ ae = (if mayP7 size 2 0 l = true then 0 else 2) := by
    rcases hy : mayP7 size 2 0 l with _ | _
    · exact ⟨0, 0, 0, 0, 0, ByteArray.empty, 2, fun w' hr => bpage7_no size 2 0 A m c l w' hr (by omega) hy, rfl⟩
    · obtain ⟨z, hzz, _, _, _⟩ := good_nat (by simp only [mayP7, Bool.and_eq_true] at hy; exact hy.1 : goodSize size = true)
      refine ⟨3, m, 2, 0, 0, forkBody z l, 0, fun w' hr => ?_, rfl⟩
      have h := bpage7_yes z 2 0 A m c l w' hr (by omega) (by rw [← hzz]; exact hy)
      rw [← hzz] at h
      exact h
  rw [hy] at hae
  simp only [if_pos, Bool.false_eq_true, if_false, if_true, ↓reduceIte] at hae
  subst hae
  have hml : (m == 0) = false := by simp; omega
  have hml2 : ((m : Int) == 0) = false := by simp; omega
  have hfm0 : (0 : Int) ≤ fr % m := Int.emod_nonneg _ (by omega)
  have hfm1 : fr % (m : Int) < m := Int.emod_lt_of_pos _ (by omega)
  obtain ⟨i, hi⟩ := Int.eq_ofNat_of_zero_le hfm0
  rw [hi] at hfm1
  have him : i < m := by omega
  obtain ⟨k, hk⟩ : ∃ k, k = m - i := ⟨_, rfl⟩
  have hk0 : 1 ≤ k := by omega
  have htm0 : (0 : Int) ≤ tu % k := Int.emod_nonneg _ (by omega)
  have htm1 : tu % (k : Int) < k := Int.emod_lt_of_pos _ (by omega)
  obtain ⟨j, hj⟩ := Int.eq_ofNat_of_zero_le htm0
  rw [hj] at htm1
  obtain ⟨t, ht⟩ : ∃ t, t = i + 1 + j := ⟨_, rfl⟩
  have htm : t ≤ m := by omega
  have hki : (m : Int) - i = (k : Int) := by omega
  have hti : (i : Int) + 1 + (j : Int) = (t : Int) := by omega
  have HP1 := fun w => pick_any fr m w (by omega) (by omega)
  have HP2 := fun w => pick_any tu k w (by omega) (by omega)
  rw [hi] at HP1
  rw [hj] at HP2
  obtain ⟨X, q, r, hX, hq, hrr, hsl⟩ := slice7_mid A m c i t (by omega) (by omega)
  obtain ⟨Q, hQ⟩ : ∃ Q, Q = (l.take t).drop i := ⟨_, rfl⟩
  have hXr : ∀ w : World, Reads w w.heap.size 2 A m (fkc l) → Reads w w.heap.size 2 X q (fkc Q) := fun w h => by
    rw [hX, hq, hQ]
    exact fk_drop (fk_take h htm) (by omega) (by omega)
  have HXr := Lib.hid hXr
  have hql : q ≤ 5864062014805 := by omega
  have hz1 : decide ((128 : Int) ≤ size) = false := by simp; omega
  obtain ⟨SL, hSL⟩ : ∃ s, s = sizeF l := ⟨_, rfl⟩
  have HSL := Lib.hid hSL
  have HSz := Lib.hid (show sizeF l ≤ 9007199254740992 by omega)
  obtain ⟨p0, p1, p2, p3, p4, p5, pe, HPc, hpe⟩ : ∃ (p0 p1 : Int) (p2 p3 p4 : Nat) (p5 : ByteArray) (pe : Int), (∀ w' : World, Reads w' w'.heap.size 2 X q (fkc Q) → Calls Try.prog 9 #[.int .i64 size, .int .u32 2, .int .u64 0, .slice X q r] w' fun e w'' => e = .returned (.tuple #[.agg #[.int .i64 p0, .int .i64 p1, .int .u32 p2, .int .u32 p3, .int .u64 p4, .string p5], .int .i64 pe]) ∧ Below w'.heap.size w' w'') ∧ pe = (if mayP7 size 2 0 Q = true then 0 else 2) := by
    rcases hy : mayP7 size 2 0 Q with _ | _
    · exact ⟨0, 0, 0, 0, 0, ByteArray.empty, 2, fun w' hr => bpage7_no size 2 0 X q r Q w' hr (by omega) hy, rfl⟩
    · obtain ⟨z, hzz, _, _, _⟩ := good_nat (by simp only [mayP7, Bool.and_eq_true] at hy; exact hy.1 : goodSize size = true)
      refine ⟨3, q, 2, 0, 0, forkBody z Q, 0, fun w' hr => ?_, rfl⟩
      have h := bpage7_yes z 2 0 X q r Q w' hr (by omega) (by rw [← hzz]; exact hy)
      rw [← hzz] at h
      exact h
  clear hpe
  have HQ := Lib.hid hQ
  have hm100 := h60
  have hit : i < t := by omega
  have hmc2 : t ≤ c := by omega
  clear hr hm hl hsz hy hbig hXr hX hQ hi hj hSL hfm0 htm0 hk ht hq hrr
  obtain ⟨hz, hi⟩ := zero_of_info infoPg
  have HI := Lib.hid hi
  clear hi
  have HB := Lib.hid (Below.refl w.heap.size w)
  go_enter Try.func7, Try.ntmps7
  go_wp2_with fail
  refine (lives7_any _).mono ?_
  rintro e w101 ⟨rfl, hb⟩
  replace HB := Lib.hid (HB.out.trans (hb.mono HB.out.size))
  clear hb
  go_wp2_with fail
  refine (light7_any A m c l _ (HR.out.below HB.out) (Nat.le_trans HM.out (by decide))).mono ?_
  rintro e w102 ⟨rfl, rfl⟩
  rw [HLi.out]
  go_wp2_with fail
  refine (HPb _ ((HR.out.below HB.out).more HB.out.size)).mono ?_
  rintro e w103 ⟨rfl, hb⟩
  replace HB := Lib.hid (HB.out.trans (hb.mono HB.out.size))
  clear hb
  clear HPb
  obtain ⟨w104, hw104⟩ : ∃ x, x = w103.alloc (.cells #[.int .i64 b0, .int .i64 b1, .int .u32 b2, .int .u32 b3, .int .u64 b4, .string b5] 26) := ⟨_, rfl⟩
  have saw104 : w103.heap.size = w103.heap.size := by first | rfl | omega
  have ge_B0 := Lib.hid (show w.heap.size ≤ w103.heap.size from saw104 ▸ HB.out.size)
  replace HB := Lib.hid (show Below w.heap.size w w104 by rw [hw104]; exact HB.out.alloc HB.out.size _)
  have B0 := Lib.hid (show Blk w104 w103.heap.size 26 #[.int .i64 b0, .int .i64 b1, .int .u32 b2, .int .u32 b3, .int .u64 b4, .string b5] by rw [hw104, ← saw104]; exact Blk.new _ _ _)
  have szw104 : w104.heap.size = w103.heap.size + 1 := by rw [hw104]; simp
  clear saw104 szw104
  go_wp2_with fail
  rw [← hw104]
  clear hw104
  generalize w103.heap.size = gB0 at *
  clear B0
  refine (HPa _ ((HR.out.below HB.out).more HB.out.size)).mono ?_
  rintro e w105 ⟨rfl, hb⟩
  replace HB := Lib.hid (HB.out.trans (hb.mono HB.out.size))
  clear hb
  clear HPa
  obtain ⟨w106, hw106⟩ : ∃ x, x = w105.alloc (.cells #[.int .i64 a0, .int .i64 a1, .int .u32 a2, .int .u32 a3, .int .u64 a4, .string a5] 26) := ⟨_, rfl⟩
  have saw106 : w105.heap.size = w105.heap.size := by first | rfl | omega
  have ge_A0 := Lib.hid (show w.heap.size ≤ w105.heap.size from saw106 ▸ HB.out.size)
  replace HB := Lib.hid (show Below w.heap.size w w106 by rw [hw106]; exact HB.out.alloc HB.out.size _)
  have A0 := Lib.hid (show Blk w106 w105.heap.size 26 #[.int .i64 a0, .int .i64 a1, .int .u32 a2, .int .u32 a3, .int .u64 a4, .string a5] by rw [hw106, ← saw106]; exact Blk.new _ _ _)
  have szw106 : w106.heap.size = w105.heap.size + 1 := by rw [hw106]; simp
  clear saw106 szw106
  go_wp2_with fail
  rw [← hw106]
  clear hw106
  generalize w105.heap.size = gA0 at *
  clear A0
  refine (HP1 _).mono ?_
  rintro e w107 ⟨rfl, rfl⟩
  clear HP1
  go_wp2_with fail
  refine (HP2 _).mono ?_
  rintro e w108 ⟨rfl, rfl⟩
  clear HP2
  go_wp2_with fail
  refine (HPc _ (HXr.out _ ((HR.out.below HB.out).more HB.out.size))).mono ?_
  rintro e w109 ⟨rfl, hb⟩
  replace HB := Lib.hid (HB.out.trans (hb.mono HB.out.size))
  clear hb
  clear HPc
  obtain ⟨w110, hw110⟩ : ∃ x, x = w109.alloc (.cells #[.int .i64 p0, .int .i64 p1, .int .u32 p2, .int .u32 p3, .int .u64 p4, .string p5] 26) := ⟨_, rfl⟩
  have saw110 : w109.heap.size = w109.heap.size := by first | rfl | omega
  have ge_C0 := Lib.hid (show w.heap.size ≤ w109.heap.size from saw110 ▸ HB.out.size)
  replace HB := Lib.hid (show Below w.heap.size w w110 by rw [hw110]; exact HB.out.alloc HB.out.size _)
  have C0 := Lib.hid (show Blk w110 w109.heap.size 26 #[.int .i64 p0, .int .i64 p1, .int .u32 p2, .int .u32 p3, .int .u64 p4, .string p5] by rw [hw110, ← saw110]; exact Blk.new _ _ _)
  have szw110 : w110.heap.size = w109.heap.size + 1 := by rw [hw110]; simp
  clear saw110 szw110
  go_wp2_with fail
  rw [← hw110]
  clear hw110
  generalize w109.heap.size = gC0 at *
  go_ret
  exact ⟨rfl, HB.out⟩
set_option maxRecDepth 100000 in
set_option maxHeartbeats 12800000 in
theorem brfits_h10 (size : Int) (A : Option Addr) (m c : Nat) (l : List Fk) (fr tu : Int) (w : World) (hr : Reads w w.heap.size 2 A m (fkc l)) (hm : m ≤ 5864062014805) (hmc : m ≤ c) (hl : lightF l = true) (h0 : 0 < m) (h60 : m ≤ 100) (hsz : sizeF l ≤ 8000000000000000) (h2 : ¬ size ≤ 4096) (hy : mayP7 size 2 0 l = false) (hbig : mayP7 4096 2 0 l = true)  :
    Calls Try.prog 7 #[.int .i64 size, .slice A m c, .int .i64 fr, .int .i64 tu] w fun e w' => e = .returned (.bool true) ∧ Below w.heap.size w w' := by
  have HR := Lib.hid hr
  have HM := Lib.hid hm
  have HLi := Lib.hid hl
  have HLn := Lib.hid (fk_len hr)
  obtain ⟨b0, b1, b2, b3, b4, b5, be, HPb, hbe⟩ : ∃ (b0 b1 : Int) (b2 b3 b4 : Nat) (b5 : ByteArray) (be : Int), (∀ w' : World, Reads w' w'.heap.size 2 A m (fkc l) → Calls Try.prog 9 #[.int .i64 4096, .int .u32 2, .int .u64 0, .slice A m c] w' fun e w'' => e = .returned (.tuple #[.agg #[.int .i64 b0, .int .i64 b1, .int .u32 b2, .int .u32 b3, .int .u64 b4, .string b5], .int .i64 be]) ∧ Below w'.heap.size w' w'') ∧ be = (if mayP7 4096 2 0 l = true then 0 else 2) := by
    rcases hy : mayP7 4096 2 0 l with _ | _
    · exact ⟨0, 0, 0, 0, 0, ByteArray.empty, 2, fun w' hr => bpage7_no 4096 2 0 A m c l w' hr (by omega) hy, rfl⟩
    · obtain ⟨z, hzz, _, _, _⟩ := good_nat (by simp only [mayP7, Bool.and_eq_true] at hy; exact hy.1 : goodSize 4096 = true)
      refine ⟨3, m, 2, 0, 0, forkBody z l, 0, fun w' hr => ?_, rfl⟩
      have h := bpage7_yes z 2 0 A m c l w' hr (by omega) (by rw [← hzz]; exact hy)
      rw [← hzz] at h
      exact h
  rw [hbig] at hbe
  simp only [if_pos, Bool.false_eq_true, if_false, if_true, ↓reduceIte] at hbe
  subst hbe
  obtain ⟨a0, a1, a2, a3, a4, a5, ae, HPa, hae⟩ : ∃ (a0 a1 : Int) (a2 a3 a4 : Nat) (a5 : ByteArray) (ae : Int), (∀ w' : World, Reads w' w'.heap.size 2 A m (fkc l) → Calls Try.prog 9 #[.int .i64 size, .int .u32 2, .int .u64 0, .slice A m c] w' fun e w'' => e = .returned (.tuple #[.agg #[.int .i64 a0, .int .i64 a1, .int .u32 a2, .int .u32 a3, .int .u64 a4, .string a5], .int .i64 ae]) ∧ Below w'.heap.size w' w'') ∧ ae = (if mayP7 size 2 0 l = true then 0 else 2) := by
    rcases hy : mayP7 size 2 0 l with _ | _
    · exact ⟨0, 0, 0, 0, 0, ByteArray.empty, 2, fun w' hr => bpage7_no size 2 0 A m c l w' hr (by omega) hy, rfl⟩
    · obtain ⟨z, hzz, _, _, _⟩ := good_nat (by simp only [mayP7, Bool.and_eq_true] at hy; exact hy.1 : goodSize size = true)
      refine ⟨3, m, 2, 0, 0, forkBody z l, 0, fun w' hr => ?_, rfl⟩
      have h := bpage7_yes z 2 0 A m c l w' hr (by omega) (by rw [← hzz]; exact hy)
      rw [← hzz] at h
      exact h
  rw [hy] at hae
  simp only [if_pos, Bool.false_eq_true, if_false, if_true, ↓reduceIte] at hae
  subst hae
  have hml : (m == 0) = false := by simp; omega
  have hml2 : ((m : Int) == 0) = false := by simp; omega
  have hfm0 : (0 : Int) ≤ fr % m := Int.emod_nonneg _ (by omega)
  have hfm1 : fr % (m : Int) < m := Int.emod_lt_of_pos _ (by omega)
  obtain ⟨i, hi⟩ := Int.eq_ofNat_of_zero_le hfm0
  rw [hi] at hfm1
  have him : i < m := by omega
  obtain ⟨k, hk⟩ : ∃ k, k = m - i := ⟨_, rfl⟩
  have hk0 : 1 ≤ k := by omega
  have htm0 : (0 : Int) ≤ tu % k := Int.emod_nonneg _ (by omega)
  have htm1 : tu % (k : Int) < k := Int.emod_lt_of_pos _ (by omega)
  obtain ⟨j, hj⟩ := Int.eq_ofNat_of_zero_le htm0
  rw [hj] at htm1
  obtain ⟨t, ht⟩ : ∃ t, t = i + 1 + j := ⟨_, rfl⟩
  have htm : t ≤ m := by omega
  have hki : (m : Int) - i = (k : Int) := by omega
  have hti : (i : Int) + 1 + (j : Int) = (t : Int) := by omega
  have HP1 := fun w => pick_any fr m w (by omega) (by omega)
  have HP2 := fun w => pick_any tu k w (by omega) (by omega)
  rw [hi] at HP1
  rw [hj] at HP2
  obtain ⟨X, q, r, hX, hq, hrr, hsl⟩ := slice7_mid A m c i t (by omega) (by omega)
  obtain ⟨Q, hQ⟩ : ∃ Q, Q = (l.take t).drop i := ⟨_, rfl⟩
  have hXr : ∀ w : World, Reads w w.heap.size 2 A m (fkc l) → Reads w w.heap.size 2 X q (fkc Q) := fun w h => by
    rw [hX, hq, hQ]
    exact fk_drop (fk_take h htm) (by omega) (by omega)
  have HXr := Lib.hid hXr
  have hql : q ≤ 5864062014805 := by omega
  have hz2 : decide (size ≤ 4096) = false := by simp; omega
  have hz1 : decide ((128 : Int) ≤ size) = true := by simp; omega
  obtain ⟨SL, hSL⟩ : ∃ s, s = sizeF l := ⟨_, rfl⟩
  have HSL := Lib.hid hSL
  have HSz := Lib.hid (show sizeF l ≤ 9007199254740992 by omega)
  obtain ⟨p0, p1, p2, p3, p4, p5, pe, HPc, hpe⟩ : ∃ (p0 p1 : Int) (p2 p3 p4 : Nat) (p5 : ByteArray) (pe : Int), (∀ w' : World, Reads w' w'.heap.size 2 X q (fkc Q) → Calls Try.prog 9 #[.int .i64 size, .int .u32 2, .int .u64 0, .slice X q r] w' fun e w'' => e = .returned (.tuple #[.agg #[.int .i64 p0, .int .i64 p1, .int .u32 p2, .int .u32 p3, .int .u64 p4, .string p5], .int .i64 pe]) ∧ Below w'.heap.size w' w'') ∧ pe = (if mayP7 size 2 0 Q = true then 0 else 2) := by
    rcases hy : mayP7 size 2 0 Q with _ | _
    · exact ⟨0, 0, 0, 0, 0, ByteArray.empty, 2, fun w' hr => bpage7_no size 2 0 X q r Q w' hr (by omega) hy, rfl⟩
    · obtain ⟨z, hzz, _, _, _⟩ := good_nat (by simp only [mayP7, Bool.and_eq_true] at hy; exact hy.1 : goodSize size = true)
      refine ⟨3, q, 2, 0, 0, forkBody z Q, 0, fun w' hr => ?_, rfl⟩
      have h := bpage7_yes z 2 0 X q r Q w' hr (by omega) (by rw [← hzz]; exact hy)
      rw [← hzz] at h
      exact h
  clear hpe
  have HQ := Lib.hid hQ
  have hm100 := h60
  have hit : i < t := by omega
  have hmc2 : t ≤ c := by omega
  clear hr hm hl hsz hy hbig hXr hX hQ hi hj hSL hfm0 htm0 hk ht hq hrr
  obtain ⟨hz, hi⟩ := zero_of_info infoPg
  have HI := Lib.hid hi
  clear hi
  have HB := Lib.hid (Below.refl w.heap.size w)
  go_enter Try.func7, Try.ntmps7
  go_wp2_with fail
  refine (lives7_any _).mono ?_
  rintro e w101 ⟨rfl, hb⟩
  replace HB := Lib.hid (HB.out.trans (hb.mono HB.out.size))
  clear hb
  go_wp2_with fail
  refine (light7_any A m c l _ (HR.out.below HB.out) (Nat.le_trans HM.out (by decide))).mono ?_
  rintro e w102 ⟨rfl, rfl⟩
  rw [HLi.out]
  go_wp2_with fail
  refine (HPb _ ((HR.out.below HB.out).more HB.out.size)).mono ?_
  rintro e w103 ⟨rfl, hb⟩
  replace HB := Lib.hid (HB.out.trans (hb.mono HB.out.size))
  clear hb
  clear HPb
  obtain ⟨w104, hw104⟩ : ∃ x, x = w103.alloc (.cells #[.int .i64 b0, .int .i64 b1, .int .u32 b2, .int .u32 b3, .int .u64 b4, .string b5] 26) := ⟨_, rfl⟩
  have saw104 : w103.heap.size = w103.heap.size := by first | rfl | omega
  have ge_B0 := Lib.hid (show w.heap.size ≤ w103.heap.size from saw104 ▸ HB.out.size)
  replace HB := Lib.hid (show Below w.heap.size w w104 by rw [hw104]; exact HB.out.alloc HB.out.size _)
  have B0 := Lib.hid (show Blk w104 w103.heap.size 26 #[.int .i64 b0, .int .i64 b1, .int .u32 b2, .int .u32 b3, .int .u64 b4, .string b5] by rw [hw104, ← saw104]; exact Blk.new _ _ _)
  have szw104 : w104.heap.size = w103.heap.size + 1 := by rw [hw104]; simp
  clear saw104 szw104
  go_wp2_with fail
  rw [← hw104]
  clear hw104
  generalize w103.heap.size = gB0 at *
  clear B0
  refine (HPa _ ((HR.out.below HB.out).more HB.out.size)).mono ?_
  rintro e w105 ⟨rfl, hb⟩
  replace HB := Lib.hid (HB.out.trans (hb.mono HB.out.size))
  clear hb
  clear HPa
  obtain ⟨w106, hw106⟩ : ∃ x, x = w105.alloc (.cells #[.int .i64 a0, .int .i64 a1, .int .u32 a2, .int .u32 a3, .int .u64 a4, .string a5] 26) := ⟨_, rfl⟩
  have saw106 : w105.heap.size = w105.heap.size := by first | rfl | omega
  have ge_A0 := Lib.hid (show w.heap.size ≤ w105.heap.size from saw106 ▸ HB.out.size)
  replace HB := Lib.hid (show Below w.heap.size w w106 by rw [hw106]; exact HB.out.alloc HB.out.size _)
  have A0 := Lib.hid (show Blk w106 w105.heap.size 26 #[.int .i64 a0, .int .i64 a1, .int .u32 a2, .int .u32 a3, .int .u64 a4, .string a5] by rw [hw106, ← saw106]; exact Blk.new _ _ _)
  have szw106 : w106.heap.size = w105.heap.size + 1 := by rw [hw106]; simp
  clear saw106 szw106
  go_wp2_with fail
  rw [← hw106]
  clear hw106
  generalize w105.heap.size = gA0 at *
  clear A0
  refine (HP1 _).mono ?_
  rintro e w107 ⟨rfl, rfl⟩
  clear HP1
  go_wp2_with fail
  refine (HP2 _).mono ?_
  rintro e w108 ⟨rfl, rfl⟩
  clear HP2
  go_wp2_with fail
  refine (HPc _ (HXr.out _ ((HR.out.below HB.out).more HB.out.size))).mono ?_
  rintro e w109 ⟨rfl, hb⟩
  replace HB := Lib.hid (HB.out.trans (hb.mono HB.out.size))
  clear hb
  clear HPc
  obtain ⟨w110, hw110⟩ : ∃ x, x = w109.alloc (.cells #[.int .i64 p0, .int .i64 p1, .int .u32 p2, .int .u32 p3, .int .u64 p4, .string p5] 26) := ⟨_, rfl⟩
  have saw110 : w109.heap.size = w109.heap.size := by first | rfl | omega
  have ge_C0 := Lib.hid (show w.heap.size ≤ w109.heap.size from saw110 ▸ HB.out.size)
  replace HB := Lib.hid (show Below w.heap.size w w110 by rw [hw110]; exact HB.out.alloc HB.out.size _)
  have C0 := Lib.hid (show Blk w110 w109.heap.size 26 #[.int .i64 p0, .int .i64 p1, .int .u32 p2, .int .u32 p3, .int .u64 p4, .string p5] by rw [hw110, ← saw110]; exact Blk.new _ _ _)
  have szw110 : w110.heap.size = w109.heap.size + 1 := by rw [hw110]; simp
  clear saw110 szw110
  go_wp2_with fail
  rw [← hw110]
  clear hw110
  generalize w109.heap.size = gC0 at *
  go_ret
  exact ⟨rfl, HB.out⟩
set_option maxRecDepth 100000 in
set_option maxHeartbeats 12800000 in
theorem brfits_h00 (size : Int) (A : Option Addr) (m c : Nat) (l : List Fk) (fr tu : Int) (w : World) (hr : Reads w w.heap.size 2 A m (fkc l)) (hm : m ≤ 5864062014805) (hmc : m ≤ c) (hl : lightF l = true) (h0 : 0 < m) (h60 : m ≤ 100) (hsz : sizeF l ≤ 8000000000000000) (h2 : ¬ size ≤ 4096) (hy : mayP7 size 2 0 l = false) (hbig : mayP7 4096 2 0 l = false)  :
    Calls Try.prog 7 #[.int .i64 size, .slice A m c, .int .i64 fr, .int .i64 tu] w fun e w' => e = .returned (.bool true) ∧ Below w.heap.size w w' := by
  have HR := Lib.hid hr
  have HM := Lib.hid hm
  have HLi := Lib.hid hl
  have HLn := Lib.hid (fk_len hr)
  obtain ⟨b0, b1, b2, b3, b4, b5, be, HPb, hbe⟩ : ∃ (b0 b1 : Int) (b2 b3 b4 : Nat) (b5 : ByteArray) (be : Int), (∀ w' : World, Reads w' w'.heap.size 2 A m (fkc l) → Calls Try.prog 9 #[.int .i64 4096, .int .u32 2, .int .u64 0, .slice A m c] w' fun e w'' => e = .returned (.tuple #[.agg #[.int .i64 b0, .int .i64 b1, .int .u32 b2, .int .u32 b3, .int .u64 b4, .string b5], .int .i64 be]) ∧ Below w'.heap.size w' w'') ∧ be = (if mayP7 4096 2 0 l = true then 0 else 2) := by
    rcases hy : mayP7 4096 2 0 l with _ | _
    · exact ⟨0, 0, 0, 0, 0, ByteArray.empty, 2, fun w' hr => bpage7_no 4096 2 0 A m c l w' hr (by omega) hy, rfl⟩
    · obtain ⟨z, hzz, _, _, _⟩ := good_nat (by simp only [mayP7, Bool.and_eq_true] at hy; exact hy.1 : goodSize 4096 = true)
      refine ⟨3, m, 2, 0, 0, forkBody z l, 0, fun w' hr => ?_, rfl⟩
      have h := bpage7_yes z 2 0 A m c l w' hr (by omega) (by rw [← hzz]; exact hy)
      rw [← hzz] at h
      exact h
  rw [hbig] at hbe
  simp only [if_pos, Bool.false_eq_true, if_false, if_true, ↓reduceIte] at hbe
  subst hbe
  obtain ⟨a0, a1, a2, a3, a4, a5, ae, HPa, hae⟩ : ∃ (a0 a1 : Int) (a2 a3 a4 : Nat) (a5 : ByteArray) (ae : Int), (∀ w' : World, Reads w' w'.heap.size 2 A m (fkc l) → Calls Try.prog 9 #[.int .i64 size, .int .u32 2, .int .u64 0, .slice A m c] w' fun e w'' => e = .returned (.tuple #[.agg #[.int .i64 a0, .int .i64 a1, .int .u32 a2, .int .u32 a3, .int .u64 a4, .string a5], .int .i64 ae]) ∧ Below w'.heap.size w' w'') ∧ ae = (if mayP7 size 2 0 l = true then 0 else 2) := by
    rcases hy : mayP7 size 2 0 l with _ | _
    · exact ⟨0, 0, 0, 0, 0, ByteArray.empty, 2, fun w' hr => bpage7_no size 2 0 A m c l w' hr (by omega) hy, rfl⟩
    · obtain ⟨z, hzz, _, _, _⟩ := good_nat (by simp only [mayP7, Bool.and_eq_true] at hy; exact hy.1 : goodSize size = true)
      refine ⟨3, m, 2, 0, 0, forkBody z l, 0, fun w' hr => ?_, rfl⟩
      have h := bpage7_yes z 2 0 A m c l w' hr (by omega) (by rw [← hzz]; exact hy)
      rw [← hzz] at h
      exact h
  rw [hy] at hae
  simp only [if_pos, Bool.false_eq_true, if_false, if_true, ↓reduceIte] at hae
  subst hae
  have hml : (m == 0) = false := by simp; omega
  have hml2 : ((m : Int) == 0) = false := by simp; omega
  have hfm0 : (0 : Int) ≤ fr % m := Int.emod_nonneg _ (by omega)
  have hfm1 : fr % (m : Int) < m := Int.emod_lt_of_pos _ (by omega)
  obtain ⟨i, hi⟩ := Int.eq_ofNat_of_zero_le hfm0
  rw [hi] at hfm1
  have him : i < m := by omega
  obtain ⟨k, hk⟩ : ∃ k, k = m - i := ⟨_, rfl⟩
  have hk0 : 1 ≤ k := by omega
  have htm0 : (0 : Int) ≤ tu % k := Int.emod_nonneg _ (by omega)
  have htm1 : tu % (k : Int) < k := Int.emod_lt_of_pos _ (by omega)
  obtain ⟨j, hj⟩ := Int.eq_ofNat_of_zero_le htm0
  rw [hj] at htm1
  obtain ⟨t, ht⟩ : ∃ t, t = i + 1 + j := ⟨_, rfl⟩
  have htm : t ≤ m := by omega
  have hki : (m : Int) - i = (k : Int) := by omega
  have hti : (i : Int) + 1 + (j : Int) = (t : Int) := by omega
  have HP1 := fun w => pick_any fr m w (by omega) (by omega)
  have HP2 := fun w => pick_any tu k w (by omega) (by omega)
  rw [hi] at HP1
  rw [hj] at HP2
  obtain ⟨X, q, r, hX, hq, hrr, hsl⟩ := slice7_mid A m c i t (by omega) (by omega)
  obtain ⟨Q, hQ⟩ : ∃ Q, Q = (l.take t).drop i := ⟨_, rfl⟩
  have hXr : ∀ w : World, Reads w w.heap.size 2 A m (fkc l) → Reads w w.heap.size 2 X q (fkc Q) := fun w h => by
    rw [hX, hq, hQ]
    exact fk_drop (fk_take h htm) (by omega) (by omega)
  have HXr := Lib.hid hXr
  have hql : q ≤ 5864062014805 := by omega
  have hz2 : decide (size ≤ 4096) = false := by simp; omega
  have hz1 : decide ((128 : Int) ≤ size) = true := by simp; omega
  obtain ⟨SL, hSL⟩ : ∃ s, s = sizeF l := ⟨_, rfl⟩
  have HSL := Lib.hid hSL
  have HSz := Lib.hid (show sizeF l ≤ 9007199254740992 by omega)
  obtain ⟨p0, p1, p2, p3, p4, p5, pe, HPc, hpe⟩ : ∃ (p0 p1 : Int) (p2 p3 p4 : Nat) (p5 : ByteArray) (pe : Int), (∀ w' : World, Reads w' w'.heap.size 2 X q (fkc Q) → Calls Try.prog 9 #[.int .i64 size, .int .u32 2, .int .u64 0, .slice X q r] w' fun e w'' => e = .returned (.tuple #[.agg #[.int .i64 p0, .int .i64 p1, .int .u32 p2, .int .u32 p3, .int .u64 p4, .string p5], .int .i64 pe]) ∧ Below w'.heap.size w' w'') ∧ pe = (if mayP7 size 2 0 Q = true then 0 else 2) := by
    rcases hy : mayP7 size 2 0 Q with _ | _
    · exact ⟨0, 0, 0, 0, 0, ByteArray.empty, 2, fun w' hr => bpage7_no size 2 0 X q r Q w' hr (by omega) hy, rfl⟩
    · obtain ⟨z, hzz, _, _, _⟩ := good_nat (by simp only [mayP7, Bool.and_eq_true] at hy; exact hy.1 : goodSize size = true)
      refine ⟨3, q, 2, 0, 0, forkBody z Q, 0, fun w' hr => ?_, rfl⟩
      have h := bpage7_yes z 2 0 X q r Q w' hr (by omega) (by rw [← hzz]; exact hy)
      rw [← hzz] at h
      exact h
  clear hpe
  have HQ := Lib.hid hQ
  have hm100 := h60
  have hit : i < t := by omega
  have hmc2 : t ≤ c := by omega
  clear hr hm hl hsz hy hbig hXr hX hQ hi hj hSL hfm0 htm0 hk ht hq hrr
  obtain ⟨hz, hi⟩ := zero_of_info infoPg
  have HI := Lib.hid hi
  clear hi
  have HB := Lib.hid (Below.refl w.heap.size w)
  go_enter Try.func7, Try.ntmps7
  go_wp2_with fail
  refine (lives7_any _).mono ?_
  rintro e w101 ⟨rfl, hb⟩
  replace HB := Lib.hid (HB.out.trans (hb.mono HB.out.size))
  clear hb
  go_wp2_with fail
  refine (light7_any A m c l _ (HR.out.below HB.out) (Nat.le_trans HM.out (by decide))).mono ?_
  rintro e w102 ⟨rfl, rfl⟩
  rw [HLi.out]
  go_wp2_with fail
  refine (HPb _ ((HR.out.below HB.out).more HB.out.size)).mono ?_
  rintro e w103 ⟨rfl, hb⟩
  replace HB := Lib.hid (HB.out.trans (hb.mono HB.out.size))
  clear hb
  clear HPb
  obtain ⟨w104, hw104⟩ : ∃ x, x = w103.alloc (.cells #[.int .i64 b0, .int .i64 b1, .int .u32 b2, .int .u32 b3, .int .u64 b4, .string b5] 26) := ⟨_, rfl⟩
  have saw104 : w103.heap.size = w103.heap.size := by first | rfl | omega
  have ge_B0 := Lib.hid (show w.heap.size ≤ w103.heap.size from saw104 ▸ HB.out.size)
  replace HB := Lib.hid (show Below w.heap.size w w104 by rw [hw104]; exact HB.out.alloc HB.out.size _)
  have B0 := Lib.hid (show Blk w104 w103.heap.size 26 #[.int .i64 b0, .int .i64 b1, .int .u32 b2, .int .u32 b3, .int .u64 b4, .string b5] by rw [hw104, ← saw104]; exact Blk.new _ _ _)
  have szw104 : w104.heap.size = w103.heap.size + 1 := by rw [hw104]; simp
  clear saw104 szw104
  go_wp2_with fail
  rw [← hw104]
  clear hw104
  generalize w103.heap.size = gB0 at *
  clear B0
  refine (HPa _ ((HR.out.below HB.out).more HB.out.size)).mono ?_
  rintro e w105 ⟨rfl, hb⟩
  replace HB := Lib.hid (HB.out.trans (hb.mono HB.out.size))
  clear hb
  clear HPa
  obtain ⟨w106, hw106⟩ : ∃ x, x = w105.alloc (.cells #[.int .i64 a0, .int .i64 a1, .int .u32 a2, .int .u32 a3, .int .u64 a4, .string a5] 26) := ⟨_, rfl⟩
  have saw106 : w105.heap.size = w105.heap.size := by first | rfl | omega
  have ge_A0 := Lib.hid (show w.heap.size ≤ w105.heap.size from saw106 ▸ HB.out.size)
  replace HB := Lib.hid (show Below w.heap.size w w106 by rw [hw106]; exact HB.out.alloc HB.out.size _)
  have A0 := Lib.hid (show Blk w106 w105.heap.size 26 #[.int .i64 a0, .int .i64 a1, .int .u32 a2, .int .u32 a3, .int .u64 a4, .string a5] by rw [hw106, ← saw106]; exact Blk.new _ _ _)
  have szw106 : w106.heap.size = w105.heap.size + 1 := by rw [hw106]; simp
  clear saw106 szw106
  go_wp2_with fail
  rw [← hw106]
  clear hw106
  generalize w105.heap.size = gA0 at *
  clear A0
  refine (HP1 _).mono ?_
  rintro e w107 ⟨rfl, rfl⟩
  clear HP1
  go_wp2_with fail
  refine (HP2 _).mono ?_
  rintro e w108 ⟨rfl, rfl⟩
  clear HP2
  go_wp2_with fail
  refine (HPc _ (HXr.out _ ((HR.out.below HB.out).more HB.out.size))).mono ?_
  rintro e w109 ⟨rfl, hb⟩
  replace HB := Lib.hid (HB.out.trans (hb.mono HB.out.size))
  clear hb
  clear HPc
  obtain ⟨w110, hw110⟩ : ∃ x, x = w109.alloc (.cells #[.int .i64 p0, .int .i64 p1, .int .u32 p2, .int .u32 p3, .int .u64 p4, .string p5] 26) := ⟨_, rfl⟩
  have saw110 : w109.heap.size = w109.heap.size := by first | rfl | omega
  have ge_C0 := Lib.hid (show w.heap.size ≤ w109.heap.size from saw110 ▸ HB.out.size)
  replace HB := Lib.hid (show Below w.heap.size w w110 by rw [hw110]; exact HB.out.alloc HB.out.size _)
  have C0 := Lib.hid (show Blk w110 w109.heap.size 26 #[.int .i64 p0, .int .i64 p1, .int .u32 p2, .int .u32 p3, .int .u64 p4, .string p5] by rw [hw110, ← saw110]; exact Blk.new _ _ _)
  have szw110 : w110.heap.size = w109.heap.size + 1 := by rw [hw110]; simp
  clear saw110 szw110
  go_wp2_with fail
  rw [← hw110]
  clear hw110
  generalize w109.heap.size = gC0 at *
  go_ret
  exact ⟨rfl, HB.out⟩
theorem big_of {size : Int} {l : List Fk} (h : mayP7 size 2 0 l = true) : mayP7 4096 2 0 l = true := by
  obtain ⟨z, rfl, h1, h2, h3⟩ := good_nat (by simp only [mayP7, Bool.and_eq_true] at h; exact h.1 : goodSize size = true)
  simp only [mayP7, Bool.and_eq_true, decide_eq_true_eq] at h ⊢
  exact ⟨by decide, h.2.1, by omega, h.2.2.2⟩
theorem fit_of {z : Nat} {l : List Fk} (h1 : 128 ≤ z) (h2 : z ≤ 4096) (h3 : z % 64 = 0) (hbig : mayP7 4096 2 0 l = true) : mayP7 z 2 0 l = decide (sizeF l ≤ z - 24) := by
  have hg : goodSize (z : Int) = true := by simp [goodSize]; omega
  simp only [mayP7, Bool.and_eq_true] at hbig
  have h5 : decide ((sizeF l : Int) ≤ (z : Int) - 24) = decide (sizeF l ≤ z - 24) := by
    rw [Bool.eq_iff_iff]; simp; omega
  simp only [mayP7]
  rw [hg, hbig.2.1, h5, hbig.2.2.2.1, hbig.2.2.2.2]
  simp
theorem brfits_walk (size : Int) (A : Option Addr) (m c : Nat) (l : List Fk) (fr tu : Int) (w : World) (_h0 : (Lit.int .i64 size).wf = true) (hl : Fks w w.heap.size A m c l) (_h2 : (Lit.int .i64 fr).wf = true) (_h3 : (Lit.int .i64 tu).wf = true) :
    Calls Try.prog 7 #[.int .i64 size, .slice A m c, .int .i64 fr, .int .i64 tu] w fun e w' => e = .returned (.bool true) ∧ Below w.heap.size w w' := by
  obtain ⟨hr, hmc, hcm, hm, hok⟩ := hl
  rcases hli : lightF l with _ | _
  · exact brfits_no size A m c l fr tu w hr hm hmc hli
  by_cases h0 : m = 0
  · exact brfits_nil size A m c l fr tu w hr hm hmc hli h0
  obtain ⟨h60, hsz⟩ := light7_size hli fun b hb => (hok b hb).2
  rw [fk_len hr] at h60
  have h0' : 0 < m := by omega
  have hbad : goodSize size = false → mayP7 size 2 0 l = false := fun h => by rw [mayP7, h]; rfl
  by_cases h1 : 128 ≤ size
  · by_cases h2 : size ≤ 4096
    · obtain ⟨z, rfl⟩ := Int.eq_ofNat_of_zero_le (show 0 ≤ size by omega)
      have h1' : 128 ≤ z := by omega
      have h2' : z ≤ 4096 := by omega
      by_cases h3 : z % 64 = 0
      · rcases hbig : mayP7 4096 2 0 l with _ | _
        · have hy : mayP7 z 2 0 l = false := by
            rw [Bool.eq_false_iff]; intro h; rw [big_of h] at hbig; cases hbig
          exact brfits_g00 z A m c l fr tu w hr hm hmc hli h0' h60 hsz h1' h2' h3 hy hbig
        · have hf := fit_of h1' h2' h3 hbig
          by_cases hfit : sizeF l ≤ z - 24
          · exact brfits_g11 z A m c l fr tu w hr hm hmc hli h0' h60 hsz h1' h2' h3 (by rw [hf]; simpa using hfit) hbig hfit
          · exact brfits_g10 z A m c l fr tu w hr hm hmc hli h0' h60 hsz h1' h2' h3 (by rw [hf]; simpa using hfit) hbig hfit
      · have hy := hbad (by simp [goodSize]; omega)
        rcases hbig : mayP7 4096 2 0 l with _ | _
        · exact brfits_r00 z A m c l fr tu w hr hm hmc hli h0' h60 hsz h1' h2' h3 hy hbig
        · exact brfits_r10 z A m c l fr tu w hr hm hmc hli h0' h60 hsz h1' h2' h3 hy hbig
    · have hy := hbad (by simp [goodSize]; omega)
      rcases hbig : mayP7 4096 2 0 l with _ | _
      · exact brfits_h00 size A m c l fr tu w hr hm hmc hli h0' h60 hsz h2 hy hbig
      · exact brfits_h10 size A m c l fr tu w hr hm hmc hli h0' h60 hsz h2 hy hbig
  · have hy := hbad (by simp [goodSize]; omega)
    rcases hbig : mayP7 4096 2 0 l with _ | _
    · exact brfits_l00 size A m c l fr tu w hr hm hmc hli h0' h60 hsz h1 hy hbig
    · exact brfits_l10 size A m c l fr tu w hr hm hmc hli h0' h60 hsz h1 hy hbig
end Go.Proofs.Ytddnfmdplkmmdaa
