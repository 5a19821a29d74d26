/-
  The walk of the statement LeafFinds: from every start, at every argument, it returns true and changes no block that was there before.
-/
import Derived.Test.YtinojpcjbjjlbaaJ45
import Derived.Test.YtinojpcjbjjlbaaJ46
import Derived.Test.YtinojpcjbjjlbaaJ26
import Derived.Deep.CutRange
namespace Go.Proofs.Ytinojpcjbjjlbaa
open Go.RowKit
open Go.Lib hiding intOf
set_option linter.unusedVariables false
set_option linter.unusedSimpArgs false
attribute [local go_sem ↓] Go.wp_at_zero Go.wp_at_succ

theorem any_take_succ {l : List It} {k : Nat} {y : It} (p : It → Bool) (h : l[k]? = some y) : (l.take (k + 1)).any p = ((l.take k).any p || p y) := by
  obtain ⟨hk, rfl⟩ := List.getElem?_eq_some_iff.1 h
  rw [List.take_succ_eq_append_getElem hk, List.any_append]
  simp

set_option maxRecDepth 100000 in
set_option maxHeartbeats 12800000 in
theorem lffinds_no (size : Int) (A : Option Addr) (m c : Nat) (l : List It) (a : ByteArray) (w : World) (hr : Reads w w.heap.size 5 A m (itc l)) (hm : m ≤ 2513169434916) (hnr : NearI l) (hl : lightI l = false) :
    Calls Try.prog 6 #[.int .i64 size, .slice A m c, .string a] w fun e w' => e = .returned (.bool true) ∧ Below w.heap.size w w' := by
  have HR := Lib.hid hr
  have HM := Lib.hid hm
  have HNr := Lib.hid hnr
  have HLi := Lib.hid hl
  obtain ⟨a0, a1, a2, a3, a4, a5, ea, HA, hea⟩ : ∃ (a0 a1 : Int) (a2 a3 a4 : Nat) (a5 : ByteArray) (ea : Int), (∀ w' : World, Below w.heap.size w w' → Calls Try.prog 9 #[.int .i64 size, .int .u32 2, .int .u64 0, .slice A m c] w' fun e w'' => e = .returned (.tuple #[.agg #[.int .i64 a0, .int .i64 a1, .int .u32 a2, .int .u32 a3, .int .u64 a4, .string a5], .int .i64 ea]) ∧ Below w'.heap.size w' w'') ∧ ea = (if mayP8 size 2 0 l = true then 0 else 2) := by
    rcases hy : mayP8 size 2 0 l with _ | _
    · exact ⟨0, 0, 0, 0, 0, ByteArray.empty, 2, fun w' hb => lpage8_no size 2 0 A m c l w' ((hr.below hb).more hb.size) hm hnr hy, rfl⟩
    · obtain ⟨z, rfl, _, _, _⟩ := good_nat (by simp only [mayP8, Bool.and_eq_true] at hy; exact hy.1 : goodSize size = true)
      exact ⟨_, _, _, _, _, _, _, fun w' hb => lpage8_yes z 2 0 A m c l w' ((hr.below hb).more hb.size) hm hy, rfl⟩
  clear hea
  clear hr hm hl hnr
  obtain ⟨hz, hi⟩ := zero_of_info infoPg
  have HI := Lib.hid hi
  clear hi
  have HB := Lib.hid (Below.refl w.heap.size w)
  go_enter Try.func6, Try.ntmps6
  go_wp2_with fail
  refine (lives8_any _).mono ?_
  rintro e w101 ⟨rfl, hb⟩
  replace HB := Lib.hid (HB.out.trans (hb.mono HB.out.size))
  clear hb
  go_wp2_with fail
  refine (HA _ HB.out).mono ?_
  rintro e w102 ⟨rfl, hb⟩
  replace HB := Lib.hid (HB.out.trans (hb.mono HB.out.size))
  clear hb
  clear HA
  obtain ⟨w103, hw103⟩ : ∃ x, x = w102.alloc (.cells #[.int .i64 a0, .int .i64 a1, .int .u32 a2, .int .u32 a3, .int .u64 a4, .string a5] 26) := ⟨_, rfl⟩
  have saw103 : w102.heap.size = w102.heap.size := by first | rfl | omega
  have ge_X0 := Lib.hid (show w.heap.size ≤ w102.heap.size from saw103 ▸ HB.out.size)
  replace HB := Lib.hid (show Below w.heap.size w w103 by rw [hw103]; exact HB.out.alloc HB.out.size _)
  have X0 := Lib.hid (show Blk w103 w102.heap.size 26 #[.int .i64 a0, .int .i64 a1, .int .u32 a2, .int .u32 a3, .int .u64 a4, .string a5] by rw [hw103, ← saw103]; exact Blk.new _ _ _)
  have szw103 : w103.heap.size = w102.heap.size + 1 := by rw [hw103]; simp
  clear saw103 szw103
  go_wp2_with fail
  rw [← hw103]
  clear hw103
  generalize w102.heap.size = gX0 at *
  clear X0
  refine (light8_bel A m c l _ (HR.out.below HB.out) (Nat.le_trans HM.out (by decide)) HNr.out).mono ?_
  rintro e w104 ⟨rfl, hb⟩
  replace HB := Lib.hid (HB.out.trans (hb.mono HB.out.size))
  clear hb
  rw [HLi.out]
  go_wp2_with fail
  go_ret
  exact ⟨rfl, HB.out⟩
set_option maxRecDepth 100000 in
set_option maxHeartbeats 12800000 in
theorem lffinds_bad (size : Int) (A : Option Addr) (m c : Nat) (l : List It) (a : ByteArray) (w : World) (hr : Reads w w.heap.size 5 A m (itc l)) (hm : m ≤ 2513169434916) (hnr : NearI l) (hl : lightI l = true) (hy : mayP8 size 2 0 l = false) :
    Calls Try.prog 6 #[.int .i64 size, .slice A m c, .string a] w fun e w' => e = .returned (.bool true) ∧ Below w.heap.size w w' := by
  have HR := Lib.hid hr
  have HM := Lib.hid hm
  have HNr := Lib.hid hnr
  have HLi := Lib.hid hl
  obtain ⟨a0, a1, a2, a3, a4, a5, ea, HA, hea⟩ : ∃ (a0 a1 : Int) (a2 a3 a4 : Nat) (a5 : ByteArray) (ea : Int), (∀ w' : World, Below w.heap.size w w' → Calls Try.prog 9 #[.int .i64 size, .int .u32 2, .int .u64 0, .slice A m c] w' fun e w'' => e = .returned (.tuple #[.agg #[.int .i64 a0, .int .i64 a1, .int .u32 a2, .int .u32 a3, .int .u64 a4, .string a5], .int .i64 ea]) ∧ Below w'.heap.size w' w'') ∧ ea = (if mayP8 size 2 0 l = true then 0 else 2) := by
    rcases hy : mayP8 size 2 0 l with _ | _
    · exact ⟨0, 0, 0, 0, 0, ByteArray.empty, 2, fun w' hb => lpage8_no size 2 0 A m c l w' ((hr.below hb).more hb.size) hm hnr hy, rfl⟩
    · obtain ⟨z, rfl, _, _, _⟩ := good_nat (by simp only [mayP8, Bool.and_eq_true] at hy; exact hy.1 : goodSize size = true)
      exact ⟨_, _, _, _, _, _, _, fun w' hb => lpage8_yes z 2 0 A m c l w' ((hr.below hb).more hb.size) hm hy, rfl⟩
  rw [hy] at hea
  subst hea
  clear hr hm hl hnr hy
  simp only [if_pos, if_neg, Bool.false_eq_true, if_false, if_true, ↓reduceIte] at HA
  obtain ⟨hz, hi⟩ := zero_of_info infoPg
  have HI := Lib.hid hi
  clear hi
  have HB := Lib.hid (Below.refl w.heap.size w)
  go_enter Try.func6, Try.ntmps6
  go_wp2_with fail
  refine (lives8_any _).mono ?_
  rintro e w101 ⟨rfl, hb⟩
  replace HB := Lib.hid (HB.out.trans (hb.mono HB.out.size))
  clear hb
  go_wp2_with fail
  refine (HA _ HB.out).mono ?_
  rintro e w102 ⟨rfl, hb⟩
  replace HB := Lib.hid (HB.out.trans (hb.mono HB.out.size))
  clear hb
  clear HA
  obtain ⟨w103, hw103⟩ : ∃ x, x = w102.alloc (.cells #[.int .i64 a0, .int .i64 a1, .int .u32 a2, .int .u32 a3, .int .u64 a4, .string a5] 26) := ⟨_, rfl⟩
  have saw103 : w102.heap.size = w102.heap.size := by first | rfl | omega
  have ge_X0 := Lib.hid (show w.heap.size ≤ w102.heap.size from saw103 ▸ HB.out.size)
  replace HB := Lib.hid (show Below w.heap.size w w103 by rw [hw103]; exact HB.out.alloc HB.out.size _)
  have X0 := Lib.hid (show Blk w103 w102.heap.size 26 #[.int .i64 a0, .int .i64 a1, .int .u32 a2, .int .u32 a3, .int .u64 a4, .string a5] by rw [hw103, ← saw103]; exact Blk.new _ _ _)
  have szw103 : w103.heap.size = w102.heap.size + 1 := by rw [hw103]; simp
  clear saw103 szw103
  go_wp2_with fail
  rw [← hw103]
  clear hw103
  generalize w102.heap.size = gX0 at *
  clear X0
  refine (light8_bel A m c l _ (HR.out.below HB.out) (Nat.le_trans HM.out (by decide)) HNr.out).mono ?_
  rintro e w104 ⟨rfl, hb⟩
  replace HB := Lib.hid (HB.out.trans (hb.mono HB.out.size))
  clear hb
  rw [HLi.out]
  go_wp2_with fail
  go_ret
  exact ⟨rfl, HB.out⟩
set_option maxRecDepth 100000 in
set_option maxHeartbeats 12800000 in
theorem lffinds_a (size : Int) (A : Option Addr) (m c : Nat) (l : List It) (a : ByteArray) (w : World) (hr : Reads w w.heap.size 5 A m (itc l)) (hm : m ≤ 2513169434916) (hnr : NearI l) (hl : lightI l = true) (hy : mayP8 size 2 0 l = true) (ha : 200 < a.size) :
    Calls Try.prog 6 #[.int .i64 size, .slice A m c, .string a] w fun e w' => e = .returned (.bool true) ∧ Below w.heap.size w w' := by
  have HR := Lib.hid hr
  have HM := Lib.hid hm
  have HNr := Lib.hid hnr
  have HLi := Lib.hid hl
  obtain ⟨a0, a1, a2, a3, a4, a5, ea, HA, hea⟩ : ∃ (a0 a1 : Int) (a2 a3 a4 : Nat) (a5 : ByteArray) (ea : Int), (∀ w' : World, Below w.heap.size w w' → Calls Try.prog 9 #[.int .i64 size, .int .u32 2, .int .u64 0, .slice A m c] w' fun e w'' => e = .returned (.tuple #[.agg #[.int .i64 a0, .int .i64 a1, .int .u32 a2, .int .u32 a3, .int .u64 a4, .string a5], .int .i64 ea]) ∧ Below w'.heap.size w' w'') ∧ ea = (if mayP8 size 2 0 l = true then 0 else 2) := by
    rcases hy : mayP8 size 2 0 l with _ | _
    · exact ⟨0, 0, 0, 0, 0, ByteArray.empty, 2, fun w' hb => lpage8_no size 2 0 A m c l w' ((hr.below hb).more hb.size) hm hnr hy, rfl⟩
    · obtain ⟨z, rfl, _, _, _⟩ := good_nat (by simp only [mayP8, Bool.and_eq_true] at hy; exact hy.1 : goodSize size = true)
      exact ⟨_, _, _, _, _, _, _, fun w' hb => lpage8_yes z 2 0 A m c l w' ((hr.below hb).more hb.size) hm hy, rfl⟩
  rw [hy] at hea
  subst hea
  have hda : decide ((200 : Int) < a.size) = true := by simp; omega
  have hea : decide (200 < a.size) = true := by simp; omega
  clear hr hm hl hnr hy ha
  simp only [if_pos, if_neg, Bool.false_eq_true, if_false, if_true, ↓reduceIte] at HA
  obtain ⟨hz, hi⟩ := zero_of_info infoPg
  have HI := Lib.hid hi
  clear hi
  have HB := Lib.hid (Below.refl w.heap.size w)
  go_enter Try.func6, Try.ntmps6
  go_wp2_with fail
  refine (lives8_any _).mono ?_
  rintro e w101 ⟨rfl, hb⟩
  replace HB := Lib.hid (HB.out.trans (hb.mono HB.out.size))
  clear hb
  go_wp2_with fail
  refine (HA _ HB.out).mono ?_
  rintro e w102 ⟨rfl, hb⟩
  replace HB := Lib.hid (HB.out.trans (hb.mono HB.out.size))
  clear hb
  clear HA
  obtain ⟨w103, hw103⟩ : ∃ x, x = w102.alloc (.cells #[.int .i64 a0, .int .i64 a1, .int .u32 a2, .int .u32 a3, .int .u64 a4, .string a5] 26) := ⟨_, rfl⟩
  have saw103 : w102.heap.size = w102.heap.size := by first | rfl | omega
  have ge_X0 := Lib.hid (show w.heap.size ≤ w102.heap.size from saw103 ▸ HB.out.size)
  replace HB := Lib.hid (show Below w.heap.size w w103 by rw [hw103]; exact HB.out.alloc HB.out.size _)
  have X0 := Lib.hid (show Blk w103 w102.heap.size 26 #[.int .i64 a0, .int .i64 a1, .int .u32 a2, .int .u32 a3, .int .u64 a4, .string a5] by rw [hw103, ← saw103]; exact Blk.new _ _ _)
  have szw103 : w103.heap.size = w102.heap.size + 1 := by rw [hw103]; simp
  clear saw103 szw103
  go_wp2_with fail
  rw [← hw103]
  clear hw103
  generalize w102.heap.size = gX0 at *
  clear X0
  refine (light8_bel A m c l _ (HR.out.below HB.out) (Nat.le_trans HM.out (by decide)) HNr.out).mono ?_
  rintro e w104 ⟨rfl, hb⟩
  replace HB := Lib.hid (HB.out.trans (hb.mono HB.out.size))
  clear hb
  rw [HLi.out]
  go_wp2_with fail
  go_ret
  exact ⟨rfl, HB.out⟩
set_option maxRecDepth 100000 in
set_option maxHeartbeats 12800000 in
theorem lffinds_main (size : Int) (A : Option Addr) (m c : Nat) (l : List It) (a : ByteArray) (w : World) (hr : Reads w w.heap.size 5 A m (itc l)) (hm : m ≤ 2513169434916) (hnr : NearI l) (hl : lightI l = true) (hy : mayP8 size 2 0 l = true) (ha : ¬ 200 < a.size) (h60 : m ≤ 100) :
    Calls Try.prog 6 #[.int .i64 size, .slice A m c, .string a] w fun e w' => e = .returned (.bool true) ∧ Below w.heap.size w w' := by
  have HR := Lib.hid hr
  have HM := Lib.hid hm
  have HNr := Lib.hid hnr
  have HLi := Lib.hid hl
  have H60 := Lib.hid h60
  have HL := Lib.hid (it_len hr)
  obtain ⟨a0, a1, a2, a3, a4, a5, ea, HA, hea⟩ : ∃ (a0 a1 : Int) (a2 a3 a4 : Nat) (a5 : ByteArray) (ea : Int), (∀ w' : World, Below w.heap.size w w' → Calls Try.prog 9 #[.int .i64 size, .int .u32 2, .int .u64 0, .slice A m c] w' fun e w'' => e = .returned (.tuple #[.agg #[.int .i64 a0, .int .i64 a1, .int .u32 a2, .int .u32 a3, .int .u64 a4, .string a5], .int .i64 ea]) ∧ Below w'.heap.size w' w'') ∧ ea = (if mayP8 size 2 0 l = true then 0 else 2) := by
    rcases hy : mayP8 size 2 0 l with _ | _
    · exact ⟨0, 0, 0, 0, 0, ByteArray.empty, 2, fun w' hb => lpage8_no size 2 0 A m c l w' ((hr.below hb).more hb.size) hm hnr hy, rfl⟩
    · obtain ⟨z, rfl, _, _, _⟩ := good_nat (by simp only [mayP8, Bool.and_eq_true] at hy; exact hy.1 : goodSize size = true)
      exact ⟨_, _, _, _, _, _, _, fun w' hb => lpage8_yes z 2 0 A m c l w' ((hr.below hb).more hb.size) hm hy, rfl⟩
  rw [hy] at hea
  subst hea
  have hda : decide ((200 : Int) < a.size) = false := by simp; omega
  have hea : decide (200 < a.size) = false := by simp; omega
  have hall : allOkI l = true := by
    simp only [mayP8, mayI, Bool.and_eq_true, decide_eq_true_eq] at hy
    exact hy.2.1.1
  have hasc := allOkI_asc hall
  obtain ⟨fi, hfi⟩ : ∃ f, f = findN l a := ⟨_, rfl⟩
  obtain ⟨fb, hfb⟩ : ∃ f, f = findB l a := ⟨_, rfl⟩
  have hfl : fi ≤ m := by rw [hfi, ← it_len hr]; exact findN_le l a
  have HAs := Lib.hid hasc
  have HFI := Lib.hid hfi
  have HFB := Lib.hid hfb
  have HAny := Lib.hid (show (l.any fun b => b.ky.toList == a.toList) = fb by rw [hfb, findB_iff hasc])
  have HLo := Lib.hid (show ∀ k x, k < fi → l[k]? = some x → Op.bytesLess x.ky.toList a.toList = true from fun k x h0 hx => by rw [hfi] at h0; exact findN_lo h0 hx)
  have HHi := Lib.hid (show ∀ k x, fi ≤ k → l[k]? = some x → Op.bytesLess x.ky.toList a.toList = false from fun k x h0 hx => by rw [hfi] at h0; exact findN_hi hasc h0 hx)
  clear hr hm hl hy ha h60 hall hasc hfi hfb hnr
  simp only [if_pos, if_true, ↓reduceIte] at HA
  obtain ⟨hz, hi⟩ := zero_of_info infoPg
  have HI := Lib.hid hi
  clear hi
  have HB := Lib.hid (Below.refl w.heap.size w)
  go_enter Try.func6, Try.ntmps6
  go_wp2_with fail
  refine (lives8_any _).mono ?_
  rintro e w101 ⟨rfl, hb⟩
  replace HB := Lib.hid (HB.out.trans (hb.mono HB.out.size))
  clear hb
  go_wp2_with fail
  refine (HA _ HB.out).mono ?_
  rintro e w102 ⟨rfl, hb⟩
  replace HB := Lib.hid (HB.out.trans (hb.mono HB.out.size))
  clear hb
  clear HA
  obtain ⟨w103, hw103⟩ : ∃ x, x = w102.alloc (.cells #[.int .i64 a0, .int .i64 a1, .int .u32 a2, .int .u32 a3, .int .u64 a4, .string a5] 26) := ⟨_, rfl⟩
  have saw103 : w102.heap.size = w102.heap.size := by first | rfl | omega
  have ge_X0 := Lib.hid (show w.heap.size ≤ w102.heap.size from saw103 ▸ HB.out.size)
  replace HB := Lib.hid (show Below w.heap.size w w103 by rw [hw103]; exact HB.out.alloc HB.out.size _)
  have X0 := Lib.hid (show Blk w103 w102.heap.size 26 #[.int .i64 a0, .int .i64 a1, .int .u32 a2, .int .u32 a3, .int .u64 a4, .string a5] by rw [hw103, ← saw103]; exact Blk.new _ _ _)
  have szw103 : w103.heap.size = w102.heap.size + 1 := by rw [hw103]; simp
  clear saw103 szw103
  go_wp2_with fail
  rw [← hw103]
  clear hw103
  generalize w102.heap.size = gX0 at *
  clear X0
  refine (light8_bel A m c l _ (HR.out.below HB.out) (Nat.le_trans HM.out (by decide)) HNr.out).mono ?_
  rintro e w104 ⟨rfl, hb⟩
  replace HB := Lib.hid (HB.out.trans (hb.mono HB.out.size))
  clear hb
  rw [HLi.out]
  go_wp2_with fail
  refine (lfind_any A m c l a _ ((HR.out.below HB.out).more HB.out.size) (Nat.le_trans H60.out (by decide))).mono ?_
  rintro e w105 ⟨rfl, hb⟩
  replace HB := Lib.hid (HB.out.trans (hb.mono HB.out.size))
  clear hb
  rw [← HFI.out, ← HFB.out]
  have h61 := H60.out
  have hf3 : decide ((fi : Int) < 0) = false := decide_eq_false (by omega)
  have hf4 : decide ((m : Int) < fi) = false := decide_eq_false (by omega)
  have hf6 : decide (m < fi) = false := decide_eq_false (by omega)
  go_wp2_with fail
  go_loopw [11, 12] (fun t i wr => ∃ k : Nat, k ≤ m ∧ i = .int .i64 k ∧ t = .bool ((l.take k).any fun b => b.ky.toList == a.toList) ∧ Hid (Below w.heap.size w wr)) (fun _ i _ => m - (intOf i).toNat)
  case atStart => exact ⟨0, Nat.zero_le _, rfl, rfl, HB⟩
  case round =>
    clear HB hf3 hf4 hf6
    obtain ⟨k, hk, rfl, rfl, HB⟩ := hrel
    by_cases hlt : k < m
    · obtain ⟨ad, y, rfl, _, hpy, hy, hcy⟩ := it_at HR.out hlt
      have hpk := findN_at HAs.out hy
      have hpb := findB_at HAs.out hy
      obtain ⟨y0, _⟩ := hcy.below HB.out hpy
      have HPk := fun (w : World) (h : Reads w w.heap.size 5 (some ad) m (itc l)) => lfind_any (some ad) m c l y.ky w h (by omega)
      rw [hpk, hpb] at HPk
      have hk3 : (0 : Int) ≤ k := by omega
      have hk4 : (k : Int) < m := by omega
      have HY := Lib.hid hy
      have HCY := Lib.hid hcy
      have HPY := Lib.hid hpy
      have HT := Lib.hid (any_take_succ (fun b : It => b.ky.toList == a.toList) hy)
      obtain ⟨tb, htb⟩ : ∃ tb, tb = (l.take k).any fun b => b.ky.toList == a.toList := ⟨_, rfl⟩
      rw [← htb] at HT ⊢
      clear hy hcy hpy hpk hpb htb
      go_wp2_with fail
      refine (HPk _ ((HR.out.below HB.out).more HB.out.size)).mono ?_
      rintro e w8 ⟨rfl, hb⟩
      replace HB := Lib.hid (HB.out.trans (hb.mono HB.out.size))
      clear hb HPk y0
      obtain ⟨y0, _⟩ := HCY.out.below HB.out HPY.out
      have hlx : decide ((k : Int) < fi) = Op.bytesLess y.ky.toList a.toList := by
        by_cases h : k < fi
        · rw [HLo.out k y h HY.out]; simp; omega
        · rw [HHi.out k y (by omega) HY.out]; simp; omega
      have hly : decide (k < fi) = Op.bytesLess y.ky.toList a.toList := by
        rw [← hlx]
        simp
      obtain ⟨lb, hlb⟩ : ∃ lb, lb = Op.bytesLess y.ky.toList a.toList := ⟨_, rfl⟩
      obtain ⟨qb, hqb⟩ : ∃ qb, qb = (y.ky.toList == a.toList) := ⟨_, rfl⟩
      rw [← hlb] at hlx hly
      replace hlb := hlb.symm
      replace hqb := hqb.symm
      rw [hqb] at HT
      cases lb <;> cases tb
      all_goals
        go_wp2_with fail
        go_roundw
        case rel =>
          have HT2 := HT.out
          first
            | exact ⟨k + 1, by omega, by go_num, by rw [HT2]; rfl, HB⟩
            | ((repeat apply Exists.intro); exact ⟨⟨k + 1, by omega, by go_num, by rw [HT2]; rfl, HB⟩, rfl⟩)
        case measure => simp [intOf]; omega
    · obtain rfl : k = m := by omega
      have hk4 : ¬ (k : Int) < k := by omega
      have ht : l.take k = l := List.take_of_length_le (by rw [HL.out]; exact Nat.le_refl _)
      rw [ht, HAny.out]
      clear hlt ht
      go_wp2_with fail
      go_ret
      exact ⟨by first | rfl | (simp), HB.out⟩
theorem lffinds_walk (size : Int) (A : Option Addr) (m c : Nat) (l : List It) (a : ByteArray) (w : World) (_h0 : (Lit.int .i64 size).wf = true) (hl : Its w w.heap.size A m c l) (_h2 : a.size ≤ maxLen) :
    Calls Try.prog 6 #[.int .i64 size, .slice A m c, .string a] w fun e w' => e = .returned (.bool true) ∧ Below w.heap.size w w' := by
  have hnr := hl.near
  obtain ⟨hr, hmc, hcm, hm, hok⟩ := hl
  rcases hli : lightI l with _ | _
  · exact lffinds_no size A m c l a w hr hm hnr hli
  rcases hy : mayP8 size 2 0 l with _ | _
  · exact lffinds_bad size A m c l a w hr hm hnr hli hy
  by_cases ha : 200 < a.size
  · exact lffinds_a size A m c l a w hr hm hnr hli hy ha
  obtain ⟨h60, _⟩ := light8_size hli
  rw [it_len hr] at h60
  exact lffinds_main size A m c l a w hr hm hnr hli hy ha h60
end Go.Proofs.Ytinojpcjbjjlbaa
