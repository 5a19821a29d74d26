/-
  The walk of the statement BranchPicks: from every start, at every argument, it returns true and changes no block that was there before.
-/
import Derived.Test.YtddnfmdplkmmdaaFkLaw
import Derived.Test.YtddnfmdplkmmdaaFkOpen
import Derived.Test.YtddnfmdplkmmdaaPgWords
import Derived.Deep.CutRange
namespace Go.Proofs.Ytddnfmdplkmmdaa
open Go.RowKit
open Go.Lib hiding intOf
set_option linter.unusedVariables false
set_option linter.unusedSimpArgs false
attribute [local go_sem ↓] Go.wp_at_zero Go.wp_at_succ

theorem run_min_str {P : Program} (w : World) (ts : Array TypeId) (t : TypeId) (a b c : ByteArray) (h : c = if Op.bytesLess b.toList a.toList = true then b else a) : (Builtin.min_ ts t #[.string a, .string b]).run P w = .ok (.string c) w := by
  rw [h]
  rcases h2 : Op.bytesLess b.toList a.toList with _ | _ <;> simp [Builtin.min_, Builtin.min2, Op.stringOp, asBool, leq_not, h2]
theorem run_max_str {P : Program} (w : World) (ts : Array TypeId) (t : TypeId) (a b c : ByteArray) (h : c = if Op.bytesLess a.toList b.toList = true then b else a) : (Builtin.max_ ts t #[.string a, .string b]).run P w = .ok (.string c) w := by
  rw [h]
  rcases h2 : Op.bytesLess a.toList b.toList with _ | _ <;> simp [Builtin.max_, Builtin.max2, Op.stringOp, asBool, leq_not, h2]
theorem min_max_le (l : List Fk) (a b mn mx : ByteArray) (h1 : mn = if Op.bytesLess b.toList a.toList = true then b else a) (h2 : mx = if Op.bytesLess a.toList b.toList = true then b else a) : pickF l mn ≤ pickF l mx := by
  refine pick_mono l ?_
  rcases hab : Op.bytesLess a.toList b.toList with _ | _
  · rcases hba : Op.bytesLess b.toList a.toList with _ | _
    · rw [h1, h2, hab, hba]; exact less_irrefl _
    · rw [h1, h2, hab, hba]; exact hab
  · have hba : Op.bytesLess b.toList a.toList = false := by
      rw [Bool.eq_false_iff]
      intro h
      have := less_trans hab h
      rw [less_irrefl] at this
      cases this
    rw [h1, h2, hab, hba]; exact hba

set_option maxRecDepth 100000 in
set_option maxHeartbeats 12800000 in
theorem brpicks_no (size : Int) (A : Option Addr) (m c : Nat) (l : List Fk) (a b : ByteArray) (w : World) (hr : Reads w w.heap.size 2 A m (fkc l)) (hm : m ≤ 5864062014805) (hl : lightF l = false) :
    Calls Try.prog 6 #[.int .i64 size, .slice A m c, .string a, .string b] w fun e w' => e = .returned (.bool true) ∧ Below w.heap.size w w' := by
  have HR := Lib.hid hr
  have HM := Lib.hid hm
  have HLi := Lib.hid hl
  obtain ⟨a0, a1, a2, a3, a4, a5, ea, HA, hea⟩ : ∃ (a0 a1 : Int) (a2 a3 a4 : Nat) (a5 : ByteArray) (ea : Int), (∀ w' : World, Below w.heap.size w w' → Calls Try.prog 9 #[.int .i64 size, .int .u32 2, .int .u64 0, .slice A m c] w' fun e w'' => e = .returned (.tuple #[.agg #[.int .i64 a0, .int .i64 a1, .int .u32 a2, .int .u32 a3, .int .u64 a4, .string a5], .int .i64 ea]) ∧ Below w'.heap.size w' w'') ∧ ea = (if mayP7 size 2 0 l = true then 0 else 2) := by
    rcases hy : mayP7 size 2 0 l with _ | _
    · exact ⟨0, 0, 0, 0, 0, ByteArray.empty, 2, fun w' hb => bpage7_no size 2 0 A m c l w' ((hr.below hb).more hb.size) hm hy, rfl⟩
    · obtain ⟨z, rfl, _, _, _⟩ := good_nat (by simp only [mayP7, Bool.and_eq_true] at hy; exact hy.1 : goodSize size = true)
      exact ⟨_, _, _, _, _, _, _, fun w' hb => bpage7_yes z 2 0 A m c l w' ((hr.below hb).more hb.size) hm hy, rfl⟩
  clear hea
  clear hr hm hl
  obtain ⟨hz, hi⟩ := zero_of_info infoPg
  have HI := Lib.hid hi
  clear hi
  have HB := Lib.hid (Below.refl w.heap.size w)
  go_enter Try.func6, Try.ntmps6
  go_wp2_with fail
  refine (lives7_any _).mono ?_
  rintro e w101 ⟨rfl, hb⟩
  replace HB := Lib.hid (HB.out.trans (hb.mono HB.out.size))
  clear hb
  go_wp2_with fail
  refine (HA _ HB.out).mono ?_
  rintro e w102 ⟨rfl, hb⟩
  replace HB := Lib.hid (HB.out.trans (hb.mono HB.out.size))
  clear hb
  clear HA
  obtain ⟨w103, hw103⟩ : ∃ x, x = w102.alloc (.cells #[.int .i64 a0, .int .i64 a1, .int .u32 a2, .int .u32 a3, .int .u64 a4, .string a5] 26) := ⟨_, rfl⟩
  have saw103 : w102.heap.size = w102.heap.size := by first | rfl | omega
  have ge_X0 := Lib.hid (show w.heap.size ≤ w102.heap.size from saw103 ▸ HB.out.size)
  replace HB := Lib.hid (show Below w.heap.size w w103 by rw [hw103]; exact HB.out.alloc HB.out.size _)
  have X0 := Lib.hid (show Blk w103 w102.heap.size 26 #[.int .i64 a0, .int .i64 a1, .int .u32 a2, .int .u32 a3, .int .u64 a4, .string a5] by rw [hw103, ← saw103]; exact Blk.new _ _ _)
  have szw103 : w103.heap.size = w102.heap.size + 1 := by rw [hw103]; simp
  clear saw103 szw103
  go_wp2_with fail
  rw [← hw103]
  clear hw103
  generalize w102.heap.size = gX0 at *
  clear X0
  refine (light7_any A m c l _ (HR.out.below HB.out) (Nat.le_trans HM.out (by decide))).mono ?_
  rintro e w104 ⟨rfl, rfl⟩
  rw [HLi.out]
  go_wp2_with fail
  go_ret
  exact ⟨rfl, HB.out⟩
set_option maxRecDepth 100000 in
set_option maxHeartbeats 12800000 in
theorem brpicks_bad (size : Int) (A : Option Addr) (m c : Nat) (l : List Fk) (a b : ByteArray) (w : World) (hr : Reads w w.heap.size 2 A m (fkc l)) (hm : m ≤ 5864062014805) (hl : lightF l = true) (hy : mayP7 size 2 0 l = false) :
    Calls Try.prog 6 #[.int .i64 size, .slice A m c, .string a, .string b] w fun e w' => e = .returned (.bool true) ∧ Below w.heap.size w w' := by
  have HR := Lib.hid hr
  have HM := Lib.hid hm
  have HLi := Lib.hid hl
  obtain ⟨a0, a1, a2, a3, a4, a5, ea, HA, hea⟩ : ∃ (a0 a1 : Int) (a2 a3 a4 : Nat) (a5 : ByteArray) (ea : Int), (∀ w' : World, Below w.heap.size w w' → Calls Try.prog 9 #[.int .i64 size, .int .u32 2, .int .u64 0, .slice A m c] w' fun e w'' => e = .returned (.tuple #[.agg #[.int .i64 a0, .int .i64 a1, .int .u32 a2, .int .u32 a3, .int .u64 a4, .string a5], .int .i64 ea]) ∧ Below w'.heap.size w' w'') ∧ ea = (if mayP7 size 2 0 l = true then 0 else 2) := by
    rcases hy : mayP7 size 2 0 l with _ | _
    · exact ⟨0, 0, 0, 0, 0, ByteArray.empty, 2, fun w' hb => bpage7_no size 2 0 A m c l w' ((hr.below hb).more hb.size) hm hy, rfl⟩
    · obtain ⟨z, rfl, _, _, _⟩ := good_nat (by simp only [mayP7, Bool.and_eq_true] at hy; exact hy.1 : goodSize size = true)
      exact ⟨_, _, _, _, _, _, _, fun w' hb => bpage7_yes z 2 0 A m c l w' ((hr.below hb).more hb.size) hm hy, rfl⟩
  rw [hy] at hea
  subst hea
  clear hr hm hl hy
  simp only [if_pos, if_neg, Bool.false_eq_true, if_false, if_true, ↓reduceIte] at HA
  obtain ⟨hz, hi⟩ := zero_of_info infoPg
  have HI := Lib.hid hi
  clear hi
  have HB := Lib.hid (Below.refl w.heap.size w)
  go_enter Try.func6, Try.ntmps6
  go_wp2_with fail
  refine (lives7_any _).mono ?_
  rintro e w101 ⟨rfl, hb⟩
  replace HB := Lib.hid (HB.out.trans (hb.mono HB.out.size))
  clear hb
  go_wp2_with fail
  refine (HA _ HB.out).mono ?_
  rintro e w102 ⟨rfl, hb⟩
  replace HB := Lib.hid (HB.out.trans (hb.mono HB.out.size))
  clear hb
  clear HA
  obtain ⟨w103, hw103⟩ : ∃ x, x = w102.alloc (.cells #[.int .i64 a0, .int .i64 a1, .int .u32 a2, .int .u32 a3, .int .u64 a4, .string a5] 26) := ⟨_, rfl⟩
  have saw103 : w102.heap.size = w102.heap.size := by first | rfl | omega
  have ge_X0 := Lib.hid (show w.heap.size ≤ w102.heap.size from saw103 ▸ HB.out.size)
  replace HB := Lib.hid (show Below w.heap.size w w103 by rw [hw103]; exact HB.out.alloc HB.out.size _)
  have X0 := Lib.hid (show Blk w103 w102.heap.size 26 #[.int .i64 a0, .int .i64 a1, .int .u32 a2, .int .u32 a3, .int .u64 a4, .string a5] by rw [hw103, ← saw103]; exact Blk.new _ _ _)
  have szw103 : w103.heap.size = w102.heap.size + 1 := by rw [hw103]; simp
  clear saw103 szw103
  go_wp2_with fail
  rw [← hw103]
  clear hw103
  generalize w102.heap.size = gX0 at *
  clear X0
  refine (light7_any A m c l _ (HR.out.below HB.out) (Nat.le_trans HM.out (by decide))).mono ?_
  rintro e w104 ⟨rfl, rfl⟩
  rw [HLi.out]
  go_wp2_with fail
  go_ret
  exact ⟨rfl, HB.out⟩
set_option maxRecDepth 100000 in
set_option maxHeartbeats 12800000 in
theorem brpicks_a (size : Int) (A : Option Addr) (m c : Nat) (l : List Fk) (a b : ByteArray) (w : World) (hr : Reads w w.heap.size 2 A m (fkc l)) (hm : m ≤ 5864062014805) (hl : lightF l = true) (hy : mayP7 size 2 0 l = true) (ha : 200 < a.size) :
    Calls Try.prog 6 #[.int .i64 size, .slice A m c, .string a, .string b] w fun e w' => e = .returned (.bool true) ∧ Below w.heap.size w w' := by
  have HR := Lib.hid hr
  have HM := Lib.hid hm
  have HLi := Lib.hid hl
  obtain ⟨a0, a1, a2, a3, a4, a5, ea, HA, hea⟩ : ∃ (a0 a1 : Int) (a2 a3 a4 : Nat) (a5 : ByteArray) (ea : Int), (∀ w' : World, Below w.heap.size w w' → Calls Try.prog 9 #[.int .i64 size, .int .u32 2, .int .u64 0, .slice A m c] w' fun e w'' => e = .returned (.tuple #[.agg #[.int .i64 a0, .int .i64 a1, .int .u32 a2, .int .u32 a3, .int .u64 a4, .string a5], .int .i64 ea]) ∧ Below w'.heap.size w' w'') ∧ ea = (if mayP7 size 2 0 l = true then 0 else 2) := by
    rcases hy : mayP7 size 2 0 l with _ | _
    · exact ⟨0, 0, 0, 0, 0, ByteArray.empty, 2, fun w' hb => bpage7_no size 2 0 A m c l w' ((hr.below hb).more hb.size) hm hy, rfl⟩
    · obtain ⟨z, rfl, _, _, _⟩ := good_nat (by simp only [mayP7, Bool.and_eq_true] at hy; exact hy.1 : goodSize size = true)
      exact ⟨_, _, _, _, _, _, _, fun w' hb => bpage7_yes z 2 0 A m c l w' ((hr.below hb).more hb.size) hm hy, rfl⟩
  rw [hy] at hea
  subst hea
  have hda : decide ((200 : Int) < a.size) = true := by simp; omega
  have hea : decide (200 < a.size) = true := by simp; omega
  clear hr hm hl hy ha
  simp only [if_pos, if_neg, Bool.false_eq_true, if_false, if_true, ↓reduceIte] at HA
  obtain ⟨hz, hi⟩ := zero_of_info infoPg
  have HI := Lib.hid hi
  clear hi
  have HB := Lib.hid (Below.refl w.heap.size w)
  go_enter Try.func6, Try.ntmps6
  go_wp2_with fail
  refine (lives7_any _).mono ?_
  rintro e w101 ⟨rfl, hb⟩
  replace HB := Lib.hid (HB.out.trans (hb.mono HB.out.size))
  clear hb
  go_wp2_with fail
  refine (HA _ HB.out).mono ?_
  rintro e w102 ⟨rfl, hb⟩
  replace HB := Lib.hid (HB.out.trans (hb.mono HB.out.size))
  clear hb
  clear HA
  obtain ⟨w103, hw103⟩ : ∃ x, x = w102.alloc (.cells #[.int .i64 a0, .int .i64 a1, .int .u32 a2, .int .u32 a3, .int .u64 a4, .string a5] 26) := ⟨_, rfl⟩
  have saw103 : w102.heap.size = w102.heap.size := by first | rfl | omega
  have ge_X0 := Lib.hid (show w.heap.size ≤ w102.heap.size from saw103 ▸ HB.out.size)
  replace HB := Lib.hid (show Below w.heap.size w w103 by rw [hw103]; exact HB.out.alloc HB.out.size _)
  have X0 := Lib.hid (show Blk w103 w102.heap.size 26 #[.int .i64 a0, .int .i64 a1, .int .u32 a2, .int .u32 a3, .int .u64 a4, .string a5] by rw [hw103, ← saw103]; exact Blk.new _ _ _)
  have szw103 : w103.heap.size = w102.heap.size + 1 := by rw [hw103]; simp
  clear saw103 szw103
  go_wp2_with fail
  rw [← hw103]
  clear hw103
  generalize w102.heap.size = gX0 at *
  clear X0
  refine (light7_any A m c l _ (HR.out.below HB.out) (Nat.le_trans HM.out (by decide))).mono ?_
  rintro e w104 ⟨rfl, rfl⟩
  rw [HLi.out]
  go_wp2_with fail
  go_ret
  exact ⟨rfl, HB.out⟩
set_option maxRecDepth 100000 in
set_option maxHeartbeats 12800000 in
theorem brpicks_b (size : Int) (A : Option Addr) (m c : Nat) (l : List Fk) (a b : ByteArray) (w : World) (hr : Reads w w.heap.size 2 A m (fkc l)) (hm : m ≤ 5864062014805) (hl : lightF l = true) (hy : mayP7 size 2 0 l = true) (ha : ¬ 200 < a.size) (hb : 200 < b.size) :
    Calls Try.prog 6 #[.int .i64 size, .slice A m c, .string a, .string b] w fun e w' => e = .returned (.bool true) ∧ Below w.heap.size w w' := by
  have HR := Lib.hid hr
  have HM := Lib.hid hm
  have HLi := Lib.hid hl
  obtain ⟨a0, a1, a2, a3, a4, a5, ea, HA, hea⟩ : ∃ (a0 a1 : Int) (a2 a3 a4 : Nat) (a5 : ByteArray) (ea : Int), (∀ w' : World, Below w.heap.size w w' → Calls Try.prog 9 #[.int .i64 size, .int .u32 2, .int .u64 0, .slice A m c] w' fun e w'' => e = .returned (.tuple #[.agg #[.int .i64 a0, .int .i64 a1, .int .u32 a2, .int .u32 a3, .int .u64 a4, .string a5], .int .i64 ea]) ∧ Below w'.heap.size w' w'') ∧ ea = (if mayP7 size 2 0 l = true then 0 else 2) := by
    rcases hy : mayP7 size 2 0 l with _ | _
    · exact ⟨0, 0, 0, 0, 0, ByteArray.empty, 2, fun w' hb => bpage7_no size 2 0 A m c l w' ((hr.below hb).more hb.size) hm hy, rfl⟩
    · obtain ⟨z, rfl, _, _, _⟩ := good_nat (by simp only [mayP7, Bool.and_eq_true] at hy; exact hy.1 : goodSize size = true)
      exact ⟨_, _, _, _, _, _, _, fun w' hb => bpage7_yes z 2 0 A m c l w' ((hr.below hb).more hb.size) hm hy, rfl⟩
  rw [hy] at hea
  subst hea
  have hda : decide ((200 : Int) < a.size) = false := by simp; omega
  have hea : decide (200 < a.size) = false := by simp; omega
  have hdb : decide ((200 : Int) < b.size) = true := by simp; omega
  have heb : decide (200 < b.size) = true := by simp; omega
  clear hr hm hl hy ha hb
  simp only [if_pos, if_neg, Bool.false_eq_true, if_false, if_true, ↓reduceIte] at HA
  obtain ⟨hz, hi⟩ := zero_of_info infoPg
  have HI := Lib.hid hi
  clear hi
  have HB := Lib.hid (Below.refl w.heap.size w)
  go_enter Try.func6, Try.ntmps6
  go_wp2_with fail
  refine (lives7_any _).mono ?_
  rintro e w101 ⟨rfl, hb⟩
  replace HB := Lib.hid (HB.out.trans (hb.mono HB.out.size))
  clear hb
  go_wp2_with fail
  refine (HA _ HB.out).mono ?_
  rintro e w102 ⟨rfl, hb⟩
  replace HB := Lib.hid (HB.out.trans (hb.mono HB.out.size))
  clear hb
  clear HA
  obtain ⟨w103, hw103⟩ : ∃ x, x = w102.alloc (.cells #[.int .i64 a0, .int .i64 a1, .int .u32 a2, .int .u32 a3, .int .u64 a4, .string a5] 26) := ⟨_, rfl⟩
  have saw103 : w102.heap.size = w102.heap.size := by first | rfl | omega
  have ge_X0 := Lib.hid (show w.heap.size ≤ w102.heap.size from saw103 ▸ HB.out.size)
  replace HB := Lib.hid (show Below w.heap.size w w103 by rw [hw103]; exact HB.out.alloc HB.out.size _)
  have X0 := Lib.hid (show Blk w103 w102.heap.size 26 #[.int .i64 a0, .int .i64 a1, .int .u32 a2, .int .u32 a3, .int .u64 a4, .string a5] by rw [hw103, ← saw103]; exact Blk.new _ _ _)
  have szw103 : w103.heap.size = w102.heap.size + 1 := by rw [hw103]; simp
  clear saw103 szw103
  go_wp2_with fail
  rw [← hw103]
  clear hw103
  generalize w102.heap.size = gX0 at *
  clear X0
  refine (light7_any A m c l _ (HR.out.below HB.out) (Nat.le_trans HM.out (by decide))).mono ?_
  rintro e w104 ⟨rfl, rfl⟩
  rw [HLi.out]
  go_wp2_with fail
  go_ret
  exact ⟨rfl, HB.out⟩
set_option maxRecDepth 100000 in
set_option maxHeartbeats 12800000 in
theorem brpicks_main (size : Int) (A : Option Addr) (m c : Nat) (l : List Fk) (a b : ByteArray) (w : World) (hr : Reads w w.heap.size 2 A m (fkc l)) (hm : m ≤ 5864062014805) (hl : lightF l = true) (hy : mayP7 size 2 0 l = true) (ha : ¬ 200 < a.size) (hb : ¬ 200 < b.size) (h60 : m ≤ 100) :
    Calls Try.prog 6 #[.int .i64 size, .slice A m c, .string a, .string b] w fun e w' => e = .returned (.bool true) ∧ Below w.heap.size w w' := by
  have HR := Lib.hid hr
  have HM := Lib.hid hm
  have HLi := Lib.hid hl
  have H60 := Lib.hid h60
  have HL := Lib.hid (fk_len hr)
  obtain ⟨a0, a1, a2, a3, a4, a5, ea, HA, hea⟩ : ∃ (a0 a1 : Int) (a2 a3 a4 : Nat) (a5 : ByteArray) (ea : Int), (∀ w' : World, Below w.heap.size w w' → Calls Try.prog 9 #[.int .i64 size, .int .u32 2, .int .u64 0, .slice A m c] w' fun e w'' => e = .returned (.tuple #[.agg #[.int .i64 a0, .int .i64 a1, .int .u32 a2, .int .u32 a3, .int .u64 a4, .string a5], .int .i64 ea]) ∧ Below w'.heap.size w' w'') ∧ ea = (if mayP7 size 2 0 l = true then 0 else 2) := by
    rcases hy : mayP7 size 2 0 l with _ | _
    · exact ⟨0, 0, 0, 0, 0, ByteArray.empty, 2, fun w' hb => bpage7_no size 2 0 A m c l w' ((hr.below hb).more hb.size) hm hy, rfl⟩
    · obtain ⟨z, rfl, _, _, _⟩ := good_nat (by simp only [mayP7, Bool.and_eq_true] at hy; exact hy.1 : goodSize size = true)
      exact ⟨_, _, _, _, _, _, _, fun w' hb => bpage7_yes z 2 0 A m c l w' ((hr.below hb).more hb.size) hm hy, rfl⟩
  rw [hy] at hea
  subst hea
  have hda : decide ((200 : Int) < a.size) = false := by simp; omega
  have hea : decide (200 < a.size) = false := by simp; omega
  have hdb : decide ((200 : Int) < b.size) = false := by simp; omega
  have heb : decide (200 < b.size) = false := by simp; omega
  have hall : allOkF l = true ∧ 0 < l.length := by
    simp only [mayP7, mayF, Bool.and_eq_true, decide_eq_true_eq] at hy
    exact hy.2.1
  have hasc := allOkF_asc hall.1
  obtain ⟨fi, hfi⟩ : ∃ f, f = pickF l a := ⟨_, rfl⟩
  have hfl : fi < m := by rw [hfi, ← fk_len hr]; exact pickF_lt hall.2 a
  obtain ⟨mn, hmn⟩ : ∃ x, x = if Op.bytesLess b.toList a.toList = true then b else a := ⟨_, rfl⟩
  obtain ⟨mx, hmx⟩ : ∃ x, x = if Op.bytesLess a.toList b.toList = true then b else a := ⟨_, rfl⟩
  have hmin := fun (P : Program) (w : World) ts t => run_min_str (P := P) w ts t a b mn hmn
  have hmax := fun (P : Program) (w : World) ts t => run_max_str (P := P) w ts t a b mx hmx
  have hple := min_max_le l a b mn mx hmn hmx
  obtain ⟨p1, hp1⟩ : ∃ p, p = pickF l mn := ⟨_, rfl⟩
  obtain ⟨p2, hp2⟩ : ∃ p, p = pickF l mx := ⟨_, rfl⟩
  rw [← hp1, ← hp2] at hple
  have HAs := Lib.hid hasc
  have HL0 := Lib.hid hall.2
  have HFI := Lib.hid hfi
  have HP1 := Lib.hid hp1
  have HP2 := Lib.hid hp2
  have hple2 : decide ((p1 : Int) ≤ p2) = true := by simp; omega
  have hple3 : decide (p1 ≤ p2) = true := by simp; omega
  have HLo : ∀ x, 0 < fi → l[fi]? = some x → Op.bytesLess a.toList x.nm.toList = false := fun x h0 hx => by rw [hfi] at h0 hx; exact pick_lo h0 hx
  have HHi : ∀ x, l[fi + 1]? = some x → Op.bytesLess a.toList x.nm.toList = true := fun x hx => by rw [hfi] at hx; exact pick_hi hall.2 hasc hx
  have HLo := Lib.hid HLo
  have HHi := Lib.hid HHi
  clear hr hm hl hy ha hb h60 hall hasc hfi hmn hmx hp1 hp2 hple
  simp only [if_pos, if_true, ↓reduceIte] at HA
  obtain ⟨hz, hi⟩ := zero_of_info infoPg
  have HI := Lib.hid hi
  clear hi
  have HB := Lib.hid (Below.refl w.heap.size w)
  go_enter Try.func6, Try.ntmps6
  go_wp2_with fail
  refine (lives7_any _).mono ?_
  rintro e w101 ⟨rfl, hb⟩
  replace HB := Lib.hid (HB.out.trans (hb.mono HB.out.size))
  clear hb
  go_wp2_with fail
  refine (HA _ HB.out).mono ?_
  rintro e w102 ⟨rfl, hb⟩
  replace HB := Lib.hid (HB.out.trans (hb.mono HB.out.size))
  clear hb
  clear HA
  obtain ⟨w103, hw103⟩ : ∃ x, x = w102.alloc (.cells #[.int .i64 a0, .int .i64 a1, .int .u32 a2, .int .u32 a3, .int .u64 a4, .string a5] 26) := ⟨_, rfl⟩
  have saw103 : w102.heap.size = w102.heap.size := by first | rfl | omega
  have ge_X0 := Lib.hid (show w.heap.size ≤ w102.heap.size from saw103 ▸ HB.out.size)
  replace HB := Lib.hid (show Below w.heap.size w w103 by rw [hw103]; exact HB.out.alloc HB.out.size _)
  have X0 := Lib.hid (show Blk w103 w102.heap.size 26 #[.int .i64 a0, .int .i64 a1, .int .u32 a2, .int .u32 a3, .int .u64 a4, .string a5] by rw [hw103, ← saw103]; exact Blk.new _ _ _)
  have szw103 : w103.heap.size = w102.heap.size + 1 := by rw [hw103]; simp
  clear saw103 szw103
  go_wp2_with fail
  rw [← hw103]
  clear hw103
  generalize w102.heap.size = gX0 at *
  clear X0
  refine (light7_any A m c l _ (HR.out.below HB.out) (Nat.le_trans HM.out (by decide))).mono ?_
  rintro e w104 ⟨rfl, rfl⟩
  rw [HLi.out]
  go_wp2_with fail
  refine (bpick_any A m c l a _ ((HR.out.below HB.out).more HB.out.size) (Nat.le_trans H60.out (by decide))).mono ?_
  rintro e w105 ⟨rfl, hb⟩
  replace HB := Lib.hid (HB.out.trans (hb.mono HB.out.size))
  clear hb
  rw [← HFI.out]
  obtain ⟨ad, x, hAd, _, hpx, hx, hcx⟩ := fk_at HR.out hfl
  have HX := Lib.hid hx
  have HCX := Lib.hid hcx
  have HPX := Lib.hid hpx
  have h61 := H60.out
  clear hx hcx hpx
  have hf0 : (0 : Int) ≤ fi := by omega
  have hf1 : (fi : Int) < m := by omega
  have hf3 : decide ((fi : Int) < 0) = false := decide_eq_false (by omega)
  have hf4 : decide ((m : Int) ≤ fi) = false := decide_eq_false (by omega)
  have hf6 : decide (m ≤ fi) = false := decide_eq_false (by omega)
  have hf7 : IntKind.i64.wrap ((fi : Int) + 1) = (fi : Int) + 1 := by rw [IntKind.wrap_i64]; omega
  subst hAd
  
  go_upto_region 7 with fail
  go_cut [78] from 41 to 78 (fun v wx => v = .bool false ∧ wx = w105)
  case first =>
    by_cases h0 : 0 < fi
    · by_cases h1 : fi + 1 < m
      · have hlt := HLo.out x h0 HX.out
        have hle : (Op.bytesLess x.nm.toList a.toList || x.nm.toList == a.toList) = true := by rw [leq_not, hlt]; rfl
        have hg1 : decide ((fi : Int) > 0) = true := by simp; omega
        have hg2 : decide (0 < fi) = true := decide_eq_true h0
        obtain ⟨c0, _⟩ := HCX.out.below HB.out HPX.out
        obtain ⟨ad2, y, hAd2, _, hpy, hy, hcy⟩ := fk_at HR.out h1
        injection hAd2 with hAd2
        subst hAd2
        have hgt := HHi.out y hy
        have hle3 : (Op.bytesLess y.nm.toList a.toList || y.nm.toList == a.toList) = false := by rw [leq_not, hgt]; rfl
        have hle1 : Op.bytesLess y.nm.toList a.toList = false := by simp at hle3; exact hle3.1
        have hle2 : (y.nm.toList == a.toList) = false := by simp at hle3; simpa using hle3.2
        obtain ⟨y0, _⟩ := hcy.below HB.out hpy
        have hk1 : decide ((fi : Int) + 1 < m) = true := by simp; omega
        have hk2 : decide (fi + 1 < m) = true := decide_eq_true h1
        have hk3 : (0 : Int) ≤ (fi : Int) + 1 := by omega
        have hk4 : (fi : Int) + 1 < m := by omega
        have hk5 : ((fi : Int) + 1).toNat = fi + 1 := by omega
        clear hy hcy hpy hgt hle3
        clear hlt h0 h1
        go_wp2_with fail
        go_meet
        exact ⟨rfl, rfl⟩
      · have hlt := HLo.out x h0 HX.out
        have hle : (Op.bytesLess x.nm.toList a.toList || x.nm.toList == a.toList) = true := by rw [leq_not, hlt]; rfl
        have hg1 : decide ((fi : Int) > 0) = true := by simp; omega
        have hg2 : decide (0 < fi) = true := decide_eq_true h0
        obtain ⟨c0, _⟩ := HCX.out.below HB.out HPX.out
        have hk1 : decide ((fi : Int) + 1 < m) = false := by simp; omega
        have hk2 : decide (fi + 1 < m) = false := decide_eq_false h1
        clear hlt h0 h1
        go_wp2_with fail
        go_meet
        exact ⟨rfl, rfl⟩
    · by_cases h1 : fi + 1 < m
      · have hg1 : decide ((fi : Int) > 0) = false := by simp; omega
        have hg2 : decide (0 < fi) = false := decide_eq_false h0
        obtain ⟨ad2, y, hAd2, _, hpy, hy, hcy⟩ := fk_at HR.out h1
        injection hAd2 with hAd2
        subst hAd2
        have hgt := HHi.out y hy
        have hle3 : (Op.bytesLess y.nm.toList a.toList || y.nm.toList == a.toList) = false := by rw [leq_not, hgt]; rfl
        have hle1 : Op.bytesLess y.nm.toList a.toList = false := by simp at hle3; exact hle3.1
        have hle2 : (y.nm.toList == a.toList) = false := by simp at hle3; simpa using hle3.2
        obtain ⟨y0, _⟩ := hcy.below HB.out hpy
        have hk1 : decide ((fi : Int) + 1 < m) = true := by simp; omega
        have hk2 : decide (fi + 1 < m) = true := decide_eq_true h1
        have hk3 : (0 : Int) ≤ (fi : Int) + 1 := by omega
        have hk4 : (fi : Int) + 1 < m := by omega
        have hk5 : ((fi : Int) + 1).toNat = fi + 1 := by omega
        clear hy hcy hpy hgt hle3
        clear h0 h1
        go_wp2_with fail
        go_meet
        exact ⟨rfl, rfl⟩
      · have hg1 : decide ((fi : Int) > 0) = false := by simp; omega
        have hg2 : decide (0 < fi) = false := decide_eq_false h0
        have hk1 : decide ((fi : Int) + 1 < m) = false := by simp; omega
        have hk2 : decide (fi + 1 < m) = false := decide_eq_false h1
        clear h0 h1
        go_wp2_with fail
        go_meet
        exact ⟨rfl, rfl⟩
  case rest =>
  obtain ⟨rfl, rfl⟩ := hcut
  clear hf3 hf4 hf6 hf7 hf0 hf1
  go_wp2_with fail
  go_loopw [12] (fun i wr => ∃ k : Nat, k ≤ m ∧ i = .int .i64 k ∧ Hid (Below w.heap.size w wr)) (fun i _ => m - (intOf i).toNat)
  case atStart => exact ⟨0, Nat.zero_le _, rfl, HB⟩
  case round =>
    clear HB
    obtain ⟨k, hk, rfl, HB⟩ := hrel
    by_cases hlt : k < m
    · obtain ⟨ad2, y, hAd2, _, hpy, hy, hcy⟩ := fk_at HR.out hlt
      injection hAd2 with hAd2
      subst hAd2
      have hpk := pick_at HAs.out hy
      obtain ⟨y0, _⟩ := hcy.below HB.out hpy
      have HPk := fun (w : World) (h : Reads w w.heap.size 2 (some ad) m (fkc l)) => bpick_any (some ad) m c l y.nm w h (by omega)
      rw [hpk] at HPk
      have hk3 : (0 : Int) ≤ k := by omega
      have hk4 : (k : Int) < m := by omega
      clear hy hcy hpy hpk
      go_wp2_with fail
      refine (HPk _ ((HR.out.below HB.out).more HB.out.size)).mono ?_
      rintro e w8 ⟨rfl, hb⟩
      replace HB := Lib.hid (HB.out.trans (hb.mono HB.out.size))
      clear hb HPk y0
      go_wp2_with fail
      go_roundw
      case rel =>
        first
          | exact ⟨k + 1, by omega, by go_num, HB⟩
          | ((repeat apply Exists.intro); exact ⟨⟨k + 1, by omega, by go_num, HB⟩, rfl⟩)
      case measure => simp [intOf]; omega
    · have hk4 : ¬ (k : Int) < m := by omega
      clear hlt
      go_wp2_with fail
      refine (bpick_any (some ad) m c l mn _ ((HR.out.below HB.out).more HB.out.size) (by omega)).mono ?_
      rw [← HP1.out]
      rintro e w9 ⟨rfl, hb⟩
      replace HB := Lib.hid (HB.out.trans (hb.mono HB.out.size))
      clear hb
      go_wp2_with fail
      refine (bpick_any (some ad) m c l mx _ ((HR.out.below HB.out).more HB.out.size) (by omega)).mono ?_
      rw [← HP2.out]
      rintro e w10 ⟨rfl, hb⟩
      replace HB := Lib.hid (HB.out.trans (hb.mono HB.out.size))
      clear hb
      go_wp2_with fail
      go_ret
      exact ⟨rfl, HB.out⟩
theorem brpicks_walk (size : Int) (A : Option Addr) (m c : Nat) (l : List Fk) (a b : ByteArray) (w : World) (_h0 : (Lit.int .i64 size).wf = true) (hl : Fks w w.heap.size A m c l) (_h2 : a.size ≤ maxLen) (_h3 : b.size ≤ maxLen) :
    Calls Try.prog 6 #[.int .i64 size, .slice A m c, .string a, .string b] w fun e w' => e = .returned (.bool true) ∧ Below w.heap.size w w' := by
  obtain ⟨hr, hmc, hcm, hm, hok⟩ := hl
  rcases hli : lightF l with _ | _
  · exact brpicks_no size A m c l a b w hr hm hli
  rcases hy : mayP7 size 2 0 l with _ | _
  · exact brpicks_bad size A m c l a b w hr hm hli hy
  by_cases ha : 200 < a.size
  · exact brpicks_a size A m c l a b w hr hm hli hy ha
  by_cases hb : 200 < b.size
  · exact brpicks_b size A m c l a b w hr hm hli hy ha hb
  obtain ⟨h60, _⟩ := light7_size hli fun b hb => (hok b hb).2
  rw [fk_len hr] at h60
  exact brpicks_main size A m c l a b w hr hm hli hy ha hb h60
end Go.Proofs.Ytddnfmdplkmmdaa
