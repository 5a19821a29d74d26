/-
  Contracts of free's small functions: isPage, Most, Need.
-/
import Derived.Test.YtnpockkhefbjoaaRef10
import Derived.Test.YtnpockkhefbjoaaFrame
import Derived.Test.YtnpockkhefbjoaaBytes
import Derived.Deep.CutRange
namespace Go.Proofs.Ytnpockkhefbjoaa
open Go.RowKit
open Go.Lib hiding intOf
set_option linter.unusedVariables false
set_option linter.unusedSimpArgs false
attribute [local go_sem ↓] Go.wp_at_zero Go.wp_at_succ

set_option maxRecDepth 100000 in
set_option maxHeartbeats 3200000 in
theorem fnum_any (n : Nat) (w : World) : Calls Try.prog 22 #[.int .u32 n] w fun e w' => e = .returned (.bool (numB n)) ∧ w' = w := by
  by_cases h1 : 2 ≤ n
  · have h1' : (2 : Int) ≤ n := by omega
    by_cases h2 : n ≤ 2147483647
    · have h2' : (n : Int) ≤ 2147483647 := by omega
      have HE := Lib.hid (show numB n = true by simp [numB, h1, h2])
      go_enter Try.func22, Try.ntmps22
      go_wp2
      go_ret
      exact ⟨by rw [HE.out]; rfl, rfl⟩
    · have h2' : ¬ (n : Int) ≤ 2147483647 := by omega
      have HE := Lib.hid (show numB n = false by simp [numB, h1, h2])
      go_enter Try.func22, Try.ntmps22
      go_wp2
      go_ret
      exact ⟨by rw [HE.out]; rfl, rfl⟩
  · have h1' : ¬ (2 : Int) ≤ n := by omega
    have HE := Lib.hid (show numB n = false by simp [numB, h1])
    go_enter Try.func22, Try.ntmps22
    go_wp2
    go_ret
    exact ⟨by rw [HE.out]; rfl, rfl⟩
set_option maxRecDepth 100000 in
set_option maxHeartbeats 3200000 in
theorem fmost_same (size : Int) (w : World) : Calls Try.prog 13 #[.int .i64 size] w fun e w' => e = .returned (.int .i64 (mostN size)) ∧ w' = w := by
  rcases hg : goodSize size with _ | _
  · have HM := fun w => room_no size w hg
    have HE := Lib.hid (show ((mostN size : Nat) : Int) = 0 by rw [mostN, hg]; rfl)
    clear hg
    go_enter Try.func13, Try.ntmps13
    go_wp2_with (go_at_call 29; refine (HM _).mono ?_; rintro e w' ⟨rfl, rfl⟩)
    go_ret
    exact ⟨by rw [HE.out]; rfl, rfl⟩
  · have HM := fun w => room_yes size w hg
    obtain ⟨z, rfl, hz1, hz2, _⟩ := good_nat hg
    obtain ⟨r, hr⟩ : ∃ r, r = z - 24 := ⟨_, rfl⟩
    have hri : (z : Int) - 24 = (r : Int) := by omega
    obtain ⟨q, hq⟩ : ∃ q, q = r / 4 := ⟨_, rfl⟩
    have hdiv : (r : Int) / 4 = (q : Int) := by omega
    have HW := Lib.hid (wrap64_nat q (by omega))
    have HE := Lib.hid (show mostN z = q by rw [mostN, hg, if_pos rfl, show ((z : Int) - 24).toNat = r by omega, hq])
    simp only [hri] at HM
    clear hg hq hr hz1 hz2 hri
    go_enter Try.func13, Try.ntmps13
    go_wp2_with (go_at_call 29; refine (HM _).mono ?_; rintro e w' ⟨rfl, rfl⟩)
    go_ret
    refine ⟨?_, rfl⟩
    rw [HE.out]
    show Ending.returned (.int .i64 (wrap64 (q : Int))) = _
    rw [HW.out]
theorem fmost_any (size : Int) (w : World) : Calls Try.prog 13 #[.int .i64 size] w fun e w' => e = .returned (.int .i64 (mostN size)) ∧ Below w.heap.size w w' :=
  (fmost_same size w).mono (by rintro e w' ⟨rfl, rfl⟩; exact ⟨rfl, Below.refl _ _⟩)
set_option maxRecDepth 100000 in
set_option maxHeartbeats 3200000 in
theorem fneed_any (size n : Int) (w : World) (hn : n ≤ 9223372036854775807) : Calls Try.prog 12 #[.int .i64 size, .int .i64 n] w fun e w' => e = .returned (.int .i64 (needF size n)) ∧ Below w.heap.size w w' := by
  have HM := fun w => fmost_same size w
  rcases hg : goodSize size with _ | _
  · have hm0 : mostN size = 0 := by rw [mostN, hg]; rfl
    rw [hm0] at HM
    have HE := Lib.hid (show ((needF size n : Nat) : Int) = 0 by rw [needF, hg]; rfl)
    clear hg hm0
    go_enter Try.func12, Try.ntmps12
    go_wp2_with (go_at_call 13; refine (HM _).mono ?_; rintro e w' ⟨rfl, rfl⟩)
    go_ret
    exact ⟨by rw [HE.out]; rfl, Below.refl _ _⟩
  obtain ⟨z, rfl, hz1, hz2, _⟩ := good_nat hg
  have hmg := mostN_good hg
  obtain ⟨r, hr⟩ : ∃ r, r = mostN z := ⟨_, rfl⟩
  rw [← hr] at HM hmg
  have hr0 : ((r : Int) == 0) = false := by simp; omega
  by_cases h1 : n < 1
  · have HE := Lib.hid (show ((needF z n : Nat) : Int) = 0 by rw [needF, decide_eq_false (show ¬ 1 ≤ n by omega), Bool.and_false]; rfl)
    clear hg hr hmg
    go_enter Try.func12, Try.ntmps12
    go_wp2_with (go_at_call 13; refine (HM _).mono ?_; rintro e w' ⟨rfl, rfl⟩)
    go_ret
    exact ⟨by rw [HE.out]; rfl, Below.refl _ _⟩
  · obtain ⟨m, hm⟩ : ∃ m : Nat, (m : Int) = n - 1 := ⟨(n - 1).toNat, by omega⟩
    obtain ⟨q, hq⟩ : ∃ q, q = m / r := ⟨_, rfl⟩
    have hqm : q ≤ m := by rw [hq]; exact Nat.div_le_self _ _
    have HE := Lib.hid (show ((needF z n : Nat) : Int) = (q : Int) + 1 by
      rw [needF, hg, decide_eq_true (show 1 ≤ n by omega), Bool.and_self, if_pos (by rfl), show n.toNat - 1 = m by omega, ← hr, ← hq]
      rfl)
    obtain rfl : n = (m : Int) + 1 := by omega
    have hr1 : ¬ (r : Int) = 0 := by omega
    have hm9 : ¬ (m : Int) + 1 < 1 := by omega
    have hq9 : q < 9223372036854775807 := by omega
    have hmm9 : m < 9223372036854775807 := by omega
    have hdiv : (m : Int) / (r : Int) = (q : Int) := by rw [hq]; simp
    have hwq : wrap64 (q : Int) = (q : Int) := wrap64_nat q (Nat.lt_succ_of_lt hq9)
    have hwq1 : wrap64 ((q : Int) + 1) = (q : Int) + 1 := wrap64_nat (q + 1) (Nat.succ_lt_succ hq9)
    have hwq2 : IntKind.i64.wrap ((q : Int) + 1) = (q : Int) + 1 := i64_nat (q + 1) (Nat.succ_lt_succ hq9)
    have hwm : IntKind.i64.wrap (m : Int) = (m : Int) := i64_nat m (Nat.lt_succ_of_lt hmm9)
    have hwm2 : wrap64 (m : Int) = (m : Int) := wrap64_nat m (Nat.lt_succ_of_lt hmm9)
    clear hg hm hq hr hz1 hz2 hqm hn h1 hmg hq9 hmm9
    go_enter Try.func12, Try.ntmps12
    go_wp2_with (go_at_call 13; refine (HM _).mono ?_; rintro e w' ⟨rfl, rfl⟩)
    go_ret
    exact ⟨by rw [HE.out]; rfl, Below.refl _ _⟩
end Go.Proofs.Ytnpockkhefbjoaa
