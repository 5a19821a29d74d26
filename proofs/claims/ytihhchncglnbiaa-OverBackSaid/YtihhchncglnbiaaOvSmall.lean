/-
  Contracts of over's small functions: isPage, Need.
-/
import Derived.Test.YtihhchncglnbiaaOv
import Derived.Test.YtihhchncglnbiaaFrame
import Derived.Test.YtihhchncglnbiaaBytes
import Derived.Deep.CutRange
namespace Go.Proofs.Ytihhchncglnbiaa
open Go.RowKit
open Go.Lib hiding intOf
set_option linter.unusedVariables false
set_option linter.unusedSimpArgs false
attribute [local go_sem ↓] Go.wp_at_zero Go.wp_at_succ

set_option maxRecDepth 100000 in
set_option maxHeartbeats 3200000 in
theorem onum_any (n : Nat) (w : World) : Calls Try.prog 22 #[.int .u32 n] w fun e w' => e = .returned (.bool (numB n)) ∧ w' = w := by
  by_cases h1 : 2 ≤ n
  · have h1' : (2 : Int) ≤ n := by omega
    by_cases h2 : n ≤ 2147483647
    · have h2' : (n : Int) ≤ 2147483647 := by omega
      have HE := Lib.hid (show numB n = true by simp [numB, h1, h2])
      go_enter Try.func22, Try.ntmps22
      go_wp2
      go_ret
      exact ⟨by rw [HE.out]; rfl, rfl⟩
    · have h2' : ¬ (n : Int) ≤ 2147483647 := by omega
      have HE := Lib.hid (show numB n = false by simp [numB, h1, h2])
      go_enter Try.func22, Try.ntmps22
      go_wp2
      go_ret
      exact ⟨by rw [HE.out]; rfl, rfl⟩
  · have h1' : ¬ (2 : Int) ≤ n := by omega
    have HE := Lib.hid (show numB n = false by simp [numB, h1])
    go_enter Try.func22, Try.ntmps22
    go_wp2
    go_ret
    exact ⟨by rw [HE.out]; rfl, rfl⟩
set_option maxRecDepth 100000 in
set_option maxHeartbeats 3200000 in
theorem oneed_any (size n : Int) (w : World) (hn : n ≤ 9223372036854775807) : Calls Try.prog 14 #[.int .i64 size, .int .i64 n] w fun e w' => e = .returned (.int .i64 (needN size n)) ∧ Below w.heap.size w w' := by
  rcases hg : goodSize size with _ | _
  · have HM := fun w => room_no size w hg
    have HE := Lib.hid (show ((needN size n : Nat) : Int) = 0 by rw [needN, hg]; rfl)
    clear hg
    go_enter Try.func14, Try.ntmps14
    go_wp2_with (go_at_call 21; refine (HM _).mono ?_; rintro e w' ⟨rfl, rfl⟩)
    go_ret
    exact ⟨by rw [HE.out]; rfl, Below.refl _ _⟩
  obtain ⟨z, rfl, hz1, hz2, _⟩ := good_nat hg
  obtain ⟨r, hr⟩ : ∃ r, r = z - 24 := ⟨_, rfl⟩
  have HM : ∀ w : World, Calls Try.prog 21 #[.int .i64 z] w fun e w' => e = .returned (.int .i64 (r : Int)) ∧ w' = w := fun w => (room_yes z w hg).mono (by rintro e w' ⟨rfl, rfl⟩; exact ⟨by rw [show (z : Int) - 24 = (r : Int) by omega], rfl⟩)
  have hr0 : ((r : Int) == 0) = false := by simp; omega
  by_cases h1 : n < 1
  · have HE := Lib.hid (show ((needN z n : Nat) : Int) = 0 by rw [needN, decide_eq_false (show ¬ 1 ≤ n by omega), Bool.and_false]; rfl)
    clear hg hr
    go_enter Try.func14, Try.ntmps14
    go_wp2_with (go_at_call 21; refine (HM _).mono ?_; rintro e w' ⟨rfl, rfl⟩)
    go_ret
    exact ⟨by rw [HE.out]; rfl, Below.refl _ _⟩
  · obtain ⟨m, hm⟩ : ∃ m : Nat, (m : Int) = n - 1 := ⟨(n - 1).toNat, by omega⟩
    obtain ⟨q, hq⟩ : ∃ q, q = m / r := ⟨_, rfl⟩
    have hqm : q ≤ m := by rw [hq]; exact Nat.div_le_self _ _
    have HE := Lib.hid (show ((needN z n : Nat) : Int) = (q : Int) + 1 by
      rw [needN, hg, decide_eq_true (show 1 ≤ n by omega), Bool.and_self, if_pos (by rfl), show n.toNat - 1 = m by omega, show ((z : Int) - 24).toNat = r by omega, ← hq]
      rfl)
    obtain rfl : n = (m : Int) + 1 := by omega
    have hr1 : ¬ (r : Int) = 0 := by omega
    have hdiv : (m : Int) / (r : Int) = (q : Int) := by rw [hq]; simp
    have hwq : wrap64 (q : Int) = (q : Int) := wrap64_nat q (by omega)
    have hwq1 : wrap64 ((q : Int) + 1) = (q : Int) + 1 := by unfold wrap64; omega
    have hwq2 : IntKind.i64.wrap ((q : Int) + 1) = (q : Int) + 1 := by rw [IntKind.wrap_i64]; omega
    have hwm : IntKind.i64.wrap (m : Int) = (m : Int) := by rw [IntKind.wrap_i64]; omega
    have hwm2 : wrap64 (m : Int) = (m : Int) := by unfold wrap64; omega
    have hm9 : ¬ (m : Int) + 1 < 1 := by omega
    clear hg hm hq hr hz1 hz2 hqm hn h1
    go_enter Try.func14, Try.ntmps14
    go_wp2_with (go_at_call 21; refine (HM _).mono ?_; rintro e w' ⟨rfl, rfl⟩)
    go_ret
    exact ⟨by rw [HE.out]; rfl, Below.refl _ _⟩
end Go.Proofs.Ytihhchncglnbiaa
