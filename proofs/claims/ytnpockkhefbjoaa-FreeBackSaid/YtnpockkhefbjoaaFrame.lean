/-
  Contracts of package frame's small functions (Room, valid, Pages, At, need), each with its conditions in its own statement.
-/
import Derived.Test.YtnpockkhefbjoaaOctet
import Derived.Test.YtnpockkhefbjoaaCrc
import Derived.Test.YtnpockkhefbjoaaGood
import Derived.Test.YtnpockkhefbjoaaKitLaw
import Derived.Deep.DrawnRows
namespace Go.Proofs.Ytnpockkhefbjoaa
open Go.RowKit
open Go.Lib
set_option linter.unusedVariables false
set_option linter.unusedSimpArgs false
attribute [local go_sem ↓] Go.wp_at_zero Go.wp_at_succ

theorem good_nat {size : Int} (h : goodSize size = true) : ∃ n : Nat, size = n ∧ 128 ≤ n ∧ n ≤ 4096 ∧ n % 64 = 0 := by
  simp [goodSize] at h
  exact ⟨size.toNat, by omega, by omega, by omega, by omega⟩

theorem room_yes (size : Int) (w : World) (h : goodSize size = true) :
    Calls Try.prog 29 #[.int .i64 size] w fun e w' => e = .returned (.int .i64 (size - 24)) ∧ w = w' := by
  obtain ⟨n, rfl, h1, h2, h3⟩ := good_nat h
  go_enter Try.func29, Try.ntmps29
  go_wp2_with (go_at_call 37; refine (dgood_any _ _).mono ?_; rw [h]; rintro e w' ⟨rfl, rfl⟩)
  go_ret
  exact ⟨rfl, rfl⟩
theorem room_no (size : Int) (w : World) (h : goodSize size = false) :
    Calls Try.prog 29 #[.int .i64 size] w fun e w' => e = .returned (.int .i64 0) ∧ w = w' := by
  go_enter Try.func29, Try.ntmps29
  go_wp2_with (go_at_call 37; refine (dgood_any _ _).mono ?_; rw [h]; rintro e w' ⟨rfl, rfl⟩)
  go_ret
  exact ⟨rfl, rfl⟩
end Go.Proofs.Ytnpockkhefbjoaa
