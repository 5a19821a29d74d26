/-
  Contracts of the reference's Good, Room and May, each with its conditions in its own statement.
-/
import Derived.Test.YtnpockkhefbjoaaFrameValid
namespace Go.Proofs.Ytnpockkhefbjoaa
open Go.RowKit
open Go.Lib
set_option linter.unusedVariables false
set_option linter.unusedSimpArgs false
attribute [local go_sem ↓] Go.wp_at_zero Go.wp_at_succ

theorem rgood_any (n : Int) (w : World) :
    Calls Try.prog 30 #[.int .i64 n] w fun e w' => e = .returned (.bool (goodSize n)) ∧ w = w' := by
  by_cases h1 : 128 ≤ n
  · by_cases h2 : n ≤ 4096
    · have h0 : 0 ≤ n := by omega
      by_cases h3 : n % 64 = 0
      · have h4 : (n % 64 == 0) = true := by simpa using h3
        have HG := Lib.hid (show goodSize n = true by simp [goodSize, h1, h2, h3])
        clear h3
        go_enter Try.func30, Try.ntmps30
        go_wp2
        go_ret
        exact ⟨by rw [HG.out]; rfl, rfl⟩
      · have h4 : (n % 64 == 0) = false := by simpa using h3
        have HG := Lib.hid (show goodSize n = false by simp [goodSize, h1, h2, h4])
        clear h3
        go_enter Try.func30, Try.ntmps30
        go_wp2
        go_ret
        exact ⟨by rw [HG.out]; rfl, rfl⟩
    · have HG := Lib.hid (show goodSize n = false by simp [goodSize, h2])
      go_enter Try.func30, Try.ntmps30
      go_wp2
      go_ret
      exact ⟨by rw [HG.out]; rfl, rfl⟩
  · have HG := Lib.hid (show goodSize n = false by simp [goodSize, h1])
    go_enter Try.func30, Try.ntmps30
    go_wp2
    go_ret
    exact ⟨by rw [HG.out]; rfl, rfl⟩

theorem rroom_yes (size : Int) (w : World) (h : goodSize size = true) :
    Calls Try.prog 19 #[.int .i64 size] w fun e w' => e = .returned (.int .i64 (size - 24)) ∧ w = w' := by
  obtain ⟨n, rfl, h1, h2, h3⟩ := good_nat h
  go_enter Try.func19, Try.ntmps19
  go_wp2_with (go_at_call 30; refine (rgood_any _ _).mono ?_; rw [h]; rintro e w' ⟨rfl, rfl⟩)
  go_ret
  exact ⟨rfl, rfl⟩
theorem rroom_no (size : Int) (w : World) (h : goodSize size = false) :
    Calls Try.prog 19 #[.int .i64 size] w fun e w' => e = .returned (.int .i64 0) ∧ w = w' := by
  go_enter Try.func19, Try.ntmps19
  go_wp2_with (go_at_call 30; refine (rgood_any _ _).mono ?_; rw [h]; rintro e w' ⟨rfl, rfl⟩)
  go_ret
  exact ⟨rfl, rfl⟩
theorem rgood_is (n : Int) (b : Bool) (w : World) (h : goodSize n = b) : Calls Try.prog 30 #[.int .i64 n] w fun e w' => e = .returned (.bool b) ∧ w' = w :=
  (rgood_any n w).mono fun _ _ ⟨a, b⟩ => ⟨by rw [← h]; exact a, b.symm⟩
theorem rroom_is (n : Int) (w : World) (h : goodSize n = true) : Calls Try.prog 19 #[.int .i64 n] w fun e w' => e = .returned (.int .i64 (n - 24)) ∧ w' = w :=
  (rroom_yes n w h).mono fun _ _ ⟨a, b⟩ => ⟨a, b.symm⟩
end Go.Proofs.Ytnpockkhefbjoaa
