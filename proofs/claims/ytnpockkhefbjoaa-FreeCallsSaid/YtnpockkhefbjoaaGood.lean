/-
  Contracts of package device's Good: which page sizes are good.
-/
import Derived.Test.YtnpockkhefbjoaaWords
namespace Go.Proofs.Ytnpockkhefbjoaa
open Go.RowKit
open Go.Lib
set_option linter.unusedVariables false
set_option linter.unusedSimpArgs false

/-- A page size is good. -/
def goodSize (n : Int) : Bool := decide (128 ≤ n) && decide (n ≤ 4096) && n % 64 == 0
theorem dgood_any (n : Int) (w : World) :
    Calls Try.prog 37 #[.int .i64 n] w fun e w' => e = .returned (.bool (goodSize n)) ∧ w = w' := by
  by_cases h1 : 128 ≤ n
  · by_cases h2 : n ≤ 4096
    · have h0 : 0 ≤ n := by omega
      by_cases h3 : n % 64 = 0
      · have h4 : (n % 64 == 0) = true := by simpa using h3
        have HG := Lib.hid (show goodSize n = true by simp [goodSize, h1, h2, h3])
        clear h3
        go_enter Try.func37, Try.ntmps37
        go_wp2
        go_ret
        exact ⟨by rw [HG.out]; rfl, rfl⟩
      · have h4 : (n % 64 == 0) = false := by simpa using h3
        have HG := Lib.hid (show goodSize n = false by simp [goodSize, h1, h2, h4])
        clear h3
        go_enter Try.func37, Try.ntmps37
        go_wp2
        go_ret
        exact ⟨by rw [HG.out]; rfl, rfl⟩
    · have HG := Lib.hid (show goodSize n = false by simp [goodSize, h2])
      go_enter Try.func37, Try.ntmps37
      go_wp2
      go_ret
      exact ⟨by rw [HG.out]; rfl, rfl⟩
  · have HG := Lib.hid (show goodSize n = false by simp [goodSize, h1])
    go_enter Try.func37, Try.ntmps37
    go_wp2
    go_ret
    exact ⟨by rw [HG.out]; rfl, rfl⟩

theorem good_pos {size : Nat} (h : goodSize size = true) : 128 ≤ size ∧ size ≤ 4096 := by
  simp [goodSize] at h
  omega
end Go.Proofs.Ytnpockkhefbjoaa
