/-
  Contracts of package frame's valid: which pages are valid.
-/
import Derived.Test.YtnpockkhefbjoaaFrame
namespace Go.Proofs.Ytnpockkhefbjoaa
open Go.RowKit
open Go.Lib
set_option linter.unusedVariables false
set_option linter.unusedSimpArgs false
attribute [local go_sem ↓] Go.wp_at_zero Go.wp_at_succ

/-- A page is valid for a page size. -/
def mayPg (size kd ct : Int) (pg lk tx : Nat) (bd : ByteArray) : Bool := goodSize size && (decide (1 ≤ kd) && (decide (kd ≤ 6) && (decide (0 ≤ ct) && (decide (ct ≤ 65535) && (decide (pg ≤ 2147483647) && (decide (lk ≤ 2147483647) && (decide (tx ≤ 4611686018427387904) && decide ((bd.size : Int) = size - 24))))))))
theorem dgood_is (n : Int) (b : Bool) (w : World) (h : goodSize n = b) : Calls Try.prog 37 #[.int .i64 n] w fun e w' => e = .returned (.bool b) ∧ w' = w :=
  (dgood_any n w).mono fun _ _ ⟨a, b⟩ => ⟨by rw [← h]; exact a, b.symm⟩
theorem room_is (n : Int) (w : World) (h : goodSize n = true) : Calls Try.prog 29 #[.int .i64 n] w fun e w' => e = .returned (.int .i64 (n - 24)) ∧ w' = w :=
  (room_yes n w h).mono fun _ _ ⟨a, b⟩ => ⟨a, b.symm⟩
end Go.Proofs.Ytnpockkhefbjoaa
