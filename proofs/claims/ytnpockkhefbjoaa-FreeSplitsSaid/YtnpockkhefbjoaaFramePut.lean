/-
  Contracts of package frame's header and Put, each with its conditions in its own statement: the bytes of a page.
-/
import Derived.Test.YtnpockkhefbjoaaFrameValid
namespace Go.Proofs.Ytnpockkhefbjoaa
open Go.RowKit
open Go.Lib
set_option linter.unusedVariables false
set_option linter.unusedSimpArgs false
attribute [local go_sem ↓] Go.wp_at_zero Go.wp_at_succ

/-- What stands between the checksum and the body. -/
def headL (kd ct pg lk tx : Nat) : List UInt8 := leBytes 1 kd ++ leBytes 1 1 ++ leBytes 2 ct ++ leBytes 4 pg ++ leBytes 4 lk ++ leBytes 8 tx
theorem headL_len (kd ct pg lk tx : Nat) : (headL kd ct pg lk tx).length = 20 := by simp [headL, leB_len]
theorem reads_nil (w : World) : Reads w w.heap.size 1 none 0 (bcells []) := Reads.none_
theorem u64_nat (n : Nat) (h : n < 18446744073709551616) : IntKind.u64.wrap (n : Int) = (n : Int) := by rw [IntKind.wrap_u64]; omega

theorem put_reads (A : Option Addr) (n c num k : Nat) (l : List UInt8) (w : World) (hr : Reads w w.heap.size 1 A n (bcells l)) (hn : n + 8 ≤ 140737488355328) (h1 : 1 ≤ k) (h2 : k ≤ 8) :
    Calls Try.prog 38 #[.slice A n c, .int .u64 num, .int .i64 k] w fun e w' => ∃ A' c', e = .returned (.slice A' (n + k) c') ∧ Reads w' w'.heap.size 1 A' (n + k) (bcells (l ++ leBytes k num)) ∧ Below w.heap.size w w' :=
  (put_yes A n c num k l w hr hn h1 h2).mono fun _ _ ⟨v, he, ho, hb⟩ => by
    obtain ⟨A', c', rfl, _⟩ := own_form ho
    exact ⟨A', c', he, Reads.of_own ho, hb⟩

end Go.Proofs.Ytnpockkhefbjoaa
