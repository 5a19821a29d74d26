/-
  Contracts of package frame's header and Put, each with its conditions in its own statement: the bytes of a page.
-/
import Derived.Test.YtihhchncglnbiaaFrameValid
namespace Go.Proofs.Ytihhchncglnbiaa
open Go.RowKit
open Go.Lib
set_option linter.unusedVariables false
set_option linter.unusedSimpArgs false
attribute [local go_sem ↓] Go.wp_at_zero Go.wp_at_succ

/-- What stands between the checksum and the body. -/
def headL (kd ct pg lk tx : Nat) : List UInt8 := leBytes 1 kd ++ leBytes 1 1 ++ leBytes 2 ct ++ leBytes 4 pg ++ leBytes 4 lk ++ leBytes 8 tx
theorem headL_len (kd ct pg lk tx : Nat) : (headL kd ct pg lk tx).length = 20 := by simp [headL, leB_len]
theorem reads_nil (w : World) : Reads w w.heap.size 1 none 0 (bcells []) := Reads.none_
theorem u64_nat (n : Nat) (h : n < 18446744073709551616) : IntKind.u64.wrap (n : Int) = (n : Int) := by rw [IntKind.wrap_u64]; omega

end Go.Proofs.Ytihhchncglnbiaa
