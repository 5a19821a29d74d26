/-
  Calls of an allocation, one after the other (the statements' call): its contract, with its conditions in its own statement.
-/
import Derived.Test.YtofbglgdmabafaaJ34
namespace Go.Proofs.Ytofbglgdmabafaa
open Go.RowKit
open Go.Lib hiding intOf
set_option linter.unusedVariables false
set_option linter.unusedSimpArgs false
attribute [local go_sem ↓] Go.wp_at_zero Go.wp_at_succ

end Go.Proofs.Ytofbglgdmabafaa

