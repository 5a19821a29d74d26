/-
  Contracts of the reference's rest and Put of layer 4, each with its conditions in its own statement: the bytes of a page.
-/
import Derived.Test.YtnpockkhefbjoaaRef4May
import Derived.Test.YtnpockkhefbjoaaRef1
import Derived.Test.YtnpockkhefbjoaaFramePutP
namespace Go.Proofs.Ytnpockkhefbjoaa
open Go.RowKit
open Go.Lib
set_option linter.unusedVariables false
set_option linter.unusedSimpArgs false
attribute [local go_sem ↓] Go.wp_at_zero Go.wp_at_succ

end Go.Proofs.Ytnpockkhefbjoaa
