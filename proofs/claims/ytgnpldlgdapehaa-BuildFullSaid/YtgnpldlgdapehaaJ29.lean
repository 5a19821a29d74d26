/-
  Contract of the reference's Cut of layer 13.
-/
import Derived.Test.YtgnpldlgdapehaaJ7
set_option linter.unusedVariables false
set_option linter.unusedSimpArgs false
namespace Go.Proofs.Ytgnpldlgdapehaa
open Go.RowKit
attribute [local go_sem ↓] Go.wp_at_zero Go.wp_at_succ

end Go.Proofs.Ytgnpldlgdapehaa

