/-
  Contract of the reference of layer 8: May. (Written by wip/tools/gen_ref8may.py.)
-/
import Derived.Test.YtgnpldlgdapehaaJ18
import Derived.Test.YtgnpldlgdapehaaJ2
import Derived.Deep.CutRange
import Derived.Deep.RegionHeld3
set_option linter.unusedVariables false
set_option linter.unusedSimpArgs false
namespace Go.Proofs.Ytgnpldlgdapehaa
open Go.RowKit
open Go.Lib hiding intOf
attribute [local go_sem ↓] Go.wp_at_zero Go.wp_at_succ

end Go.Proofs.Ytgnpldlgdapehaa

