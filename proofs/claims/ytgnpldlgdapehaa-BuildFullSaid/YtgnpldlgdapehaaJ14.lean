/-
  Contracts of the reference's functions of layer 1 (New, Number, Bytes, Left, Put, Zero), each with its conditions in its own statement.
-/
import Derived.Test.YtgnpldlgdapehaaJ8
set_option linter.unusedVariables false
set_option linter.unusedSimpArgs false
namespace Go.Proofs.Ytgnpldlgdapehaa
open Go.RowKit Go.Lib
set_option maxRecDepth 100000

end Go.Proofs.Ytgnpldlgdapehaa

