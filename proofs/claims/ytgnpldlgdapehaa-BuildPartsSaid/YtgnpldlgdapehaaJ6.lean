/-
  Contracts of what the statements call of the kit's own: Times and Pick.
-/
import Derived.Test.YtgnpldlgdapehaaJ1
import Derived.Test.YtgnpldlgdapehaaJ2
import Derived.Test.YtgnpldlgdapehaaJ5
set_option linter.unusedVariables false
set_option linter.unusedSimpArgs false
namespace Go.Proofs.Ytgnpldlgdapehaa
open Go.RowKit
open Go.Lib

end Go.Proofs.Ytgnpldlgdapehaa

