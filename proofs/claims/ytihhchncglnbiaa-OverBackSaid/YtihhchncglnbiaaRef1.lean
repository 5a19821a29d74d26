/-
  Contracts of the reference's functions of layer 1 (New, Number, Bytes, Left, Put, Zero), each with its conditions in its own statement.
-/
import Derived.Test.YtihhchncglnbiaaOctet
namespace Go.Proofs.Ytihhchncglnbiaa
open Go.RowKit Go.Lib
set_option linter.unusedVariables false
set_option linter.unusedSimpArgs false

end Go.Proofs.Ytihhchncglnbiaa
