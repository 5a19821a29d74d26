/-
  The contracts of package free, named together. No statement is proved here.
-/
import Derived.Test.YtnpockkhefbjoaaFnPage
import Derived.Test.YtnpockkhefbjoaaFnOf
namespace Go.Proofs.Ytnpockkhefbjoaa
end Go.Proofs.Ytnpockkhefbjoaa
