/-
  The contracts of package catalog together: Name, Find, Size, Set, Del, Page, Of (in CatSmall, CatFind, CatOps, CatPage, CatRead). No statement is proved here.
-/
import Derived.Test.YtgljmcameeeaiaaCatRead
namespace Go.Proofs.Ytgljmcameeeaiaa
theorem catImpl_here : True := trivial
end Go.Proofs.Ytgljmcameeeaiaa
