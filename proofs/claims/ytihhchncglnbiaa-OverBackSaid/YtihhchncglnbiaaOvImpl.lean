/-
  The contracts of package over, and of the statements' parts over its iterator, together: oneed_any (OvSmall), opage9_no, opage9_yes (OvPage), oof9_any (OvOf), lparts_any (OvIter).
-/
import Derived.Test.YtihhchncglnbiaaOvSmall
import Derived.Test.YtihhchncglnbiaaOvPage
import Derived.Test.YtihhchncglnbiaaOvOf
import Derived.Test.YtihhchncglnbiaaOvIter
import Derived.Test.YtihhchncglnbiaaRef9Of
import Derived.Test.YtihhchncglnbiaaRef9Parts
namespace Go.Proofs.Ytihhchncglnbiaa
end Go.Proofs.Ytihhchncglnbiaa
