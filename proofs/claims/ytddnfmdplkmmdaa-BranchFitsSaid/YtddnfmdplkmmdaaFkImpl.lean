/-
  The contracts of package branch that the walks of layer 7's statements rest on: bkey_any, bsize_any, bpick_any (BrSmall), bpage7_no, bpage7_yes (BrPage), bof7_any (BrOf).
-/
import Derived.Test.YtddnfmdplkmmdaaBrOf
import Derived.Test.YtddnfmdplkmmdaaFkMath
import Derived.Test.YtddnfmdplkmmdaaRef7Of
