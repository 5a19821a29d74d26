/-
  Contract of the reference's Page of layer 8: the page of items.
-/
import Derived.Test.YtgnpldlgdapehaaJ17
import Derived.Test.YtgnpldlgdapehaaJ25
import Derived.Test.YtgnpldlgdapehaaJ15
import Derived.Lib.AppendStr
import Derived.Deep.CutRange
set_option linter.unusedVariables false
set_option linter.unusedSimpArgs false
namespace Go.Proofs.Ytgnpldlgdapehaa
open Go.RowKit
open Go.Lib hiding intOf
attribute [local go_sem ↓] Go.wp_at_zero Go.wp_at_succ

theorem allOkI_near {l : List It} (h : allOkI l = true) : NearI l := fun b hb => by
 have h1 := allOkI_mem h hb
 have h2 := okIt_key h1
 unfold okIt at h1
 split at h1 <;> simp only [Bool.and_eq_true, decide_eq_true_eq] at h1 <;> exact ⟨by omega, by omega⟩
end Go.Proofs.Ytgnpldlgdapehaa

