/-
  Contracts of what the statements call of the kit's own: Times and Pick.
-/
import Derived.Test.YtgnpldlgdapehaaJ1
import Derived.Test.YtgnpldlgdapehaaJ4
import Derived.Test.YtgnpldlgdapehaaJ5
set_option linter.unusedVariables false
set_option linter.unusedSimpArgs false
namespace Go.Proofs.Ytgnpldlgdapehaa
open Go.RowKit
open Go.Lib

theorem pick_any (x : Int) (m : Nat) (w : World) (h0 : 1 ≤ m) (hm : m ≤ 1000000) :
  Calls Try.prog 24 #[.int .i64 x, .int .i64 m] w fun e w' => e = .returned (.int .i64 (x % m)) ∧ w = w' := by
 have h1 : ¬ (m : Int) < 1 := by omega
 have h3 : (m : Int) ≠ 0 := by omega
 by_cases ht : x.tmod m < 0
 ·obtain ⟨he, hlo⟩ := tmod_lt0 x m h0 ht
  have HE := Lib.hid he
  clear he
  go_enter Try.func24, Try.ntmps24
  go_wp2
  go_ret
  refine ⟨?_, rfl⟩
  rw [← HE.out]; rfl
 ·have he := tmod_ge0 x m h0 (by omega)
  have HE := Lib.hid he
  clear he
  go_enter Try.func24, Try.ntmps24
  go_wp2
  go_ret
  refine ⟨?_, rfl⟩
  rw [← HE.out]; rfl

end Go.Proofs.Ytgnpldlgdapehaa

