/-
  Contracts of the functions of package crc (Table, Of, More and what they call), and of the reference's: what a call returns and what becomes of memory.
-/
import Derived.Test.YtgnpldlgdapehaaJ1
import Derived.Test.YtgnpldlgdapehaaJ4
import Derived.Test.YtgnpldlgdapehaaJ9
import Derived.Deep.WholeRow
set_option linter.unusedVariables false
set_option linter.unusedSimpArgs false
namespace Go.Proofs.Ytgnpldlgdapehaa
open Go.RowKit Go.Lib

theorem below_setRow {B : Nat} {a w : World} (h : Below B a w) {g : Nat} (hg : B ≤ g) (cs : Array Value) : Below B a (w.setRow g cs) :=
 ⟨h.os, h.tape, h.output, by rw [setRow_size]; exact h.size, fun k hk => (setRow_other _ _ _ _ (by omega)).trans (h.block k hk)⟩
end Go.Proofs.Ytgnpldlgdapehaa

