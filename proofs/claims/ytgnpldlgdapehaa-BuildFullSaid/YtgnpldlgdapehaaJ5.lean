/-
  Plain lemmas on files of pages: bytes, pages of bytes, writes and truncations. Nothing here speaks of the program; no statement is proved here.
-/
import Derived.Lib.Strings
set_option linter.unusedVariables false
set_option linter.unusedSimpArgs false
namespace Go.Proofs.Ytgnpldlgdapehaa

/-! On bytes. -/
/-! On pages. -/
structure Img where
 pages : List ByteArray
 rest : ByteArray
def zs (n : Nat) : ByteArray := ⟨(List.replicate n (0 : UInt8)).toArray⟩
theorem size_list (s : ByteArray) : s.data.toList.length = s.size := by simp

section
variable {size : Nat} {m : Img}
end
end Go.Proofs.Ytgnpldlgdapehaa

