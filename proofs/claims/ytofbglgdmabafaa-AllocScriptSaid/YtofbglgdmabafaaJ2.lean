/-
  Texts that the main proof rests on, put together: Plain, Octet, CrcPlain, Crc, Good. No statement is proved here.
-/
import Derived.Lib.Endian
import Derived.Lib.EndianBits
import Derived.Laws.Bits64b
import Derived.Laws.BitsAllLaws
import Derived.Below
import Derived.Lib.Strings
import Derived.Test.YtofbglgdmabafaaJ1
import Derived.Deep.WholeRow
namespace Go.Proofs.Ytofbglgdmabafaa
open Go.Lib

/-! Go's '%' cuts towards nought. -/
/-! Parts of a string. -/
end Go.Proofs.Ytofbglgdmabafaa

namespace Go.Proofs.Ytofbglgdmabafaa
open Go.RowKit
open Go.Lib
theorem getElem_toList (s : ByteArray) (k : Nat) (h : k < s.size) : s.data.toList[k]'(by simpa using h) = s[k] := rfl
/-! The same, where the world behind is told by what it is good for: only the reader's block has turned. -/
end Go.Proofs.Ytofbglgdmabafaa

namespace Go.Proofs.Ytofbglgdmabafaa
open Go.Lib

/-- One step: halve; if the lowest bit was 1, exclusive-or with the polynomial. -/
def st (n : Nat) : Nat := (n >>> 1) ^^^ (if n % 2 = 1 then 0x82f63b78 else 0)
def stn : Nat → Nat → Nat
  | 0, n => n
  | k + 1, n => stn k (st n)

/-- One byte of the checksum's register. -/
def upd (n : Nat) (b : UInt8) : Nat := stn 8 (n ^^^ b.toNat)
def run (n : Nat) (l : List UInt8) : Nat := l.foldl upd n

/-! Bits of byte rows. -/
/-- The low i bits of b, from bit p on. -/
def lowAt (b p i : Nat) : Nat := (b % 2 ^ i) * 2 ^ p
/-- The bytes of l, those bits turned. -/
def turned (l : List UInt8) (b p i : Nat) : List UInt8 := List.zipWith (· ^^^ ·) l (Lib.leBytes l.length (lowAt b p i))
end Go.Proofs.Ytofbglgdmabafaa

namespace Go.Proofs.Ytofbglgdmabafaa
open Go.RowKit Go.Lib

end Go.Proofs.Ytofbglgdmabafaa

namespace Go.Proofs.Ytofbglgdmabafaa
open Go.RowKit
open Go.Lib
set_option linter.unusedVariables false
set_option linter.unusedSimpArgs false

end Go.Proofs.Ytofbglgdmabafaa

