/-
  Plain lemmas on CRC-32C: one step of one bit over all natural numbers, the byte-wise checksum, its linearity, and that bits within 32 consecutive ones change it. Nothing here speaks of the program; no statement is proved here.
-/
import Derived.Lib.Endian
set_option linter.unusedVariables false
set_option linter.unusedSimpArgs false
namespace Go.Proofs.Ytgnpldlgdapehaa
open Go.Lib

def st (n : Nat) : Nat := (n >>> 1) ^^^ (if n % 2 = 1 then 0x82f63b78 else 0)
def stn : Nat → Nat → Nat
 | 0, n => n
 | k + 1, n => stn k (st n)

def upd (n : Nat) (b : UInt8) : Nat := stn 8 (n ^^^ b.toNat)
def run (n : Nat) (l : List UInt8) : Nat := l.foldl upd n

/-! Bits of byte rows. -/
def lowAt (b p i : Nat) : Nat := (b % 2 ^ i) * 2 ^ p
def turned (l : List UInt8) (b p i : Nat) : List UInt8 := List.zipWith (· ^^^ ·) l (Lib.leBytes l.length (lowAt b p i))
end Go.Proofs.Ytgnpldlgdapehaa

