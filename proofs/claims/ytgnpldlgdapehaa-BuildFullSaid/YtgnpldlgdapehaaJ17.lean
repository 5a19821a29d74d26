/-
  An item page's body as plain data, and items read from bytes; plain lemmas. No statement is proved here.
-/
import Derived.Test.YtgnpldlgdapehaaJ15
import Derived.Test.YtgnpldlgdapehaaJ11
set_option linter.unusedVariables false
set_option linter.unusedSimpArgs false
namespace Go.Proofs.Ytgnpldlgdapehaa
open Go.RowKit
open Go.Lib hiding intOf

def It.tail (b : It) : List UInt8 := if b.ov then Go.leBytes 4 b.ln.toNat ++ Go.leBytes 4 b.hd else Go.leBytes 1 b.vl.size ++ b.vl.data.toList
def It.bytes (b : It) : List UInt8 := Go.leBytes 1 (if b.ov then 1 else 0) ++ (Go.leBytes 1 b.ky.size ++ (b.ky.data.toList ++ b.tail))
def bytesI (l : List It) : List UInt8 := l.flatMap It.bytes
theorem bytesI_take_succ {l : List It} {k : Nat} {x : It} (h : l[k]? = some x) : bytesI (l.take (k + 1)) = bytesI (l.take k) ++ x.bytes := by
 obtain ⟨hk, rfl⟩ := List.getElem?_eq_some_iff.1 h
 rw [List.take_succ_eq_append_getElem hk]
 simp only [bytesI, List.flatMap_append, List.flatMap_cons, List.flatMap_nil, List.append_nil]
def itemBody (size : Nat) (l : List It) : ByteArray := ⟨(bytesI l ++ List.replicate (size - 24 - sizeI l) 0).toArray⟩
theorem sizeI_mem {l : List It} {b : It} (h : b ∈ l) : oneI b ≤ sizeI l := by
 induction l with
 | nil => cases h
 | cons c l ih =>
  simp only [sizeI]
  rcases List.mem_cons.1 h with rfl | h
  ·omega
  ·have := ih h; omega
theorem okIt_key {b : It} (h : okIt b = true) : b.ky.size ≤ 40 := by
 unfold okIt at h
 split at h <;> simp only [keyF, Bool.and_eq_true, decide_eq_true_eq] at h <;> exact h.1
def mayP8 (size : Int) (n tx : Nat) (l : List It) : Bool := goodSize size && (mayI l && (decide ((sizeI l : Int) ≤ size - 24) && (numB n && decide (tx ≤ 4611686018427387904))))
theorem mayP8_parts {z n tx : Nat} {l : List It} (h : mayP8 z n tx l = true) : allOkI l = true ∧ 0 < l.length ∧ goodSize z = true ∧ (sizeI l ≤ z - 24 ∧ 24 ≤ z) ∧ (2 ≤ n ∧ n ≤ 2147483647) ∧ tx ≤ 4611686018427387904 := by
 simp only [mayP8, mayI, numB, Bool.and_eq_true, decide_eq_true_eq] at h
 obtain ⟨h1, ⟨h2, h3⟩, h4, h5, h6⟩ := h
 have := good_pos h1
 exact ⟨h2, h3, h1, by omega, h5, h6⟩
theorem allOkI_mem {l : List It} (h : allOkI l = true) {b : It} (hb : b ∈ l) : okIt b = true := by
 obtain ⟨i, hi, rfl⟩ := List.mem_iff_getElem.1 hb
 exact allOkI_ok h (List.getElem?_eq_getElem hi)
end Go.Proofs.Ytgnpldlgdapehaa

