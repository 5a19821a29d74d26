/-
  A slice of buckets, and a bucket by value, that came in, read as plain data; each with its conditions in its own statement.
-/
import Derived.Test.YtnpockkhefbjoaaBk
import Derived.Deep.Slices
import Derived.ChangeSame
import Derived.SizedLaws
namespace Go.Proofs.Ytnpockkhefbjoaa
open Go.RowKit Go.ChangeShapes Go.WideShapes
open Go.Deep (open_slice choose_lt)
set_option linter.unusedVariables false
set_option linter.unusedSimpArgs false

instance : Inhabited Bk := ⟨⟨⟨#[]⟩, 0, 0⟩⟩
/-- What is known of a bucket that came in. -/
def BkOk (b : Bk) : Prop := b.nm.size ≤ maxLen ∧ b.rt < 4294967296 ∧ -9223372036854775808 ≤ b.ks ∧ b.ks ≤ 9223372036854775807
/-- What is known of a slice of buckets that came in. -/
def Bks (w : World) (B : Nat) (A : Option Addr) (n c : Nat) (l : List Bk) : Prop := Reads w B 3 A n (bkc l) ∧ n ≤ c ∧ c ≤ maxLen ∧ n ≤ 4398046511104 ∧ ∀ b, b ∈ l → BkOk b ∧ b.nm.size ≤ 140737488351232
theorem lit_i64' {z : Int} (h : (Lit.int .i64 z).wf = true) : -9223372036854775808 ≤ z ∧ z ≤ 9223372036854775807 := by
  simp [Lit.wf, IntKind.min, IntKind.max, IntKind.signed, IntKind.bits] at h
  omega
theorem lit_u32' {z : Int} (h : (Lit.int .u32 z).wf = true) : 0 ≤ z ∧ z ≤ 4294967295 := by
  simp [Lit.wf, IntKind.min, IntKind.max, IntKind.signed, IntKind.bits] at h
  omega
section
variable {H : Type} {enc : TypeId × Value → H} {w : World} {base : Nat} {spare : Nat → Bool} {held : Bool}
theorem bks_weights {e : TypeId} {m : Nat} : ∀ {l : List (DataW H)} {d : DataW H}, d ∈ l → m ∈ d.weights Try.prog e → m ∈ DataW.weightsAll Try.prog e l
  | d0 :: l, d, hd, hm => by
    simp only [DataW.weightsAll, List.mem_append]
    rcases List.mem_cons.1 hd with rfl | hd
    · exact .inl hm
    · exact .inr (bks_weights hd hm)
end
end Go.Proofs.Ytnpockkhefbjoaa
