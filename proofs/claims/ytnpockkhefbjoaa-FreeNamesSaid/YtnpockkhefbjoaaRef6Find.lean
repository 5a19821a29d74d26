/-
  Contracts of the reference of layer 6: Name, Size, Find.
-/
import Derived.Test.YtnpockkhefbjoaaBk
import Derived.Deep.DrawnRows
import Derived.Lib.Hide
namespace Go.Proofs.Ytnpockkhefbjoaa
open Go.RowKit
open Go.Lib hiding intOf
set_option linter.unusedVariables false
set_option linter.unusedSimpArgs false
attribute [local go_sem ↓] Go.wp_at_zero Go.wp_at_succ

/-- The size of buckets. -/
def sizeB : List Bk → Nat
  | [] => 0
  | b :: l => 9 + b.nm.size + sizeB l
theorem sizeB_snoc (l : List Bk) (b : Bk) : sizeB (l ++ [b]) = sizeB l + (9 + b.nm.size) := by
  induction l with
  | nil => simp [sizeB]
  | cons c l ih => simp only [List.cons_append, sizeB, ih]; omega
theorem sizeB_take_succ {l : List Bk} {k : Nat} {x : Bk} (h : l[k]? = some x) : sizeB (l.take (k + 1)) = sizeB (l.take k) + (9 + x.nm.size) := by
  obtain ⟨hk, rfl⟩ := List.getElem?_eq_some_iff.1 h
  rw [List.take_succ_eq_append_getElem hk, sizeB_snoc]
theorem sizeB_take_le (l : List Bk) : ∀ k, sizeB (l.take k) ≤ sizeB l := by
  intro k
  induction l generalizing k with
  | nil => simp [sizeB]
  | cons c l ih => cases k with
    | zero => simp [sizeB]
    | succ k => simp only [List.take_succ_cons, sizeB]; have := ih k; omega
end Go.Proofs.Ytnpockkhefbjoaa
