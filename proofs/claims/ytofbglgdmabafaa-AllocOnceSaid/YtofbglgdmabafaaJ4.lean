/-
  Texts that the main proof rests on, put together: FrameValid, Ref4May, StructRows, Bk, Ref6Find, Ref6May, Fn. No statement is proved here.
-/
import Derived.Test.YtofbglgdmabafaaJ3
import Derived.Test.YtofbglgdmabafaaJ1
import Derived.Sort.Walk0
import Derived.Deep.DrawnRows
import Derived.Lib.Hide
import Derived.Deep.CutRange
import Derived.Deep.QuietTactic
import Derived.BigQuiet
import Derived.Test.YtofbglgdmabafaaJ2
namespace Go.Proofs.Ytofbglgdmabafaa
open Go.RowKit
open Go.Lib
set_option linter.unusedVariables false
set_option linter.unusedSimpArgs false
attribute [local go_sem ↓] Go.wp_at_zero Go.wp_at_succ

end Go.Proofs.Ytofbglgdmabafaa

namespace Go.Proofs.Ytofbglgdmabafaa
open Go.RowKit
open Go.Lib
set_option linter.unusedVariables false
set_option linter.unusedSimpArgs false
attribute [local go_sem ↓] Go.wp_at_zero Go.wp_at_succ

end Go.Proofs.Ytofbglgdmabafaa

namespace Go.Proofs.Ytofbglgdmabafaa
open Go.RowKit
set_option linter.unusedVariables false
set_option linter.unusedSimpArgs false

section
variable {α : Type} {f : α → List Value} {k : Nat}
end
end Go.Proofs.Ytofbglgdmabafaa

namespace Go.Proofs.Ytofbglgdmabafaa
open Go.RowKit
set_option linter.unusedVariables false
set_option linter.unusedSimpArgs false

structure Bk where
  nm : ByteArray
  rt : Nat
  ks : Int
def Bk.cells (b : Bk) : List Value := [.string b.nm, .int .u32 b.rt, .int .i64 b.ks]
/-- A bucket's cells stand at p. -/
def BkAt (w : World) (p : Addr) (b : Bk) : Prop := w.cell? p = some (.string b.nm) ∧ w.cell? ⟨p.block, p.off + 1, none⟩ = some (.int .u32 b.rt) ∧ w.cell? ⟨p.block, p.off + 2, none⟩ = some (.int .i64 b.ks)
theorem BkAt.below {w w' : World} {B : Nat} {p : Addr} {b : Bk} (h : BkAt w p b) (hb : Below B w w') (hp : p.block < B) : BkAt w' p b :=
  ⟨(hb.cell (p := p) hp).trans h.1, (hb.cell (p := ⟨p.block, p.off + 1, none⟩) hp).trans h.2.1, (hb.cell (p := ⟨p.block, p.off + 2, none⟩) hp).trans h.2.2⟩
end Go.Proofs.Ytofbglgdmabafaa

namespace Go.Proofs.Ytofbglgdmabafaa
open Go.RowKit
open Go.Lib hiding intOf
set_option linter.unusedVariables false
set_option linter.unusedSimpArgs false
attribute [local go_sem ↓] Go.wp_at_zero Go.wp_at_succ

end Go.Proofs.Ytofbglgdmabafaa

namespace Go.Proofs.Ytofbglgdmabafaa
open Go.RowKit
open Go.Lib hiding intOf
set_option linter.unusedVariables false
set_option linter.unusedSimpArgs false
attribute [local go_sem ↓] Go.wp_at_zero Go.wp_at_succ

end Go.Proofs.Ytofbglgdmabafaa

namespace Go.Proofs.Ytofbglgdmabafaa
open Go.RowKit
open Go.Lib hiding intOf
set_option linter.unusedVariables false
set_option linter.unusedSimpArgs false

def nthU (l : List Nat) (i : Nat) : Nat := (l[i]?).getD 0
/-- Numbers of 32 bits as cells. -/
def ucells (l : List Nat) : List Value := l.map fun (n : Nat) => Value.int .u32 (n : Int)
/-- Strictly increasing. -/
def ascU (l : List Nat) : Bool := (List.range (l.length - 1)).all fun i => decide (nthU l i < nthU l (i + 1))
theorem ucells_length (l : List Nat) : (ucells l).length = l.length := by simp [ucells]
theorem ucells_append (l m : List Nat) : ucells (l ++ m) = ucells l ++ ucells m := by simp [ucells]
theorem ucells_one (l : List Nat) : ∀ u ∈ ucells l, u.oneCell' = true := by
  intro u hu
  obtain ⟨s, _, rfl⟩ := List.mem_map.1 hu
  rfl
theorem ucells_at {l : List Nat} {k : Nat} {n : Nat} (h : l[k]? = some n) : (ucells l)[k]? = some (.int .u32 n) := by
  unfold ucells; rw [List.getElem?_map, h]; rfl
theorem nthU_at {l : List Nat} {k : Nat} (h : k < l.length) : l[k]? = some (nthU l k) := by unfold nthU; rw [List.getElem?_eq_getElem h]; rfl
theorem ascU_iff {l : List Nat} : ascU l = true ↔ ∀ i, i + 1 < l.length → nthU l i < nthU l (i + 1) := by
  unfold ascU
  rw [List.all_eq_true]
  constructor
  · intro h i hi
    have := h i (List.mem_range.2 (by omega))
    simpa using this
  · intro h i hi
    have := h i (by have := List.mem_range.1 hi; omega)
    simpa using this
theorem ascU_no {l : List Nat} {i : Nat} (hi : i + 1 < l.length) (h : ¬ nthU l i < nthU l (i + 1)) : ascU l = false := by
  rw [Bool.eq_false_iff]
  intro ha
  exact h (ascU_iff.1 ha i hi)
end Go.Proofs.Ytofbglgdmabafaa

