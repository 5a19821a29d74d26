/-
  Two rows of the call's own, next to each other: an append to one leaves the other. Plain lemmas; no statement is proved here.
-/
import Derived.Test.YtofbglgdmabafaaJ7
import Derived.Test.YtofbglgdmabafaaJ4
namespace Go.Proofs.Ytofbglgdmabafaa
open Go.RowKit
open Go.Lib
set_option linter.unusedVariables false
set_option linter.unusedSimpArgs false

/-- Two slices lie in different blocks. -/
def Apart (v b : Value) : Prop := ∀ g, v.ownBlock = some g → b.ownBlock ≠ some g
theorem Apart.symm {v b : Value} (h : Apart v b) : Apart b v := fun g h1 h2 => h g h2 h1
theorem Apart.nil (b : Value) : Apart (.slice none 0 0) b := fun g h => by simp [Value.ownBlock] at h
theorem Apart.grow {w : World} {base : Nat} {e : TypeId} {size : Nat} {v v' b : Value} {m : Nat} {ys : List Value} (h : Apart v b) (hb : w.ownsRow base e size b m ys) (hat : v'.ownBlock = v.ownBlock ∨ v'.ownBlock = some w.heap.size) : Apart v' b := fun g h1 h2 => by
  rcases hat with hat | hat
  · exact h g (hat ▸ h1) h2
  · rw [h1] at hat
    injection hat with hat
    have := (hb.lt g h2).2
    omega
theorem Apart.keeps {w w' : World} {base : Nat} {e : TypeId} {size : Nat} {v b : Value} {m : Nat} {ys : List Value} (h : Apart v b) (hb : w.ownsRow base e size b m ys) (hg : w.grownBy w' v.ownBlock) : w'.ownsRow base e size b m ys := by
  refine hb.kept hg ?_
  rcases hk : b.ownBlock with _ | g
  · exact .inl rfl
  · refine .inr fun he => ?_
    exact h g he.symm hk
end Go.Proofs.Ytofbglgdmabafaa

