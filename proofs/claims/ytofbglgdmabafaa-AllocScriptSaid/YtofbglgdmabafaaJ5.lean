/-
  Texts that the main proof rests on, put together: Ref6May, Fn. No statement is proved here.
-/
import Derived.Test.YtofbglgdmabafaaJ4
import Derived.Deep.CutRange
import Derived.Deep.QuietTactic
import Derived.BigQuiet
import Derived.Test.YtofbglgdmabafaaJ2
import Derived.Test.YtofbglgdmabafaaJ3
namespace Go.Proofs.Ytofbglgdmabafaa
open Go.RowKit
open Go.Lib hiding intOf
set_option linter.unusedVariables false
set_option linter.unusedSimpArgs false
attribute [local go_sem ↓] Go.wp_at_zero Go.wp_at_succ

def numB (n : Nat) : Bool := decide (2 ≤ n ∧ n ≤ 2147483647)
theorem rnumB_any (n : Nat) (w : World) : Calls Try.prog 63 #[.int .u32 n] w fun e w' => e = .returned (.bool (numB n)) ∧ w' = w := by
  by_cases h1 : 2 ≤ n
  · have h1' : (2 : Int) ≤ n := by omega
    by_cases h2 : n ≤ 2147483647
    · have h2' : (n : Int) ≤ 2147483647 := by omega
      have HE := Lib.hid (show numB n = true by simp [numB, h1, h2])
      go_enter Try.func63, Try.ntmps63
      go_wp2
      go_ret
      exact ⟨by rw [HE.out]; rfl, rfl⟩
    · have h2' : ¬ (n : Int) ≤ 2147483647 := by omega
      have HE := Lib.hid (show numB n = false by simp [numB, h1, h2])
      go_enter Try.func63, Try.ntmps63
      go_wp2
      go_ret
      exact ⟨by rw [HE.out]; rfl, rfl⟩
  · have h1' : ¬ (2 : Int) ≤ n := by omega
    have HE := Lib.hid (show numB n = false by simp [numB, h1])
    go_enter Try.func63, Try.ntmps63
    go_wp2
    go_ret
    exact ⟨by rw [HE.out]; rfl, rfl⟩
end Go.Proofs.Ytofbglgdmabafaa

namespace Go.Proofs.Ytofbglgdmabafaa
open Go.RowKit
open Go.Lib hiding intOf
set_option linter.unusedVariables false
set_option linter.unusedSimpArgs false

def nthU (l : List Nat) (i : Nat) : Nat := (l[i]?).getD 0
/-- Numbers of 32 bits as cells. -/
def ucells (l : List Nat) : List Value := l.map fun (n : Nat) => Value.int .u32 (n : Int)
/-- Strictly increasing. -/
def ascU (l : List Nat) : Bool := (List.range (l.length - 1)).all fun i => decide (nthU l i < nthU l (i + 1))
def allU (l : List Nat) : Bool := l.all numB
theorem ucells_length (l : List Nat) : (ucells l).length = l.length := by simp [ucells]
theorem ucells_append (l m : List Nat) : ucells (l ++ m) = ucells l ++ ucells m := by simp [ucells]
theorem ucells_one (l : List Nat) : ∀ u ∈ ucells l, u.oneCell' = true := by
  intro u hu
  obtain ⟨s, _, rfl⟩ := List.mem_map.1 hu
  rfl
theorem ucells_at {l : List Nat} {k : Nat} {n : Nat} (h : l[k]? = some n) : (ucells l)[k]? = some (.int .u32 n) := by
  unfold ucells; rw [List.getElem?_map, h]; rfl
theorem nthU_of {l : List Nat} {k n : Nat} (h : l[k]? = some n) : nthU l k = n := by unfold nthU; rw [h]; rfl
theorem nthU_at {l : List Nat} {k : Nat} (h : k < l.length) : l[k]? = some (nthU l k) := by unfold nthU; rw [List.getElem?_eq_getElem h]; rfl
theorem ascU_iff {l : List Nat} : ascU l = true ↔ ∀ i, i + 1 < l.length → nthU l i < nthU l (i + 1) := by
  unfold ascU
  rw [List.all_eq_true]
  constructor
  · intro h i hi
    have := h i (List.mem_range.2 (by omega))
    simpa using this
  · intro h i hi
    have := h i (by have := List.mem_range.1 hi; omega)
    simpa using this
theorem ascU_no {l : List Nat} {i : Nat} (hi : i + 1 < l.length) (h : ¬ nthU l i < nthU l (i + 1)) : ascU l = false := by
  rw [Bool.eq_false_iff]
  intro ha
  exact h (ascU_iff.1 ha i hi)
theorem allU_iff {l : List Nat} : allU l = true ↔ ∀ n, n ∈ l → numB n = true := by unfold allU; rw [List.all_eq_true]
theorem allU_at {l : List Nat} : allU l = true ↔ ∀ i, i < l.length → numB (nthU l i) = true := by
  rw [allU_iff]
  constructor
  · intro h i hi
    exact h _ (List.mem_of_getElem? (nthU_at hi))
  · intro h n hn
    obtain ⟨i, hi, rfl⟩ := List.getElem_of_mem hn
    have := h i hi
    rwa [nthU_of (List.getElem?_eq_getElem hi)] at this
theorem allU_no {l : List Nat} {i : Nat} (hi : i < l.length) (h : numB (nthU l i) = false) : allU l = false := by
  rw [Bool.eq_false_iff]
  intro ha
  rw [allU_at.1 ha i hi] at h
  cases h
end Go.Proofs.Ytofbglgdmabafaa

