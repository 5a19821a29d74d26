/-
  Mathematics of free numbers: rising lists cut, swapped, doubled; runs of numbers; how many fit. Plain lemmas; no statement is proved here.
-/
import Derived.Test.YtnpockkhefbjoaaFn
namespace Go.Proofs.Ytnpockkhefbjoaa
open Go.RowKit
open Go.Lib hiding intOf
set_option linter.unusedVariables false
set_option linter.unusedSimpArgs false

theorem nthU_take {l : List Nat} {k i : Nat} (h : i < k) : nthU (l.take k) i = nthU l i := by unfold nthU; rw [List.getElem?_take_of_lt h]
theorem nthU_drop {l : List Nat} {k i : Nat} : nthU (l.drop k) i = nthU l (k + i) := by unfold nthU; rw [List.getElem?_drop]
theorem ascU_take {l : List Nat} (h : ascU l = true) (k : Nat) : ascU (l.take k) = true := by
  rw [ascU_iff] at h ⊢
  intro i hi
  rw [List.length_take] at hi
  rw [nthU_take (by omega), nthU_take (by omega)]
  exact h i (by omega)
theorem ascU_drop {l : List Nat} (h : ascU l = true) (k : Nat) : ascU (l.drop k) = true := by
  rw [ascU_iff] at h ⊢
  intro i hi
  rw [List.length_drop] at hi
  rw [nthU_drop, nthU_drop]
  exact h (k + i) (by omega)
theorem allU_take {l : List Nat} (h : allU l = true) (k : Nat) : allU (l.take k) = true := by
  rw [allU_iff] at h ⊢
  exact fun n hn => h n (List.mem_of_mem_take hn)
theorem allU_drop {l : List Nat} (h : allU l = true) (k : Nat) : allU (l.drop k) = true := by
  rw [allU_iff] at h ⊢
  exact fun n hn => h n (List.mem_of_mem_drop hn)
/-- The first two swapped; the second one in the place of the first one. -/
def swapU (l : List Nat) : List Nat := (l.set 0 (nthU l 1)).set 1 (nthU l 0)
def dupU (l : List Nat) : List Nat := l.set 0 (nthU l 1)
theorem swapU_len (l : List Nat) : (swapU l).length = l.length := by simp [swapU]
theorem dupU_len (l : List Nat) : (dupU l).length = l.length := by simp [dupU]
theorem swapU_no {l : List Nat} (h : ascU l = true) (h2 : 2 ≤ l.length) : ascU (swapU l) = false := by
  have h1 : nthU l 0 < nthU l 1 := ascU_iff.1 h 0 (by omega)
  refine ascU_no (i := 0) (by rw [swapU_len]; omega) ?_
  have e0 : nthU (swapU l) 0 = nthU l 1 := nthU_of (by unfold swapU; rw [List.getElem?_set_ne (by decide), List.getElem?_set_self (by omega)])
  have e1 : nthU (swapU l) (0 + 1) = nthU l 0 := nthU_of (by unfold swapU; rw [List.getElem?_set_self (by rw [List.length_set]; omega)])
  rw [e0, e1]
  omega
theorem dupU_no {l : List Nat} (h2 : 2 ≤ l.length) : ascU (dupU l) = false := by
  refine ascU_no (i := 0) (by rw [dupU_len]; omega) ?_
  have e0 : nthU (dupU l) 0 = nthU l 1 := nthU_of (by unfold dupU; rw [List.getElem?_set_self (by omega)])
  have e1 : nthU (dupU l) (0 + 1) = nthU l 1 := nthU_of (by unfold dupU; rw [List.getElem?_set_ne (by decide)]; exact nthU_at (by omega))
  rw [e0, e1]
  omega
/-- Numbers one after the other. -/
def runU (N k : Nat) : List Nat := (List.range k).map (N + ·)
theorem runU_len (N k : Nat) : (runU N k).length = k := by simp [runU]
theorem runU_succ (N k : Nat) : runU N (k + 1) = runU N k ++ [N + k] := by unfold runU; rw [List.range_succ, List.map_append]; rfl
theorem runU_nth {N k i : Nat} (h : i < k) : nthU (runU N k) i = N + i := nthU_of (by unfold runU; rw [List.getElem?_map, List.getElem?_range h]; rfl)
theorem runU_asc (N k : Nat) : ascU (runU N k) = true := by
  rw [ascU_iff]
  intro i hi
  rw [runU_len] at hi
  rw [runU_nth (by omega), runU_nth (by omega)]
  omega
theorem runU_all {N k : Nat} (h : 2 ≤ N) (h2 : N + k ≤ 2147483648) : allU (runU N k) = true := by
  rw [allU_at]
  intro i hi
  rw [runU_len] at hi
  rw [runU_nth hi]
  unfold numB
  simp
  omega
theorem run_may {z N k : Nat} (hz : goodSize z = true) (h : 2 ≤ N) (h2 : N ≤ 1001) (hk : k ≤ 1100) : mayP10 z 2 0 0 (runU N k) = decide (k ≤ mostN z) := by
  unfold mayP10
  rw [hz, runU_all h (by omega), runU_asc, runU_len]
  simp [numB]
theorem need_one {z k : Nat} (hz : goodSize z = true) : decide (needF z k ≤ 1) = decide (k ≤ mostN z) := by
  obtain ⟨z', hzz, h1, h2, _⟩ := good_nat hz
  obtain rfl : z = z' := by omega
  have hm := mostN_good hz
  have hm0 : 0 < mostN z := by rw [hm]; omega
  have hk : (k : Int).toNat - 1 = k - 1 := by omega
  unfold needF
  rw [hz, Bool.true_and, hk]
  by_cases h1 : (1 : Int) ≤ k
  · rw [decide_eq_true h1, if_pos rfl]
    by_cases h3 : k ≤ mostN z
    · rw [decide_eq_true h3, Nat.div_eq_of_lt (by omega)]
      rfl
    · rw [decide_eq_false h3]
      have := Nat.div_pos (show mostN z ≤ k - 1 by omega) hm0
      exact decide_eq_false (by omega)
  · rw [decide_eq_false h1]
    have : k = 0 := by omega
    subst this
    simp
/-- The numbers that steps lead to, from a first one on; where they end. -/
def stepsU : Nat → List Nat → List Nat
  | _, [] => []
  | n, s :: t => n :: stepsU (n + 1 + s % 9) t
def endU : Nat → List Nat → Nat
  | n, [] => n
  | n, s :: t => endU (n + 1 + s % 9) t
theorem stepsU_len : ∀ (l : List Nat) (n : Nat), (stepsU n l).length = l.length
  | [], _ => rfl
  | s :: t, n => by simp [stepsU, stepsU_len t]
theorem stepsU_snoc : ∀ (l : List Nat) (n s : Nat), stepsU n (l ++ [s]) = stepsU n l ++ [endU n l] ∧ endU n (l ++ [s]) = endU n l + 1 + s % 9
  | [], n, s => ⟨rfl, rfl⟩
  | a :: t, n, s => by
    obtain ⟨h1, h2⟩ := stepsU_snoc t (n + 1 + a % 9) s
    simp only [List.cons_append, stepsU, endU]
    exact ⟨by rw [h1], h2⟩
theorem endU_le : ∀ (l : List Nat) (n : Nat), n + l.length ≤ endU n l ∧ endU n l ≤ n + 9 * l.length
  | [], n => ⟨Nat.le_refl _, Nat.le_refl _⟩
  | s :: t, n => by
    have := endU_le t (n + 1 + s % 9)
    simp only [endU, List.length_cons]
    omega
theorem stepsU_from : ∀ (l : List Nat) (n i : Nat), i < l.length → n + i ≤ nthU (stepsU n l) i ∧ nthU (stepsU n l) i ≤ n + 9 * i
  | s :: t, n, 0, _ => by simp [stepsU, nthU]
  | s :: t, n, i + 1, h => by
    have := stepsU_from t (n + 1 + s % 9) i (by simpa using h)
    have e : nthU (stepsU n (s :: t)) (i + 1) = nthU (stepsU (n + 1 + s % 9) t) i := rfl
    rw [e]
    omega
theorem stepsU_asc : ∀ (l : List Nat) (n i : Nat), i + 1 < l.length → nthU (stepsU n l) i < nthU (stepsU n l) (i + 1)
  | s :: t, n, 0, h => by
    have := stepsU_from t (n + 1 + s % 9) 0 (by simpa using h)
    have e : nthU (stepsU n (s :: t)) (0 + 1) = nthU (stepsU (n + 1 + s % 9) t) 0 := rfl
    have e0 : nthU (stepsU n (s :: t)) 0 = n := rfl
    rw [e, e0]
    omega
  | s :: t, n, i + 1, h => stepsU_asc t (n + 1 + s % 9) i (by simpa using h)
theorem stepsU_good {l : List Nat} {n : Nat} (h : 2 ≤ n) (h2 : n ≤ 1001) (hl : l.length ≤ 26) : allU (stepsU n l) = true ∧ ascU (stepsU n l) = true := by
  constructor
  · rw [allU_at]
    intro i hi
    rw [stepsU_len] at hi
    have := stepsU_from l n i hi
    unfold numB
    simp
    omega
  · rw [ascU_iff]
    intro i hi
    rw [stepsU_len] at hi
    exact stepsU_asc l n i hi
end Go.Proofs.Ytnpockkhefbjoaa
