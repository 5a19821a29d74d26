/-
  Where sizes are cut, by the sums ahead; plain lemmas. No statement is proved here.
-/
import Derived.Test.YtgnpldlgdapehaaJ2
set_option linter.unusedVariables false
set_option linter.unusedSimpArgs false
namespace Go.Proofs.Ytgnpldlgdapehaa
open Go.RowKit

def prevE (E : List Nat) (i : Nat) : Nat := if i = 0 then 0 else E.getD (i - 1) 0
theorem prevE_append {E : List Nat} {i e : Nat} (h : i ≤ E.length) : prevE (E ++ [e]) i = prevE E i := by
 unfold prevE
 split
 ·rfl
 ·rw [List.getD_eq_getElem?_getD, List.getD_eq_getElem?_getD, List.getElem?_append_left (by omega)]
theorem prevE_last (E : List Nat) : prevE E E.length = E.getLast?.getD 0 := by
 unfold prevE
 cases E with
 | nil => rfl
 | cons a t =>
  rw [if_neg (by simp), List.getD_eq_getElem?_getD, List.getLast?_eq_getElem?]
theorem prevE_take {E : List Nat} {k : Nat} (h : k ≤ E.length) : prevE E k = (E.take k).getLast?.getD 0 := by
 have h1 := prevE_last (E.take k)
 rw [List.length_take, Nat.min_eq_left h] at h1
 rw [← h1]
 unfold prevE
 split
 ·rfl
 ·rw [List.getD_eq_getElem?_getD, List.getD_eq_getElem?_getD, List.getElem?_take, if_pos (by omega)]
theorem cutAt_mono {l : List Int} {room : Int} : ∀ {k : Nat} {E : List Nat} {left : Int}, cutAt l room k = some (E, left) → ∀ i e, E[i]? = some e → prevE E i ≤ e ∧ e < k
 | 0, E, left, h, i, e, hi => by
  injection h with h
  injection h with e1 e2
  subst e1
  cases hi
 | k + 1, E, left, h, i, e, hi => by
  cases hs : cutAt l room k with
  | none => rw [cutAt_none hs 1] at h; cases h
  | some t =>
   obtain ⟨E0, left0⟩ := t
   have ih := cutAt_mono hs
   have hlt := (cutAt_left hs).2.2.2
   by_cases hb : l.getD k 0 < 0 ∨ room < l.getD k 0
   ·rw [cutAt_bad hs hb] at h; cases h
   ·by_cases h2 : left0 < l.getD k 0
    ·rw [cutAt_new hs hb h2] at h
     injection h with h
     injection h with e1 e2
     subst e1
     by_cases hil : i < E0.length
     ·rw [List.getElem?_append_left hil] at hi
      rw [prevE_append (by omega)]
      have := ih i e hi
      omega
     ·have hil2 : i < (E0 ++ [k]).length := (List.getElem?_eq_some_iff.1 hi).1
      rw [List.length_append] at hil2
      simp at hil2
      obtain rfl : i = E0.length := by omega
      rw [List.getElem?_append_right (Nat.le_refl _)] at hi
      simp at hi
      subst hi
      rw [prevE_append (Nat.le_refl _), prevE_last]
      refine ⟨?_, by omega⟩
      cases hg : E0.getLast? with
      | none => exact Nat.zero_le _
      | some x => exact Nat.le_of_lt (hlt x (List.mem_of_getLast? hg))
    ·rw [cutAt_old hs hb h2] at h
     injection h with h
     injection h with e1 e2
     subst e1
     have := ih i e hi
     omega
theorem cutL_mono {l : List Int} {room : Int} {i e : Nat} (h : (cutL l room)[i]? = some e) : prevE (cutL l room) i ≤ e ∧ e ≤ l.length := by
 unfold cutL at h ⊢
 cases hs : cutAt l room l.length with
 | none => rw [hs] at h; cases h
 | some t =>
  obtain ⟨E, left⟩ := t
  rw [hs] at h
  by_cases h0 : l = []
  ·simp only [if_pos h0] at h
   cases h
  ·simp only [if_neg h0] at h ⊢
   have hm := cutAt_mono hs
   by_cases hil : i < E.length
   ·rw [List.getElem?_append_left hil] at h
    rw [prevE_append (by omega)]
    have := hm i e h
    omega
   ·have hil2 : i < (E ++ [l.length]).length := (List.getElem?_eq_some_iff.1 h).1
    rw [List.length_append] at hil2
    simp at hil2
    obtain rfl : i = E.length := by omega
    rw [List.getElem?_append_right (Nat.le_refl _)] at h
    simp at h
    subst h
    rw [prevE_append (Nat.le_refl _), prevE_last]
    refine ⟨?_, Nat.le_refl _⟩
    cases hg : E.getLast? with
    | none => exact Nat.zero_le _
    | some x => exact Nat.le_of_lt ((cutAt_left hs).2.2.2 x (List.mem_of_getLast? hg))
end Go.Proofs.Ytgnpldlgdapehaa

