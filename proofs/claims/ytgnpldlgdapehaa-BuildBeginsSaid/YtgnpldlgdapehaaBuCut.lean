/-
  Parts as plain data: where sizes are cut, and elements cut into parts; plain lemmas. No statement is proved here.
-/
import Derived.Test.YtgnpldlgdapehaaWords
namespace Go.Proofs.Ytgnpldlgdapehaa
open Go.RowKit
set_option linter.unusedVariables false
set_option linter.unusedSimpArgs false

/-- Behind so many sizes: the ends so far, and what is left of the room; none: a size may not be. -/
def cutAt (l : List Int) (room : Int) : Nat → Option (List Nat × Int)
  | 0 => some ([], room)
  | k + 1 => (cutAt l room k).bind fun t => if l.getD k 0 < 0 ∨ room < l.getD k 0 then none else if t.2 < l.getD k 0 then some (t.1 ++ [k], room - l.getD k 0) else some (t.1, t.2 - l.getD k 0)
def cutL (l : List Int) (room : Int) : List Nat :=
  match cutAt l room l.length with
  | none => []
  | some t => if l = [] then [] else t.1 ++ [l.length]
theorem cutAt_none {l : List Int} {room : Int} {k : Nat} (h : cutAt l room k = none) : ∀ j, cutAt l room (k + j) = none
  | 0 => h
  | j + 1 => by
    have h1 := cutAt_none h j
    show (cutAt l room (k + j)).bind _ = none
    rw [h1]
    rfl
theorem cutL_none {l : List Int} {room : Int} {k : Nat} (h : cutAt l room k = none) (hk : k ≤ l.length) : cutL l room = [] := by
  have h1 := cutAt_none h (l.length - k)
  rw [show k + (l.length - k) = l.length by omega] at h1
  unfold cutL
  rw [h1]
theorem cutL_some {l : List Int} {room : Int} {E : List Nat} {left : Int} (h : cutAt l room l.length = some (E, left)) (h0 : l ≠ []) : cutL l room = E ++ [l.length] := by
  unfold cutL
  rw [h]
  simp only [if_neg h0]
theorem cutL_nil (room : Int) : cutL [] room = [] := rfl
theorem cutAt_bad {l : List Int} {room : Int} {k : Nat} {E : List Nat} {left : Int} (h : cutAt l room k = some (E, left)) (h1 : l.getD k 0 < 0 ∨ room < l.getD k 0) : cutAt l room (k + 1) = none := by
  show (cutAt l room k).bind _ = none
  rw [h]
  exact if_pos h1
theorem cutAt_new {l : List Int} {room : Int} {k : Nat} {E : List Nat} {left : Int} (h : cutAt l room k = some (E, left)) (h1 : ¬ (l.getD k 0 < 0 ∨ room < l.getD k 0)) (h2 : left < l.getD k 0) : cutAt l room (k + 1) = some (E ++ [k], room - l.getD k 0) := by
  show (cutAt l room k).bind _ = _
  rw [h]
  show (if _ then _ else _) = _
  rw [if_neg h1, if_pos h2]
theorem cutAt_old {l : List Int} {room : Int} {k : Nat} {E : List Nat} {left : Int} (h : cutAt l room k = some (E, left)) (h1 : ¬ (l.getD k 0 < 0 ∨ room < l.getD k 0)) (h2 : ¬ left < l.getD k 0) : cutAt l room (k + 1) = some (E, left - l.getD k 0) := by
  show (cutAt l room k).bind _ = _
  rw [h]
  show (if _ then _ else _) = _
  rw [if_neg h1, if_neg h2]
/-- What is left is from 0 to the room; the ends are as many as the sizes at most, and stand before them. -/
theorem cutAt_left {l : List Int} {room : Int} : ∀ {k : Nat} {E : List Nat} {left : Int}, cutAt l room k = some (E, left) → (0 < k → 0 ≤ left) ∧ left ≤ room ∧ E.length ≤ k ∧ ∀ e ∈ E, e < k
  | 0, E, left, h => by
    have h : some ([], room) = some (E, left) := h
    injection h with h
    injection h with h1 h2
    subst h1 h2
    simp
  | k + 1, E, left, h => by
    cases hk : cutAt l room k with
    | none =>
      have := cutAt_none hk 1
      rw [this] at h
      cases h
    | some t =>
      obtain ⟨E0, left0⟩ := t
      obtain ⟨a, b, c, d⟩ := cutAt_left hk
      by_cases h1 : l.getD k 0 < 0 ∨ room < l.getD k 0
      · rw [cutAt_bad hk h1] at h; cases h
      · by_cases h2 : left0 < l.getD k 0
        · rw [cutAt_new hk h1 h2] at h
          injection h with h
          injection h with e1 e2
          subst e1 e2
          refine ⟨fun _ => by omega, by omega, by simp; omega, fun e he => ?_⟩
          rcases List.mem_append.1 he with he | he
          · have := d e he; omega
          · simp at he; omega
        · rw [cutAt_old hk h1 h2] at h
          injection h with h
          injection h with e1 e2
          subst e1 e2
          exact ⟨fun _ => by omega, by omega, by omega, fun e he => by have := d e he; omega⟩
theorem cutL_length (l : List Int) (room : Int) : (cutL l room).length ≤ l.length ∧ ∀ e ∈ cutL l room, e ≤ l.length := by
  unfold cutL
  cases h : cutAt l room l.length with
  | none => simp
  | some t =>
    obtain ⟨E, left⟩ := t
    by_cases h0 : l = []
    · simp [h0]
    · simp only [if_neg h0]
      obtain ⟨a, b, c, d⟩ := cutAt_left h
      have hp : 0 < l.length := List.length_pos_iff.2 h0
      refine ⟨?_, fun e he => ?_⟩
      · have hlen : E.length < l.length := by
          -- the first size makes no end
          obtain ⟨m, hm⟩ : ∃ m, l.length = m + 1 := ⟨l.length - 1, by omega⟩
          have key : ∀ {k : Nat} {E : List Nat} {left : Int}, cutAt l room (k + 1) = some (E, left) → E.length ≤ k := by
            intro k
            induction k with
            | zero =>
              intro E left h
              by_cases h1 : l.getD 0 0 < 0 ∨ room < l.getD 0 0
              · rw [cutAt_bad (E := []) (left := room) rfl h1] at h; cases h
              · rw [cutAt_old (E := []) (left := room) rfl h1 (by omega)] at h
                injection h with h; injection h with e1 e2; subst e1; simp
            | succ k ih =>
              intro E left h
              cases hk : cutAt l room (k + 1) with
              | none => have := cutAt_none hk 1; rw [this] at h; cases h
              | some t =>
                obtain ⟨E0, left0⟩ := t
                have := ih hk
                by_cases h1 : l.getD (k + 1) 0 < 0 ∨ room < l.getD (k + 1) 0
                · rw [cutAt_bad hk h1] at h; cases h
                · by_cases h2 : left0 < l.getD (k + 1) 0
                  · rw [cutAt_new hk h1 h2] at h
                    injection h with h; injection h with e1 e2; subst e1; simp; omega
                  · rw [cutAt_old hk h1 h2] at h
                    injection h with h; injection h with e1 e2; subst e1; omega
          have := key (k := m) (E := E) (left := left) (by rw [← hm]; exact h)
          omega
        rw [List.length_append]
        simp
        omega
      · rcases List.mem_append.1 he with he | he
        · have := d e he; omega
        · simp at he; omega
/-- Elements from one end to the next. -/
def partsBy {α : Type} (l : List α) : Nat → List Nat → List (List α)
  | _, [] => []
  | at_, e :: E => (l.drop at_).take (e - at_) :: partsBy l e E
theorem partsBy_append {α : Type} (l : List α) : ∀ (E F : List Nat) (s : Nat), partsBy l s (E ++ F) = partsBy l s E ++ partsBy l (E.getLast?.getD s) F
  | [], F, s => rfl
  | [e], F, s => by simp [partsBy]
  | e :: e2 :: E, F, s => by
    have h := partsBy_append l (e2 :: E) F e
    have hg : ((e :: e2 :: E).getLast?.getD s) = ((e2 :: E).getLast?.getD e) := by
      rw [List.getLast?_cons_cons]
      obtain ⟨x, hx⟩ : ∃ x, (e2 :: E).getLast? = some x := ⟨(e2 :: E).getLast (by simp), List.getLast?_eq_some_getLast _⟩
      rw [hx]; rfl
    rw [hg]
    show _ :: partsBy l e ((e2 :: E) ++ F) = _
    rw [h]
    rfl
theorem partsBy_length {α : Type} (l : List α) : ∀ (E : List Nat) (s : Nat), (partsBy l s E).length = E.length
  | [], s => rfl
  | e :: E, s => by simp [partsBy, partsBy_length l E]
/-- The parts of elements: none where one is greater than the room. -/
def cutP {α : Type} (one : α → Int) (room : Int) (l : List α) : List (List α) := partsBy l 0 (cutL (l.map one) room)
theorem cutAt_fine {l : List Int} {room : Int} : ∀ {k : Nat} {t : List Nat × Int}, cutAt l room k = some t → ∀ j, j < k → 0 ≤ l.getD j 0 ∧ l.getD j 0 ≤ room
  | 0, t, h, j, hj => by omega
  | k + 1, t, h, j, hj => by
    cases hk : cutAt l room k with
    | none => rw [cutAt_none hk 1] at h; cases h
    | some t0 =>
      obtain ⟨E0, left0⟩ := t0
      by_cases h1 : l.getD k 0 < 0 ∨ room < l.getD k 0
      · rw [cutAt_bad hk h1] at h; cases h
      · by_cases hjk : j < k
        · exact cutAt_fine hk j hjk
        · obtain rfl : j = k := by omega
          omega
theorem cutAt_is {l : List Int} {room : Int} : ∀ {k : Nat}, (∀ j, j < k → 0 ≤ l.getD j 0 ∧ l.getD j 0 ≤ room) → ∃ E left, cutAt l room k = some (E, left)
  | 0, _ => ⟨_, _, rfl⟩
  | k + 1, h => by
    obtain ⟨E, left, h0⟩ := cutAt_is (l := l) (room := room) (k := k) (fun j hj => h j (by omega))
    have := h k (by omega)
    by_cases h2 : left < l.getD k 0
    · exact ⟨_, _, cutAt_new h0 (by omega) h2⟩
    · exact ⟨_, _, cutAt_old h0 (by omega) h2⟩

end Go.Proofs.Ytgnpldlgdapehaa
