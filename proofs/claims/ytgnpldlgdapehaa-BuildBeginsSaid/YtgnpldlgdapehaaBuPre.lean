/-
  Where sizes are cut, by the sums ahead; plain lemmas. No statement is proved here.
-/
import Derived.Test.YtgnpldlgdapehaaBuCut
namespace Go.Proofs.Ytgnpldlgdapehaa
open Go.RowKit
set_option linter.unusedVariables false
set_option linter.unusedSimpArgs false

def preS (l : List Nat) (k : Nat) : Nat := (l.take k).sum
def upI (n : Nat) : Int := n
def prevE (E : List Nat) (i : Nat) : Nat := if i = 0 then 0 else E.getD (i - 1) 0
theorem preS_succ {l : List Nat} {k x : Nat} (h : l[k]? = some x) : preS l (k + 1) = preS l k + x := by
  obtain ⟨hk, rfl⟩ := List.getElem?_eq_some_iff.1 h
  unfold preS
  rw [List.take_succ_eq_append_getElem hk, List.sum_append]
  simp
theorem getD_up {l : List Nat} {k x : Nat} (h : l[k]? = some x) : (l.map upI).getD k 0 = (x : Int) := by
  rw [List.getD_eq_getElem?_getD, List.getElem?_map, h]; rfl
theorem prevE_append {E : List Nat} {i e : Nat} (h : i ≤ E.length) : prevE (E ++ [e]) i = prevE E i := by
  unfold prevE
  split
  · rfl
  · rw [List.getD_eq_getElem?_getD, List.getD_eq_getElem?_getD, List.getElem?_append_left (by omega)]
theorem prevE_last (E : List Nat) : prevE E E.length = E.getLast?.getD 0 := by
  unfold prevE
  cases E with
  | nil => rfl
  | cons a t =>
    rw [if_neg (by simp), List.getD_eq_getElem?_getD, List.getLast?_eq_getElem?]
theorem cutAt_pre {l : List Nat} {room : Nat} (hr : ∀ x ∈ l, x ≤ room) : ∀ {k : Nat} {E : List Nat} {left : Int}, k ≤ l.length → cutAt (l.map upI) room k = some (E, left) →
    left = (room : Int) + preS l (E.getLast?.getD 0) - preS l k ∧ preS l k ≤ preS l (E.getLast?.getD 0) + room ∧ (0 < k → E.getLast?.getD 0 < k) ∧
    ∀ i e, E[i]? = some e → prevE E i < e ∧ e < k ∧ preS l e ≤ preS l (prevE E i) + room ∧ room + preS l (prevE E i) < preS l (e + 1)
  | 0, E, left, _, h => by
    injection h with h
    injection h with e1 e2
    subst e1 e2
    simp [preS]
  | k + 1, E, left, hk, h => by
    cases hs : cutAt (l.map upI) room k with
    | none => rw [cutAt_none hs 1] at h; cases h
    | some t =>
      obtain ⟨E0, left0⟩ := t
      obtain ⟨x, hx⟩ : ∃ x, l[k]? = some x := ⟨l[k], List.getElem?_eq_getElem (by omega)⟩
      have hg := getD_up hx
      have hxr := hr x (List.mem_of_getElem? hx)
      have hp := preS_succ hx
      obtain ⟨i1, i2, i3, i4⟩ := cutAt_pre hr (by omega) hs
      have hnb : ¬ ((l.map upI).getD k 0 < 0 ∨ (room : Int) < (l.map upI).getD k 0) := by rw [hg]; omega
      by_cases h2 : left0 < (l.map upI).getD k 0
      · rw [cutAt_new hs hnb h2] at h
        injection h with h
        injection h with e1 e2
        subst e1 e2
        rw [hg] at h2 ⊢
        have hl2 : (E0 ++ [k]).getLast?.getD 0 = k := by simp
        have hk0 : 0 < k := by
          rcases Nat.eq_zero_or_pos k with h0 | h0
          · subst h0
            injection hs with hs
            injection hs with e1 e2
            subst e1 e2
            omega
          · exact h0
        have h3 := i3 hk0
        rw [hl2]
        refine ⟨by omega, by omega, fun _ => by omega, fun i e hi => ?_⟩
        by_cases hlt : i < E0.length
        · rw [List.getElem?_append_left hlt] at hi
          obtain ⟨j1, j2, j3, j4⟩ := i4 i e hi
          rw [prevE_append (by omega)]
          exact ⟨j1, by omega, j3, j4⟩
        · have hil : i < (E0 ++ [k]).length := (List.getElem?_eq_some_iff.1 hi).1
          rw [List.length_append] at hil
          simp at hil
          obtain rfl : i = E0.length := by omega
          rw [List.getElem?_append_right (Nat.le_refl _)] at hi
          simp at hi
          subst hi
          rw [prevE_append (Nat.le_refl _), prevE_last]
          exact ⟨h3, by omega, i2, by omega⟩
      · rw [cutAt_old hs hnb h2] at h
        injection h with h
        injection h with e1 e2
        subst e1 e2
        rw [hg] at h2 ⊢
        refine ⟨by omega, by omega, fun _ => ?_, fun i e hi => ?_⟩
        · rcases Nat.eq_zero_or_pos k with h0 | h0
          · subst h0
            injection hs with hs
            injection hs with e1 e2
            subst e1
            simp
          · have := i3 h0; omega
        · obtain ⟨j1, j2, j3, j4⟩ := i4 i e hi
          exact ⟨j1, by omega, j3, j4⟩
theorem cutAt_up {l : List Nat} {room : Nat} (hr : ∀ x ∈ l, x ≤ room) {k : Nat} (hk : k ≤ l.length) : ∃ E left, cutAt (l.map upI) room k = some (E, left) :=
  cutAt_is (fun j hj => by
    have hx : l[j]? = some l[j] := List.getElem?_eq_getElem (by omega)
    rw [getD_up hx]
    have := hr _ (List.getElem_mem (l := l) (n := j) (by omega))
    omega)
/-- The ends of sizes that fit. -/
theorem cutL_segs {l : List Nat} {room : Nat} (hr : ∀ x ∈ l, x ≤ room) (h0 : l ≠ []) : ∃ E, cutL (l.map upI) room = E ++ [l.length] ∧ E.length < l.length ∧
    ∀ i e, (E ++ [l.length])[i]? = some e → prevE (E ++ [l.length]) i < e ∧ e ≤ l.length ∧ preS l e ≤ preS l (prevE (E ++ [l.length]) i) + room ∧ (e < l.length → room + preS l (prevE (E ++ [l.length]) i) < preS l (e + 1)) := by
  obtain ⟨E, left, h⟩ := cutAt_up hr (Nat.le_refl l.length)
  have hc := cutL_some (l := l.map upI) (room := room) (E := E) (left := left) (by rw [List.length_map]; exact h) (by simpa using h0)
  rw [List.length_map] at hc
  have hpos : 0 < l.length := List.length_pos_iff.2 h0
  obtain ⟨i1, i2, i3, i4⟩ := cutAt_pre hr (Nat.le_refl _) h
  have hlen := (cutL_length (l.map upI) room).1
  rw [hc, List.length_append, List.length_map] at hlen
  simp at hlen
  refine ⟨E, hc, by omega, fun i e hi => ?_⟩
  by_cases hlt : i < E.length
  · rw [List.getElem?_append_left hlt] at hi
    obtain ⟨j1, j2, j3, j4⟩ := i4 i e hi
    rw [prevE_append (by omega)]
    exact ⟨j1, by omega, j3, fun _ => j4⟩
  · have hil : i < (E ++ [l.length]).length := (List.getElem?_eq_some_iff.1 hi).1
    rw [List.length_append] at hil
    simp at hil
    obtain rfl : i = E.length := by omega
    rw [List.getElem?_append_right (Nat.le_refl _)] at hi
    simp at hi
    subst hi
    rw [prevE_append (Nat.le_refl _), prevE_last]
    exact ⟨i3 hpos, Nat.le_refl _, i2, fun h => by omega⟩
/-- The state behind k sizes is that of the first k alone. -/
theorem cutAt_take {l : List Int} {room : Int} : ∀ {m k : Nat}, m ≤ k → k ≤ l.length → cutAt (l.take k) room m = cutAt l room m
  | 0, k, _, _ => rfl
  | m + 1, k, h, hk => by
    have ih := cutAt_take (l := l) (room := room) (m := m) (k := k) (by omega) hk
    have hg : (l.take k).getD m 0 = l.getD m 0 := by
      rw [List.getD_eq_getElem?_getD, List.getD_eq_getElem?_getD, List.getElem?_take, if_pos (by omega)]
    show (cutAt (l.take k) room m).bind _ = (cutAt l room m).bind _
    rw [ih, hg]
theorem cutAt_grows {l : List Int} {room : Int} {k : Nat} {E : List Nat} {left : Int} (h : cutAt l room k = some (E, left)) : ∀ (j : Nat) {E2 : List Nat} {left2 : Int}, cutAt l room (k + j) = some (E2, left2) → E <+: E2
  | 0, E2, left2, h2 => by
    rw [Nat.add_zero, h] at h2
    injection h2 with h2
    injection h2 with e1 _
    subst e1
    exact List.prefix_refl _
  | j + 1, E2, left2, h2 => by
    cases hs : cutAt l room (k + j) with
    | none => rw [show k + (j + 1) = (k + j) + 1 by omega, cutAt_none hs 1] at h2; cases h2
    | some t =>
      obtain ⟨E1, left1⟩ := t
      have ih := cutAt_grows h j hs
      by_cases h1 : l.getD (k + j) 0 < 0 ∨ room < l.getD (k + j) 0
      · rw [show k + (j + 1) = (k + j) + 1 by omega, cutAt_bad hs h1] at h2; cases h2
      · by_cases h3 : left1 < l.getD (k + j) 0
        · rw [show k + (j + 1) = (k + j) + 1 by omega, cutAt_new hs h1 h3] at h2
          injection h2 with h2
          injection h2 with e1 _
          subst e1
          exact ih.trans (List.prefix_append _ _)
        · rw [show k + (j + 1) = (k + j) + 1 by omega, cutAt_old hs h1 h3] at h2
          injection h2 with h2
          injection h2 with e1 _
          subst e1
          exact ih
/-- The ends of the first sizes are those of all, but for the last one. -/
theorem cutL_first {l : List Nat} {room k : Nat} (hr : ∀ x ∈ l, x ≤ room) (hk : k ≤ l.length) (h0 : 0 < k) : ∃ E F, cutL ((l.take k).map upI) room = E ++ [k] ∧ cutL (l.map upI) room = F ++ [l.length] ∧ E <+: F := by
  obtain ⟨E, left, h⟩ := cutAt_up hr hk
  obtain ⟨F, left2, h2⟩ := cutAt_up hr (Nat.le_refl l.length)
  have e1 : cutAt ((l.take k).map upI) room k = some (E, left) := by rw [List.map_take, cutAt_take (Nat.le_refl _) (by rw [List.length_map]; exact hk)]; exact h
  have hlk : ((l.take k).map upI).length = k := by rw [List.length_map, List.length_take]; omega
  refine ⟨E, F, ?_, ?_, cutAt_grows h (l.length - k) (by rw [show k + (l.length - k) = l.length by omega]; exact h2)⟩
  · have := cutL_some (l := (l.take k).map upI) (room := room) (E := E) (left := left) (by rw [hlk]; exact e1) (by intro e; rw [e] at hlk; simp at hlk; omega)
    rw [hlk] at this
    exact this
  · have := cutL_some (l := l.map upI) (room := room) (E := F) (left := left2) (by rw [List.length_map]; exact h2) (by intro e; have := congrArg List.length e; simp at this; subst this; simp at hk; omega)
    rw [List.length_map] at this
    exact this
/-- What fits together is one part. -/
theorem cutL_one {q : List Nat} {room : Nat} (h : q.sum ≤ room) (h0 : q ≠ []) : cutL (q.map upI) room = [q.length] := by
  have hle : ∀ k, preS q k ≤ q.sum := fun k => by
    have := congrArg List.sum (List.take_append_drop k q)
    rw [List.sum_append] at this
    unfold preS
    omega
  have key : ∀ k, k ≤ q.length → cutAt (q.map upI) room k = some ([], (room : Int) - preS q k) := by
    intro k
    induction k with
    | zero => intro _; simp [cutAt, preS]
    | succ k ih =>
      intro hk
      obtain ⟨x, hx⟩ : ∃ x, q[k]? = some x := ⟨q[k], List.getElem?_eq_getElem (by omega)⟩
      have hp := preS_succ hx
      have := hle (k + 1)
      have hg := getD_up hx
      rw [cutAt_old (ih (by omega)) (by rw [hg]; omega) (by rw [hg]; omega), hg, hp]
      congr 2
      push_cast
      omega
  have := cutL_some (l := q.map upI) (room := room) (E := []) (left := (room : Int) - preS q q.length) (by rw [List.length_map]; exact key _ (Nat.le_refl _)) (by simpa using h0)
  rw [List.length_map] at this
  exact this
theorem preS_seg {l : List Nat} {s e : Nat} (h : s ≤ e) : ((l.drop s).take (e - s)).sum + preS l s = preS l e := by
  unfold preS
  have h1 : l.take e = l.take s ++ (l.drop s).take (e - s) := by
    rw [← List.take_append_drop s (l.take e), List.take_take, Nat.min_eq_left h, List.drop_take]
  rw [h1, List.sum_append]
  omega
theorem prevE_take {E : List Nat} {k : Nat} (h : k ≤ E.length) : prevE E k = (E.take k).getLast?.getD 0 := by
  have h1 := prevE_last (E.take k)
  rw [List.length_take, Nat.min_eq_left h] at h1
  rw [← h1]
  unfold prevE
  split
  · rfl
  · rw [List.getD_eq_getElem?_getD, List.getD_eq_getElem?_getD, List.getElem?_take, if_pos (by omega)]
theorem cutAt_mono {l : List Int} {room : Int} : ∀ {k : Nat} {E : List Nat} {left : Int}, cutAt l room k = some (E, left) → ∀ i e, E[i]? = some e → prevE E i ≤ e ∧ e < k
  | 0, E, left, h, i, e, hi => by
    injection h with h
    injection h with e1 e2
    subst e1
    cases hi
  | k + 1, E, left, h, i, e, hi => by
    cases hs : cutAt l room k with
    | none => rw [cutAt_none hs 1] at h; cases h
    | some t =>
      obtain ⟨E0, left0⟩ := t
      have ih := cutAt_mono hs
      have hlt := (cutAt_left hs).2.2.2
      by_cases hb : l.getD k 0 < 0 ∨ room < l.getD k 0
      · rw [cutAt_bad hs hb] at h; cases h
      · by_cases h2 : left0 < l.getD k 0
        · rw [cutAt_new hs hb h2] at h
          injection h with h
          injection h with e1 e2
          subst e1
          by_cases hil : i < E0.length
          · rw [List.getElem?_append_left hil] at hi
            rw [prevE_append (by omega)]
            have := ih i e hi
            omega
          · have hil2 : i < (E0 ++ [k]).length := (List.getElem?_eq_some_iff.1 hi).1
            rw [List.length_append] at hil2
            simp at hil2
            obtain rfl : i = E0.length := by omega
            rw [List.getElem?_append_right (Nat.le_refl _)] at hi
            simp at hi
            subst hi
            rw [prevE_append (Nat.le_refl _), prevE_last]
            refine ⟨?_, by omega⟩
            cases hg : E0.getLast? with
            | none => exact Nat.zero_le _
            | some x => exact Nat.le_of_lt (hlt x (List.mem_of_getLast? hg))
        · rw [cutAt_old hs hb h2] at h
          injection h with h
          injection h with e1 e2
          subst e1
          have := ih i e hi
          omega
/-- The ends never fall. -/
theorem cutL_mono {l : List Int} {room : Int} {i e : Nat} (h : (cutL l room)[i]? = some e) : prevE (cutL l room) i ≤ e ∧ e ≤ l.length := by
  unfold cutL at h ⊢
  cases hs : cutAt l room l.length with
  | none => rw [hs] at h; cases h
  | some t =>
    obtain ⟨E, left⟩ := t
    rw [hs] at h
    by_cases h0 : l = []
    · simp only [if_pos h0] at h
      cases h
    · simp only [if_neg h0] at h ⊢
      have hm := cutAt_mono hs
      by_cases hil : i < E.length
      · rw [List.getElem?_append_left hil] at h
        rw [prevE_append (by omega)]
        have := hm i e h
        omega
      · have hil2 : i < (E ++ [l.length]).length := (List.getElem?_eq_some_iff.1 h).1
        rw [List.length_append] at hil2
        simp at hil2
        obtain rfl : i = E.length := by omega
        rw [List.getElem?_append_right (Nat.le_refl _)] at h
        simp at h
        subst h
        rw [prevE_append (Nat.le_refl _), prevE_last]
        refine ⟨?_, Nat.le_refl _⟩
        cases hg : E.getLast? with
        | none => exact Nat.zero_le _
        | some x => exact Nat.le_of_lt ((cutAt_left hs).2.2.2 x (List.mem_of_getLast? hg))
end Go.Proofs.Ytgnpldlgdapehaa
