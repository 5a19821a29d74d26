/-
  Forks in increasing order: which one a key picks; parts of valid forks; plain lemmas. No statement is proved here.
-/
import Derived.Test.YtinojpcjbjjlbaaJ15
namespace Go.Proofs.Ytinojpcjbjjlbaa
open Go.RowKit
open Go.Lib hiding intOf
set_option linter.unusedVariables false
set_option linter.unusedSimpArgs false

theorem takeWhile_len_le {α : Type} (p : α → Bool) (l : List α) : (l.takeWhile p).length ≤ l.length := by
  induction l with
  | nil => simp
  | cons x l ih =>
    rw [List.takeWhile_cons]
    split
    · simp only [List.length_cons]; omega
    · simp
theorem takeWhile_in {α : Type} {p : α → Bool} : ∀ {l : List α} {k : Nat} {x : α}, k < (l.takeWhile p).length → l[k]? = some x → p x = true
  | [], k, x, h, hx => by simp at hx
  | y :: l, k, x, h, hx => by
    rw [List.takeWhile_cons] at h
    split at h
    · rename_i hy
      cases k with
      | zero => simp at hx; subst hx; exact hy
      | succ k => exact takeWhile_in (l := l) (k := k) (by simpa using h) (by simpa using hx)
    · simp at h
theorem takeWhile_end {α : Type} {p : α → Bool} : ∀ {l : List α} {x : α}, l[(l.takeWhile p).length]? = some x → p x = false
  | [], x, h => by simp at h
  | y :: l, x, h => by
    rw [List.takeWhile_cons] at h
    split at h
    · exact takeWhile_end (l := l) (by simpa using h)
    · rename_i hy
      simp at h
      subst h
      simpa using hy
theorem takeWhile_mono {α : Type} {p q : α → Bool} (h : ∀ x, p x = true → q x = true) : ∀ l : List α, (l.takeWhile p).length ≤ (l.takeWhile q).length
  | [] => by simp
  | y :: l => by
    rw [List.takeWhile_cons, List.takeWhile_cons]
    by_cases hy : p y = true
    · rw [if_pos hy, if_pos (h y hy)]
      simp only [List.length_cons]
      have := takeWhile_mono h l
      omega
    · rw [if_neg hy]
      simp
theorem pickN_le (l : List Fk) (key : ByteArray) : pickN l key ≤ l.length := takeWhile_len_le _ _
theorem pickF_lt {l : List Fk} (h0 : 0 < l.length) (key : ByteArray) : pickF l key < l.length := by
  have := pickN_le l key
  unfold pickF
  omega
/-- The fork that is picked is not above the key, if it is not the first. -/
theorem pick_lo {l : List Fk} {key : ByteArray} {x : Fk} (h0 : 0 < pickF l key) (hx : l[pickF l key]? = some x) : Op.bytesLess key.toList x.nm.toList = false := by
  have h1 : pickF l key < pickN l key := by unfold pickF at *; omega
  have := takeWhile_in (p := fun f : Fk => !Op.bytesLess key.toList f.nm.toList) h1 hx
  simpa using this
theorem pick_hi {l : List Fk} {key : ByteArray} {x : Fk} (h0 : 0 < l.length) (hasc : ascF l) (hx : l[pickF l key + 1]? = some x) : Op.bytesLess key.toList x.nm.toList = true := by
  rcases Nat.eq_zero_or_pos (pickN l key) with h | h
  · obtain ⟨y, hy⟩ : ∃ y, l[0]? = some y := ⟨l[0], List.getElem?_eq_getElem h0⟩
    have h1 : l[(l.takeWhile fun f => !Op.bytesLess key.toList f.nm.toList).length]? = some y := by
      rw [show (l.takeWhile fun f => !Op.bytesLess key.toList f.nm.toList).length = 0 from h]; exact hy
    have h2 := takeWhile_end h1
    simp at h2
    have h3 : pickF l key = 0 := by unfold pickF; omega
    rw [h3] at hx
    exact less_trans h2 (hasc 0 1 y x (by omega) hy hx)
  · have h1 : pickF l key + 1 = (l.takeWhile fun f => !Op.bytesLess key.toList f.nm.toList).length := by
      show pickN l key - 1 + 1 = pickN l key
      omega
    rw [h1] at hx
    have := takeWhile_end hx
    simpa using this
/-- The key of a fork picks it. -/
theorem pick_at {l : List Fk} (hasc : ascF l) {k : Nat} {x : Fk} (hx : l[k]? = some x) : pickF l x.nm = k := by
  have hk := (List.getElem?_eq_some_iff.1 hx).1
  have h1 : pickN l x.nm = k + 1 := by
    refine takeWhile_at (fun j y hj hy => ?_) (by omega) (fun y hy => ?_)
    · by_cases hjk : j = k
      · subst hjk
        rw [hx] at hy
        injection hy with hy
        subst hy
        simp [less_irrefl]
      · have h2 := hasc j k y x (by omega) hy hx
        have h3 : Op.bytesLess x.nm.toList y.nm.toList = false := by
          rw [Bool.eq_false_iff]
          intro h
          have := less_trans h2 h
          rw [less_irrefl] at this
          cases this
        simp [h3]
    · have := hasc k (k + 1) x y (by omega) hx hy
      simp [this]
  unfold pickF
  omega
theorem pick_mono (l : List Fk) {a b : ByteArray} (h : Op.bytesLess b.toList a.toList = false) : pickF l a ≤ pickF l b := by
  have h1 : pickN l a ≤ pickN l b := by
    refine takeWhile_mono (fun f hf => ?_) l
    simp only [Bool.not_eq_true'] at hf ⊢
    rw [Bool.eq_false_iff]
    intro h2
    -- b < f, not b < a; then a <= b < f, so a < f
    have h3 : Op.bytesLess a.toList f.nm.toList = true := by
      rcases hab : Op.bytesLess a.toList b.toList with _ | _
      · have e : a.toList = b.toList := by
          have h4 := leq_not a.toList b.toList
          rw [hab, h] at h4
          simpa using h4
        rw [e]; exact h2
      · exact less_trans hab h2
    rw [hf] at h3
    cases h3
  unfold pickF
  omega
/-- Parts of valid forks. -/
theorem okAtF_part {l : List Fk} (h : allOkF l = true) (i n : Nat) : allOkF ((l.drop i).take n) = true := by
  have hasc := allOkF_asc h
  refine allOkF_yes fun j hj => ?_
  have hjl : j < n ∧ i + j < l.length := by
    rw [List.length_take, List.length_drop] at hj
    omega
  have hg : ∀ t, t < n → ((l.drop i).take n)[t]? = l[i + t]? := fun t ht => by rw [List.getElem?_take, if_pos ht, List.getElem?_drop]
  obtain ⟨x, hx⟩ : ∃ x, l[i + j]? = some x := ⟨l[i + j], List.getElem?_eq_getElem hjl.2⟩
  rw [okAtF_of (by rw [hg j hjl.1]; exact hx), allOkF_ok h hx, Bool.true_and]
  by_cases h0 : j = 0
  · simp [h0]
  · obtain ⟨y, hy⟩ : ∃ y, l[i + (j - 1)]? = some y := ⟨l[i + (j - 1)], List.getElem?_eq_getElem (by omega)⟩
    rw [hg (j - 1) (by omega), hy]
    simp only [hasc (i + (j - 1)) (i + j) y x (by omega) hy hx, Bool.or_true]
theorem sizeF_append (l m : List Fk) : sizeF (l ++ m) = sizeF l + sizeF m := by
  induction l with
  | nil => simp [sizeF]
  | cons b l ih => simp only [List.cons_append, sizeF, ih]; omega
theorem sizeF_cut (l : List Fk) (k : Nat) : sizeF (l.take k) + sizeF (l.drop k) = sizeF l := by
  rw [← sizeF_append, List.take_append_drop]
theorem sizeF_part (l : List Fk) (i n : Nat) : sizeF ((l.drop i).take n) ≤ sizeF l := by
  have h1 := sizeF_take_le (l.drop i) n
  have h2 := sizeF_cut l i
  omega
end Go.Proofs.Ytinojpcjbjjlbaa
