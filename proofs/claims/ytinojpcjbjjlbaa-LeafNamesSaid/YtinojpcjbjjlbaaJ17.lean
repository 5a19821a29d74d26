/-
  Items in plain words: which are valid, their size, where a key is found; plain lemmas. No statement is proved here.
-/
import Derived.Test.YtinojpcjbjjlbaaJ3
import Derived.Test.YtinojpcjbjjlbaaJ12
import Derived.Test.YtinojpcjbjjlbaaJ16
namespace Go.Proofs.Ytinojpcjbjjlbaa
open Go.RowKit
open Go.Lib hiding intOf
set_option linter.unusedVariables false
set_option linter.unusedSimpArgs false

/-- An item is valid. -/
def okIt (b : It) : Bool := if b.ov then keyF b.ky && (decide (b.vl.size = 0) && (decide (1 ≤ b.ln) && (decide (b.ln ≤ 4096) && numB b.hd))) else keyF b.ky && (decide (b.vl.size ≤ 255) && (decide (b.ln = 0) && decide (b.hd = 0)))
/-- The item with index i is valid, and its key is above the one before it. -/
def okAtI (l : List It) (i : Nat) : Bool :=
  match l[i]? with
  | none => false
  | some b => okIt b && (decide (i = 0) || match l[i - 1]? with | some a => Op.bytesLess a.ky.toList b.ky.toList | none => true)
def allOkI (l : List It) : Bool := (List.range l.length).all (okAtI l)
/-- Items are valid. -/
def mayI (l : List It) : Bool := allOkI l && decide (0 < l.length)
theorem allOkI_no {l : List It} {k : Nat} (hk : k < l.length) (h : okAtI l k = false) : allOkI l = false := by
  rw [Bool.eq_false_iff]
  intro ha
  rw [allOkI, List.all_eq_true] at ha
  rw [ha k (List.mem_range.2 hk)] at h
  cases h
theorem allOkI_yes {l : List It} (h : ∀ j, j < l.length → okAtI l j = true) : allOkI l = true := by
  rw [allOkI, List.all_eq_true]
  exact fun j hj => h j (List.mem_range.1 hj)
theorem okAtI_of {l : List It} {k : Nat} {x : It} (hx : l[k]? = some x) : okAtI l k = (okIt x && (decide (k = 0) || match l[k - 1]? with | some a => Op.bytesLess a.ky.toList x.ky.toList | none => true)) := by
  rw [okAtI, hx]
/-- The size of an item, and of items. -/
def oneI (b : It) : Nat := if b.ov then 10 + b.ky.size else 3 + b.ky.size + b.vl.size
def sizeI : List It → Nat
  | [] => 0
  | b :: l => oneI b + sizeI l
theorem sizeI_snoc (l : List It) (b : It) : sizeI (l ++ [b]) = sizeI l + oneI b := by
  induction l with
  | nil => simp [sizeI]
  | cons c l ih => simp only [List.cons_append, sizeI, ih]; omega
theorem sizeI_take_succ {l : List It} {k : Nat} {x : It} (h : l[k]? = some x) : sizeI (l.take (k + 1)) = sizeI (l.take k) + oneI x := by
  obtain ⟨hk, rfl⟩ := List.getElem?_eq_some_iff.1 h
  rw [List.take_succ_eq_append_getElem hk, sizeI_snoc]
theorem sizeI_take_le (l : List It) : ∀ k, sizeI (l.take k) ≤ sizeI l := by
  intro k
  induction l generalizing k with
  | nil => simp [sizeI]
  | cons c l ih => cases k with
    | zero => simp [sizeI]
    | succ k => simp only [List.take_succ_cons, sizeI]; have := ih k; omega
theorem three_oneI (b : It) : 3 ≤ oneI b := by unfold oneI; split <;> omega
theorem three_le (l : List It) : l.length * 3 ≤ sizeI l := by
  induction l with
  | nil => simp [sizeI]
  | cons b l ih => simp only [sizeI, List.length_cons]; have := three_oneI b; omega
theorem okIt_one {b : It} (h : okIt b = true) : oneI b ≤ 298 := by
  unfold okIt at h
  unfold oneI
  split at h <;> rename_i hb <;> simp only [keyF, Bool.and_eq_true, decide_eq_true_eq] at h
  · rw [if_pos hb]; omega
  · rw [if_neg hb]; omega
theorem okAtI_ok {l : List It} {k : Nat} {x : It} (hx : l[k]? = some x) (h : okAtI l k = true) : okIt x = true := by
  rw [okAtI_of hx, Bool.and_eq_true] at h
  exact h.1
theorem allOkI_at {l : List It} (h : allOkI l = true) {k : Nat} (hk : k < l.length) : okAtI l k = true := by
  rw [allOkI, List.all_eq_true] at h
  exact h k (List.mem_range.2 hk)
theorem allOkI_ok {l : List It} (h : allOkI l = true) {k : Nat} {x : It} (hx : l[k]? = some x) : okIt x = true := okAtI_ok hx (allOkI_at h (List.getElem?_eq_some_iff.1 hx).1)
theorem sizeI_ok {l : List It} (h : allOkI l = true) : ∀ k, k ≤ l.length → sizeI (l.take k) ≤ 298 * k
  | 0, _ => by simp [sizeI]
  | k + 1, hk => by
    have hx : l[k]? = some l[k] := List.getElem?_eq_getElem (by omega)
    have ih := sizeI_ok h k (by omega)
    have hn := okIt_one (allOkI_ok h hx)
    rw [sizeI_take_succ hx]
    omega
theorem sizeI_all {l : List It} (h : allOkI l = true) : sizeI l ≤ 298 * l.length := by
  have := sizeI_ok h l.length (Nat.le_refl _)
  rwa [List.take_length] at this
/-- Keys ascend. -/
def ascI (l : List It) : Prop := ∀ (i j : Nat) (a b : It), i < j → l[i]? = some a → l[j]? = some b → Op.bytesLess a.ky.toList b.ky.toList = true
theorem allOkI_asc {l : List It} (h : allOkI l = true) : ascI l := by
  intro i j a b hij ha hb
  induction j generalizing b with
  | zero => omega
  | succ j ih =>
    have hj := (List.getElem?_eq_some_iff.1 hb).1
    have h1 := allOkI_at h hj
    rw [okAtI_of hb, Bool.and_eq_true] at h1
    have h2 := h1.2
    obtain ⟨y, hy⟩ : ∃ y, l[j]? = some y := ⟨l[j], List.getElem?_eq_getElem (by omega)⟩
    simp [hy] at h2
    by_cases hji : i = j
    · subst hji
      rw [ha] at hy
      injection hy with hy
      rw [hy]
      exact h2
    · exact less_trans (ih y (by omega) hy) h2
/-- A first part of valid items. -/
theorem allOkI_take {l : List It} (h : allOkI l = true) (n : Nat) : allOkI (l.take n) = true := by
  refine allOkI_yes fun j hj => ?_
  have hjl : j < n ∧ j < l.length := by rw [List.length_take] at hj; omega
  have hg : ∀ t, t < n → (l.take n)[t]? = l[t]? := fun t ht => by rw [List.getElem?_take, if_pos ht]
  obtain ⟨x, hx⟩ : ∃ x, l[j]? = some x := ⟨l[j], List.getElem?_eq_getElem hjl.2⟩
  have h1 := allOkI_at h hjl.2
  rw [okAtI_of hx] at h1
  rw [okAtI_of (by rw [hg j hjl.1]; exact hx)]
  by_cases h0 : j = 0
  · subst h0; simpa using h1
  · rw [hg (j - 1) (by omega)]; exact h1
/-- Where a key is found: the first index whose key is not below it. -/
def findN (l : List It) (key : ByteArray) : Nat := (l.takeWhile fun b => Op.bytesLess b.ky.toList key.toList).length
def findB (l : List It) (key : ByteArray) : Bool := match l[findN l key]? with | none => false | some b => b.ky.toList == key.toList
theorem findN_le (l : List It) (key : ByteArray) : findN l key ≤ l.length := takeWhile_len_le _ _
theorem findN_lo {l : List It} {key : ByteArray} {k : Nat} {x : It} (h : k < findN l key) (hx : l[k]? = some x) : Op.bytesLess x.ky.toList key.toList = true :=
  takeWhile_in (p := fun b : It => Op.bytesLess b.ky.toList key.toList) h hx
theorem findN_hi {l : List It} {key : ByteArray} {k : Nat} {x : It} (hasc : ascI l) (h : findN l key ≤ k) (hx : l[k]? = some x) : Op.bytesLess x.ky.toList key.toList = false := by
  have hk := (List.getElem?_eq_some_iff.1 hx).1
  obtain ⟨y, hy⟩ : ∃ y, l[findN l key]? = some y := ⟨l[findN l key], List.getElem?_eq_getElem (by omega)⟩
  have h1 := takeWhile_end (p := fun b : It => Op.bytesLess b.ky.toList key.toList) hy
  by_cases he : findN l key = k
  · rw [he, hx] at hy
    injection hy with hy
    subst hy
    exact h1
  · have h2 := hasc (findN l key) k y x (by omega) hy hx
    rw [Bool.eq_false_iff]
    intro h3
    rw [less_trans h2 h3] at h1
    cases h1
/-- An item's own key. -/
theorem findN_at {l : List It} (hasc : ascI l) {k : Nat} {x : It} (hx : l[k]? = some x) : findN l x.ky = k := by
  have hk := (List.getElem?_eq_some_iff.1 hx).1
  refine takeWhile_at (fun j y hj hy => hasc j k y x hj hy hx) (by omega) (fun y hy => ?_)
  rw [hx] at hy
  injection hy with hy
  subst hy
  exact less_irrefl _
theorem findB_at {l : List It} (hasc : ascI l) {k : Nat} {x : It} (hx : l[k]? = some x) : findB l x.ky = true := by
  rw [findB, findN_at hasc hx, hx]
  simp
/-- A key is found exactly if it is one of the items'. -/
theorem findB_iff {l : List It} (hasc : ascI l) (key : ByteArray) : findB l key = l.any fun b => b.ky.toList == key.toList := by
  rw [Bool.eq_iff_iff]
  constructor
  · intro h
    unfold findB at h
    rcases hx : l[findN l key]? with _ | x
    · rw [hx] at h; cases h
    · rw [hx] at h
      exact List.any_eq_true.2 ⟨x, List.mem_of_getElem? hx, h⟩
  · intro h
    obtain ⟨x, hx, he⟩ := List.any_eq_true.1 h
    obtain ⟨k, hk, hkx⟩ := List.mem_iff_getElem.1 hx
    have hxx : l[k]? = some x := by rw [List.getElem?_eq_getElem hk, hkx]
    have h1 := findN_at hasc hxx
    rw [beq_iff_eq] at he
    have h2 : findN l key = k := by unfold findN at *; rw [← he]; exact h1
    rw [findB, h2, hxx]
    simpa using he
end Go.Proofs.Ytinojpcjbjjlbaa
