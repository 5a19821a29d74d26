/-
  Contracts of the reference of layer 7: Key, One, Size, May, Pick.
-/
import Derived.Test.YtinojpcjbjjlbaaJ3
import Derived.Test.YtinojpcjbjjlbaaJ10
import Derived.Test.YtinojpcjbjjlbaaJ11
import Derived.Deep.CutRange
import Derived.Deep.DrawnRows
import Derived.Deep.QuietTactic
import Derived.BigQuiet
import Derived.Lib.MinMax
namespace Go.Proofs.Ytinojpcjbjjlbaa
open Go.RowKit
open Go.Lib hiding intOf
set_option linter.unusedVariables false
set_option linter.unusedSimpArgs false
attribute [local go_sem ↓] Go.wp_at_zero Go.wp_at_succ

def keyF (s : ByteArray) : Bool := decide (s.size ≤ 40)
def okFk (b : Fk) : Bool := keyF b.nm && numB b.rt
/-- The fork with index i is valid, and its key is above the one before it. -/
def okAtF (l : List Fk) (i : Nat) : Bool :=
  match l[i]? with
  | none => false
  | some b => okFk b && (decide (i = 0) || match l[i - 1]? with | some a => Op.bytesLess a.nm.toList b.nm.toList | none => true)
def allOkF (l : List Fk) : Bool := (List.range l.length).all (okAtF l)
/-- Forks are valid. -/
def mayF (l : List Fk) : Bool := allOkF l && decide (0 < l.length)
theorem allOkF_no {l : List Fk} {k : Nat} (hk : k < l.length) (h : okAtF l k = false) : allOkF l = false := by
  rw [Bool.eq_false_iff]
  intro ha
  rw [allOkF, List.all_eq_true] at ha
  rw [ha k (List.mem_range.2 hk)] at h
  cases h
theorem allOkF_yes {l : List Fk} (h : ∀ j, j < l.length → okAtF l j = true) : allOkF l = true := by
  rw [allOkF, List.all_eq_true]
  exact fun j hj => h j (List.mem_range.1 hj)
theorem okAtF_of {l : List Fk} {k : Nat} {x : Fk} (hx : l[k]? = some x) : okAtF l k = (okFk x && (decide (k = 0) || match l[k - 1]? with | some a => Op.bytesLess a.nm.toList x.nm.toList | none => true)) := by
  rw [okAtF, hx]
/-- The size of forks. -/
def sizeF : List Fk → Nat
  | [] => 0
  | b :: l => 5 + b.nm.size + sizeF l
theorem sizeF_snoc (l : List Fk) (b : Fk) : sizeF (l ++ [b]) = sizeF l + (5 + b.nm.size) := by
  induction l with
  | nil => simp [sizeF]
  | cons c l ih => simp only [List.cons_append, sizeF, ih]; omega
theorem sizeF_take_succ {l : List Fk} {k : Nat} {x : Fk} (h : l[k]? = some x) : sizeF (l.take (k + 1)) = sizeF (l.take k) + (5 + x.nm.size) := by
  obtain ⟨hk, rfl⟩ := List.getElem?_eq_some_iff.1 h
  rw [List.take_succ_eq_append_getElem hk, sizeF_snoc]
theorem sizeF_take_le (l : List Fk) : ∀ k, sizeF (l.take k) ≤ sizeF l := by
  intro k
  induction l generalizing k with
  | nil => simp [sizeF]
  | cons c l ih => cases k with
    | zero => simp [sizeF]
    | succ k => simp only [List.take_succ_cons, sizeF]; have := ih k; omega
theorem five_le (l : List Fk) : l.length * 5 ≤ sizeF l := by
  induction l with
  | nil => simp [sizeF]
  | cons b l ih => simp only [sizeF, List.length_cons]; omega
theorem okAtF_name {l : List Fk} {k : Nat} {x : Fk} (hx : l[k]? = some x) (h : okAtF l k = true) : x.nm.size ≤ 40 := by
  rw [okAtF_of hx] at h
  simp only [okFk, keyF, Bool.and_eq_true, decide_eq_true_eq] at h
  exact h.1.1
theorem sizeF_ok {l : List Fk} : ∀ {k : Nat}, (∀ j, j < k → okAtF l j = true) → k ≤ l.length → sizeF (l.take k) ≤ 45 * k
  | 0, _, _ => by simp [sizeF]
  | k + 1, h, hk => by
    have hx : l[k]? = some l[k] := List.getElem?_eq_getElem (by omega)
    have ih := sizeF_ok (k := k) (fun j hj => h j (by omega)) (by omega)
    have hn := okAtF_name hx (h k (by omega))
    rw [sizeF_take_succ hx]
    omega
/-- The index of the fork for a key. -/
def pickN (l : List Fk) (key : ByteArray) : Nat := (l.takeWhile fun f => !Op.bytesLess key.toList f.nm.toList).length
def pickF (l : List Fk) (key : ByteArray) : Nat := pickN l key - 1
theorem takeWhile_at {α : Type} {p : α → Bool} {l : List α} {k : Nat} (h : ∀ j y, j < k → l[j]? = some y → p y = true) (hk : k ≤ l.length) (hs : ∀ x, l[k]? = some x → p x = false) : (l.takeWhile p).length = k := by
  induction k generalizing l with
  | zero =>
    cases l with
    | nil => rfl
    | cons x l => simp [List.takeWhile, hs x rfl]
  | succ k ih =>
    cases l with
    | nil => simp at hk
    | cons x l =>
      have h0 := h 0 x (by omega) rfl
      rw [List.takeWhile_cons, if_pos h0, List.length_cons, ih (fun j y hj hy => h (j + 1) y (by omega) (by simpa using hy)) (by simpa using hk) (fun y hy => hs y (by simpa using hy))]
theorem less_tot7 : ∀ (a b : List UInt8), Op.bytesLess a b = false → Op.bytesLess b a = false → a = b
  | [], [], _, _ => rfl
  | [], b :: y, h, _ => by simp [Op.bytesLess] at h
  | a :: x, [], _, h => by simp [Op.bytesLess] at h
  | a :: x, b :: y, h1, h2 => by
    simp only [Op.bytesLess, Bool.or_eq_false_iff, Bool.and_eq_false_iff, decide_eq_false_iff_not, beq_eq_false_iff_ne] at h1 h2
    have hab : a = b := by
      have e1 := h1.1
      have e2 := h2.1
      rw [UInt8.lt_iff_toNat_lt] at e1 e2
      exact UInt8.toNat_inj.1 (by omega)
    subst hab
    rw [less_tot7 x y (by simpa using h1.2) (by simpa using h2.2)]
theorem leq_not (a b : List UInt8) : (Op.bytesLess a b || a == b) = !Op.bytesLess b a := by
  rcases h1 : Op.bytesLess a b with _ | _
  · rcases h2 : Op.bytesLess b a with _ | _
    · rw [less_tot7 a b h1 h2]; simp
    · have h3 : (a == b) = false := by
        rw [Bool.eq_false_iff]
        intro he
        rw [beq_iff_eq] at he
        rw [he, bytesLess_eq, decide_eq_true_eq] at h2
        exact List.lt_irrefl _ h2
      rw [h3]; rfl
  · rcases h2 : Op.bytesLess b a with _ | _
    · rfl
    · rw [bytesLess_eq, decide_eq_true_eq] at h1 h2
      exact absurd (List.lt_trans h1 h2) (List.lt_irrefl _)
theorem rkey_any (s : ByteArray) (w : World) : Calls Try.prog 60 #[.string s] w fun e w' => e = .returned (.bool (keyF s)) ∧ w' = w := by
  by_cases h1 : s.size ≤ 40
  · have h1' : (s.size : Int) ≤ 40 := by omega
    have HE := Lib.hid (show keyF s = true by simp [keyF, h1])
    go_enter Try.func60, Try.ntmps60
    go_wp2
    go_ret
    exact ⟨by rw [HE.out]; rfl, rfl⟩
  · have h1' : ¬ (s.size : Int) ≤ 40 := by omega
    have HE := Lib.hid (show keyF s = false by simp [keyF, h1])
    go_enter Try.func60, Try.ntmps60
    go_wp2
    go_ret
    exact ⟨by rw [HE.out]; rfl, rfl⟩
end Go.Proofs.Ytinojpcjbjjlbaa
