/-
  Contract of the reference's May of layer 6: may buckets be, in pages of a size.
-/
import Derived.Test.YtnpockkhefbjoaaRef6Find
import Derived.Test.YtnpockkhefbjoaaRef4May
import Derived.Deep.CutRange
import Derived.Deep.QuietTactic
import Derived.BigQuiet
namespace Go.Proofs.Ytnpockkhefbjoaa
open Go.RowKit
open Go.Lib hiding intOf
set_option linter.unusedVariables false
set_option linter.unusedSimpArgs false
attribute [local go_sem ↓] Go.wp_at_zero Go.wp_at_succ

def lostN : ByteArray := ⟨#[108, 111, 115, 116, 43, 102, 111, 117, 110, 100]⟩
theorem lost_list : lostN.toList = [108, 111, 115, 116, 43, 102, 111, 117, 110, 100] := by simp [lostN]
def nameB (s : ByteArray) : Bool := decide (1 ≤ s.size ∧ s.size ≤ 16)
def emptyB (b : Bk) : Bool := decide (b.rt = 0 ∧ b.ks = 0)
def fullB (b : Bk) : Bool := decide ((2 ≤ b.rt ∧ b.rt ≤ 2147483647) ∧ 1 ≤ b.ks ∧ b.ks ≤ 2147483647)
/-- A bucket is valid. -/
def okBk (b : Bk) : Bool := nameB b.nm && (emptyB b || fullB b)
/-- The bucket with index i is valid, and its name is above the one before it. -/
def okAt (l : List Bk) (i : Nat) : Bool :=
  match l[i]? with
  | none => false
  | some b => okBk b && (decide (i = 0) || match l[i - 1]? with | some a => Op.bytesLess a.nm.toList b.nm.toList | none => true)
/-- The size of buckets without that of lost+found. -/
def sumB : List Bk → Nat
  | [] => 0
  | b :: l => (if b.nm.toList == lostN.toList then 0 else 9 + b.nm.size) + sumB l
theorem sumB_snoc (l : List Bk) (b : Bk) : sumB (l ++ [b]) = sumB l + (if b.nm.toList == lostN.toList then 0 else 9 + b.nm.size) := by
  induction l with
  | nil => simp [sumB]
  | cons c l ih => simp only [List.cons_append, sumB, ih]; omega
theorem sumB_take_succ {l : List Bk} {k : Nat} {x : Bk} (h : l[k]? = some x) : sumB (l.take (k + 1)) = sumB (l.take k) + (if x.nm.toList == lostN.toList then 0 else 9 + x.nm.size) := by
  obtain ⟨hk, rfl⟩ := List.getElem?_eq_some_iff.1 h
  rw [List.take_succ_eq_append_getElem hk, sumB_snoc]
theorem sumB_le (l : List Bk) : sumB l ≤ sizeB l := by
  induction l with
  | nil => simp [sumB, sizeB]
  | cons c l ih => simp only [sumB, sizeB]; split <;> omega
def allOk (l : List Bk) : Bool := (List.range l.length).all (okAt l)
/-- Buckets are valid for a page size. -/
def mayL (size : Int) (l : List Bk) : Bool := allOk l && (goodSize size && decide ((sumB l : Int) ≤ size - 43))
theorem allOk_no {l : List Bk} {k : Nat} (hk : k < l.length) (h : okAt l k = false) : allOk l = false := by
  rw [Bool.eq_false_iff]
  intro ha
  rw [allOk, List.all_eq_true] at ha
  rw [ha k (List.mem_range.2 hk)] at h
  cases h
theorem allOk_yes {l : List Bk} (h : ∀ j, j < l.length → okAt l j = true) : allOk l = true := by
  rw [allOk, List.all_eq_true]
  exact fun j hj => h j (List.mem_range.1 hj)
theorem okAt_of {l : List Bk} {k : Nat} {x : Bk} (hx : l[k]? = some x) : okAt l k = (okBk x && (decide (k = 0) || match l[k - 1]? with | some a => Op.bytesLess a.nm.toList x.nm.toList | none => true)) := by
  rw [okAt, hx]
theorem okAt_name {l : List Bk} {k : Nat} {x : Bk} (hx : l[k]? = some x) (h : okAt l k = true) : x.nm.size ≤ 16 := by
  rw [okAt_of hx] at h
  simp only [okBk, nameB, Bool.and_eq_true, decide_eq_true_eq] at h
  exact h.1.1.2
theorem sumB_ok {l : List Bk} : ∀ {k : Nat}, (∀ j, j < k → okAt l j = true) → k ≤ l.length → sumB (l.take k) ≤ 25 * k
  | 0, _, _ => by simp [sumB]
  | k + 1, h, hk => by
    have hx : l[k]? = some l[k] := List.getElem?_eq_getElem (by omega)
    have ih := sumB_ok (k := k) (fun j hj => h j (by omega)) (by omega)
    have hn := okAt_name hx (h k (by omega))
    rw [sumB_take_succ hx]
    split <;> omega
def numB (n : Nat) : Bool := decide (2 ≤ n ∧ n ≤ 2147483647)
theorem rnumB_any (n : Nat) (w : World) : Calls Try.prog 32 #[.int .u32 n] w fun e w' => e = .returned (.bool (numB n)) ∧ w' = w := by
  by_cases h1 : 2 ≤ n
  · have h1' : (2 : Int) ≤ n := by omega
    by_cases h2 : n ≤ 2147483647
    · have h2' : (n : Int) ≤ 2147483647 := by omega
      have HE := Lib.hid (show numB n = true by simp [numB, h1, h2])
      go_enter Try.func32, Try.ntmps32
      go_wp2
      go_ret
      exact ⟨by rw [HE.out]; rfl, rfl⟩
    · have h2' : ¬ (n : Int) ≤ 2147483647 := by omega
      have HE := Lib.hid (show numB n = false by simp [numB, h1, h2])
      go_enter Try.func32, Try.ntmps32
      go_wp2
      go_ret
      exact ⟨by rw [HE.out]; rfl, rfl⟩
  · have h1' : ¬ (2 : Int) ≤ n := by omega
    have HE := Lib.hid (show numB n = false by simp [numB, h1])
    go_enter Try.func32, Try.ntmps32
    go_wp2
    go_ret
    exact ⟨by rw [HE.out]; rfl, rfl⟩
end Go.Proofs.Ytnpockkhefbjoaa
