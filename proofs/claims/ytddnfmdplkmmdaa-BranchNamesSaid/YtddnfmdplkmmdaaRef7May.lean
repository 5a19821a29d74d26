/-
  Contracts of the reference of layer 7: Key, One, Size, May, Pick.
-/
import Derived.Test.YtddnfmdplkmmdaaFk
import Derived.Test.YtddnfmdplkmmdaaRef4May
import Derived.Test.YtddnfmdplkmmdaaRef6May
import Derived.Deep.CutRange
import Derived.Deep.DrawnRows
import Derived.Deep.QuietTactic
import Derived.BigQuiet
import Derived.Lib.MinMax
namespace Go.Proofs.Ytddnfmdplkmmdaa
open Go.RowKit
open Go.Lib hiding intOf
set_option linter.unusedVariables false
set_option linter.unusedSimpArgs false
attribute [local go_sem ↓] Go.wp_at_zero Go.wp_at_succ

def keyF (s : ByteArray) : Bool := decide (s.size ≤ 40)
def okFk (b : Fk) : Bool := keyF b.nm && numB b.rt
/-- The fork with index i is valid, and its key is above the one before it. -/
def okAtF (l : List Fk) (i : Nat) : Bool :=
  match l[i]? with
  | none => false
  | some b => okFk b && (decide (i = 0) || match l[i - 1]? with | some a => Op.bytesLess a.nm.toList b.nm.toList | none => true)
def allOkF (l : List Fk) : Bool := (List.range l.length).all (okAtF l)
/-- Forks are valid. -/
def mayF (l : List Fk) : Bool := allOkF l && decide (0 < l.length)
theorem allOkF_no {l : List Fk} {k : Nat} (hk : k < l.length) (h : okAtF l k = false) : allOkF l = false := by
  rw [Bool.eq_false_iff]
  intro ha
  rw [allOkF, List.all_eq_true] at ha
  rw [ha k (List.mem_range.2 hk)] at h
  cases h
theorem allOkF_yes {l : List Fk} (h : ∀ j, j < l.length → okAtF l j = true) : allOkF l = true := by
  rw [allOkF, List.all_eq_true]
  exact fun j hj => h j (List.mem_range.1 hj)
theorem okAtF_of {l : List Fk} {k : Nat} {x : Fk} (hx : l[k]? = some x) : okAtF l k = (okFk x && (decide (k = 0) || match l[k - 1]? with | some a => Op.bytesLess a.nm.toList x.nm.toList | none => true)) := by
  rw [okAtF, hx]
/-- The size of forks. -/
def sizeF : List Fk → Nat
  | [] => 0
  | b :: l => 5 + b.nm.size + sizeF l
theorem sizeF_snoc (l : List Fk) (b : Fk) : sizeF (l ++ [b]) = sizeF l + (5 + b.nm.size) := by
  induction l with
  | nil => simp [sizeF]
  | cons c l ih => simp only [List.cons_append, sizeF, ih]; omega
theorem sizeF_take_succ {l : List Fk} {k : Nat} {x : Fk} (h : l[k]? = some x) : sizeF (l.take (k + 1)) = sizeF (l.take k) + (5 + x.nm.size) := by
  obtain ⟨hk, rfl⟩ := List.getElem?_eq_some_iff.1 h
  rw [List.take_succ_eq_append_getElem hk, sizeF_snoc]
theorem sizeF_take_le (l : List Fk) : ∀ k, sizeF (l.take k) ≤ sizeF l := by
  intro k
  induction l generalizing k with
  | nil => simp [sizeF]
  | cons c l ih => cases k with
    | zero => simp [sizeF]
    | succ k => simp only [List.take_succ_cons, sizeF]; have := ih k; omega
theorem five_le (l : List Fk) : l.length * 5 ≤ sizeF l := by
  induction l with
  | nil => simp [sizeF]
  | cons b l ih => simp only [sizeF, List.length_cons]; omega
theorem okAtF_name {l : List Fk} {k : Nat} {x : Fk} (hx : l[k]? = some x) (h : okAtF l k = true) : x.nm.size ≤ 40 := by
  rw [okAtF_of hx] at h
  simp only [okFk, keyF, Bool.and_eq_true, decide_eq_true_eq] at h
  exact h.1.1
theorem sizeF_ok {l : List Fk} : ∀ {k : Nat}, (∀ j, j < k → okAtF l j = true) → k ≤ l.length → sizeF (l.take k) ≤ 45 * k
  | 0, _, _ => by simp [sizeF]
  | k + 1, h, hk => by
    have hx : l[k]? = some l[k] := List.getElem?_eq_getElem (by omega)
    have ih := sizeF_ok (k := k) (fun j hj => h j (by omega)) (by omega)
    have hn := okAtF_name hx (h k (by omega))
    rw [sizeF_take_succ hx]
    omega
/-- The index of the fork for a key. -/
def pickN (l : List Fk) (key : ByteArray) : Nat := (l.takeWhile fun f => !Op.bytesLess key.toList f.nm.toList).length
def pickF (l : List Fk) (key : ByteArray) : Nat := pickN l key - 1
theorem takeWhile_at {α : Type} {p : α → Bool} {l : List α} {k : Nat} (h : ∀ j y, j < k → l[j]? = some y → p y = true) (hk : k ≤ l.length) (hs : ∀ x, l[k]? = some x → p x = false) : (l.takeWhile p).length = k := by
  induction k generalizing l with
  | zero =>
    cases l with
    | nil => rfl
    | cons x l => simp [List.takeWhile, hs x rfl]
  | succ k ih =>
    cases l with
    | nil => simp at hk
    | cons x l =>
      have h0 := h 0 x (by omega) rfl
      rw [List.takeWhile_cons, if_pos h0, List.length_cons, ih (fun j y hj hy => h (j + 1) y (by omega) (by simpa using hy)) (by simpa using hk) (fun y hy => hs y (by simpa using hy))]
theorem less_tot7 : ∀ (a b : List UInt8), Op.bytesLess a b = false → Op.bytesLess b a = false → a = b
  | [], [], _, _ => rfl
  | [], b :: y, h, _ => by simp [Op.bytesLess] at h
  | a :: x, [], _, h => by simp [Op.bytesLess] at h
  | a :: x, b :: y, h1, h2 => by
    simp only [Op.bytesLess, Bool.or_eq_false_iff, Bool.and_eq_false_iff, decide_eq_false_iff_not, beq_eq_false_iff_ne] at h1 h2
    have hab : a = b := by
      have e1 := h1.1
      have e2 := h2.1
      rw [UInt8.lt_iff_toNat_lt] at e1 e2
      exact UInt8.toNat_inj.1 (by omega)
    subst hab
    rw [less_tot7 x y (by simpa using h1.2) (by simpa using h2.2)]
theorem leq_not (a b : List UInt8) : (Op.bytesLess a b || a == b) = !Op.bytesLess b a := by
  rcases h1 : Op.bytesLess a b with _ | _
  · rcases h2 : Op.bytesLess b a with _ | _
    · rw [less_tot7 a b h1 h2]; simp
    · have h3 : (a == b) = false := by
        rw [Bool.eq_false_iff]
        intro he
        rw [beq_iff_eq] at he
        rw [he, bytesLess_eq, decide_eq_true_eq] at h2
        exact List.lt_irrefl _ h2
      rw [h3]; rfl
  · rcases h2 : Op.bytesLess b a with _ | _
    · rfl
    · rw [bytesLess_eq, decide_eq_true_eq] at h1 h2
      exact absurd (List.lt_trans h1 h2) (List.lt_irrefl _)
theorem rkey_any (s : ByteArray) (w : World) : Calls Try.prog 22 #[.string s] w fun e w' => e = .returned (.bool (keyF s)) ∧ w' = w := by
  by_cases h1 : s.size ≤ 40
  · have h1' : (s.size : Int) ≤ 40 := by omega
    have HE := Lib.hid (show keyF s = true by simp [keyF, h1])
    go_enter Try.func22, Try.ntmps22
    go_wp2
    go_ret
    exact ⟨by rw [HE.out]; rfl, rfl⟩
  · have h1' : ¬ (s.size : Int) ≤ 40 := by omega
    have HE := Lib.hid (show keyF s = false by simp [keyF, h1])
    go_enter Try.func22, Try.ntmps22
    go_wp2
    go_ret
    exact ⟨by rw [HE.out]; rfl, rfl⟩
theorem rone7_any (b : Fk) (w : World) (hs : b.nm.size ≤ 9007199254740992) : Calls Try.prog 43 #[.agg #[.string b.nm, .int .u32 b.rt]] w fun e w' => e = .returned (.int .i64 (5 + (b.nm.size : Int))) ∧ Below w.heap.size w w' := by
  go_enter Try.func43, Try.ntmps43
  go_wp2
  go_ret
  exact ⟨rfl, (Below.refl _ _).alloc (Nat.le_refl _) _⟩
set_option maxRecDepth 100000 in
set_option maxHeartbeats 3200000 in
theorem rsize7_any (A : Option Addr) (n c : Nat) (l : List Fk) (w : World) (hr : Reads w w.heap.size 2 A n (fkc l)) (hn : n ≤ maxLen) (hs : sizeF l ≤ 9007199254740992) :
    Calls Try.prog 20 #[.slice A n c] w fun e w' => e = .returned (.int .i64 (sizeF l)) ∧ Below w.heap.size w w' := by
  have hl := fk_len hr
  have HR := Lib.hid hr
  have HL := Lib.hid hl
  unfold maxLen at hn
  clear hr hl
  go_enter Try.func20, Try.ntmps20
  go_wp2_with fail
  go_loopw [3, 4] (fun s i wr => ∃ k : Nat, k ≤ n ∧ i = .int .i64 k ∧ s = .int .i64 (sizeF (l.take k)) ∧ Hid (Below w.heap.size w wr)) (fun _ i _ => n - (intOf i).toNat)
  case atStart => exact ⟨0, Nat.zero_le _, rfl, by simp [sizeF], Lib.hid (Below.refl _ _)⟩
  case round =>
    obtain ⟨k, hk, rfl, rfl, HB⟩ := hrel
    by_cases hlt : k < n
    · obtain ⟨ad, x, rfl, _, hp, hx, hc⟩ := fk_at HR.out hlt
      obtain ⟨hc0, hc1⟩ := hc.below HB.out hp
      have hk0 : (0 : Int) ≤ k := by omega
      have hk1 : (k : Int) < n := by omega
      have hsz := sizeF_take_succ hx
      have hle := sizeF_take_le l (k + 1)
      have HX := Lib.hid hsz
      have hxs : x.nm.size ≤ 9007199254740992 := by omega
      have hks : sizeF (l.take k) + (5 + x.nm.size) ≤ 9007199254740992 := by omega
      have HO := fun w => rone7_any x w hxs
      clear hx hsz hle
      go_wp2_with fail
      refine (HO _).mono ?_
      rintro e w1 ⟨rfl, hb⟩
      replace HB := Lib.hid (HB.out.trans (hb.mono HB.out.size))
      clear hb hc hc0 hc1 HO
      have hadd : ((sizeF (l.take k) : Nat) : Int) + (5 + (x.nm.size : Int)) = ((sizeF (l.take (k + 1)) : Nat) : Int) := by rw [HX.out]; omega
      go_wp2
      go_roundw
      case rel =>
        first
          | exact ⟨k + 1, by omega, by go_num, by first | rfl | (rw [← hadd]; go_num), HB⟩
          | ((repeat apply Exists.intro); exact ⟨⟨k + 1, by omega, by go_num, by first | rfl | (rw [← hadd]; go_num), HB⟩, rfl⟩)
      case measure => simp [intOf]; omega
    · obtain rfl : k = n := by omega
      have ht : l.take k = l := List.take_of_length_le (by rw [HL.out]; exact Nat.le_refl _)
      rw [ht]
      clear hlt
      go_wp2
      go_ret
      exact ⟨rfl, HB.out⟩
end Go.Proofs.Ytddnfmdplkmmdaa
