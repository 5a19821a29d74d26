/-
  A fork page's body as plain data; plain lemmas. No statement is proved here.
-/
import Derived.Test.YtddnfmdplkmmdaaRef7May
import Derived.Test.YtddnfmdplkmmdaaCatPlain
namespace Go.Proofs.Ytddnfmdplkmmdaa
open Go.RowKit
open Go.Lib hiding intOf
set_option linter.unusedVariables false
set_option linter.unusedSimpArgs false

/-- The bytes of a fork, and of forks. -/
def Fk.bytes (b : Fk) : List UInt8 := leBytes 1 b.nm.size ++ (b.nm.data.toList ++ leBytes 4 b.rt)
def bytesF (l : List Fk) : List UInt8 := l.flatMap Fk.bytes
theorem Fk.bytes_len (b : Fk) : b.bytes.length = 5 + b.nm.size := by
  simp only [Fk.bytes, List.length_append, leB_len, size_list]
  omega
theorem bytesF_len (l : List Fk) : (bytesF l).length = sizeF l := by
  induction l with
  | nil => rfl
  | cons b l ih =>
    simp only [bytesF, List.flatMap_cons, List.length_append, Fk.bytes_len, sizeF] at ih ⊢
    rw [ih]
theorem bytesF_take_succ {l : List Fk} {k : Nat} {x : Fk} (h : l[k]? = some x) : bytesF (l.take (k + 1)) = bytesF (l.take k) ++ x.bytes := by
  obtain ⟨hk, rfl⟩ := List.getElem?_eq_some_iff.1 h
  rw [List.take_succ_eq_append_getElem hk]
  simp only [bytesF, List.flatMap_append, List.flatMap_cons, List.flatMap_nil, List.append_nil]
/-- The body of a catalog. -/
def forkBody (size : Nat) (l : List Fk) : ByteArray := ⟨(bytesF l ++ List.replicate (size - 24 - sizeF l) 0).toArray⟩
/-- Names ascend. -/
def ascF (l : List Fk) : Prop := ∀ (i j : Nat) (a b : Fk), i < j → l[i]? = some a → l[j]? = some b → Op.bytesLess a.nm.toList b.nm.toList = true
theorem allOkF_at {l : List Fk} (h : allOkF l = true) {k : Nat} (hk : k < l.length) : okAtF l k = true := by
  rw [allOkF, List.all_eq_true] at h
  exact h k (List.mem_range.2 hk)
theorem allOkF_ok {l : List Fk} (h : allOkF l = true) {k : Nat} {x : Fk} (hx : l[k]? = some x) : okFk x = true := by
  have := allOkF_at h (List.getElem?_eq_some_iff.1 hx).1
  rw [okAtF_of hx, Bool.and_eq_true] at this
  exact this.1
theorem allOkF_asc {l : List Fk} (h : allOkF l = true) : ascF l := by
  intro i j a b hij ha hb
  induction j generalizing b with
  | zero => omega
  | succ j ih =>
    have hj := (List.getElem?_eq_some_iff.1 hb).1
    have h1 := allOkF_at h hj
    rw [okAtF_of hb, Bool.and_eq_true] at h1
    have h2 := h1.2
    obtain ⟨y, hy⟩ : ∃ y, l[j]? = some y := ⟨l[j], List.getElem?_eq_getElem (by omega)⟩
    simp [hy] at h2
    by_cases hji : i = j
    · subst hji
      rw [ha] at hy
      injection hy with hy
      rw [hy]
      exact h2
    · exact less_trans (ih y (by omega) hy) h2
theorem ascF_tail {b : Fk} {l : List Fk} (h : ascF (b :: l)) : ascF l := fun i j x y hij hx hy => h (i + 1) (j + 1) x y (by omega) (by simpa using hx) (by simpa using hy)
end Go.Proofs.Ytddnfmdplkmmdaa
