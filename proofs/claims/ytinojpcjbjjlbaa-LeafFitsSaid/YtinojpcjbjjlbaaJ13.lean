/-
  Texts that the main proof rests on, put together: CatPlain, FkPlain. No statement is proved here.
-/
import Derived.Test.YtinojpcjbjjlbaaJ11
import Derived.Test.YtinojpcjbjjlbaaJ12
namespace Go.Proofs.Ytinojpcjbjjlbaa
open Go.RowKit
open Go.Lib hiding intOf
set_option linter.unusedVariables false
set_option linter.unusedSimpArgs false

/-- The bytes of a bucket, and of buckets. -/
def Bk.bytes (b : Bk) : List UInt8 := leBytes 1 b.nm.size ++ (b.nm.data.toList ++ (leBytes 4 b.rt ++ leBytes 4 b.ks.toNat))
def bytesB (l : List Bk) : List UInt8 := l.flatMap Bk.bytes
theorem Bk.bytes_len (b : Bk) : b.bytes.length = 9 + b.nm.size := by
  simp only [Bk.bytes, List.length_append, leB_len, size_list]
  omega
theorem bytesB_len (l : List Bk) : (bytesB l).length = sizeB l := by
  induction l with
  | nil => rfl
  | cons b l ih =>
    simp only [bytesB, List.flatMap_cons, List.length_append, Bk.bytes_len, sizeB] at ih ⊢
    rw [ih]
theorem bytesB_take_succ {l : List Bk} {k : Nat} {x : Bk} (h : l[k]? = some x) : bytesB (l.take (k + 1)) = bytesB (l.take k) ++ x.bytes := by
  obtain ⟨hk, rfl⟩ := List.getElem?_eq_some_iff.1 h
  rw [List.take_succ_eq_append_getElem hk]
  simp only [bytesB, List.flatMap_append, List.flatMap_cons, List.flatMap_nil, List.append_nil]
/-- The body of a catalog. -/
def catBody (size : Nat) (l : List Bk) : ByteArray := ⟨(bytesB l ++ List.replicate (size - 24 - sizeB l) 0).toArray⟩
theorem less_trans {a b c : List UInt8} (h1 : Op.bytesLess a b = true) (h2 : Op.bytesLess b c = true) : Op.bytesLess a c = true := by
  rw [bytesLess_eq, decide_eq_true_eq] at *
  exact List.lt_trans h1 h2
theorem less_irrefl (a : List UInt8) : Op.bytesLess a a = false := by
  rw [bytesLess_eq, decide_eq_false_iff_not]
  exact List.lt_irrefl a
/-- Names ascend. -/
def ascB (l : List Bk) : Prop := ∀ (i j : Nat) (a b : Bk), i < j → l[i]? = some a → l[j]? = some b → Op.bytesLess a.nm.toList b.nm.toList = true
theorem allOk_at {l : List Bk} (h : allOk l = true) {k : Nat} (hk : k < l.length) : okAt l k = true := by
  rw [allOk, List.all_eq_true] at h
  exact h k (List.mem_range.2 hk)
theorem allOk_ok {l : List Bk} (h : allOk l = true) {k : Nat} {x : Bk} (hx : l[k]? = some x) : okBk x = true := by
  have := allOk_at h (List.getElem?_eq_some_iff.1 hx).1
  rw [okAt_of hx, Bool.and_eq_true] at this
  exact this.1
theorem allOk_asc {l : List Bk} (h : allOk l = true) : ascB l := by
  intro i j a b hij ha hb
  induction j generalizing b with
  | zero => omega
  | succ j ih =>
    have hj := (List.getElem?_eq_some_iff.1 hb).1
    have h1 := allOk_at h hj
    rw [okAt_of hb, Bool.and_eq_true] at h1
    have h2 := h1.2
    obtain ⟨y, hy⟩ : ∃ y, l[j]? = some y := ⟨l[j], List.getElem?_eq_getElem (by omega)⟩
    simp [hy] at h2
    by_cases hji : i = j
    · subst hji
      rw [ha] at hy
      injection hy with hy
      rw [hy]
      exact h2
    · exact less_trans (ih y (by omega) hy) h2
theorem ascB_tail {b : Bk} {l : List Bk} (h : ascB (b :: l)) : ascB l := fun i j x y hij hx hy => h (i + 1) (j + 1) x y (by omega) (by simpa using hx) (by simpa using hy)
theorem lost_size : lostN.size = 10 := rfl
theorem toList_size (s : ByteArray) : s.toList.length = s.size := by
  rw [ByteArray.toList_eq]; simp
theorem sizeB_sumB {l : List Bk} (h : ascB l) : sizeB l ≤ sumB l + 19 := by
  have h0 : ∀ l : List Bk, (∀ x, x ∈ l → (x.nm.toList == lostN.toList) = false) → sizeB l = sumB l := by
    intro l
    induction l with
    | nil => intro _; rfl
    | cons b l ih =>
      intro hx
      have hb := hx b List.mem_cons_self
      have := ih fun x hx' => hx x (List.mem_cons_of_mem _ hx')
      simp [sizeB, sumB, hb, this]
  induction l with
  | nil => simp [sizeB]
  | cons b l ih =>
    have ih := ih (ascB_tail h)
    rcases hb : (b.nm.toList == lostN.toList) with _ | _
    · simp only [sizeB, sumB, hb]
      simp
      omega
    · have hl : sizeB l = sumB l := h0 l fun x hx => by
        obtain ⟨j, hj, rfl⟩ := List.mem_iff_getElem.1 hx
        have h1 := h 0 (j + 1) b l[j] (by omega) rfl (by simp [hj])
        rw [beq_iff_eq] at hb
        rw [hb] at h1
        rw [Bool.eq_false_iff]
        intro he
        rw [beq_iff_eq] at he
        rw [he, less_irrefl] at h1
        cases h1
      have hs : b.nm.size = 10 := by
        rw [beq_iff_eq] at hb
        have := congrArg List.length hb
        rw [toList_size, toList_size] at this
        exact this
      simp only [sizeB, sumB, hb, hl, hs]
      simp
      omega
end Go.Proofs.Ytinojpcjbjjlbaa
namespace Go.Proofs.Ytinojpcjbjjlbaa
open Go.RowKit
open Go.Lib hiding intOf
set_option linter.unusedVariables false
set_option linter.unusedSimpArgs false

/-- The bytes of a fork, and of forks. -/
def Fk.bytes (b : Fk) : List UInt8 := leBytes 1 b.nm.size ++ (b.nm.data.toList ++ leBytes 4 b.rt)
def bytesF (l : List Fk) : List UInt8 := l.flatMap Fk.bytes
theorem Fk.bytes_len (b : Fk) : b.bytes.length = 5 + b.nm.size := by
  simp only [Fk.bytes, List.length_append, leB_len, size_list]
  omega
theorem bytesF_len (l : List Fk) : (bytesF l).length = sizeF l := by
  induction l with
  | nil => rfl
  | cons b l ih =>
    simp only [bytesF, List.flatMap_cons, List.length_append, Fk.bytes_len, sizeF] at ih ⊢
    rw [ih]
theorem bytesF_take_succ {l : List Fk} {k : Nat} {x : Fk} (h : l[k]? = some x) : bytesF (l.take (k + 1)) = bytesF (l.take k) ++ x.bytes := by
  obtain ⟨hk, rfl⟩ := List.getElem?_eq_some_iff.1 h
  rw [List.take_succ_eq_append_getElem hk]
  simp only [bytesF, List.flatMap_append, List.flatMap_cons, List.flatMap_nil, List.append_nil]
/-- The body of a catalog. -/
def forkBody (size : Nat) (l : List Fk) : ByteArray := ⟨(bytesF l ++ List.replicate (size - 24 - sizeF l) 0).toArray⟩
/-- Names ascend. -/
def ascF (l : List Fk) : Prop := ∀ (i j : Nat) (a b : Fk), i < j → l[i]? = some a → l[j]? = some b → Op.bytesLess a.nm.toList b.nm.toList = true
theorem allOkF_at {l : List Fk} (h : allOkF l = true) {k : Nat} (hk : k < l.length) : okAtF l k = true := by
  rw [allOkF, List.all_eq_true] at h
  exact h k (List.mem_range.2 hk)
theorem allOkF_ok {l : List Fk} (h : allOkF l = true) {k : Nat} {x : Fk} (hx : l[k]? = some x) : okFk x = true := by
  have := allOkF_at h (List.getElem?_eq_some_iff.1 hx).1
  rw [okAtF_of hx, Bool.and_eq_true] at this
  exact this.1
theorem allOkF_asc {l : List Fk} (h : allOkF l = true) : ascF l := by
  intro i j a b hij ha hb
  induction j generalizing b with
  | zero => omega
  | succ j ih =>
    have hj := (List.getElem?_eq_some_iff.1 hb).1
    have h1 := allOkF_at h hj
    rw [okAtF_of hb, Bool.and_eq_true] at h1
    have h2 := h1.2
    obtain ⟨y, hy⟩ : ∃ y, l[j]? = some y := ⟨l[j], List.getElem?_eq_getElem (by omega)⟩
    simp [hy] at h2
    by_cases hji : i = j
    · subst hji
      rw [ha] at hy
      injection hy with hy
      rw [hy]
      exact h2
    · exact less_trans (ih y (by omega) hy) h2
theorem ascF_tail {b : Fk} {l : List Fk} (h : ascF (b :: l)) : ascF l := fun i j x y hij hx hy => h (i + 1) (j + 1) x y (by omega) (by simpa using hx) (by simpa using hy)
end Go.Proofs.Ytinojpcjbjjlbaa
