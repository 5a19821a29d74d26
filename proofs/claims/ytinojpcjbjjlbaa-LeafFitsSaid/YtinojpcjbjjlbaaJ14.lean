/-
  Buckets read from bytes, one after the other, as plain data; plain lemmas. No statement is proved here.
-/
import Derived.Test.YtinojpcjbjjlbaaJ13
namespace Go.Proofs.Ytinojpcjbjjlbaa
open Go.RowKit
open Go.Lib hiding intOf
set_option linter.unusedVariables false
set_option linter.unusedSimpArgs false

/-- One bucket from the front. -/
def stepB : List UInt8 → Option (Bk × List UInt8)
  | [] => none
  | n :: r => if r.length < n.toNat + 8 then none else some (⟨⟨(r.take n.toNat).toArray⟩, leNat ((r.drop n.toNat).take 4), leNat (((r.drop n.toNat).drop 4).take 4)⟩, ((r.drop n.toNat).drop 4).drop 4)
/-- So many buckets from the front. -/
def parseB : Nat → List UInt8 → Option (List Bk × List UInt8)
  | 0, bs => some ([], bs)
  | k + 1, bs => match parseB k bs with
    | none => none
    | some (l, r) => match stepB r with
      | none => none
      | some (b, r') => some (l ++ [b], r')
theorem parseB_len : ∀ {k : Nat} {bs : List UInt8} {l : List Bk} {r : List UInt8}, parseB k bs = some (l, r) → l.length = k
  | 0, bs, l, r, h => by simp [parseB] at h; obtain ⟨rfl, _⟩ := h; rfl
  | k + 1, bs, l, r, h => by
    simp only [parseB] at h
    split at h
    · cases h
    · rename_i l0 r0 h0
      split at h
      · cases h
      · rename_i b r1 _
        injection h with h
        injection h with h1 _
        rw [← h1, List.length_append, parseB_len h0]
        rfl
theorem stepB_size {bs r : List UInt8} {b : Bk} (h : stepB bs = some (b, r)) : 9 + b.nm.size + r.length = bs.length := by
  cases bs with
  | nil => simp [stepB] at h
  | cons n t =>
    simp only [stepB] at h
    split at h
    · cases h
    · injection h with h
      injection h with h1 h2
      rw [← h1, ← h2]
      show 9 + (t.take n.toNat).toArray.size + _ = _
      simp
      omega
theorem parseB_size : ∀ {k : Nat} {bs : List UInt8} {l : List Bk} {r : List UInt8}, parseB k bs = some (l, r) → sizeB l + r.length = bs.length
  | 0, bs, l, r, h => by simp [parseB] at h; obtain ⟨rfl, rfl⟩ := h; simp [sizeB]
  | k + 1, bs, l, r, h => by
    simp only [parseB] at h
    split at h
    · cases h
    · rename_i l0 r0 h0
      split at h
      · cases h
      · rename_i b r1 hs
        injection h with h
        injection h with h1 h2
        have e1 := parseB_size h0
        have e2 := stepB_size hs
        rw [← h1, ← h2, sizeB_snoc]
        omega
theorem parseB_none {k : Nat} {bs : List UInt8} (h : parseB k bs = none) : ∀ d, parseB (k + d) bs = none
  | 0 => h
  | d + 1 => by rw [← Nat.add_assoc]; simp only [parseB, parseB_none h d]
theorem parseB_step {k : Nat} {bs r r' : List UInt8} {l : List Bk} {b : Bk} (h : parseB k bs = some (l, r)) (hs : stepB r = some (b, r')) : parseB (k + 1) bs = some (l ++ [b], r') := by simp only [parseB, h, hs]
theorem parseB_stop {k : Nat} {bs r : List UInt8} {l : List Bk} (h : parseB k bs = some (l, r)) (hs : stepB r = none) : parseB (k + 1) bs = none := by simp only [parseB, h, hs]
theorem nine_le (l : List Bk) : l.length * 9 ≤ sizeB l := by
  induction l with
  | nil => simp [sizeB]
  | cons b l ih => simp only [sizeB, List.length_cons]; omega
/-- What is small enough to be written is read again. -/
def fits (b : Bk) : Prop := b.nm.size < 256 ∧ b.rt < 4294967296 ∧ 0 ≤ b.ks ∧ b.ks < 4294967296
theorem okBk_fits {b : Bk} (h : okBk b = true) : fits b := by
  simp only [okBk, nameB, emptyB, fullB, Bool.and_eq_true, Bool.or_eq_true, decide_eq_true_eq] at h
  refine ⟨by omega, by omega, by omega, by omega⟩
theorem stepB_bytes (b : Bk) (t : List UInt8) (h : fits b) : stepB (b.bytes ++ t) = some (b, t) := by
  obtain ⟨h1, h2, h3, h4⟩ := h
  have e1 : leBytes 1 b.nm.size = [UInt8.ofNat b.nm.size] := by
    have := leBytes_snoc 0 b.nm.size
    rw [show 0 + 1 = 1 from rfl] at this
    rw [this]
    simp only [leBytes, List.nil_append, Nat.mul_zero, Nat.pow_zero, Nat.div_one, Nat.mod_eq_of_lt h1]
  have hn : (UInt8.ofNat b.nm.size).toNat = b.nm.size := by simp; omega
  simp only [Bk.bytes, e1, List.cons_append, List.nil_append, List.append_assoc, stepB, hn]
  have hl : b.nm.data.toList.length = b.nm.size := size_list _
  have l4 : ∀ v, (leBytes 4 v).length = 4 := fun v => leB_len 4 v
  rw [if_neg (by simp only [List.length_append, l4, hl]; omega)]
  rw [List.take_left' hl, List.drop_left' hl, List.take_left' (l4 _), List.drop_left' (l4 _), List.take_left' (l4 _), List.drop_left' (l4 _)]
  have hk : ((leNat (leBytes 4 b.ks.toNat) : Nat) : Int) = b.ks := by rw [leNat_leBytes_mod]; omega
  have hr : leNat (leBytes 4 b.rt) = b.rt := by rw [leNat_leBytes_mod]; omega
  congr 2
  exact Bk.ext_ (by apply bytes_ext; simp) hr hk
theorem parseB_bytes (l : List Bk) (t : List UInt8) (h : ∀ b, b ∈ l → fits b) : ∀ k, k ≤ l.length → parseB k (bytesB l ++ t) = some (l.take k, bytesB (l.drop k) ++ t)
  | 0, _ => by simp [parseB]
  | k + 1, hk => by
    have ih := parseB_bytes l t h k (by omega)
    have hx : l.drop k = l[k] :: l.drop (k + 1) := List.drop_eq_getElem_cons (by omega)
    have hs : stepB (bytesB (l.drop k) ++ t) = some (l[k], bytesB (l.drop (k + 1)) ++ t) := by
      rw [hx]
      simp only [bytesB, List.flatMap_cons, List.append_assoc]
      exact stepB_bytes l[k] _ (h _ (List.getElem_mem _))
    simp only [parseB, ih, hs]
    rw [List.take_succ_eq_append_getElem (by omega)]
theorem parseB_all (l : List Bk) (t : List UInt8) (h : ∀ b, b ∈ l → fits b) : parseB l.length (bytesB l ++ t) = some (l, t) := by
  have := parseB_bytes l t h l.length (Nat.le_refl _)
  simpa [bytesB] using this
/-- The buckets of which a page is the page. -/
def readC (kd ct : Int) (pg lk ty : Nat) (bd : ByteArray) : Option (List Bk) :=
  match parseB ct.toNat bd.data.toList with
  | none => none
  | some (l, _) => if mayL ((bd.size + 24 : Nat) : Int) l && (numB pg && decide (ty ≤ 4611686018427387904)) && decide (kd = 2 ∧ ct = l.length ∧ lk = 0 ∧ bd = catBody (bd.size + 24) l) then some l else none
end Go.Proofs.Ytinojpcjbjjlbaa
