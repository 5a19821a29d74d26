/-
  Forks read from bytes, one after the other, as plain data; plain lemmas. No statement is proved here.
-/
import Derived.Test.YtinojpcjbjjlbaaJ13
import Derived.Test.YtinojpcjbjjlbaaJ14
namespace Go.Proofs.Ytinojpcjbjjlbaa
open Go.RowKit
open Go.Lib hiding intOf
set_option linter.unusedVariables false
set_option linter.unusedSimpArgs false

/-- One fork from the front. -/
def stepF : List UInt8 → Option (Fk × List UInt8)
  | [] => none
  | n :: r => if r.length < n.toNat + 4 then none else some (⟨⟨(r.take n.toNat).toArray⟩, leNat ((r.drop n.toNat).take 4)⟩, (r.drop n.toNat).drop 4)
/-- So many forks from the front. -/
def parseF : Nat → List UInt8 → Option (List Fk × List UInt8)
  | 0, bs => some ([], bs)
  | k + 1, bs => match parseF k bs with
    | none => none
    | some (l, r) => match stepF r with
      | none => none
      | some (b, r') => some (l ++ [b], r')
theorem parseF_len : ∀ {k : Nat} {bs : List UInt8} {l : List Fk} {r : List UInt8}, parseF k bs = some (l, r) → l.length = k
  | 0, bs, l, r, h => by simp [parseF] at h; obtain ⟨rfl, _⟩ := h; rfl
  | k + 1, bs, l, r, h => by
    simp only [parseF] at h
    split at h
    · cases h
    · rename_i l0 r0 h0
      split at h
      · cases h
      · rename_i b r1 _
        injection h with h
        injection h with h1 _
        rw [← h1, List.length_append, parseF_len h0]
        rfl
theorem stepF_size {bs r : List UInt8} {b : Fk} (h : stepF bs = some (b, r)) : 5 + b.nm.size + r.length = bs.length := by
  cases bs with
  | nil => simp [stepF] at h
  | cons n t =>
    simp only [stepF] at h
    split at h
    · cases h
    · injection h with h
      injection h with h1 h2
      rw [← h1, ← h2]
      show 5 + (t.take n.toNat).toArray.size + _ = _
      simp
      omega
theorem parseF_size : ∀ {k : Nat} {bs : List UInt8} {l : List Fk} {r : List UInt8}, parseF k bs = some (l, r) → sizeF l + r.length = bs.length
  | 0, bs, l, r, h => by simp [parseF] at h; obtain ⟨rfl, rfl⟩ := h; simp [sizeF]
  | k + 1, bs, l, r, h => by
    simp only [parseF] at h
    split at h
    · cases h
    · rename_i l0 r0 h0
      split at h
      · cases h
      · rename_i b r1 hs
        injection h with h
        injection h with h1 h2
        have e1 := parseF_size h0
        have e2 := stepF_size hs
        rw [← h1, ← h2, sizeF_snoc]
        omega
theorem parseF_none {k : Nat} {bs : List UInt8} (h : parseF k bs = none) : ∀ d, parseF (k + d) bs = none
  | 0 => h
  | d + 1 => by rw [← Nat.add_assoc]; simp only [parseF, parseF_none h d]
theorem parseF_step {k : Nat} {bs r r' : List UInt8} {l : List Fk} {b : Fk} (h : parseF k bs = some (l, r)) (hs : stepF r = some (b, r')) : parseF (k + 1) bs = some (l ++ [b], r') := by simp only [parseF, h, hs]
theorem parseF_stop {k : Nat} {bs r : List UInt8} {l : List Fk} (h : parseF k bs = some (l, r)) (hs : stepF r = none) : parseF (k + 1) bs = none := by simp only [parseF, h, hs]
/-- What is small enough to be written is read again. -/
def fitsF (b : Fk) : Prop := b.nm.size < 256 ∧ b.rt < 4294967296
theorem okFk_fitsF {b : Fk} (h : okFk b = true) : fitsF b := by
  simp only [okFk, keyF, numB, Bool.and_eq_true, decide_eq_true_eq] at h
  exact ⟨by omega, by omega⟩
theorem stepF_bytes (b : Fk) (t : List UInt8) (h : fitsF b) : stepF (b.bytes ++ t) = some (b, t) := by
  obtain ⟨h1, h2⟩ := h
  have e1 : leBytes 1 b.nm.size = [UInt8.ofNat b.nm.size] := by
    have := leBytes_snoc 0 b.nm.size
    rw [show 0 + 1 = 1 from rfl] at this
    rw [this]
    simp only [leBytes, List.nil_append, Nat.mul_zero, Nat.pow_zero, Nat.div_one, Nat.mod_eq_of_lt h1]
  have hn : (UInt8.ofNat b.nm.size).toNat = b.nm.size := by simp; omega
  simp only [Fk.bytes, e1, List.cons_append, List.nil_append, List.append_assoc, stepF, hn]
  have hl : b.nm.data.toList.length = b.nm.size := size_list _
  have l4 : ∀ v, (leBytes 4 v).length = 4 := fun v => leB_len 4 v
  rw [if_neg (by simp only [List.length_append, l4, hl]; omega)]
  rw [List.take_left' hl, List.drop_left' hl, List.take_left' (l4 _), List.drop_left' (l4 _)]
  have hr : leNat (leBytes 4 b.rt) = b.rt := by rw [leNat_leBytes_mod]; omega
  congr 2
  exact Fk.ext_ (by apply bytes_ext; simp) hr
theorem parseF_bytes (l : List Fk) (t : List UInt8) (h : ∀ b, b ∈ l → fitsF b) : ∀ k, k ≤ l.length → parseF k (bytesF l ++ t) = some (l.take k, bytesF (l.drop k) ++ t)
  | 0, _ => by simp [parseF]
  | k + 1, hk => by
    have ih := parseF_bytes l t h k (by omega)
    have hx : l.drop k = l[k] :: l.drop (k + 1) := List.drop_eq_getElem_cons (by omega)
    have hs : stepF (bytesF (l.drop k) ++ t) = some (l[k], bytesF (l.drop (k + 1)) ++ t) := by
      rw [hx]
      simp only [bytesF, List.flatMap_cons, List.append_assoc]
      exact stepF_bytes l[k] _ (h _ (List.getElem_mem _))
    simp only [parseF, ih, hs]
    rw [List.take_succ_eq_append_getElem (by omega)]
theorem parseF_all (l : List Fk) (t : List UInt8) (h : ∀ b, b ∈ l → fitsF b) : parseF l.length (bytesF l ++ t) = some (l, t) := by
  have := parseF_bytes l t h l.length (Nat.le_refl _)
  simpa [bytesF] using this
/-- Forks may be a page's. -/
def mayP7 (size : Int) (n tx : Nat) (l : List Fk) : Bool := goodSize size && (mayF l && (decide ((sizeF l : Int) ≤ size - 24) && (numB n && decide (tx ≤ 4611686018427387904))))
/-- The forks of which a page is the page. -/
def readF (kd ct : Int) (pg lk ty : Nat) (bd : ByteArray) : Option (List Fk) :=
  match parseF ct.toNat bd.data.toList with
  | none => none
  | some (l, _) => if mayP7 ((bd.size + 24 : Nat) : Int) pg ty l && decide (kd = 3 ∧ ct = l.length ∧ lk = 0 ∧ bd = forkBody (bd.size + 24) l) then some l else none
theorem mayP7_parts {z n tx : Nat} {l : List Fk} (h : mayP7 z n tx l = true) : allOkF l = true ∧ 0 < l.length ∧ goodSize z = true ∧ (sizeF l ≤ z - 24 ∧ 24 ≤ z) ∧ (2 ≤ n ∧ n ≤ 2147483647) ∧ tx ≤ 4611686018427387904 := by
  simp only [mayP7, mayF, numB, Bool.and_eq_true, decide_eq_true_eq] at h
  obtain ⟨h1, ⟨h2, h3⟩, h4, h5, h6⟩ := h
  have := good_pos h1
  exact ⟨h2, h3, h1, by omega, h5, h6⟩
theorem forkBody_size (z : Nat) (l : List Fk) (h : sizeF l ≤ z - 24) : (forkBody z l).size = z - 24 := by
  show (bytesF l ++ List.replicate (z - 24 - sizeF l) 0).toArray.size = _
  rw [List.size_toArray, List.length_append, List.length_replicate, bytesF_len]
  omega
theorem readF_page {z n tx : Nat} {l : List Fk} (h : mayP7 z n tx l = true) : readF 3 l.length n 0 tx (forkBody z l) = some l := by
  obtain ⟨hall, h0, hg, hroom, hn, htx⟩ := mayP7_parts h
  have hgp := good_pos hg
  have hsz := forkBody_size z l hroom.1
  have hz : (forkBody z l).size + 24 = z := by omega
  unfold readF
  have hp : parseF (l.length : Int).toNat (forkBody z l).data.toList = some (l, List.replicate (z - 24 - sizeF l) 0) := by
    show parseF l.length _ = _
    have : (forkBody z l).data.toList = bytesF l ++ List.replicate (z - 24 - sizeF l) 0 := by simp [forkBody]
    rw [this]
    refine parseF_all l _ fun b hb => ?_
    obtain ⟨i, hi, rfl⟩ := List.mem_iff_getElem.1 hb
    exact okFk_fitsF (allOkF_ok hall (List.getElem?_eq_getElem hi))
  simp only [hp, hz]
  rw [if_pos (by rw [h]; simp)]
theorem readF_some {kd ct : Int} {pg lk ty : Nat} {bd : ByteArray} {l : List Fk} (h : readF kd ct pg lk ty bd = some l) : mayP7 ((bd.size + 24 : Nat) : Int) pg ty l = true ∧ kd = 3 ∧ ct = l.length ∧ lk = 0 ∧ bd = forkBody (bd.size + 24) l := by
  unfold readF at h
  split at h
  · cases h
  · split at h
    · rename_i hc
      injection h with h
      subst h
      rw [Bool.and_eq_true, decide_eq_true_eq] at hc
      exact ⟨hc.1, hc.2⟩
    · cases h
end Go.Proofs.Ytinojpcjbjjlbaa
