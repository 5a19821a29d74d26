/-
  Pages of free numbers as plain data: rising numbers, how many fit, their page's body, the numbers read again; plain lemmas. No statement is proved here.
-/
import Derived.Test.YtnpockkhefbjoaaRef4May
import Derived.Test.YtnpockkhefbjoaaRef6May
import Derived.Test.YtnpockkhefbjoaaPlain
import Derived.Test.YtnpockkhefbjoaaKitLaw
import Derived.Test.YtnpockkhefbjoaaGood
namespace Go.Proofs.Ytnpockkhefbjoaa
open Go.RowKit
open Go.Lib hiding intOf
set_option linter.unusedVariables false
set_option linter.unusedSimpArgs false

def nthU (l : List Nat) (i : Nat) : Nat := (l[i]?).getD 0
/-- Numbers of 32 bits as cells. -/
def ucells (l : List Nat) : List Value := l.map fun (n : Nat) => Value.int .u32 (n : Int)
/-- Strictly increasing. -/
def ascU (l : List Nat) : Bool := (List.range (l.length - 1)).all fun i => decide (nthU l i < nthU l (i + 1))
def allU (l : List Nat) : Bool := l.all numB
def mostN (size : Int) : Nat := if goodSize size then (size - 24).toNat / 4 else 0
/-- How many pages so many numbers take. -/
def needF (size n : Int) : Nat := if goodSize size && decide (1 ≤ n) then (n.toNat - 1) / mostN size + 1 else 0
def bytesU (l : List Nat) : List UInt8 := l.flatMap (leBytes 4)
def freeBody (z : Nat) (l : List Nat) : ByteArray := ⟨(bytesU l ++ List.replicate (z - 24 - 4 * l.length) 0).toArray⟩
/-- Numbers may be a page's. -/
def mayP10 (size : Int) (n next tx : Nat) (l : List Nat) : Bool := goodSize size && (allU l && (ascU l && (decide (l.length ≤ mostN size) && (numB n && ((decide (next = 0) || numB next) && decide (tx ≤ 4611686018427387904))))))
theorem ucells_length (l : List Nat) : (ucells l).length = l.length := by simp [ucells]
theorem ucells_append (l m : List Nat) : ucells (l ++ m) = ucells l ++ ucells m := by simp [ucells]
theorem ucells_one (l : List Nat) : ∀ u ∈ ucells l, u.oneCell' = true := by
  intro u hu
  obtain ⟨s, _, rfl⟩ := List.mem_map.1 hu
  rfl
theorem ucells_at {l : List Nat} {k : Nat} {n : Nat} (h : l[k]? = some n) : (ucells l)[k]? = some (.int .u32 n) := by
  unfold ucells; rw [List.getElem?_map, h]; rfl
theorem nthU_of {l : List Nat} {k n : Nat} (h : l[k]? = some n) : nthU l k = n := by unfold nthU; rw [h]; rfl
theorem nthU_at {l : List Nat} {k : Nat} (h : k < l.length) : l[k]? = some (nthU l k) := by unfold nthU; rw [List.getElem?_eq_getElem h]; rfl
theorem ascU_iff {l : List Nat} : ascU l = true ↔ ∀ i, i + 1 < l.length → nthU l i < nthU l (i + 1) := by
  unfold ascU
  rw [List.all_eq_true]
  constructor
  · intro h i hi
    have := h i (List.mem_range.2 (by omega))
    simpa using this
  · intro h i hi
    have := h i (by have := List.mem_range.1 hi; omega)
    simpa using this
theorem ascU_no {l : List Nat} {i : Nat} (hi : i + 1 < l.length) (h : ¬ nthU l i < nthU l (i + 1)) : ascU l = false := by
  rw [Bool.eq_false_iff]
  intro ha
  exact h (ascU_iff.1 ha i hi)
theorem ascU_lt {l : List Nat} (h : ascU l = true) {i : Nat} : ∀ {d : Nat}, i + d + 1 < l.length → nthU l i < nthU l (i + d + 1)
  | 0, hd => ascU_iff.1 h i hd
  | d + 1, hd => Nat.lt_trans (ascU_lt h (d := d) (by omega)) (ascU_iff.1 h (i + d + 1) (by omega))
theorem allU_iff {l : List Nat} : allU l = true ↔ ∀ n, n ∈ l → numB n = true := by unfold allU; rw [List.all_eq_true]
theorem allU_at {l : List Nat} : allU l = true ↔ ∀ i, i < l.length → numB (nthU l i) = true := by
  rw [allU_iff]
  constructor
  · intro h i hi
    exact h _ (List.mem_of_getElem? (nthU_at hi))
  · intro h n hn
    obtain ⟨i, hi, rfl⟩ := List.getElem_of_mem hn
    have := h i hi
    rwa [nthU_of (List.getElem?_eq_getElem hi)] at this
theorem allU_no {l : List Nat} {i : Nat} (hi : i < l.length) (h : numB (nthU l i) = false) : allU l = false := by
  rw [Bool.eq_false_iff]
  intro ha
  rw [allU_at.1 ha i hi] at h
  cases h
theorem allU_lt {l : List Nat} (h : allU l = true) {n : Nat} (hn : n ∈ l) : n < 4294967296 := by
  have := allU_iff.1 h n hn
  unfold numB at this
  simp at this
  omega
theorem mostN_good {z : Nat} (h : goodSize z = true) : mostN z = (z - 24) / 4 := by
  unfold mostN
  rw [if_pos h]
  have := good_pos h
  rw [show ((z : Int) - 24).toNat = z - 24 by omega]
theorem bytesU_length (l : List Nat) : (bytesU l).length = 4 * l.length := by
  unfold bytesU
  induction l with
  | nil => rfl
  | cons a t ih => rw [List.flatMap_cons, List.length_append, ih, leB_len, List.length_cons]; omega
theorem bytesU_snoc (l : List Nat) (n : Nat) : bytesU (l ++ [n]) = bytesU l ++ leBytes 4 n := by
  unfold bytesU; rw [List.flatMap_append]; simp
theorem mayP10_parts {z n next tx : Nat} {l : List Nat} (h : mayP10 z n next tx l = true) : goodSize z = true ∧ allU l = true ∧ ascU l = true ∧ l.length ≤ (z - 24) / 4 ∧ numB n = true ∧ (next = 0 ∨ numB next = true) ∧ tx ≤ 4611686018427387904 := by
  simp only [mayP10, Bool.and_eq_true, Bool.or_eq_true, decide_eq_true_eq] at h
  obtain ⟨h1, h2, h3, h4, h5, h6, h7⟩ := h
  rw [mostN_good h1] at h4
  exact ⟨h1, h2, h3, h4, h5, h6, h7⟩
theorem freeBody_size (z : Nat) (l : List Nat) (h : l.length ≤ (z - 24) / 4) : (freeBody z l).size = z - 24 := by
  show (bytesU l ++ List.replicate (z - 24 - 4 * l.length) 0).toArray.size = _
  rw [List.size_toArray, List.length_append, List.length_replicate, bytesU_length]
  omega
/-- One number from the front. -/
def stepU (r : List UInt8) : Option (Nat × List UInt8) := if r.length < 4 then none else some (leNat (r.take 4), r.drop 4)
/-- So many numbers from the front. -/
def parseU : Nat → List UInt8 → Option (List Nat × List UInt8)
  | 0, bs => some ([], bs)
  | k + 1, bs => match parseU k bs with
    | none => none
    | some (l, r) => match stepU r with
      | none => none
      | some (b, r') => some (l ++ [b], r')
theorem parseU_none {k : Nat} {bs : List UInt8} (h : parseU k bs = none) : ∀ d, parseU (k + d) bs = none
  | 0 => h
  | d + 1 => by rw [← Nat.add_assoc]; simp only [parseU, parseU_none h d]
theorem parseU_step {k : Nat} {bs r r' : List UInt8} {l : List Nat} {b : Nat} (h : parseU k bs = some (l, r)) (hs : stepU r = some (b, r')) : parseU (k + 1) bs = some (l ++ [b], r') := by simp only [parseU, h, hs]
theorem parseU_stop {k : Nat} {bs r : List UInt8} {l : List Nat} (h : parseU k bs = some (l, r)) (hs : stepU r = none) : parseU (k + 1) bs = none := by simp only [parseU, h, hs]
theorem parseU_len : ∀ {k : Nat} {bs : List UInt8} {l : List Nat} {r : List UInt8}, parseU k bs = some (l, r) → l.length = k
  | 0, bs, l, r, h => by simp [parseU] at h; obtain ⟨rfl, _⟩ := h; rfl
  | k + 1, bs, l, r, h => by
    simp only [parseU] at h
    split at h
    · cases h
    · rename_i l0 r0 h0
      split at h
      · cases h
      · rename_i b r1 _
        injection h with h
        injection h with h1 _
        rw [← h1, List.length_append, parseU_len h0]
        rfl
theorem parseU_size : ∀ {k : Nat} {bs : List UInt8} {l : List Nat} {r : List UInt8}, parseU k bs = some (l, r) → 4 * k + r.length = bs.length
  | 0, bs, l, r, h => by simp [parseU] at h; obtain ⟨rfl, rfl⟩ := h; simp
  | k + 1, bs, l, r, h => by
    simp only [parseU] at h
    split at h
    · cases h
    · rename_i l0 r0 h0
      split at h
      · cases h
      · rename_i b r1 hs
        injection h with h
        injection h with h1 h2
        have e1 := parseU_size h0
        unfold stepU at hs
        split at hs
        · cases hs
        · injection hs with hs
          injection hs with _ hs
          rw [← h2, ← hs, List.length_drop]
          omega
theorem stepU_bytes (n : Nat) (t : List UInt8) (h : n < 4294967296) : stepU (leBytes 4 n ++ t) = some (n, t) := by
  have l4 : (leBytes 4 n).length = 4 := leB_len 4 n
  have hr : leNat (leBytes 4 n) = n := by rw [leNat_leBytes_mod]; omega
  unfold stepU
  rw [if_neg (by rw [List.length_append, l4]; omega), List.take_left' l4, List.drop_left' l4, hr]
theorem parseU_bytes (l : List Nat) (t : List UInt8) (h : ∀ n, n ∈ l → n < 4294967296) : ∀ k, k ≤ l.length → parseU k (bytesU l ++ t) = some (l.take k, bytesU (l.drop k) ++ t)
  | 0, _ => by simp [parseU]
  | k + 1, hk => by
    have ih := parseU_bytes l t h k (by omega)
    have hx : l.drop k = l[k] :: l.drop (k + 1) := List.drop_eq_getElem_cons (by omega)
    have hs : stepU (bytesU (l.drop k) ++ t) = some (l[k], bytesU (l.drop (k + 1)) ++ t) := by
      rw [hx]
      simp only [bytesU, List.flatMap_cons, List.append_assoc]
      exact stepU_bytes l[k] _ (h _ (List.getElem_mem _))
    simp only [parseU, ih, hs]
    rw [List.take_succ_eq_append_getElem (by omega)]
theorem parseU_all (l : List Nat) (t : List UInt8) (h : ∀ n, n ∈ l → n < 4294967296) : parseU l.length (bytesU l ++ t) = some (l, t) := by
  have := parseU_bytes l t h l.length (Nat.le_refl _)
  simpa [bytesU] using this
/-- The numbers of which a page is the page. -/
def readU (kd ct : Int) (pg lk ty : Nat) (bd : ByteArray) : Option (List Nat) :=
  match parseU ct.toNat bd.data.toList with
  | none => none
  | some (l, _) => if mayP10 ((bd.size + 24 : Nat) : Int) pg lk ty l && decide (kd = 6 ∧ ct = l.length ∧ bd = freeBody (bd.size + 24) l) then some l else none
theorem readU_page {z n next tx : Nat} {l : List Nat} (h : mayP10 z n next tx l = true) : readU 6 l.length n next tx (freeBody z l) = some l := by
  obtain ⟨h1, h2, h3, h4, h5, h6, h7⟩ := mayP10_parts h
  have hz := freeBody_size z l h4
  have hp := good_pos h1
  have hz2 : (freeBody z l).size + 24 = z := by omega
  have hd : (freeBody z l).data.toList = bytesU l ++ List.replicate (z - 24 - 4 * l.length) 0 := by unfold freeBody; simp
  unfold readU
  rw [show ((l.length : Nat) : Int).toNat = l.length by omega, hd, parseU_all l _ (fun n hn => allU_lt h2 hn)]
  simp only
  rw [hz2, h]
  simp
theorem readU_some {kd ct : Int} {pg lk ty : Nat} {bd : ByteArray} {l : List Nat} (h : readU kd ct pg lk ty bd = some l) : mayP10 ((bd.size + 24 : Nat) : Int) pg lk ty l = true ∧ kd = 6 ∧ ct = l.length ∧ bd = freeBody (bd.size + 24) l := by
  unfold readU at h
  split at h
  · cases h
  · rename_i l0 r hp
    split at h
    · rename_i hc
      injection h with h
      subst h
      simp only [Bool.and_eq_true, decide_eq_true_eq] at hc
      exact ⟨hc.1, hc.2⟩
    · cases h
end Go.Proofs.Ytnpockkhefbjoaa
