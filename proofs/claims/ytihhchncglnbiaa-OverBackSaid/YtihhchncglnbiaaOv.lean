/-
  Pages of long values as plain data: parts, how many are needed, a part's page; plain lemmas. No statement is proved here.
-/
import Derived.Test.YtihhchncglnbiaaRef4May
import Derived.Test.YtihhchncglnbiaaRef6May
import Derived.Test.YtihhchncglnbiaaPlain
import Derived.Test.YtihhchncglnbiaaKitLaw
import Derived.Test.YtihhchncglnbiaaGood
namespace Go.Proofs.Ytihhchncglnbiaa
open Go.RowKit
open Go.Lib hiding intOf
set_option linter.unusedVariables false
set_option linter.unusedSimpArgs false

/-- How many pieces of r bytes n bytes are. -/
def ceilD (n r : Nat) : Nat := (n + r - 1) / r
/-- The i-th piece of r bytes. -/
def piece (r : Nat) (v : ByteArray) (i : Nat) : ByteArray := v.extract (i * r) (min ((i + 1) * r) v.size)
def chunks (r : Nat) (v : ByteArray) : List ByteArray := (List.range (ceilD v.size r)).map (piece r v)
/-- The parts of a value. -/
def partsL (size : Int) (v : ByteArray) : List ByteArray := if goodSize size then chunks (size - 24).toNat v else []
/-- How many parts so many bytes are. -/
def needN (size n : Int) : Nat := if goodSize size && decide (1 ≤ n) then (n.toNat - 1) / (size - 24).toNat + 1 else 0
theorem ceilD_pos {n r : Nat} (hr : 0 < r) (hn : 0 < n) : ceilD n r = (n - 1) / r + 1 := by
  unfold ceilD
  rw [show n + r - 1 = (n - 1) + r by omega, Nat.add_div_right _ hr]
theorem ceilD_zero {r : Nat} (hr : 0 < r) : ceilD 0 r = 0 := by
  unfold ceilD
  exact Nat.div_eq_of_lt (by omega)
theorem chunks_len (r : Nat) (v : ByteArray) : (chunks r v).length = ceilD v.size r := by simp [chunks]
theorem parts_need (size : Int) (v : ByteArray) : (partsL size v).length = needN size v.size := by
  unfold partsL needN
  rcases hg : goodSize size with _ | _
  · simp
  · obtain ⟨z, rfl, h1, h2, _⟩ := good_nat hg
    have hr : ((z : Int) - 24).toNat = z - 24 := by omega
    simp only [if_true, Bool.true_and]
    rw [chunks_len, hr]
    by_cases hv : v.size = 0
    · rw [hv, ceilD_zero (by omega)]
      simp
    · rw [ceilD_pos (by omega) (by omega)]
      have h3 : decide ((1 : Int) ≤ (v.size : Int)) = true := by simp; omega
      rw [h3, if_pos rfl]
      simp
/-- Where the i-th piece begins there is something left. -/
theorem piece_lt {n r i : Nat} (hr : 0 < r) (hi : i < ceilD n r) : i * r < n := by
  unfold ceilD at hi
  have h1 := (Nat.le_div_iff_mul_le hr).1 (show i + 1 ≤ (n + r - 1) / r by omega)
  rw [Nat.add_mul, Nat.one_mul] at h1
  omega
theorem piece_end {n r i : Nat} (hr : 0 < r) (hi : ¬ i < ceilD n r) : n ≤ i * r := by
  unfold ceilD at hi
  have h1 : ¬ (i + 1) * r ≤ n + r - 1 := fun h => hi ((Nat.le_div_iff_mul_le hr).2 h)
  rw [Nat.add_mul, Nat.one_mul] at h1
  omega
theorem piece_size {r : Nat} {v : ByteArray} {i : Nat} (hr : 0 < r) (hi : i < ceilD v.size r) : (piece r v i).size = min r (v.size - i * r) := by
  have h := piece_lt hr hi
  unfold piece
  rw [ByteArray.size_extract, Nat.add_mul, Nat.one_mul]
  omega
/-- A part is a page's. -/
def mayP9 (size : Int) (n next tx : Nat) (s : ByteArray) : Bool := goodSize size && (decide (1 ≤ s.size) && (decide ((s.size : Int) ≤ size - 24) && (numB n && ((decide (next = 0) || (numB next && decide ((size - 24 : Int) ≤ s.size))) && decide (tx ≤ 4611686018427387904)))))
def overBody (z : Nat) (s : ByteArray) : ByteArray := ⟨(s.data.toList ++ List.replicate (z - 24 - s.size) 0).toArray⟩
theorem mayP9_parts {z n next tx : Nat} {s : ByteArray} (h : mayP9 z n next tx s = true) : goodSize z = true ∧ 1 ≤ s.size ∧ (s.size ≤ z - 24 ∧ 24 ≤ z) ∧ numB n = true ∧ (next = 0 ∨ numB next = true ∧ s.size = z - 24) ∧ tx ≤ 4611686018427387904 := by
  simp only [mayP9, Bool.and_eq_true, Bool.or_eq_true, decide_eq_true_eq] at h
  obtain ⟨h1, h2, h3, h4, h5, h6⟩ := h
  have := good_pos h1
  refine ⟨h1, h2, by omega, h4, ?_, h6⟩
  rcases h5 with h5 | ⟨h5, h7⟩
  · exact .inl h5
  · exact .inr ⟨h5, by omega⟩
theorem overBody_size (z : Nat) (s : ByteArray) (h : s.size ≤ z - 24) : (overBody z s).size = z - 24 := by
  show (s.data.toList ++ List.replicate (z - 24 - s.size) 0).toArray.size = _
  rw [List.size_toArray, List.length_append, List.length_replicate, size_list]
  omega
/-- The bytes of the part of which a page is the page. -/
def readO (kd ct : Int) (pg lk ty : Nat) (bd : ByteArray) : Option ByteArray :=
  if decide (0 ≤ ct) && (decide (ct ≤ bd.size) && (mayP9 ((bd.size + 24 : Nat) : Int) pg lk ty (bd.extract 0 ct.toNat) && decide (kd = 5 ∧ bd = overBody (bd.size + 24) (bd.extract 0 ct.toNat)))) then some (bd.extract 0 ct.toNat) else none
theorem overBody_take (z : Nat) (s : ByteArray) : (overBody z s).extract 0 s.size = s := by
  apply bytes_ext
  have hs : s.data.toList.length = s.size := size_list s
  rw [ByteArray.data_extract, Array.toList_extract, List.extract_eq_take_drop]
  show List.take _ (List.drop 0 (s.data.toList ++ _)) = _
  rw [List.drop_zero, Nat.sub_zero, ← hs, List.take_left]
theorem readO_page {z n next tx : Nat} {s : ByteArray} (h : mayP9 z n next tx s = true) : readO 5 s.size n next tx (overBody z s) = some s := by
  obtain ⟨h1, h2, h3, h4, h5, h6⟩ := mayP9_parts h
  have hz := overBody_size z s h3.1
  have hz2 : (overBody z s).size + 24 = z := by omega
  have ht : (overBody z s).extract 0 ((s.size : Nat) : Int).toNat = s := overBody_take z s
  unfold readO
  rw [ht, hz2, h]
  rw [if_pos]
  simp
  omega
theorem readO_some {kd ct : Int} {pg lk ty : Nat} {bd s : ByteArray} (h : readO kd ct pg lk ty bd = some s) : mayP9 ((bd.size + 24 : Nat) : Int) pg lk ty s = true ∧ kd = 5 ∧ ct = s.size ∧ bd = overBody (bd.size + 24) s := by
  unfold readO at h
  split at h
  · rename_i hc
    injection h with h
    subst h
    simp only [Bool.and_eq_true, decide_eq_true_eq] at hc
    obtain ⟨h1, h2, h3, h4, h5⟩ := hc
    refine ⟨h3, h4, ?_, h5⟩
    rw [ByteArray.size_extract]
    omega
  · cases h
end Go.Proofs.Ytihhchncglnbiaa
