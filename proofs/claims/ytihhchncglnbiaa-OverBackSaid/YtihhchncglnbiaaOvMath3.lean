/-
  Mathematics of OverBack: parts one behind the other; a part's page may stand. Plain lemmas; no statement is proved here.
-/
import Derived.Test.YtihhchncglnbiaaOvMath
namespace Go.Proofs.Ytihhchncglnbiaa
open Go.RowKit
open Go.Lib hiding intOf
set_option linter.unusedVariables false
set_option linter.unusedSimpArgs false

/-- The first k parts one behind the other. -/
def frontP (r : Nat) (v : ByteArray) (k : Nat) : ByteArray := v.extract 0 (min (k * r) v.size)
theorem frontP_zero (r : Nat) (v : ByteArray) : frontP r v 0 = ⟨#[]⟩ := by
  apply bytes_ext
  unfold frontP
  rw [ext_list9]
  simp
theorem frontP_succ {r k : Nat} {v : ByteArray} (hr : 0 < r) (hk : k < ceilD v.size r) : frontP r v (k + 1) = frontP r v k ++ piece r v k := by
  have h := piece_lt hr hk
  apply bytes_ext
  unfold frontP piece
  rw [ByteArray.data_append, Array.toList_append, ext_list9, ext_list9, ext_list9, List.drop_zero, Nat.sub_zero, Nat.sub_zero, Nat.add_mul, Nat.one_mul, Nat.min_eq_left (by omega : k * r ≤ v.size)]
  rw [← List.take_add]
  congr 1
  omega
theorem frontP_end {r : Nat} {v : ByteArray} (hr : 0 < r) : frontP r v (ceilD v.size r) = v := by
  have h := piece_end hr (Nat.lt_irrefl (ceilD v.size r))
  apply bytes_ext
  unfold frontP
  rw [ext_list9, Nat.min_eq_right h, List.drop_zero, Nat.sub_zero]
  exact List.take_of_length_le (by rw [size_list]; exact Nat.le_refl _)
theorem chunks_at {r i : Nat} {v : ByteArray} (hi : i < ceilD v.size r) : (chunks r v)[i]? = some (piece r v i) := by
  unfold chunks
  rw [List.getElem?_map, List.getElem?_range hi]
  rfl
/-- A part that another one follows is full. -/
theorem piece_full {r i : Nat} {v : ByteArray} (hr : 0 < r) (hi : i + 1 < ceilD v.size r) : (piece r v i).size = r := by
  have h := piece_lt hr hi
  rw [piece_size hr (by omega)]
  rw [Nat.add_mul, Nat.one_mul] at h
  omega
/-- The number of the page that follows. -/
def nextP (c n i : Nat) : Nat := if i + 1 < c then n + i + 1 else 0
theorem part_may {z n i : Nat} {v : ByteArray} (hz : goodSize z = true) (hv : v.size ≤ 4200) (hn : 2 ≤ n) (hn9 : n ≤ 1001) (hi : i < ceilD v.size (z - 24)) : mayP9 z (n + i) (nextP (ceilD v.size (z - 24)) n i) 3 (piece (z - 24) v i) = true := by
  obtain ⟨z', hzz, h1, h2, _⟩ := good_nat hz
  obtain rfl : z = z' := by omega
  have hr : 0 < z - 24 := by omega
  have h3 := piece_lt hr hi
  have hs := piece_size hr hi
  have hi9 : i < 4200 := by
    have : i * 1 ≤ i * (z - 24) := Nat.mul_le_mul_left _ hr
    omega
  unfold mayP9
  simp only [Bool.and_eq_true, Bool.or_eq_true, decide_eq_true_eq]
  refine ⟨hz, by omega, by omega, ?_, ?_, by omega⟩
  · unfold numB
    simp
    omega
  · unfold nextP
    split
    · rename_i h5
      right
      have := piece_full hr h5
      refine ⟨?_, by omega⟩
      unfold numB
      simp
      omega
    · left
      rfl
end Go.Proofs.Ytihhchncglnbiaa
