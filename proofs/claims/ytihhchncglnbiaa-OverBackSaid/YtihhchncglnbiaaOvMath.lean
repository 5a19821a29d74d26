/-
  The parts of a value, cut at a whole number of parts; all of them together; plain lemmas. No statement is proved here.
-/
import Derived.Test.YtihhchncglnbiaaOv
namespace Go.Proofs.Ytihhchncglnbiaa
open Go.RowKit
open Go.Lib hiding intOf
set_option linter.unusedVariables false
set_option linter.unusedSimpArgs false

theorem ext_list9 (t : ByteArray) (a b : Nat) : (t.extract a b).data.toList = (t.data.toList.drop a).take (b - a) := by
  rw [ByteArray.data_extract, Array.toList_extract, List.extract_eq_take_drop]
theorem ext_back9 (t : ByteArray) (a : Nat) : (t.extract a t.size).data.toList = t.data.toList.drop a := by
  rw [ext_list9, List.take_of_length_le]
  rw [List.length_drop, size_list]
  omega
theorem ext_size9 (t : ByteArray) (a b : Nat) (h : b ≤ t.size) : (t.extract a b).size = b - a := by rw [ByteArray.size_extract]; omega
theorem ceilD_mul {r j : Nat} (hr : 0 < r) : ceilD (j * r) r = j := by
  unfold ceilD
  rw [show j * r + r - 1 = (r - 1) + j * r by omega, Nat.add_mul_div_right _ _ hr, Nat.div_eq_of_lt (by omega)]
  omega
theorem ceilD_add {r j m : Nat} (hr : 0 < r) : ceilD (j * r + m) r = j + ceilD m r := by
  unfold ceilD
  rw [show j * r + m + r - 1 = (m + r - 1) + j * r by omega, Nat.add_mul_div_right _ _ hr]
  omega
theorem chunks_append {r j : Nat} (v : ByteArray) (hr : 0 < r) (hk : j * r ≤ v.size) : chunks r v = chunks r (v.extract 0 (j * r)) ++ chunks r (v.extract (j * r) v.size) := by
  have hsa : (v.extract 0 (j * r)).size = j * r := by rw [ext_size9 _ _ _ hk]; omega
  have hsb : (v.extract (j * r) v.size).size = v.size - j * r := ext_size9 _ _ _ (Nat.le_refl _)
  obtain ⟨m, hm⟩ : ∃ m, v.size = j * r + m := ⟨v.size - j * r, by omega⟩
  unfold chunks
  rw [hsa, hsb, ceilD_mul hr, show v.size - j * r = m by omega, show ceilD v.size r = j + ceilD m r by rw [hm]; exact ceilD_add hr, List.range_add, List.map_append]
  congr 1
  · apply List.map_congr_left
    intro i hi
    rw [List.mem_range] at hi
    have h1 : (i + 1) * r ≤ j * r := Nat.mul_le_mul_right _ hi
    have h2 : (i + 1) * r = i * r + r := by rw [Nat.add_mul, Nat.one_mul]
    apply bytes_ext
    unfold piece
    rw [ext_list9, ext_list9, ext_list9, hsa, List.drop_zero, List.drop_take, List.take_take]
    congr 1
    omega
  · rw [List.map_map]
    apply List.map_congr_left
    intro i hi
    have h2 : (i + 1) * r = i * r + r := by rw [Nat.add_mul, Nat.one_mul]
    have h3 : (j + i + 1) * r = j * r + i * r + r := by rw [Nat.add_mul, Nat.add_mul, Nat.one_mul]
    have h4 : (j + i) * r = j * r + i * r := by rw [Nat.add_mul]
    apply bytes_ext
    show (piece r v (j + i)).data.toList = (piece r (v.extract (j * r) v.size) i).data.toList
    unfold piece
    rw [ext_list9, ext_list9, hsb, ext_back9, List.drop_drop, h2, h3, h4]
    congr 1
    omega
/-- All pieces are full but the last one. -/
theorem chunks_size {r : Nat} {v : ByteArray} {i : Nat} {x : ByteArray} (hr : 0 < r) (hx : (chunks r v)[i]? = some x) : x.size = min r (v.size - i * r) ∧ i < ceilD v.size r := by
  unfold chunks at hx
  rw [List.getElem?_map] at hx
  obtain ⟨j, hj, rfl⟩ := Option.map_eq_some_iff.1 hx
  obtain ⟨h1, h2⟩ := List.getElem?_eq_some_iff.1 hj
  rw [List.length_range] at h1
  rw [List.getElem_range] at h2
  subst h2
  exact ⟨piece_size hr h1, h1⟩
end Go.Proofs.Ytihhchncglnbiaa
