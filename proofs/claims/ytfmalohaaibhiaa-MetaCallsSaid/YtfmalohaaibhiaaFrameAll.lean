/-
  The total contract of package frame's Get: on whatever block it returns the page that the block is the bytes of, or ErrBad.
-/
import Derived.Test.YtfmalohaaibhiaaFrameUse
import Derived.Test.YtfmalohaaibhiaaFrameTurn
namespace Go.Proofs.Ytfmalohaaibhiaa
open Go.RowKit
open Go.Lib
set_option linter.unusedVariables false
set_option linter.unusedSimpArgs false

/-- The number in k bytes from f on. -/
def numAt (s : ByteArray) (f k : Nat) : Nat := leNat (List.take k (List.drop f s.data.toList))
/-- A block is a right page with the number n. -/
def blockOk (size : Int) (n : Nat) (s : ByteArray) : Bool :=
  decide ((s.size : Int) = size) && (decide (leNat (List.take 4 s.data.toList) = crcM 0 (List.drop 4 s.data.toList)) && (decide (numAt s 5 1 = 1) && (decide (numAt s 8 4 = n) && mayPg size (numAt s 4 1) (numAt s 6 2) (numAt s 8 4) (numAt s 12 4) (numAt s 16 8) (s.extract 24 s.size))))
theorem get_right (size : Int) (n : Nat) (s : ByteArray) (w : World) (h : blockOk size n s = true) :
    Calls Try.prog 58 #[.int .i64 size, .int .u32 n, .string s] w fun e w' => e = .returned (.tuple #[.agg #[.int .i64 (numAt s 4 1), .int .i64 (numAt s 6 2), .int .u32 (numAt s 8 4), .int .u32 (numAt s 12 4), .int .u64 (numAt s 16 8), .string (s.extract 24 s.size)], .int .i64 0]) ∧ Below w.heap.size w w' := by
  simp only [blockOk, Bool.and_eq_true, decide_eq_true_eq] at h
  obtain ⟨h1, h2, h3, h4, h5⟩ := h
  have hg : goodSize size = true := by
    simp only [mayPg, Bool.and_eq_true] at h5
    exact h5.1
  exact get_ok_of size s n _ _ _ _ _ _ w fun w => rpage_ok size s n w hg h1 h2 h3 _ _ _ _ _ rfl rfl rfl rfl rfl h5 h4
theorem get_wrong (size : Int) (n : Nat) (s : ByteArray) (w : World) (hg : goodSize size = true) (h : blockOk size n s = false) :
    Calls Try.prog 58 #[.int .i64 size, .int .u32 n, .string s] w fun e w' => e = .returned (.tuple #[.agg #[.int .i64 0, .int .i64 0, .int .u32 0, .int .u32 0, .int .u64 0, .string ByteArray.empty], .int .i64 4]) ∧ Below w.heap.size w w' := by
  refine get_dies size s n 4 w fun w => ?_
  by_cases h1 : (s.size : Int) = size
  case neg => exact rpage_len size s n w hg h1
  by_cases h2 : leNat (List.take 4 s.data.toList) = crcM 0 (List.drop 4 s.data.toList)
  case neg => exact rpage_sum size s n w hg h1 h2
  by_cases h3 : numAt s 5 1 = 1
  case neg => exact rpage_ver size s n w hg h1 h2 h3
  by_cases h4 : numAt s 8 4 = n
  case neg => exact rpage_num size s n w hg h1 h2 h3 (numAt s 4 1) (numAt s 6 2) (numAt s 8 4) (numAt s 12 4) (numAt s 16 8) rfl rfl rfl rfl rfl h4
  have h5 : mayPg size (numAt s 4 1) (numAt s 6 2) (numAt s 8 4) (numAt s 12 4) (numAt s 16 8) (s.extract 24 s.size) = false := by
    rcases hm : mayPg size (numAt s 4 1) (numAt s 6 2) (numAt s 8 4) (numAt s 12 4) (numAt s 16 8) (s.extract 24 s.size) with _ | _
    · rfl
    · rw [blockOk, hm] at h
      simp [h1, h2, h3, h4] at h
  exact rpage_bad size s n w hg h1 h2 h3 (numAt s 4 1) (numAt s 6 2) (numAt s 8 4) (numAt s 12 4) (numAt s 16 8) rfl rfl rfl rfl rfl h4 h5
theorem le_back : ∀ l : List UInt8, leBytes l.length (leNat l) = l
  | [] => rfl
  | b :: l => by
    have hb := b.toNat_lt
    rw [List.length_cons, leBytes, leNat]
    have e1 : (b.toNat + 256 * leNat l) / 256 = leNat l := by omega
    have e2 : (b.toNat + 256 * leNat l) % 256 = b.toNat := by omega
    rw [e1, e2, le_back l]
    congr 1
    rw [← UInt8.toNat_inj]
    simp
theorem part_back (l : List UInt8) (f k : Nat) (h : f + k ≤ l.length) : leBytes k (leNat (List.take k (List.drop f l))) = List.take k (List.drop f l) := by
  have h1 := le_back (List.take k (List.drop f l))
  rw [show (List.take k (List.drop f l)).length = k by rw [List.length_take, List.length_drop]; omega] at h1
  exact h1
theorem cut_at (l : List UInt8) (f k : Nat) : List.drop f l = List.take k (List.drop f l) ++ List.drop (f + k) l := by
  rw [← List.drop_drop, List.take_append_drop]
/-- A right block is the bytes of its page. -/
theorem block_is (size : Int) (n : Nat) (s : ByteArray) (h : blockOk size n s = true) : s = pageB (numAt s 4 1) (numAt s 6 2) (numAt s 8 4) (numAt s 12 4) (numAt s 16 8) (s.extract 24 s.size) := by
  simp only [blockOk, Bool.and_eq_true, decide_eq_true_eq] at h
  obtain ⟨h1, h2, h3, h4, h5⟩ := h
  have hg : goodSize size = true := by
    simp only [mayPg, Bool.and_eq_true] at h5
    exact h5.1
  obtain ⟨z, z0, z1, _, _⟩ := good_nat hg
  have hz : 24 ≤ s.data.toList.length := by rw [size_list]; omega
  have hx : (s.extract 24 s.size).data.toList = List.drop 24 s.data.toList := by
    rw [Lib.extract_data, List.take_of_length_le]
    rw [List.length_drop, size_list]; exact Nat.le_refl _
  have hrest : restL (numAt s 4 1) (numAt s 6 2) (numAt s 8 4) (numAt s 12 4) (numAt s 16 8) (s.extract 24 s.size) = List.drop 4 s.data.toList := by
    have p5 := part_back s.data.toList 5 1 (by omega)
    rw [show leNat (List.take 1 (List.drop 5 s.data.toList)) = 1 from h3] at p5
    rw [restL, headL, numAt, numAt, numAt, numAt, numAt, part_back _ 4 1 (by omega), part_back _ 6 2 (by omega), part_back _ 8 4 (by omega), part_back _ 12 4 (by omega), part_back _ 16 8 (by omega), p5, hx]
    simp only [List.append_assoc]
    rw [← cut_at s.data.toList 16 8, ← cut_at s.data.toList 12 4, ← cut_at s.data.toList 8 4, ← cut_at s.data.toList 6 2, ← cut_at s.data.toList 5 1, ← cut_at s.data.toList 4 1]
  apply bytes_ext
  rw [pageB_list, hrest, ← h2]
  have p0 := part_back s.data.toList 0 4 (by omega)
  rw [List.drop_zero] at p0
  rw [p0, List.take_append_drop]
theorem drop_ext (s : ByteArray) (p : Nat) : (s.extract p s.size).data.toList = List.drop p s.data.toList := by
  rw [Lib.extract_data, List.take_of_length_le]
  rw [List.length_drop, size_list]; exact Nat.le_refl _
end Go.Proofs.Ytfmalohaaibhiaa
