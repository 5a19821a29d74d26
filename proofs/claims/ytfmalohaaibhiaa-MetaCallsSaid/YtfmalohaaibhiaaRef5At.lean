/-
  What the reference's Read of layer 4 returns of a page of an image, and its Of of layer 5 of that: by what the page is (towards the reference's Both).
-/
import Derived.Test.YtfmalohaaibhiaaRef5Of
import Derived.Test.YtfmalohaaibhiaaMetaAt
namespace Go.Proofs.Ytfmalohaaibhiaa
open Go.RowKit
open Go.Lib
set_option linter.unusedVariables false
set_option linter.unusedSimpArgs false

set_option maxHeartbeats 1600000
theorem rmrd_right (q n : Nat) (s B : ByteArray) (hB : B = blkAt q s n) (w : World) (hg : goodSize q = true) (hs : s.size ≤ maxLen) (h2 : n < s.size / q) (h3 : blockOk q n B = true) :
    Calls Try.prog 38 #[.int .i64 q, .string s, .int .u32 n] w fun e w' => e = .returned (.tuple #[.agg #[.int .i64 (numAt B 4 1), .int .i64 (numAt B 6 2), .int .u32 (numAt B 8 4), .int .u32 (numAt B 12 4), .int .u64 (numAt B 16 8), .string (B.extract 24 B.size)], .int .i64 0]) ∧ Below w.heap.size w w' := by
  refine rread_get q n s (numAt B 4 1) (numAt B 6 2) (numAt B 8 4) (numAt B 12 4) (numAt B 16 8) (B.extract 24 B.size) 0 w hg hs h2 fun w => ?_
  rw [show s.extract (n * q) (n * q + q) = B from hB.symm]
  exact rget_right q n B w h3
theorem rmrd_wrong (q n : Nat) (s B : ByteArray) (hB : B = blkAt q s n) (w : World) (hg : goodSize q = true) (hs : s.size ≤ maxLen) (h2 : n < s.size / q) (h3 : blockOk q n B = false) :
    Calls Try.prog 38 #[.int .i64 q, .string s, .int .u32 n] w fun e w' => e = .returned (.tuple #[.agg #[.int .i64 0, .int .i64 0, .int .u32 0, .int .u32 0, .int .u64 0, .string ByteArray.empty], .int .i64 4]) ∧ Below w.heap.size w w' := by
  have := rread_get q n s 0 0 0 0 0 ByteArray.empty 4 w hg hs h2 fun w => (by
    rw [show s.extract (n * q) (n * q + q) = B from hB.symm]
    exact rget_wrong q n B w hg h3)
  exact this
/-- The three ways of page n: it cannot be read; it is read and no meta; it is a meta. -/
theorem rat_ways (size : Int) (s : ByteArray) (n tx : Nat) (z : Int) (rt fr ps : Nat) (r : Bool) (h : MetaAt size s n tx z rt fr ps r) (hs : s.size ≤ maxLen) (hn : n < 4294967296) :
    (r = false ∧ ∃ err : Int, err ≠ 0 ∧ ∀ w : World, Calls Try.prog 38 #[.int .i64 size, .string s, .int .u32 n] w fun e w' => e = .returned (.tuple #[.agg #[.int .i64 0, .int .i64 0, .int .u32 0, .int .u32 0, .int .u64 0, .string ByteArray.empty], .int .i64 err]) ∧ Below w.heap.size w w') ∨
    (∃ (kd ct : Int) (pg lk ty : Nat) (bd : ByteArray) (x : Int), (x = 0 ∧ r = true ∨ x = 4 ∧ r = false) ∧ (∀ w : World, Calls Try.prog 38 #[.int .i64 size, .string s, .int .u32 n] w fun e w' => e = .returned (.tuple #[.agg #[.int .i64 kd, .int .i64 ct, .int .u32 pg, .int .u32 lk, .int .u64 ty, .string bd], .int .i64 0]) ∧ Below w.heap.size w w') ∧
      ∀ w : World, Calls Try.prog 19 #[.int .i64 size, .agg #[.int .i64 kd, .int .i64 ct, .int .u32 pg, .int .u32 lk, .int .u64 ty, .string bd]] w fun e w' => e = .returned (.tuple #[.agg #[.int .u64 tx, .int .i64 z, .int .u32 rt, .int .u32 fr, .int .u32 ps], .int .i64 x]) ∧ Below w.heap.size w w') := by
  rcases h with ⟨q, rfl, h1, h5, h6, h7, h8, h9, hr⟩ | ⟨h1, rfl, rfl, rfl, rfl, rfl, hr⟩
  · obtain ⟨B, hB⟩ : ∃ B, B = blkAt q s n := ⟨_, rfl⟩
    rw [metaOk, ← hB] at h1
    rw [← hB] at h5 h7 h8 h9
    simp only [Bool.and_eq_true, decide_eq_true_eq] at h1
    obtain ⟨hg, h2, h3, h4⟩ := h1
    obtain ⟨D, hD⟩ : ∃ D, D = B.extract 24 B.size := ⟨_, rfl⟩
    have HR := fun w => rmrd_right q n s B hB w hg hs h2 h3
    have HO := fun w => rof5_yes q _ _ _ _ _ _ w h4
    rw [← hD] at HR HO h7 h8 h9
    rw [h5, h6, h7, h8, h9]
    exact .inr ⟨numAt B 4 1, numAt B 6 2, numAt B 8 4, numAt B 12 4, numAt B 16 8, D, 0, .inl ⟨rfl, hr⟩, HR, HO⟩
  · rcases hg : goodSize size with _ | _
    · exact .inl ⟨hr, 2, by decide, fun w => rread_bad size s n w hg⟩
    obtain ⟨q, rfl, _, _, _⟩ := good_nat hg
    replace h1 := h1 q rfl
    by_cases h2 : n < s.size / q
    case neg => exact .inl ⟨hr, 5, by decide, fun w => rread_none q n s w hg hs h2 hn⟩
    obtain ⟨B, hB⟩ : ∃ B, B = blkAt q s n := ⟨_, rfl⟩
    rw [metaOk, ← hB] at h1
    rcases h3 : blockOk q n B with _ | _
    · exact .inl ⟨hr, 4, by decide, fun w => rmrd_wrong q n s B hB w hg hs h2 h3⟩
    obtain ⟨D, hD⟩ : ∃ D, D = B.extract 24 B.size := ⟨_, rfl⟩
    have HR := fun w => rmrd_right q n s B hB w hg hs h2 h3
    rw [← hD] at HR h1
    rcases h4 : isM q (numAt B 4 1) (numAt B 6 2) (numAt B 8 4) (numAt B 12 4) (numAt B 16 8) D with _ | _
    · exact .inr ⟨numAt B 4 1, numAt B 6 2, numAt B 8 4, numAt B 12 4, numAt B 16 8, D, 4, .inr ⟨rfl, hr⟩, HR, fun w => rof5_no q _ _ _ _ _ _ w h4⟩
    · rw [hg, h3, h4] at h1
      simp [h2] at h1
end Go.Proofs.Ytfmalohaaibhiaa
