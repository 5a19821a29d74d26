/-
  A number, or bytes, taken off a reader (the code's and the reference's), told by letters: taken, or too short.
-/
import Derived.Test.YtnpockkhefbjoaaOwnW
import Derived.Test.YtnpockkhefbjoaaOctet
import Derived.Test.YtnpockkhefbjoaaRef1
namespace Go.Proofs.Ytnpockkhefbjoaa
open Go.RowKit
open Go.Lib
set_option linter.unusedVariables false
set_option linter.unusedSimpArgs false

/-- A number is taken off a reader, or it is too short, and nothing is. -/
def tookN (k : Nat) (t : ByteArray) (v : Nat) (x : Int) (t' : ByteArray) : Prop := (k ≤ t.size ∧ x = 0 ∧ v = leNat (t.data.toList.take k) ∧ t' = t.extract k t.size) ∨ (t.size < k ∧ x = 7 ∧ t' = t)
theorem cnum_tot {w : World} {g : Nat} {t : ByteArray} (h : IsRd w g t) (k : Nat) (h1 : 1 ≤ k) (h2 : k ≤ 8) :
    Calls Try.prog 40 #[.pointer (some ⟨g, 0, none⟩), .int .i64 k] w fun e w' => ∃ (v : Nat) (x : Int) (t' : ByteArray), e = .returned (.tuple #[.int .u64 v, .int .i64 x]) ∧ IsRd w' g t' ∧ w.grownBy w' (some g) ∧ v < 2 ^ (8 * k) ∧ tookN k t v x t' := by
  by_cases hk : k ≤ t.size
  · refine (number_ok' h k h1 h2 hk).mono ?_
    rintro e w' ⟨rfl, hr, hg⟩
    refine ⟨_, _, _, rfl, hr, hg, ?_, .inl ⟨hk, rfl, rfl, rfl⟩⟩
    have h3 := leNat_lt (t.data.toList.take k)
    have h4 : (t.data.toList.take k).length ≤ k := by rw [List.length_take]; omega
    exact Nat.lt_of_lt_of_le h3 (Nat.pow_le_pow_right (by omega) (by omega))
  · refine (number_more h k (by omega) (by omega) (by omega)).mono ?_
    rintro e w' ⟨rfl, rfl⟩
    exact ⟨0, 7, t, rfl, h, World.grownBy.refl _ _, Nat.two_pow_pos _, .inr ⟨by omega, rfl, rfl⟩⟩
def tookB (k : Nat) (t v : ByteArray) (x : Int) (t' : ByteArray) : Prop := (k ≤ t.size ∧ x = 0 ∧ v = t.extract 0 k ∧ t' = t.extract k t.size) ∨ (t.size < k ∧ x = 7 ∧ t' = t)
theorem cbytes_tot {w : World} {g : Nat} {t : ByteArray} (h : IsRd w g t) (k : Nat) :
    Calls Try.prog 43 #[.pointer (some ⟨g, 0, none⟩), .int .i64 k] w fun e w' => ∃ (v : ByteArray) (x : Int) (t' : ByteArray), e = .returned (.tuple #[.string v, .int .i64 x]) ∧ IsRd w' g t' ∧ w.grownBy w' (some g) ∧ tookB k t v x t' := by
  by_cases hk : k ≤ t.size
  · refine (bytes_ok' h k hk).mono ?_
    rintro e w' ⟨rfl, hr, hg⟩
    exact ⟨_, _, _, rfl, hr, hg, .inl ⟨hk, rfl, rfl, rfl⟩⟩
  · refine (bytes_more h k (by omega)).mono ?_
    rintro e w' ⟨rfl, rfl⟩
    exact ⟨_, _, t, rfl, h, World.grownBy.refl _ _, .inr ⟨by omega, rfl, rfl⟩⟩
theorem ext_take (t : ByteArray) (k : Nat) : (t.extract 0 k).data.toList = t.data.toList.take k := by simp
theorem ext_drop (t : ByteArray) (k : Nat) : (t.extract k t.size).data.toList = t.data.toList.drop k := by
  have h : t.data.size = t.data.toList.length := by simp
  rw [ByteArray.data_extract, Array.toList_extract, List.extract_eq_take_drop, List.take_of_length_le]
  rw [List.length_drop]
  show _ ≤ t.data.size - k
  omega
theorem leNat_one (n : UInt8) : leNat [n] = n.toNat := by simp [leNat]
theorem rnum_tot {w : World} {g : Nat} {t : ByteArray} (h : IsRf w g t) (k : Nat) (h1 : 1 ≤ k) (h2 : k ≤ 8) :
    Calls Try.prog 36 #[.pointer (some ⟨g, 0, none⟩), .int .i64 k] w fun e w' => ∃ (v : Nat) (x : Int) (t' : ByteArray), e = .returned (.tuple #[.int .u64 v, .int .i64 x]) ∧ IsRf w' g t' ∧ w.grownBy w' (some g) ∧ v < 2 ^ (8 * k) ∧ tookN k t v x t' := by
  by_cases hk : k ≤ t.size
  · refine (rnumber_ok' h k h1 h2 hk).mono ?_
    rintro e w' ⟨rfl, hr, hg⟩
    refine ⟨_, _, _, rfl, hr, hg, ?_, .inl ⟨hk, rfl, rfl, rfl⟩⟩
    have h3 := leNat_lt (t.data.toList.take k)
    have h4 : (t.data.toList.take k).length ≤ k := by rw [List.length_take]; omega
    exact Nat.lt_of_lt_of_le h3 (Nat.pow_le_pow_right (by omega) (by omega))
  · refine (rnumber_more h k (by omega) (by omega) (by omega)).mono ?_
    rintro e w' ⟨rfl, rfl⟩
    exact ⟨0, 7, t, rfl, h, World.grownBy.refl _ _, Nat.two_pow_pos _, .inr ⟨by omega, rfl, rfl⟩⟩
end Go.Proofs.Ytnpockkhefbjoaa
