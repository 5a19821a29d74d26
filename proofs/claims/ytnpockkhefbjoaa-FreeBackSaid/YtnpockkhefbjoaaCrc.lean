/-
  Contracts of the functions of package crc (Table, Of, More and what they call), and of the reference's: what a call returns and what becomes of memory.
-/
import Derived.Test.YtnpockkhefbjoaaWords
import Derived.Test.YtnpockkhefbjoaaPlain
import Derived.Test.YtnpockkhefbjoaaCrcPlain
import Derived.Deep.WholeRow
namespace Go.Proofs.Ytnpockkhefbjoaa
open Go.RowKit Go.Lib

theorem half_u32 (m : Nat) : ((m : Int) / 2) = ((m / 2 : Nat) : Int) := by simp
theorem st_mul (m : Nat) (hm : m < 4294967296) : bits .xor .u32 ((m : Int) / 2) (2197175160 * bits .and .u32 (m : Int) 1 % 4294967296) = (st m : Nat) := by
  have h1 : bits .and .u32 (m : Int) 1 = ((m &&& 1 : Nat) : Int) := u32_and_nat m 1 hm (by omega)
  rw [h1, Nat.and_one_is_mod, half_u32, show (2197175160 * ((m % 2 : Nat) : Int) % 4294967296) = ((2197175160 * (m % 2) : Nat) : Int) by omega, u32_xor_nat _ _ (by omega) (by omega)]
  unfold st
  rw [Nat.shiftRight_eq_div_pow]
  rcases Nat.mod_two_eq_zero_or_one m with h | h <;> simp [h]
theorem st_odd (m : Nat) (hm : m < 4294967296) (h : bits .and .u32 (m : Int) 1 = 1) : bits .xor .u32 ((m : Int) / 2) 2197175160 = (st m : Nat) := by
  have h1 : bits .and .u32 (m : Int) 1 = ((m &&& 1 : Nat) : Int) := u32_and_nat m 1 hm (by omega)
  rw [h1, Nat.and_one_is_mod] at h
  have h2 := u32_xor_nat (m / 2) 2197175160 (by omega) (by omega)
  rw [half_u32, show (2197175160 : Int) = ((2197175160 : Nat) : Int) by rfl, h2]
  unfold st
  rw [Nat.shiftRight_eq_div_pow, if_pos (by omega)]
theorem st_even (m : Nat) (hm : m < 4294967296) (h : bits .and .u32 (m : Int) 1 ≠ 1) : (m : Int) / 2 = (st m : Nat) := by
  have h1 : bits .and .u32 (m : Int) 1 = ((m &&& 1 : Nat) : Int) := u32_and_nat m 1 hm (by omega)
  rw [h1, Nat.and_one_is_mod] at h
  unfold st
  rw [Nat.shiftRight_eq_div_pow, if_neg (by omega), Nat.xor_zero]
  simp
theorem stn_step {n m k : Nat} (hk : k < 8) (h : stn 8 n = stn (8 - k) m) : stn 8 n = stn (8 - (k + 1)) (st m) := by
  rw [h, show 8 - k = (8 - (k + 1)) + 1 by omega]; rfl

/-- The table, filled as far as k. -/
def tabK (k : Nat) : Array Value := Array.ofFn (n := 256) fun i => if i.1 < k then .int .u32 (stn 8 i.1) else .int .u32 0
theorem tabK_size (k : Nat) : (tabK k).size = 256 := by simp [tabK]
theorem tabK_at (k i : Nat) (h : i < 256) : (tabK k)[i]? = some (if i < k then .int .u32 (stn 8 i) else .int .u32 0) := by
  simp [tabK, h]
theorem tabK_set (k : Nat) (h : k < 256) : (tabK k).setIfInBounds k (.int .u32 (stn 8 k)) = tabK (k + 1) := by
  apply Array.ext_getElem?
  intro i
  rw [Array.getElem?_setIfInBounds, tabK_size]
  by_cases hi : i < 256
  · rw [tabK_at _ _ hi, tabK_at _ _ hi]
    by_cases he : k = i
    · subst he; simp [h]
    · rw [if_neg he]
      congr 1
      by_cases h1 : i < k
      · rw [if_pos h1, if_pos (by omega)]
      · rw [if_neg h1, if_neg (by omega)]
  · have e1 : (tabK k)[i]? = none := Array.getElem?_eq_none (by rw [tabK_size]; omega)
    have e2 : (tabK (k + 1))[i]? = none := Array.getElem?_eq_none (by rw [tabK_size]; omega)
    rw [e1, e2, if_neg (by omega)]
theorem tabK_one (k : Nat) : (tabK k).all (·.oneCell') = true := by
  rw [Array.all_eq_true]
  intro i hi
  have h2 := tabK_at k i (by rw [tabK_size] at hi; exact hi)
  rw [Array.getElem?_eq_getElem hi] at h2
  have h3 := Option.some.inj h2
  rw [h3]
  split <;> rfl
def tab : Array Value := tabK 256
theorem below_setRow {B : Nat} {a w : World} (h : Below B a w) {g : Nat} (hg : B ≤ g) (cs : Array Value) : Below B a (w.setRow g cs) :=
  ⟨h.os, h.tape, h.output, by rw [setRow_size]; exact h.size, fun k hk => (setRow_other _ _ _ _ (by omega)).trans (h.block k hk)⟩
theorem Blk.setD {w : World} {B g : Nat} {w0 : World} (hb : Below B w0 w) (hg : B ≤ g) (i : Nat) (v : Value) : Below B w0 (w.setCell ⟨g, i, none⟩ v) := hb.setCell (by show B ≤ g; exact hg) v
theorem idx_u8 (m : Nat) (b : UInt8) : bits .xor .u8 ((m : Int) % 256) (b.toNat : Int) = (((m ^^^ b.toNat) % 256 : Nat) : Int) := by
  have hb := b.toNat_lt
  rw [show (m : Int) % 256 = ((m % 256 : Nat) : Int) by omega, u8_xor_nat _ _ (by omega) (by omega)]
  congr 1
  rw [show 256 = 2 ^ 8 by rfl, Nat.xor_mod_two_pow, Nat.mod_eq_of_lt (show b.toNat < 2 ^ 8 by omega)]
theorem upd_u32 (m : Nat) (b : UInt8) (hm : m < 4294967296) : bits .xor .u32 ((m : Int) / 256) ((stn 8 ((m ^^^ b.toNat) % 256) : Nat) : Int) = (upd m b : Nat) := by
  have h1 : stn 8 ((m ^^^ b.toNat) % 256) < 4294967296 := stn_lt 8 (by omega)
  rw [show (m : Int) / 256 = ((m / 256 : Nat) : Int) by omega, u32_xor_nat _ _ (by omega) h1, upd_eq, Nat.shiftRight_eq_div_pow]
/-- The checksum: the state's inverse. -/
def crcM (c : Nat) (l : List UInt8) : Nat := 4294967295 - run (4294967295 - c) l
theorem crcM_lt (c : Nat) (l : List UInt8) : crcM c l < 4294967296 := by unfold crcM; omega
theorem crcM_nil (c : Nat) (h : c < 4294967296) : crcM c [] = c := by unfold crcM run; simp; omega
theorem crcM_append (c : Nat) (l m : List UInt8) : crcM c (l ++ m) = crcM (crcM c l) m := by
  unfold crcM
  have h := run_lt l (show 4294967295 - c < 4294967296 by omega)
  rw [run_append, show 4294967295 - (4294967295 - run (4294967295 - c) l) = run (4294967295 - c) l by omega]
theorem xor_ones32 (b : Nat) (hb : b < 2 ^ 32) : (2 ^ 32 - 1) ^^^ b = 2 ^ 32 - 1 - b := by
  apply Nat.eq_of_testBit_eq
  intro i
  rw [Nat.testBit_xor, Nat.testBit_two_pow_sub_one, show 2 ^ 32 - 1 - b = 2 ^ 32 - (b + 1) by omega, Nat.testBit_two_pow_sub_succ hb]
  by_cases hi : i < 32
  · simp [hi]
  · have : b.testBit i = false := Nat.testBit_lt_two_pow (Nat.lt_of_lt_of_le hb (Nat.pow_le_pow_right (by decide) (by omega)))
    simp [hi, this]
theorem not_u32 (c : Nat) (h : c < 4294967296) : bits .xor .u32 IntKind.u32.max (c : Int) = ((4294967295 - c : Nat) : Int) := by
  have e : (IntKind.u32.max : Int) = ((4294967295 : Nat) : Int) := by decide
  rw [e, u32_xor_nat _ _ (by omega) h]
  congr 1
  exact xor_ones32 c h
theorem str_nil {s : ByteArray} (h : s.data.toList = []) : s = ⟨#[]⟩ := by
  apply ByteArray.ext
  apply Array.ext'
  exact h
def nine : ByteArray := ⟨#[49, 50, 51, 52, 53, 54, 55, 56, 57]⟩
theorem crc_nine : crcM 0 nine.data.toList = 3808858755 := by decide +kernel
end Go.Proofs.Ytnpockkhefbjoaa
