/-
  Plain lemmas on numbers and byte lists (little-endian numbers, bits), which the walks of this seat use. Nothing here speaks of the program; no statement is proved here.
-/
import Derived.Lib.Endian
import Derived.Lib.EndianBits
import Derived.Laws.Bits64b
import Derived.Laws.BitsAllLaws
import Derived.Below
import Derived.Lib.Strings
namespace Go.Proofs.Ytgnpldlgdapehaa
open Go.Lib

theorem leNat_lt : ∀ l : List UInt8, leNat l < 2 ^ (8 * l.length)
  | [] => by simp [leNat]
  | b :: l => by
    have h := leNat_lt l
    have hb := b.toNat_lt
    simp only [leNat, List.length_cons, Nat.mul_add, Nat.pow_add]
    omega
theorem leNat_snoc : ∀ (l : List UInt8) (b : UInt8), leNat (l ++ [b]) = leNat l + b.toNat * 2 ^ (8 * l.length)
  | [], b => by simp [leNat]
  | c :: l, b => by
    have h := leNat_snoc l b
    simp only [List.cons_append, leNat, h, List.length_cons, Nat.mul_add, Nat.pow_add]
    have e : b.toNat * (2 ^ (8 * l.length) * 2 ^ (8 * 1)) = 256 * (b.toNat * 2 ^ (8 * l.length)) := by
      rw [← Nat.mul_assoc, Nat.mul_comm]
    omega
theorem leBytes_snoc : ∀ (k v : Nat), leBytes (k + 1) v = leBytes k v ++ [(v / 2 ^ (8 * k) % 256).toUInt8]
  | 0, v => by simp [leBytes]
  | k + 1, v => by
    rw [leBytes, leBytes_snoc k, leBytes, List.cons_append]
    congr 4
    rw [Nat.div_div_eq_div_mul, show 8 * (k + 1) = 8 + 8 * k by omega, Nat.pow_add]
theorem leB_len : ∀ (k v : Nat), (leBytes k v).length = k
  | 0, _ => rfl
  | k + 1, v => by simp [leBytes, leB_len k]
theorem leNat_leBytes_mod : ∀ (k v : Nat), leNat (leBytes k v) = v % 2 ^ (8 * k)
  | 0, v => by simp [leBytes, leNat, Nat.mod_one]
  | k + 1, v => by
    rw [leBytes, leNat, leNat_leBytes_mod k, toUInt8_mod, show 8 * (k + 1) = 8 + 8 * k by omega, Nat.pow_add, Nat.mod_mul]

theorem pow_small {k : Nat} (hk : k < 8) : 2 ^ (8 * k) ≤ 2 ^ 56 := Nat.pow_le_pow_right (by omega) (by omega)

/-- One more byte of a number: 'n | uint64(b) << (8 * k)'. -/
theorem or_step (n k : Nat) (b : UInt8) (hk : k < 8) (hn : n < 2 ^ (8 * k)) :
    bits .or .u64 (n : Int) (IntKind.u64.wrap (IntKind.u64.wrap (b.toNat : Int) * 2 ^ (8 * k))) = ((n + b.toNat * 2 ^ (8 * k) : Nat) : Int) := by
  have hp := pow_small hk
  have hb := b.toNat_lt
  have h2 : b.toNat * 2 ^ (8 * k) < 2 ^ 64 := by
    have : b.toNat * 2 ^ (8 * k) ≤ 255 * 2 ^ 56 := Nat.mul_le_mul (by omega) hp
    omega
  have e1 : IntKind.u64.wrap (b.toNat : Int) = (b.toNat : Int) := by rw [IntKind.wrap_u64]; omega
  have e2 : (b.toNat : Int) * 2 ^ (8 * k) = ((b.toNat * 2 ^ (8 * k) : Nat) : Int) := by simp
  rw [e1, e2, IntKind.wrap_u64, show ((b.toNat * 2 ^ (8 * k) : Nat) : Int) % 18446744073709551616 = ((b.toNat * 2 ^ (8 * k) : Nat) : Int) by omega]
  rw [bits_or_u64_nat _ _ (by omega) (by omega), Nat.or_comm, nat_join (8 * k) _ _ (Nat.mul_mod_left _ _) hn]
  congr 1
  omega
theorem take_snoc {α : Type} (l : List α) (k : Nat) (h : k < l.length) : l.take (k + 1) = l.take k ++ [l[k]] := by
  rw [List.take_succ_eq_append_getElem h]

theorem mask_u64 (num n : Nat) (hn : 1 ≤ n) (h8 : n < 8) (hnum : num < 18446744073709551616) :
    bits .and .u64 (num : Int) (IntKind.u64.wrap (IntKind.u64.wrap (2 ^ (8 * n)) - 1)) = ((num % 2 ^ (8 * n) : Nat) : Int) := by
  have hp : 2 ^ (8 * n) ≤ 2 ^ 56 := Nat.pow_le_pow_right (by omega) (by omega)
  have hp1 : 1 ≤ 2 ^ (8 * n) := Nat.one_le_two_pow
  have e2 : (2 : Int) ^ (8 * n) = ((2 ^ (8 * n) : Nat) : Int) := by simp
  rw [e2]
  have hpn := Nat.and_two_pow_sub_one_eq_mod num (8 * n)
  generalize 2 ^ (8 * n) = P at *
  rw [IntKind.wrap_u64, IntKind.wrap_u64, show (((P : Nat) : Int) % 18446744073709551616 - 1) % 18446744073709551616 = ((P - 1 : Nat) : Int) by omega]
  rw [bits_and_u64_nat _ _ hnum (by omega), hpn]

/-- All bytes are 0. -/
def zeros (l : List UInt8) : Bool := l.all (· == 0)
theorem zeros_snoc (l : List UInt8) (b : UInt8) : zeros (l ++ [b]) = (zeros l && b == 0) := by simp [zeros]
theorem zeros_at {l : List UInt8} {k : Nat} (h : k < l.length) (hb : l[k] ≠ 0) : zeros l = false := by
  rw [Bool.eq_false_iff]
  intro hz
  have := List.all_eq_true.1 hz l[k] (List.getElem_mem h)
  simp at this
  exact hb this
/-! Go's '%' cuts towards nought. -/
theorem tmod_lt0 (x : Int) (m : Nat) (h : 1 ≤ m) (hn : x.tmod m < 0) : x.tmod m + m = x % m ∧ -(m:Int) < x.tmod m := by
  have e := @Int.tmod_eq_emod x m
  have h1 := Int.emod_nonneg x (show (m : Int) ≠ 0 by omega)
  have h2 := Int.emod_lt_of_pos x (show (0 : Int) < m by omega)
  by_cases hc : 0 ≤ x ∨ (m : Int) ∣ x
  · rw [if_pos hc] at e
    omega
  · rw [if_neg hc] at e
    have h3 : x % (m : Int) ≠ 0 := fun h0 => hc (.inr (Int.dvd_of_emod_eq_zero h0))
    simp only [Int.natAbs_natCast] at e
    omega
theorem tmod_ge0 (x : Int) (m : Nat) (h : 1 ≤ m) (hn : 0 ≤ x.tmod m) : x.tmod m = x % m := by
  have e := @Int.tmod_eq_emod x m
  have h2 := Int.emod_lt_of_pos x (show (0 : Int) < m by omega)
  by_cases hc : 0 ≤ x ∨ (m : Int) ∣ x
  · rw [if_pos hc] at e
    omega
  · rw [if_neg hc] at e
    simp only [Int.natAbs_natCast] at e
    omega
/-! Parts of a string. -/
theorem ext_ext (a : ByteArray) (p m : Nat) (_hm : p + m ≤ a.size) : (a.extract p a.size).extract 0 m = a.extract p (p + m) := by
  rw [ByteArray.extract_extract]; congr 1; omega
theorem ext_rest (a : ByteArray) (p m : Nat) (_hp : p + m ≤ a.size) : (a.extract p a.size).extract m (a.extract p a.size).size = a.extract (p + m) a.size := by
  rw [ByteArray.extract_extract, ByteArray.size_extract]; congr 1; omega
theorem ext_app (a : ByteArray) (p q : Nat) (hpq : p ≤ q) : a.extract 0 p ++ a.extract p q = a.extract 0 q := by
  apply ByteArray.ext
  apply Array.ext'
  rw [ByteArray.data_append, Array.toList_append, Lib.extract_data, Lib.extract_data, Lib.extract_data]
  simp only [List.drop_zero, Nat.sub_zero]
  rw [show q = p + (q - p) by omega, List.take_add]
  simp
theorem ext_all (a : ByteArray) : a.extract 0 a.size = a := by simp
theorem byte_eq0 (b : UInt8) : ((b.toNat : Int) == 0) = (b == 0) := by
  rw [Bool.eq_iff_iff]
  simp only [beq_iff_eq, ← UInt8.toNat_inj, UInt8.toNat_zero]
  omega
end Go.Proofs.Ytgnpldlgdapehaa
