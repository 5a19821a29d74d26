/-
  Plain lemmas on CRC-32C: one step of one bit over all natural numbers, the byte-wise checksum, its linearity, and that bits within 32 consecutive ones change it. Nothing here speaks of the program; no statement is proved here.
-/
import Derived.Lib.Endian
namespace Go.Proofs.Ytabhhccdbfjigaa
open Go.Lib

/-- One step: halve; if the lowest bit was 1, exclusive-or with the polynomial. -/
def st (n : Nat) : Nat := (n >>> 1) ^^^ (if n % 2 = 1 then 0x82f63b78 else 0)
def stn : Nat → Nat → Nat
  | 0, n => n
  | k + 1, n => stn k (st n)

theorem st_xor (a b : Nat) : st (a ^^^ b) = st a ^^^ st b := by
  unfold st
  rw [Nat.shiftRight_xor_distrib]
  have h : (a ^^^ b) % 2 = (a % 2 + b % 2) % 2 := by
    have := @Nat.xor_mod_two_eq_one a b
    rcases Nat.mod_two_eq_zero_or_one a with ha | ha <;> rcases Nat.mod_two_eq_zero_or_one b with hb | hb <;> rcases Nat.mod_two_eq_zero_or_one (a ^^^ b) with hx | hx <;> simp_all
  rw [h]
  rcases Nat.mod_two_eq_zero_or_one a with ha | ha <;> rcases Nat.mod_two_eq_zero_or_one b with hb | hb <;> simp [ha, hb]
  · rw [Nat.xor_assoc]
  · rw [Nat.xor_assoc, Nat.xor_assoc, Nat.xor_comm (b >>> 1)]
  · generalize 2197175160 = p
    rw [Nat.xor_assoc, ← Nat.xor_assoc p, Nat.xor_comm p, Nat.xor_assoc (b >>> 1), Nat.xor_self, Nat.xor_zero]
theorem stn_xor : ∀ (k a b : Nat), stn k (a ^^^ b) = stn k a ^^^ stn k b
  | 0, _, _ => rfl
  | k + 1, a, b => by rw [stn, st_xor, stn_xor k]; rfl
theorem stn_add : ∀ (j k n : Nat), stn (j + k) n = stn k (stn j n)
  | 0, k, n => by rw [Nat.zero_add]; rfl
  | j + 1, k, n => by rw [show j + 1 + k = j + k + 1 by omega, stn, stn_add j]; rfl
theorem st_zero : st 0 = 0 := rfl
theorem stn_zero : ∀ k, stn k 0 = 0
  | 0 => rfl
  | k + 1 => by rw [stn, st_zero, stn_zero k]
theorem st_double (n : Nat) : st (n * 2) = n := by
  unfold st
  rw [if_neg (by omega), Nat.xor_zero, Nat.shiftRight_eq_div_pow]
  omega
theorem stn_shift : ∀ (k n : Nat), stn k (n * 2 ^ k) = n
  | 0, n => by simp [stn]
  | k + 1, n => by rw [stn, Nat.pow_succ, ← Nat.mul_assoc, st_double, stn_shift k]
theorem st_lt {n : Nat} (h : n < 4294967296) : st n < 4294967296 := by
  unfold st
  have h1 : n >>> 1 < 2 ^ 32 := by rw [Nat.shiftRight_eq_div_pow]; omega
  exact Nat.xor_lt_two_pow (n := 32) h1 (by split <;> decide)
theorem stn_lt : ∀ (k : Nat) {n : Nat}, n < 4294967296 → stn k n < 4294967296
  | 0, _, h => h
  | k + 1, _, h => stn_lt k (st_lt h)
theorem xor_zero {x y : Nat} (h : x ^^^ y = 0) : x = y := by
  have := congrArg (· ^^^ y) h
  simpa [Nat.xor_assoc] using this
theorem st_ne {n : Nat} (h : n < 4294967296) (h0 : n ≠ 0) : st n ≠ 0 := by
  unfold st
  intro he
  have he := xor_zero he
  rw [Nat.shiftRight_eq_div_pow] at he
  split at he <;> omega
theorem stn_ne : ∀ (k : Nat) {n : Nat}, n < 4294967296 → n ≠ 0 → stn k n ≠ 0
  | 0, _, _, h0 => h0
  | k + 1, _, h, h0 => stn_ne k (st_lt h) (st_ne h h0)

/-- One byte of the checksum's register. -/
def upd (n : Nat) (b : UInt8) : Nat := stn 8 (n ^^^ b.toNat)
def run (n : Nat) (l : List UInt8) : Nat := l.foldl upd n

/-- A byte's step is the register shifted by eight, and a table's entry. -/
theorem low_split (n : Nat) : n = (n >>> 8) * 2 ^ 8 ^^^ n % 256 := by
  have h1 : (n >>> 8) * 2 ^ 8 = (n / 256) <<< 8 := by rw [Nat.shiftRight_eq_div_pow, Nat.shiftLeft_eq]
  have h2 : (n / 256) <<< 8 ^^^ n % 256 = (n / 256) <<< 8 ||| n % 256 := by
    apply Nat.eq_of_testBit_eq
    intro i
    simp only [Nat.testBit_xor, Nat.testBit_or, Nat.testBit_shiftLeft]
    by_cases hi : 8 ≤ i
    · have : (n % 256).testBit i = false := Nat.testBit_lt_two_pow (Nat.lt_of_lt_of_le (Nat.mod_lt _ (by omega)) (by rw [show 256 = 2 ^ 8 by rfl]; exact Nat.pow_le_pow_right (by omega) hi))
      simp [this]
    · simp [hi]
  rw [h1, h2, ← Nat.shiftLeft_add_eq_or_of_lt (show n % 256 < 2 ^ 8 by omega), Nat.shiftLeft_eq]
  omega
theorem stn8 (n : Nat) : stn 8 n = (n >>> 8) ^^^ stn 8 (n % 256) := by
  have h := low_split n
  have h2 : stn 8 n = stn 8 ((n >>> 8) * 2 ^ 8 ^^^ n % 256) := by rw [← h]
  rw [h2, stn_xor, stn_shift]
theorem upd_eq (n : Nat) (b : UInt8) : upd n b = (n >>> 8) ^^^ stn 8 ((n ^^^ b.toNat) % 256) := by
  unfold upd
  rw [stn8, Nat.shiftRight_xor_distrib]
  have hb : b.toNat >>> 8 = 0 := by rw [Nat.shiftRight_eq_div_pow]; have := b.toNat_lt; omega
  rw [hb, Nat.xor_zero]
theorem upd_lt {n : Nat} (b : UInt8) (h : n < 4294967296) : upd n b < 4294967296 :=
  stn_lt 8 (Nat.xor_lt_two_pow (n := 32) h (by have := b.toNat_lt; omega))
theorem run_lt : ∀ (l : List UInt8) {n : Nat}, n < 4294967296 → run n l < 4294967296
  | [], _, h => h
  | b :: l, _, h => run_lt l (upd_lt b h)
theorem run_append (n : Nat) (l m : List UInt8) : run n (l ++ m) = run (run n l) m := by simp [run]
theorem run_snoc (n : Nat) (l : List UInt8) (b : UInt8) : run n (l ++ [b]) = upd (run n l) b := by simp [run]

/-- The register, byte after byte, is linear. -/
theorem run_xor : ∀ (l m : List UInt8) (a b : Nat), l.length = m.length → run a l ^^^ run b m = run (a ^^^ b) (List.zipWith (· ^^^ ·) l m)
  | [], [], _, _, _ => rfl
  | [], _ :: _, _, _, h => by simp at h
  | _ :: _, [], _, _, h => by simp at h
  | x :: l, y :: m, a, b, h => by
    have ih := run_xor l m (upd a x) (upd b y) (by simpa using h)
    have e : upd a x ^^^ upd b y = upd (a ^^^ b) (x ^^^ y) := by
      unfold upd
      rw [← stn_xor, UInt8.toNat_xor]
      congr 1
      rw [Nat.xor_assoc, ← Nat.xor_assoc x.toNat, Nat.xor_comm x.toNat b, Nat.xor_assoc b, ← Nat.xor_assoc a b]
    show run (upd a x) l ^^^ run (upd b y) m = run (upd (a ^^^ b) (x ^^^ y)) (List.zipWith (· ^^^ ·) l m)
    rw [ih, e]

/-- The bytes of a number, taken one after the other, are the number's bits, taken one after the other. -/
theorem run_leBytes : ∀ (n a v : Nat), v < 2 ^ (8 * n) → run a (leBytes n v) = stn (8 * n) (a ^^^ v)
  | 0, a, v, h => by
    have : v = 0 := by simpa using h
    subst this
    simp [leBytes, run, stn]
  | n + 1, a, v, h => by
    rw [leBytes]
    show run (upd a _) (leBytes n (v / 256)) = _
    have hv : v / 256 < 2 ^ (8 * n) := by
      rw [show 8 * (n + 1) = 8 * n + 8 by omega, Nat.pow_add] at h
      omega
    rw [run_leBytes n _ _ hv, show 8 * (n + 1) = 8 + 8 * n by omega, stn_add]
    congr 1
    unfold upd
    rw [toUInt8_mod]
    have e := low_split v
    have e2 : v >>> 8 = v / 256 := by rw [Nat.shiftRight_eq_div_pow]
    rw [e2] at e
    have e3 : a ^^^ v = (v / 256 * 2 ^ 8) ^^^ (a ^^^ v % 256) := by
      have h3 : a ^^^ v = a ^^^ ((v / 256 * 2 ^ 8) ^^^ v % 256) := by rw [← e]
      rw [h3, ← Nat.xor_assoc, Nat.xor_comm a, Nat.xor_assoc]
    rw [e3, stn_xor 8 (v / 256 * 2 ^ 8), stn_shift, Nat.xor_comm]

/-- Bits within 32 consecutive ones change the register. -/
theorem burst (n w i : Nat) (h0 : w ≠ 0) (hw : w < 4294967296) (hi : i ≤ 8 * n) (h : w * 2 ^ i < 2 ^ (8 * n)) : run 0 (leBytes n (w * 2 ^ i)) ≠ 0 := by
  rw [run_leBytes n 0 _ h, Nat.zero_xor, show 8 * n = i + (8 * n - i) by omega, stn_add, stn_shift]
  exact stn_ne _ hw h0
theorem run_ne {l m : List UInt8} (a n w i : Nat) (hl : l.length = m.length) (h0 : w ≠ 0) (hw : w < 4294967296) (hi : i ≤ 8 * n) (h : w * 2 ^ i < 2 ^ (8 * n))
    (hx : List.zipWith (· ^^^ ·) l m = leBytes n (w * 2 ^ i)) : run a l ≠ run a m := by
  intro he
  have := run_xor l m a a hl
  rw [he, Nat.xor_self, Nat.xor_self, hx] at this
  exact burst n w i h0 hw hi h this.symm

/-! Bits of byte rows. -/
theorem leBytes_len2 : ∀ (k v : Nat), (leBytes k v).length = k
  | 0, _ => rfl
  | k + 1, v => by simp [leBytes, leBytes_len2 k]
theorem leBytes_get : ∀ (n v j : Nat), j < n → (leBytes n v)[j]? = some (v / 2 ^ (8 * j) % 256).toUInt8
  | 0, _, _, h => by omega
  | n + 1, v, 0, _ => by simp [leBytes]
  | n + 1, v, j + 1, h => by
    rw [leBytes, List.getElem?_cons_succ, leBytes_get n _ j (by omega), Nat.div_div_eq_div_mul, show 8 * (j + 1) = 8 + 8 * j by omega, Nat.pow_add]
theorem byte_xor (a b j : Nat) : ((a ^^^ b) / 2 ^ (8 * j) % 256).toUInt8 = (a / 2 ^ (8 * j) % 256).toUInt8 ^^^ (b / 2 ^ (8 * j) % 256).toUInt8 := by
  rw [← UInt8.toNat_inj, UInt8.toNat_xor]
  simp only [Nat.toUInt8_eq, UInt8.toNat_ofNat']
  rw [← Nat.shiftRight_eq_div_pow, ← Nat.shiftRight_eq_div_pow, ← Nat.shiftRight_eq_div_pow, Nat.shiftRight_xor_distrib]
  simp only [show (256 : Nat) = 2 ^ 8 by rfl, Nat.mod_mod, Nat.xor_mod_two_pow]
theorem byte_pow (p j : Nat) : 2 ^ p / 2 ^ (8 * j) % 256 = if j = p / 8 then 2 ^ (p % 8) else 0 := by
  by_cases h : 8 * j ≤ p
  · rw [Nat.pow_div h (by omega)]
    by_cases h2 : j = p / 8
    · rw [if_pos h2, show p - 8 * j = p % 8 by omega]
      have : 2 ^ (p % 8) ≤ 2 ^ 7 := Nat.pow_le_pow_right (by omega) (by omega)
      exact Nat.mod_eq_of_lt (by omega)
    · rw [if_neg h2, show p - 8 * j = 8 + (p - 8 * j - 8) by omega, Nat.pow_add]
      exact Nat.mul_mod_right _ _
  · rw [if_neg (by omega)]
    have : 2 ^ p / 2 ^ (8 * j) = 0 := Nat.div_eq_of_lt (Nat.pow_lt_pow_right (by omega) (by omega))
    rw [this]
/-- The low i bits of b, from bit p on. -/
def lowAt (b p i : Nat) : Nat := (b % 2 ^ i) * 2 ^ p
theorem low_succ (b p i : Nat) : lowAt b p (i + 1) = lowAt b p i ^^^ (if b.testBit i then 2 ^ (p + i) else 0) := by
  apply Nat.eq_of_testBit_eq
  intro j
  unfold lowAt
  rw [Nat.testBit_xor, ← Nat.shiftLeft_eq, ← Nat.shiftLeft_eq, Nat.testBit_shiftLeft, Nat.testBit_shiftLeft, Nat.testBit_mod_two_pow, Nat.testBit_mod_two_pow]
  by_cases hb : b.testBit i
  · simp only [hb, if_true, Nat.testBit_two_pow]
    by_cases h1 : p + i = j
    · subst h1; simp [hb]
    · by_cases h2 : p ≤ j
      · by_cases h3 : j - p < i
        · simp [h2, h3, show j - p < i + 1 by omega, h1]
        · simp [h2, h3, show ¬ j - p < i + 1 by omega, h1]
      · simp [h2, h1]
  · have hb' : b.testBit i = false := by simpa using hb
    simp only [hb', Bool.false_eq_true, if_false, Nat.zero_testBit, Bool.xor_false]
    by_cases h2 : p ≤ j
    · by_cases h1 : j - p = i
      · simp [h1, hb']
      · by_cases h3 : j - p < i
        · simp [h2, h3, show j - p < i + 1 by omega]
        · simp [h3, show ¬ j - p < i + 1 by omega]
    · simp [h2]
/-- The bytes of l, those bits turned. -/
def turned (l : List UInt8) (b p i : Nat) : List UInt8 := List.zipWith (· ^^^ ·) l (leBytes l.length (lowAt b p i))
theorem turned_len (l : List UInt8) (b p i : Nat) : (turned l b p i).length = l.length := by simp [turned, leBytes_len2]
theorem turned_zero (l : List UInt8) (b p : Nat) : turned l b p 0 = l := by
  apply List.ext_getElem?
  intro j
  unfold turned
  rw [List.getElem?_zipWith]
  by_cases h : j < l.length
  · rw [leBytes_get _ _ _ h, List.getElem?_eq_getElem h]
    simp [lowAt, Nat.mod_one]
  · rw [List.getElem?_eq_none (by omega : l.length ≤ j)]
theorem turned_same (l : List UInt8) (b p i : Nat) (h : b.testBit i = false) : turned l b p (i + 1) = turned l b p i := by
  unfold turned
  rw [low_succ, h]
  simp
theorem turned_next (l : List UInt8) (b p i : Nat) (h : b.testBit i = true) (hj : (p + i) / 8 < (turned l b p i).length) :
    turned l b p (i + 1) = (turned l b p i).set ((p + i) / 8) ((turned l b p i)[(p + i) / 8] ^^^ (2 ^ ((p + i) % 8)).toUInt8) := by
  have hl := turned_len l b p i
  apply List.ext_getElem?
  intro j
  rw [List.getElem?_set]
  have hget : ∀ (k m : Nat), m < l.length → (turned l b p k)[m]? = some ((l.getD m 0) ^^^ ((lowAt b p k) / 2 ^ (8 * m) % 256).toUInt8) := by
    intro k m hm
    unfold turned
    rw [List.getElem?_zipWith, leBytes_get _ _ _ hm, List.getElem?_eq_getElem hm]
    simp [List.getD, hm]
  by_cases hjl : j < l.length
  · rw [hget _ _ hjl, low_succ, h, byte_xor, if_pos rfl, byte_pow]
    by_cases he : (p + i) / 8 = j
    · rw [if_pos he, if_pos he.symm, if_pos (by omega)]
      have h2 := hget i ((p + i) / 8) (by omega)
      rw [List.getElem?_eq_getElem hj] at h2
      rw [Option.some.inj h2, he, UInt8.xor_assoc]
    · rw [if_neg he, if_neg (by omega), hget _ _ hjl]
      simp
  · rw [List.getElem?_eq_none (by rw [turned_len]; omega), if_neg (by omega), List.getElem?_eq_none (by rw [turned_len]; omega)]
theorem run_turned (l : List UInt8) (a b p : Nat) (hb : b < 4294967296) (h0 : b ≠ 0) (hp : p + 32 ≤ 8 * l.length) : run a (turned l b p 32) ≠ run a l := by
  have hlow : lowAt b p 32 = b * 2 ^ p := by unfold lowAt; rw [Nat.mod_eq_of_lt (by omega)]
  have hlt : b * 2 ^ p < 2 ^ (8 * l.length) := by
    have h1 : b * 2 ^ p < 2 ^ 32 * 2 ^ p := Nat.mul_lt_mul_of_pos_right (by omega) (Nat.two_pow_pos p)
    rw [← Nat.pow_add] at h1
    exact Nat.lt_of_lt_of_le h1 (Nat.pow_le_pow_right (by omega) (by omega))
  refine run_ne (l := turned l b p 32) (m := l) a l.length b p (turned_len _ _ _ _) h0 hb (by omega) hlt ?_
  unfold turned
  rw [hlow]
  apply List.ext_getElem?
  intro j
  rw [List.getElem?_zipWith, List.getElem?_zipWith]
  by_cases h : j < l.length
  · rw [leBytes_get _ _ _ h, List.getElem?_eq_getElem h]
    simp only [Option.some.injEq]
    rw [UInt8.xor_comm, ← UInt8.xor_assoc, UInt8.xor_self, UInt8.zero_xor]
  · rw [List.getElem?_eq_none (by omega : l.length ≤ j), List.getElem?_eq_none (by rw [leBytes_len2]; omega)]
end Go.Proofs.Ytabhhccdbfjigaa
