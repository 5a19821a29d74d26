/-
  Plain lemmas on a page's bytes of which bits are turned, all within 32 consecutive ones and either all in its first four bytes or all behind them: the first four bytes are not the checksum of the rest. Nothing here speaks of the program; no statement is proved here.
-/
import Derived.Test.YtfmalohaaibhiaaCrcPlain
import Derived.Test.YtfmalohaaibhiaaCrc
import Derived.Test.YtfmalohaaibhiaaPlain
namespace Go.Proofs.Ytfmalohaaibhiaa
open Go.Lib

theorem le_same : ∀ (k v : Nat), Lib.leBytes k v = leBytes k v
  | 0, _ => rfl
  | k + 1, v => by rw [Lib.leBytes, leBytes, le_same k]
theorem low_step (b p i : Nat) : lowAt b p (i + 1) = lowAt b p i + (if b.testBit i then 2 ^ (p + i) else 0) := by
  unfold lowAt
  rw [Nat.mod_pow_succ, Nat.add_mul]
  congr 1
  rw [Nat.testBit_eq_decide_div_mod_eq]
  rcases Nat.mod_two_eq_zero_or_one (b / 2 ^ i) with h | h
  · rw [h]; simp
  · rw [h]; simp [Nat.pow_add, Nat.mul_comm]
theorem low_lt (b p i : Nat) : lowAt b p i < 2 ^ (i + p) := by
  unfold lowAt
  rw [Nat.pow_add]
  exact Nat.mul_lt_mul_of_pos_right (Nat.mod_lt _ (Nat.two_pow_pos i)) (Nat.two_pow_pos p)
/-- What the counts of the bits ahead and behind tell. -/
def Parts (b p k a c : Nat) : Prop := (a = 0 → lowAt b p k % 4294967296 = 0) ∧ (c = 0 → lowAt b p k < 4294967296)
theorem parts_zero (b p : Nat) : Parts b p 0 0 0 := by
  constructor <;> intro _ <;> simp [lowAt, Nat.mod_one]
theorem parts_same {b p k a c : Nat} (h : Parts b p k a c) (hb : b.testBit k = false) : Parts b p (k + 1) a c := by
  unfold Parts at *
  rw [low_step, hb]
  simpa using h
theorem parts_ahead {b p k a c : Nat} (_h : Parts b p k a c) (hk : p + k < 32) : Parts b p (k + 1) (a + 1) c := by
  refine ⟨fun e => by omega, fun _ => ?_⟩
  have h1 := low_lt b p (k + 1)
  have h2 : 2 ^ (k + 1 + p) ≤ 2 ^ 32 := Nat.pow_le_pow_right (by omega) (by omega)
  omega
theorem parts_behind {b p k a c : Nat} (h : Parts b p k a c) (hb : b.testBit k = true) (hk : 32 ≤ p + k) : Parts b p (k + 1) a (c + 1) := by
  refine ⟨fun e => ?_, fun e => by omega⟩
  rw [low_step, hb, if_pos rfl]
  have h1 := h.1 e
  have h2 : 2 ^ (p + k) = 4294967296 * 2 ^ (p + k - 32) := by
    rw [show p + k = 32 + (p + k - 32) by omega, Nat.pow_add]
    simp
  rw [h2, Nat.add_mul_mod_self_left]
  exact h1

theorem xor_cancel : ∀ (D E : List UInt8), D.length = E.length → List.zipWith (· ^^^ ·) (List.zipWith (· ^^^ ·) D E) D = E
  | [], [], _ => rfl
  | [], _ :: _, h => by simp at h
  | _ :: _, [], h => by simp at h
  | d :: D, e :: E, h => by
    have ih := xor_cancel D E (by simpa using h)
    simp only [List.zipWith_cons_cons, ih]
    rw [UInt8.xor_comm d e, UInt8.xor_assoc, UInt8.xor_self, UInt8.xor_zero]
theorem xor_self_z : ∀ D : List UInt8, List.zipWith (· ^^^ ·) D D = leBytes D.length 0
  | [] => rfl
  | d :: D => by
    simp only [List.zipWith_cons_cons, xor_self_z D, UInt8.xor_self, List.length_cons, leBytes, Nat.zero_div]
    rfl
theorem xor_zeros : ∀ D : List UInt8, List.zipWith (· ^^^ ·) D (leBytes D.length 0) = D
  | [] => rfl
  | d :: D => by
    simp only [List.length_cons, leBytes, Nat.zero_div, List.zipWith_cons_cons, xor_zeros D]
    congr 1
    show d ^^^ (0 % 256).toUInt8 = d
    exact UInt8.xor_zero
theorem leNat_inj : ∀ (A B : List UInt8), A.length = B.length → leNat A = leNat B → A = B
  | [], [], _, _ => rfl
  | [], _ :: _, h, _ => by simp at h
  | _ :: _, [], h, _ => by simp at h
  | a :: A, b :: B, h, e => by
    simp only [leNat] at e
    have ha := a.toNat_lt
    have hb := b.toNat_lt
    have h1 : a.toNat = b.toNat := by omega
    have h2 : leNat A = leNat B := by omega
    rw [UInt8.toNat_inj.1 h1, leNat_inj A B (by simpa using h) h2]
theorem leBytes_cut (m v : Nat) : leBytes (4 + m) v = leBytes 4 v ++ leBytes m (v / 4294967296) := by
  rw [show 4 + m = m + 1 + 1 + 1 + 1 by omega]
  simp only [leBytes, Nat.div_div_eq_div_mul, List.cons_append, List.nil_append]
theorem leBytes_mod4 (v : Nat) (h : v % 4294967296 = 0) : leBytes 4 v = leBytes 4 0 := by
  simp only [leBytes, Nat.zero_div]
  have h0 : v % 256 = 0 := by omega
  have h1 : v / 256 % 256 = 0 := by omega
  have h2 : v / 256 / 256 % 256 = 0 := by omega
  have h3 : v / 256 / 256 / 256 % 256 = 0 := by omega
  rw [h0, h1, h2, h3]
theorem crc_inj {l m : List UInt8} (h : crcM 0 l = crcM 0 m) : run 4294967295 l = run 4294967295 m := by
  have h1 := run_lt l (show 4294967295 < 4294967296 by omega)
  have h2 := run_lt m (show 4294967295 < 4294967296 by omega)
  unfold crcM at h
  rw [Nat.sub_zero] at h
  omega
theorem burst_bad (l : List UInt8) (d p : Nat) (hd : d < 4294967296) (h0 : d ≠ 0) (hp : p + 32 ≤ 8 * l.length) (hl : 8 ≤ l.length) (hs : leNat (List.take 4 l) = crcM 0 (List.drop 4 l))
    (hv : lowAt d p 32 % 4294967296 = 0 ∨ lowAt d p 32 < 4294967296) : ¬ leNat (List.take 4 (turned l d p 32)) = crcM 0 (List.drop 4 (turned l d p 32)) := by
  have hlow : lowAt d p 32 = d * 2 ^ p := by unfold lowAt; rw [Nat.mod_eq_of_lt (by omega)]
  obtain ⟨n, hn⟩ : ∃ n, l.length = 4 + n := ⟨l.length - 4, by omega⟩
  have htl : (List.take 4 l).length = 4 := by rw [List.length_take]; omega
  have hdl : (List.drop 4 l).length = n := by rw [List.length_drop]; omega
  have e1 : List.take 4 (turned l d p 32) = List.zipWith (· ^^^ ·) (List.take 4 l) (leBytes 4 (lowAt d p 32)) := by
    unfold turned
    rw [List.take_zipWith, hn, le_same, leBytes_cut, List.take_left' (leB_len _ _)]
  have e2 : List.drop 4 (turned l d p 32) = List.zipWith (· ^^^ ·) (List.drop 4 l) (leBytes n (lowAt d p 32 / 4294967296)) := by
    unfold turned
    rw [List.drop_zipWith, hn, le_same, leBytes_cut, List.drop_left' (leB_len _ _)]
  rw [e1, e2]
  rcases hv with hv | hv
  · have e3 : List.zipWith (· ^^^ ·) (List.take 4 l) (leBytes 4 (lowAt d p 32)) = List.take 4 l := by
      rw [leBytes_mod4 _ hv]
      have := xor_zeros (List.take 4 l)
      rw [htl] at this
      exact this
    rw [e3, hs]
    intro he
    have hr := crc_inj he
    have hlt : d * 2 ^ p < 2 ^ (8 * (4 + n)) := by
      have h1 : d * 2 ^ p < 2 ^ 32 * 2 ^ p := Nat.mul_lt_mul_of_pos_right (by omega) (Nat.two_pow_pos p)
      rw [← Nat.pow_add] at h1
      exact Nat.lt_of_lt_of_le h1 (Nat.pow_le_pow_right (by omega) (by omega))
    have hlt2 : lowAt d p 32 / 4294967296 < 2 ^ (8 * n) := by
      rw [hlow]
      rw [show 8 * (4 + n) = 32 + 8 * n by omega, Nat.pow_add] at hlt
      exact Nat.div_lt_of_lt_mul (by simpa using hlt)
    obtain ⟨u, i, hu, hul, hi, hui⟩ : ∃ u i : Nat, u ≠ 0 ∧ u < 4294967296 ∧ i ≤ 8 * n ∧ lowAt d p 32 / 4294967296 = u * 2 ^ i := by
      by_cases hp2 : 32 ≤ p
      · refine ⟨d, p - 32, h0, hd, by omega, ?_⟩
        have h2 : 2 ^ p = 2 ^ (p - 32) * 4294967296 := by
          have h3 : 2 ^ p = 2 ^ (p - 32 + 32) := by congr 1; omega
          rw [h3, Nat.pow_add]
        rw [hlow, h2, ← Nat.mul_assoc, Nat.mul_div_cancel _ (by omega)]
      · refine ⟨lowAt d p 32 / 4294967296, 0, ?_, ?_, by omega, by simp⟩
        · have h4 : lowAt d p 32 ≠ 0 := by
            rw [hlow]
            exact Nat.mul_ne_zero h0 (Nat.ne_of_gt (Nat.two_pow_pos p))
          omega
        · have h1 : d * 2 ^ p < 2 ^ 32 * 2 ^ p := Nat.mul_lt_mul_of_pos_right (by omega) (Nat.two_pow_pos p)
          have h2 : 2 ^ p ≤ 2 ^ 31 := Nat.pow_le_pow_right (by omega) (by omega)
          rw [hlow]
          have h5 : 2 ^ 32 * 2 ^ p ≤ 4294967296 * 2147483648 := Nat.mul_le_mul (by omega) (by omega)
          refine Nat.div_lt_of_lt_mul ?_
          omega
    rw [hui] at hr hlt2
    refine run_ne 4294967295 n u i ?_ hu hul hi hlt2 ?_ hr.symm
    · rw [List.length_zipWith, hdl, leB_len]; exact Nat.min_self n
    · rw [le_same]; exact xor_cancel _ _ (by rw [hdl, leB_len])
  · have e4 : List.zipWith (· ^^^ ·) (List.drop 4 l) (leBytes n (lowAt d p 32 / 4294967296)) = List.drop 4 l := by
      rw [Nat.div_eq_of_lt hv]
      have := xor_zeros (List.drop 4 l)
      rw [hdl] at this
      exact this
    rw [e4, ← hs]
    intro he
    have h1 := leNat_inj _ _ (by rw [List.length_zipWith, leB_len, htl]; rfl) he
    have h2 := xor_cancel (List.take 4 l) (leBytes 4 (lowAt d p 32)) (by rw [htl, leB_len])
    rw [h1, xor_self_z, htl] at h2
    have h3 := congrArg leNat h2
    rw [leNat_leBytes_mod, leNat_leBytes_mod] at h3
    have h4 : lowAt d p 32 ≠ 0 := by
      rw [hlow]
      exact Nat.mul_ne_zero h0 (Nat.ne_of_gt (Nat.two_pow_pos p))
    omega
end Go.Proofs.Ytfmalohaaibhiaa
