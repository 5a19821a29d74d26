/-
  Contracts of package frame's Body, At and Read, and of Get on the bytes of a page, each with its conditions in its own statement.
-/
import Derived.Test.YtfmalohaaibhiaaFrameGet
import Derived.Test.YtfmalohaaibhiaaBytes
import Derived.Laws.CopyRow
import Derived.Laws.IdiomCopy
import Derived.Laws.ResultCell
namespace Go.Proofs.Ytfmalohaaibhiaa
open Go.RowKit
open Go.Lib
set_option linter.unusedVariables false
set_option linter.unusedSimpArgs false

/-! Get. -/
theorem get_arg (size : Int) (s : ByteArray) (n : Nat) (w : World) (h : goodSize size = false) :
    Calls Try.prog 58 #[.int .i64 size, .int .u32 n, .string s] w fun e w' => e = .returned (.tuple #[.agg #[.int .i64 0, .int .i64 0, .int .u32 0, .int .u32 0, .int .u64 0, .string ByteArray.empty], .int .i64 2]) ∧ Below w.heap.size w w' :=
  get_dies size s n 2 w fun w => rpage_arg size s n w h
theorem get_len (size : Int) (s : ByteArray) (n : Nat) (w : World) (h : goodSize size = true) (hs : ¬ (s.size : Int) = size) :
    Calls Try.prog 58 #[.int .i64 size, .int .u32 n, .string s] w fun e w' => e = .returned (.tuple #[.agg #[.int .i64 0, .int .i64 0, .int .u32 0, .int .u32 0, .int .u64 0, .string ByteArray.empty], .int .i64 4]) ∧ Below w.heap.size w w' :=
  get_dies size s n 4 w fun w => rpage_len size s n w h hs
theorem get_sum (size : Int) (s : ByteArray) (n : Nat) (w : World) (h : goodSize size = true) (hs : (s.size : Int) = size) (hc : ¬ leNat (List.take 4 s.data.toList) = crcM 0 (List.drop 4 s.data.toList)) :
    Calls Try.prog 58 #[.int .i64 size, .int .u32 n, .string s] w fun e w' => e = .returned (.tuple #[.agg #[.int .i64 0, .int .i64 0, .int .u32 0, .int .u32 0, .int .u64 0, .string ByteArray.empty], .int .i64 4]) ∧ Below w.heap.size w w' :=
  get_dies size s n 4 w fun w => rpage_sum size s n w h hs hc

theorem mid {α : Type} (A B C : List α) (f k : Nat) (hf : A.length = f) (hk : B.length = k) : List.take k (List.drop f (A ++ (B ++ C))) = B := by
  subst hf hk
  simp
section
variable (kd ct pg lk tx : Nat) (bd : ByteArray)
theorem pageB_take4 : List.take 4 (pageB kd ct pg lk tx bd).data.toList = leBytes 4 (crcM 0 (restL kd ct pg lk tx bd)) := by
  rw [pageB_list]; simp [leB_len]
theorem pageB_drop4 : List.drop 4 (pageB kd ct pg lk tx bd).data.toList = restL kd ct pg lk tx bd := by
  rw [pageB_list]; simp [leB_len]
theorem leNat_le (k v : Nat) (h : v < 2 ^ (8 * k)) : leNat (leBytes k v) = v := by rw [leNat_leBytes_mod, Nat.mod_eq_of_lt h]
theorem pageB_sum : leNat (List.take 4 (pageB kd ct pg lk tx bd).data.toList) = crcM 0 (List.drop 4 (pageB kd ct pg lk tx bd).data.toList) := by
  rw [pageB_take4, pageB_drop4, leNat_le _ _ (crcM_lt _ _)]
/-- The page's bytes, part by part. -/
theorem pageB_parts : (pageB kd ct pg lk tx bd).data.toList = leBytes 4 (crcM 0 (restL kd ct pg lk tx bd)) ++ (leBytes 1 kd ++ (leBytes 1 1 ++ (leBytes 2 ct ++ (leBytes 4 pg ++ (leBytes 4 lk ++ (leBytes 8 tx ++ bd.data.toList)))))) := by
  rw [pageB_list, restL, headL]; simp
end
theorem pageB_at (kd ct pg lk tx : Nat) (bd : ByteArray) (h1 : kd < 256) (h2 : ct < 65536) (h3 : pg < 4294967296) (h4 : lk < 4294967296) (h5 : tx < 18446744073709551616) :
    leNat (List.take 1 (List.drop 4 (pageB kd ct pg lk tx bd).data.toList)) = kd ∧ leNat (List.take 1 (List.drop 5 (pageB kd ct pg lk tx bd).data.toList)) = 1 ∧
    leNat (List.take 2 (List.drop 6 (pageB kd ct pg lk tx bd).data.toList)) = ct ∧ leNat (List.take 4 (List.drop 8 (pageB kd ct pg lk tx bd).data.toList)) = pg ∧
    leNat (List.take 4 (List.drop 12 (pageB kd ct pg lk tx bd).data.toList)) = lk ∧ leNat (List.take 8 (List.drop 16 (pageB kd ct pg lk tx bd).data.toList)) = tx ∧
    (pageB kd ct pg lk tx bd).extract 24 (pageB kd ct pg lk tx bd).size = bd := by
  have hl := pageB_parts kd ct pg lk tx bd
  have hz := pageB_size kd ct pg lk tx bd
  have a0 := leB_len 4 (crcM 0 (restL kd ct pg lk tx bd))
  have a1 := leB_len 1 kd
  have a2 := leB_len 1 1
  have a3 := leB_len 2 ct
  have a4 := leB_len 4 pg
  have a5 := leB_len 4 lk
  have a6 := leB_len 8 tx
  have n1 := leNat_le 1 kd (by omega)
  have n2 := leNat_le 1 1 (by omega)
  have n3 := leNat_le 2 ct (by omega)
  have n4 := leNat_le 4 pg (by omega)
  have n5 := leNat_le 4 lk (by omega)
  have n6 := leNat_le 8 tx (by omega)
  have hx : ((pageB kd ct pg lk tx bd).extract 24 (pageB kd ct pg lk tx bd).size).data.toList = List.drop 24 (pageB kd ct pg lk tx bd).data.toList := by
    rw [Lib.extract_data, List.take_of_length_le]
    rw [List.length_drop, size_list]; exact Nat.le_refl _
  rw [hl] at hx ⊢
  generalize leBytes 4 (crcM 0 (restL kd ct pg lk tx bd)) = S at *
  generalize leBytes 1 kd = K at *
  generalize leBytes 1 1 = V at *
  generalize leBytes 2 ct = C at *
  generalize leBytes 4 pg = P at *
  generalize leBytes 4 lk = L at *
  generalize leBytes 8 tx = T at *
  refine ⟨?_, ?_, ?_, ?_, ?_, ?_, ?_⟩
  · rw [mid S K _ 4 1 a0 a1, n1]
  · rw [show S ++ (K ++ (V ++ (C ++ (P ++ (L ++ (T ++ bd.data.toList)))))) = (S ++ K) ++ (V ++ (C ++ (P ++ (L ++ (T ++ bd.data.toList))))) by simp only [List.append_assoc], mid (S ++ K) V _ 5 1 (by simp [a0, a1]) a2, n2]
  · rw [show S ++ (K ++ (V ++ (C ++ (P ++ (L ++ (T ++ bd.data.toList)))))) = (S ++ K ++ V) ++ (C ++ (P ++ (L ++ (T ++ bd.data.toList)))) by simp only [List.append_assoc], mid (S ++ K ++ V) C _ 6 2 (by simp [a0, a1, a2]) a3, n3]
  · rw [show S ++ (K ++ (V ++ (C ++ (P ++ (L ++ (T ++ bd.data.toList)))))) = (S ++ K ++ V ++ C) ++ (P ++ (L ++ (T ++ bd.data.toList))) by simp only [List.append_assoc], mid (S ++ K ++ V ++ C) P _ 8 4 (by simp [a0, a1, a2, a3]) a4, n4]
  · rw [show S ++ (K ++ (V ++ (C ++ (P ++ (L ++ (T ++ bd.data.toList)))))) = (S ++ K ++ V ++ C ++ P) ++ (L ++ (T ++ bd.data.toList)) by simp only [List.append_assoc], mid (S ++ K ++ V ++ C ++ P) L _ 12 4 (by simp [a0, a1, a2, a3, a4]) a5, n5]
  · rw [show S ++ (K ++ (V ++ (C ++ (P ++ (L ++ (T ++ bd.data.toList)))))) = (S ++ K ++ V ++ C ++ P ++ L) ++ (T ++ bd.data.toList) by simp only [List.append_assoc], mid (S ++ K ++ V ++ C ++ P ++ L) T _ 16 8 (by simp [a0, a1, a2, a3, a4, a5]) a6, n6]
  · apply bytes_ext
    rw [hx, show S ++ (K ++ (V ++ (C ++ (P ++ (L ++ (T ++ bd.data.toList)))))) = (S ++ K ++ V ++ C ++ P ++ L ++ T) ++ bd.data.toList by simp only [List.append_assoc], List.drop_left' (by simp [a0, a1, a2, a3, a4, a5, a6])]
theorem get_back (size : Int) (kd ct pg lk tx : Nat) (bd : ByteArray) (w : World) (h : mayPg size kd ct pg lk tx bd = true) :
    Calls Try.prog 58 #[.int .i64 size, .int .u32 pg, .string (pageB kd ct pg lk tx bd)] w fun e w' => e = .returned (.tuple #[.agg #[.int .i64 kd, .int .i64 ct, .int .u32 pg, .int .u32 lk, .int .u64 tx, .string bd], .int .i64 0]) ∧ Below w.heap.size w w' := by
  have hm := h
  simp only [mayPg, Bool.and_eq_true, decide_eq_true_eq] at hm
  obtain ⟨hg, m1, m2, m3, m4, m5, m6, m7, m8⟩ := hm
  have hsz : ((pageB kd ct pg lk tx bd).size : Int) = size := by rw [pageB_size]; omega
  obtain ⟨e1, e2, e3, e4, e5, e6, e7⟩ := pageB_at kd ct pg lk tx bd (by omega) (by omega) (by omega) (by omega) (by omega)
  refine get_ok_of size _ pg kd ct pg lk tx bd w fun w => ?_
  have := rpage_ok size (pageB kd ct pg lk tx bd) pg w hg hsz (pageB_sum _ _ _ _ _ _) e2 kd ct pg lk tx e1.symm e3.symm e4.symm e5.symm e6.symm (by rw [e7]; exact h) rfl
  rw [e7] at this
  exact this
theorem get_other (size : Int) (kd ct pg lk tx : Nat) (bd : ByteArray) (n : Nat) (w : World) (h : mayPg size kd ct pg lk tx bd = true) (hn : ¬ pg = n) :
    Calls Try.prog 58 #[.int .i64 size, .int .u32 n, .string (pageB kd ct pg lk tx bd)] w fun e w' => e = .returned (.tuple #[.agg #[.int .i64 0, .int .i64 0, .int .u32 0, .int .u32 0, .int .u64 0, .string ByteArray.empty], .int .i64 4]) ∧ Below w.heap.size w w' := by
  have hm := h
  simp only [mayPg, Bool.and_eq_true, decide_eq_true_eq] at hm
  obtain ⟨hg, m1, m2, m3, m4, m5, m6, m7, m8⟩ := hm
  have hsz : ((pageB kd ct pg lk tx bd).size : Int) = size := by rw [pageB_size]; omega
  obtain ⟨e1, e2, e3, e4, e5, e6, e7⟩ := pageB_at kd ct pg lk tx bd (by omega) (by omega) (by omega) (by omega) (by omega)
  exact get_dies size _ n 4 w fun w => rpage_num size (pageB kd ct pg lk tx bd) n w hg hsz (pageB_sum _ _ _ _ _ _) e2 kd ct pg lk tx e1.symm e3.symm e4.symm e5.symm e6.symm hn

/-! At. -/
theorem wrap64_nat (k : Nat) (h : k < 9223372036854775808) : wrap64 (k : Int) = (k : Int) := by unfold wrap64; omega
theorem i64_nat (k : Nat) (h : k < 9223372036854775808) : IntKind.i64.wrap (k : Int) = (k : Int) := by rw [IntKind.wrap_i64]; omega
theorem at_yes (size n : Nat) (s : ByteArray) (w : World) (hg : goodSize size = true) (hs : s.size ≤ maxLen) (hn : n < s.size / size) :
    Calls Try.prog 57 #[.int .i64 size, .string s, .int .u32 n] w fun e w' => e = .returned (.tuple #[.string (s.extract (n * size) (n * size + size)), .bool true]) ∧ w = w' := by
  have hp := good_pos hg
  have HP := fun w => fpages_yes size s w hg hs
  obtain ⟨q, hq⟩ : ∃ q, q = s.size / size := ⟨_, rfl⟩
  have hb : n * size + size ≤ s.size := by
    have h1 : (n + 1) * size ≤ s.size / size * size := Nat.mul_le_mul_right _ hn
    have h2 := Nat.div_mul_le_self s.size size
    rw [Nat.add_mul, Nat.one_mul] at h1
    omega
  have hql : s.size / size ≤ s.size := Nat.div_le_self _ _
  rw [← hq] at HP hql hn
  unfold maxLen at hs
  obtain ⟨f, hf⟩ : ∃ f, f = n * size := ⟨_, rfl⟩
  rw [← hf] at hb ⊢
  have g1 : decide (q ≤ n) = false := by simp; omega
  have g2 : (0 : Int) ≤ f := by omega
  have g4 : (f : Int) ≤ ((f + size : Nat) : Int) := by omega
  have g5 : ((f + size : Nat) : Int) ≤ s.size := by omega
  have z1 : n < 18446744073709551616 := by omega
  have z2 : q < 18446744073709551616 := by omega
  have z3 : n < 9223372036854775808 := by omega
  have z4 : f < 9223372036854775808 := by omega
  have z5 : f + size < 9223372036854775808 := by omega
  have w1 := u64_nat n z1
  have w2 := u64_nat q z2
  have w3 := i64_nat n z3
  have w4 : wrap64 ((n : Int) * (size : Int)) = (f : Int) := by rw [← Int.natCast_mul, ← hf]; exact wrap64_nat f z4
  have g3 : wrap64 ((f : Int) + (size : Int)) = ((f + size : Nat) : Int) := by rw [← Int.natCast_add]; exact wrap64_nat _ z5
  clear hq hf hn hql hs hp hb z1 z2 z3 z4 z5
  go_enter Try.func57, Try.ntmps57
  go_wp2_with fail
  refine (HP _).mono ?_
  rintro e w' ⟨rfl, rfl⟩
  go_wp2_with fail
  go_ret2
  exact ⟨rfl, rfl⟩
theorem at_no (size n : Nat) (s : ByteArray) (w : World) (hg : goodSize size = true) (hs : s.size ≤ maxLen) (hn : ¬ n < s.size / size) (hn2 : n < 4294967296) :
    Calls Try.prog 57 #[.int .i64 size, .string s, .int .u32 n] w fun e w' => e = .returned (.tuple #[.string ⟨#[]⟩, .bool false]) ∧ w = w' := by
  have HP := fun w => fpages_yes size s w hg hs
  obtain ⟨q, hq⟩ : ∃ q, q = s.size / size := ⟨_, rfl⟩
  have hql : s.size / size ≤ s.size := Nat.div_le_self _ _
  rw [← hq] at HP hql hn
  unfold maxLen at hs
  have g1 : decide (q ≤ n) = true := by simp; omega
  have w1 := u64_nat n (by omega)
  have w2 := u64_nat q (by omega)
  clear hq hn hql hs hn2
  go_enter Try.func57, Try.ntmps57
  go_wp2_with fail
  refine (HP _).mono ?_
  rintro e w' ⟨rfl, rfl⟩
  go_wp2_with fail
  go_ret2
  exact ⟨rfl, rfl⟩
end Go.Proofs.Ytfmalohaaibhiaa
