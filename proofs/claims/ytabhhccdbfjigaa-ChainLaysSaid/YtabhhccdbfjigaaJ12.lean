/-
  Texts that the main proof rests on, put together: FrameTurn, FrameAll, Pg, Cn. No statement is proved here.
-/
import Derived.Test.YtabhhccdbfjigaaJ3
import Derived.Test.YtabhhccdbfjigaaJ4
import Derived.Test.YtabhhccdbfjigaaJ2
import Derived.Test.YtabhhccdbfjigaaJ11
import Derived.Test.YtabhhccdbfjigaaJ1
import Derived.Sort.Walk0
namespace Go.Proofs.Ytabhhccdbfjigaa
open Go.Lib

theorem le_same : ∀ (k v : Nat), Lib.leBytes k v = leBytes k v
  | 0, _ => rfl
  | k + 1, v => by rw [Lib.leBytes, leBytes, le_same k]
theorem low_step (b p i : Nat) : lowAt b p (i + 1) = lowAt b p i + (if b.testBit i then 2 ^ (p + i) else 0) := by
  unfold lowAt
  rw [Nat.mod_pow_succ, Nat.add_mul]
  congr 1
  rw [Nat.testBit_eq_decide_div_mod_eq]
  rcases Nat.mod_two_eq_zero_or_one (b / 2 ^ i) with h | h
  · rw [h]; simp
  · rw [h]; simp [Nat.pow_add, Nat.mul_comm]
theorem low_lt (b p i : Nat) : lowAt b p i < 2 ^ (i + p) := by
  unfold lowAt
  rw [Nat.pow_add]
  exact Nat.mul_lt_mul_of_pos_right (Nat.mod_lt _ (Nat.two_pow_pos i)) (Nat.two_pow_pos p)
/-- What the counts of the bits ahead and behind tell. -/
def Parts (b p k a c : Nat) : Prop := (a = 0 → lowAt b p k % 4294967296 = 0) ∧ (c = 0 → lowAt b p k < 4294967296)
theorem parts_zero (b p : Nat) : Parts b p 0 0 0 := by
  constructor <;> intro _ <;> simp [lowAt, Nat.mod_one]
theorem parts_same {b p k a c : Nat} (h : Parts b p k a c) (hb : b.testBit k = false) : Parts b p (k + 1) a c := by
  unfold Parts at *
  rw [low_step, hb]
  simpa using h
theorem parts_ahead {b p k a c : Nat} (_h : Parts b p k a c) (hk : p + k < 32) : Parts b p (k + 1) (a + 1) c := by
  refine ⟨fun e => by omega, fun _ => ?_⟩
  have h1 := low_lt b p (k + 1)
  have h2 : 2 ^ (k + 1 + p) ≤ 2 ^ 32 := Nat.pow_le_pow_right (by omega) (by omega)
  omega
theorem parts_behind {b p k a c : Nat} (h : Parts b p k a c) (hb : b.testBit k = true) (hk : 32 ≤ p + k) : Parts b p (k + 1) a (c + 1) := by
  refine ⟨fun e => ?_, fun e => by omega⟩
  rw [low_step, hb, if_pos rfl]
  have h1 := h.1 e
  have h2 : 2 ^ (p + k) = 4294967296 * 2 ^ (p + k - 32) := by
    rw [show p + k = 32 + (p + k - 32) by omega, Nat.pow_add]
    simp
  rw [h2, Nat.add_mul_mod_self_left]
  exact h1

theorem xor_cancel : ∀ (D E : List UInt8), D.length = E.length → List.zipWith (· ^^^ ·) (List.zipWith (· ^^^ ·) D E) D = E
  | [], [], _ => rfl
  | [], _ :: _, h => by simp at h
  | _ :: _, [], h => by simp at h
  | d :: D, e :: E, h => by
    have ih := xor_cancel D E (by simpa using h)
    simp only [List.zipWith_cons_cons, ih]
    rw [UInt8.xor_comm d e, UInt8.xor_assoc, UInt8.xor_self, UInt8.xor_zero]
theorem xor_self_z : ∀ D : List UInt8, List.zipWith (· ^^^ ·) D D = leBytes D.length 0
  | [] => rfl
  | d :: D => by
    simp only [List.zipWith_cons_cons, xor_self_z D, UInt8.xor_self, List.length_cons, leBytes, Nat.zero_div]
    rfl
theorem xor_zeros : ∀ D : List UInt8, List.zipWith (· ^^^ ·) D (leBytes D.length 0) = D
  | [] => rfl
  | d :: D => by
    simp only [List.length_cons, leBytes, Nat.zero_div, List.zipWith_cons_cons, xor_zeros D]
    congr 1
    show d ^^^ (0 % 256).toUInt8 = d
    exact UInt8.xor_zero
theorem leNat_inj : ∀ (A B : List UInt8), A.length = B.length → leNat A = leNat B → A = B
  | [], [], _, _ => rfl
  | [], _ :: _, h, _ => by simp at h
  | _ :: _, [], h, _ => by simp at h
  | a :: A, b :: B, h, e => by
    simp only [leNat] at e
    have ha := a.toNat_lt
    have hb := b.toNat_lt
    have h1 : a.toNat = b.toNat := by omega
    have h2 : leNat A = leNat B := by omega
    rw [UInt8.toNat_inj.1 h1, leNat_inj A B (by simpa using h) h2]
theorem leBytes_cut (m v : Nat) : leBytes (4 + m) v = leBytes 4 v ++ leBytes m (v / 4294967296) := by
  rw [show 4 + m = m + 1 + 1 + 1 + 1 by omega]
  simp only [leBytes, Nat.div_div_eq_div_mul, List.cons_append, List.nil_append]
theorem leBytes_mod4 (v : Nat) (h : v % 4294967296 = 0) : leBytes 4 v = leBytes 4 0 := by
  simp only [leBytes, Nat.zero_div]
  have h0 : v % 256 = 0 := by omega
  have h1 : v / 256 % 256 = 0 := by omega
  have h2 : v / 256 / 256 % 256 = 0 := by omega
  have h3 : v / 256 / 256 / 256 % 256 = 0 := by omega
  rw [h0, h1, h2, h3]
theorem crc_inj {l m : List UInt8} (h : crcM 0 l = crcM 0 m) : run 4294967295 l = run 4294967295 m := by
  have h1 := run_lt l (show 4294967295 < 4294967296 by omega)
  have h2 := run_lt m (show 4294967295 < 4294967296 by omega)
  unfold crcM at h
  rw [Nat.sub_zero] at h
  omega
theorem burst_bad (l : List UInt8) (d p : Nat) (hd : d < 4294967296) (h0 : d ≠ 0) (hp : p + 32 ≤ 8 * l.length) (hl : 8 ≤ l.length) (hs : leNat (List.take 4 l) = crcM 0 (List.drop 4 l))
    (hv : lowAt d p 32 % 4294967296 = 0 ∨ lowAt d p 32 < 4294967296) : ¬ leNat (List.take 4 (turned l d p 32)) = crcM 0 (List.drop 4 (turned l d p 32)) := by
  have hlow : lowAt d p 32 = d * 2 ^ p := by unfold lowAt; rw [Nat.mod_eq_of_lt (by omega)]
  obtain ⟨n, hn⟩ : ∃ n, l.length = 4 + n := ⟨l.length - 4, by omega⟩
  have htl : (List.take 4 l).length = 4 := by rw [List.length_take]; omega
  have hdl : (List.drop 4 l).length = n := by rw [List.length_drop]; omega
  have e1 : List.take 4 (turned l d p 32) = List.zipWith (· ^^^ ·) (List.take 4 l) (leBytes 4 (lowAt d p 32)) := by
    unfold turned
    rw [List.take_zipWith, hn, le_same, leBytes_cut, List.take_left' (leB_len _ _)]
  have e2 : List.drop 4 (turned l d p 32) = List.zipWith (· ^^^ ·) (List.drop 4 l) (leBytes n (lowAt d p 32 / 4294967296)) := by
    unfold turned
    rw [List.drop_zipWith, hn, le_same, leBytes_cut, List.drop_left' (leB_len _ _)]
  rw [e1, e2]
  rcases hv with hv | hv
  · have e3 : List.zipWith (· ^^^ ·) (List.take 4 l) (leBytes 4 (lowAt d p 32)) = List.take 4 l := by
      rw [leBytes_mod4 _ hv]
      have := xor_zeros (List.take 4 l)
      rw [htl] at this
      exact this
    rw [e3, hs]
    intro he
    have hr := crc_inj he
    have hlt : d * 2 ^ p < 2 ^ (8 * (4 + n)) := by
      have h1 : d * 2 ^ p < 2 ^ 32 * 2 ^ p := Nat.mul_lt_mul_of_pos_right (by omega) (Nat.two_pow_pos p)
      rw [← Nat.pow_add] at h1
      exact Nat.lt_of_lt_of_le h1 (Nat.pow_le_pow_right (by omega) (by omega))
    have hlt2 : lowAt d p 32 / 4294967296 < 2 ^ (8 * n) := by
      rw [hlow]
      rw [show 8 * (4 + n) = 32 + 8 * n by omega, Nat.pow_add] at hlt
      exact Nat.div_lt_of_lt_mul (by simpa using hlt)
    obtain ⟨u, i, hu, hul, hi, hui⟩ : ∃ u i : Nat, u ≠ 0 ∧ u < 4294967296 ∧ i ≤ 8 * n ∧ lowAt d p 32 / 4294967296 = u * 2 ^ i := by
      by_cases hp2 : 32 ≤ p
      · refine ⟨d, p - 32, h0, hd, by omega, ?_⟩
        have h2 : 2 ^ p = 2 ^ (p - 32) * 4294967296 := by
          have h3 : 2 ^ p = 2 ^ (p - 32 + 32) := by congr 1; omega
          rw [h3, Nat.pow_add]
        rw [hlow, h2, ← Nat.mul_assoc, Nat.mul_div_cancel _ (by omega)]
      · refine ⟨lowAt d p 32 / 4294967296, 0, ?_, ?_, by omega, by simp⟩
        · have h4 : lowAt d p 32 ≠ 0 := by
            rw [hlow]
            exact Nat.mul_ne_zero h0 (Nat.ne_of_gt (Nat.two_pow_pos p))
          omega
        · have h1 : d * 2 ^ p < 2 ^ 32 * 2 ^ p := Nat.mul_lt_mul_of_pos_right (by omega) (Nat.two_pow_pos p)
          have h2 : 2 ^ p ≤ 2 ^ 31 := Nat.pow_le_pow_right (by omega) (by omega)
          rw [hlow]
          have h5 : 2 ^ 32 * 2 ^ p ≤ 4294967296 * 2147483648 := Nat.mul_le_mul (by omega) (by omega)
          refine Nat.div_lt_of_lt_mul ?_
          omega
    rw [hui] at hr hlt2
    refine run_ne 4294967295 n u i ?_ hu hul hi hlt2 ?_ hr.symm
    · rw [List.length_zipWith, hdl, leB_len]; exact Nat.min_self n
    · rw [le_same]; exact xor_cancel _ _ (by rw [hdl, leB_len])
  · have e4 : List.zipWith (· ^^^ ·) (List.drop 4 l) (leBytes n (lowAt d p 32 / 4294967296)) = List.drop 4 l := by
      rw [Nat.div_eq_of_lt hv]
      have := xor_zeros (List.drop 4 l)
      rw [hdl] at this
      exact this
    rw [e4, ← hs]
    intro he
    have h1 := leNat_inj _ _ (by rw [List.length_zipWith, leB_len, htl]; rfl) he
    have h2 := xor_cancel (List.take 4 l) (leBytes 4 (lowAt d p 32)) (by rw [htl, leB_len])
    rw [h1, xor_self_z, htl] at h2
    have h3 := congrArg leNat h2
    rw [leNat_leBytes_mod, leNat_leBytes_mod] at h3
    have h4 : lowAt d p 32 ≠ 0 := by
      rw [hlow]
      exact Nat.mul_ne_zero h0 (Nat.ne_of_gt (Nat.two_pow_pos p))
    omega
end Go.Proofs.Ytabhhccdbfjigaa
namespace Go.Proofs.Ytabhhccdbfjigaa
open Go.RowKit
open Go.Lib
set_option linter.unusedVariables false
set_option linter.unusedSimpArgs false

/-- The number in k bytes from f on. -/
def numAt (s : ByteArray) (f k : Nat) : Nat := leNat (List.take k (List.drop f s.data.toList))
/-- A block is a right page with the number n. -/
def blockOk (size : Int) (n : Nat) (s : ByteArray) : Bool :=
  decide ((s.size : Int) = size) && (decide (leNat (List.take 4 s.data.toList) = crcM 0 (List.drop 4 s.data.toList)) && (decide (numAt s 5 1 = 1) && (decide (numAt s 8 4 = n) && mayPg size (numAt s 4 1) (numAt s 6 2) (numAt s 8 4) (numAt s 12 4) (numAt s 16 8) (s.extract 24 s.size))))
theorem get_right (size : Int) (n : Nat) (s : ByteArray) (w : World) (h : blockOk size n s = true) :
    Calls Try.prog 91 #[.int .i64 size, .int .u32 n, .string s] w fun e w' => e = .returned (.tuple #[.agg #[.int .i64 (numAt s 4 1), .int .i64 (numAt s 6 2), .int .u32 (numAt s 8 4), .int .u32 (numAt s 12 4), .int .u64 (numAt s 16 8), .string (s.extract 24 s.size)], .int .i64 0]) ∧ Below w.heap.size w w' := by
  simp only [blockOk, Bool.and_eq_true, decide_eq_true_eq] at h
  obtain ⟨h1, h2, h3, h4, h5⟩ := h
  have hg : goodSize size = true := by
    simp only [mayPg, Bool.and_eq_true] at h5
    exact h5.1
  exact get_ok_of size s n _ _ _ _ _ _ w fun w => rpage_ok size s n w hg h1 h2 h3 _ _ _ _ _ rfl rfl rfl rfl rfl h5 h4
theorem get_wrong (size : Int) (n : Nat) (s : ByteArray) (w : World) (hg : goodSize size = true) (h : blockOk size n s = false) :
    Calls Try.prog 91 #[.int .i64 size, .int .u32 n, .string s] w fun e w' => e = .returned (.tuple #[.agg #[.int .i64 0, .int .i64 0, .int .u32 0, .int .u32 0, .int .u64 0, .string ByteArray.empty], .int .i64 4]) ∧ Below w.heap.size w w' := by
  refine get_dies size s n 4 w fun w => ?_
  by_cases h1 : (s.size : Int) = size
  case neg => exact rpage_len size s n w hg h1
  by_cases h2 : leNat (List.take 4 s.data.toList) = crcM 0 (List.drop 4 s.data.toList)
  case neg => exact rpage_sum size s n w hg h1 h2
  by_cases h3 : numAt s 5 1 = 1
  case neg => exact rpage_ver size s n w hg h1 h2 h3
  by_cases h4 : numAt s 8 4 = n
  case neg => exact rpage_num size s n w hg h1 h2 h3 (numAt s 4 1) (numAt s 6 2) (numAt s 8 4) (numAt s 12 4) (numAt s 16 8) rfl rfl rfl rfl rfl h4
  have h5 : mayPg size (numAt s 4 1) (numAt s 6 2) (numAt s 8 4) (numAt s 12 4) (numAt s 16 8) (s.extract 24 s.size) = false := by
    rcases hm : mayPg size (numAt s 4 1) (numAt s 6 2) (numAt s 8 4) (numAt s 12 4) (numAt s 16 8) (s.extract 24 s.size) with _ | _
    · rfl
    · rw [blockOk, hm] at h
      simp [h1, h2, h3, h4] at h
  exact rpage_bad size s n w hg h1 h2 h3 (numAt s 4 1) (numAt s 6 2) (numAt s 8 4) (numAt s 12 4) (numAt s 16 8) rfl rfl rfl rfl rfl h4 h5
theorem le_back : ∀ l : List UInt8, leBytes l.length (leNat l) = l
  | [] => rfl
  | b :: l => by
    have hb := b.toNat_lt
    rw [List.length_cons, leBytes, leNat]
    have e1 : (b.toNat + 256 * leNat l) / 256 = leNat l := by omega
    have e2 : (b.toNat + 256 * leNat l) % 256 = b.toNat := by omega
    rw [e1, e2, le_back l]
    congr 1
    rw [← UInt8.toNat_inj]
    simp
theorem part_back (l : List UInt8) (f k : Nat) (h : f + k ≤ l.length) : leBytes k (leNat (List.take k (List.drop f l))) = List.take k (List.drop f l) := by
  have h1 := le_back (List.take k (List.drop f l))
  rw [show (List.take k (List.drop f l)).length = k by rw [List.length_take, List.length_drop]; omega] at h1
  exact h1
theorem cut_at (l : List UInt8) (f k : Nat) : List.drop f l = List.take k (List.drop f l) ++ List.drop (f + k) l := by
  rw [← List.drop_drop, List.take_append_drop]
/-- A right block is the bytes of its page. -/
theorem block_is (size : Int) (n : Nat) (s : ByteArray) (h : blockOk size n s = true) : s = pageB (numAt s 4 1) (numAt s 6 2) (numAt s 8 4) (numAt s 12 4) (numAt s 16 8) (s.extract 24 s.size) := by
  simp only [blockOk, Bool.and_eq_true, decide_eq_true_eq] at h
  obtain ⟨h1, h2, h3, h4, h5⟩ := h
  have hg : goodSize size = true := by
    simp only [mayPg, Bool.and_eq_true] at h5
    exact h5.1
  obtain ⟨z, z0, z1, _, _⟩ := good_nat hg
  have hz : 24 ≤ s.data.toList.length := by rw [size_list]; omega
  have hx : (s.extract 24 s.size).data.toList = List.drop 24 s.data.toList := by
    rw [Lib.extract_data, List.take_of_length_le]
    rw [List.length_drop, size_list]; exact Nat.le_refl _
  have hrest : restL (numAt s 4 1) (numAt s 6 2) (numAt s 8 4) (numAt s 12 4) (numAt s 16 8) (s.extract 24 s.size) = List.drop 4 s.data.toList := by
    have p5 := part_back s.data.toList 5 1 (by omega)
    rw [show leNat (List.take 1 (List.drop 5 s.data.toList)) = 1 from h3] at p5
    rw [restL, headL, numAt, numAt, numAt, numAt, numAt, part_back _ 4 1 (by omega), part_back _ 6 2 (by omega), part_back _ 8 4 (by omega), part_back _ 12 4 (by omega), part_back _ 16 8 (by omega), p5, hx]
    simp only [List.append_assoc]
    rw [← cut_at s.data.toList 16 8, ← cut_at s.data.toList 12 4, ← cut_at s.data.toList 8 4, ← cut_at s.data.toList 6 2, ← cut_at s.data.toList 5 1, ← cut_at s.data.toList 4 1]
  apply bytes_ext
  rw [pageB_list, hrest, ← h2]
  have p0 := part_back s.data.toList 0 4 (by omega)
  rw [List.drop_zero] at p0
  rw [p0, List.take_append_drop]
theorem drop_ext (s : ByteArray) (p : Nat) : (s.extract p s.size).data.toList = List.drop p s.data.toList := by
  rw [Lib.extract_data, List.take_of_length_le]
  rw [List.length_drop, size_list]; exact Nat.le_refl _
end Go.Proofs.Ytabhhccdbfjigaa
namespace Go.Proofs.Ytabhhccdbfjigaa
open Go.RowKit
open Go.Lib hiding intOf
set_option linter.unusedVariables false
set_option linter.unusedSimpArgs false

structure Pg where
  kd : Int
  ct : Int
  pg : Nat
  lk : Nat
  tx : Nat
  bd : ByteArray
def Pg.cells (b : Pg) : List Value := [.int .i64 b.kd, .int .i64 b.ct, .int .u32 b.pg, .int .u32 b.lk, .int .u64 b.tx, .string b.bd]
def Pg.agg (b : Pg) : Value := .agg #[.int .i64 b.kd, .int .i64 b.ct, .int .u32 b.pg, .int .u32 b.lk, .int .u64 b.tx, .string b.bd]
def Pg.zero : Pg := ⟨0, 0, 0, 0, 0, ByteArray.empty⟩
theorem Pg.cells_len (b : Pg) : b.cells.length = 6 := rfl
/-- The cells of a slice of pages. -/
def pgcs (l : List Pg) : List Value := rowsOf Pg.cells l
theorem pgcs_len {w : World} {B n : Nat} {A : Option Addr} {l : List Pg} (h : Reads w B 6 A n (pgcs l)) : l.length = n := rows_len (fun b => Pg.cells_len b) (by decide) h
theorem pgcs_snoc (l : List Pg) (b : Pg) : pgcs l ++ b.cells = pgcs (l ++ [b]) := by simp [pgcs, rowsOf]
theorem pgcs_append (l m : List Pg) : pgcs (l ++ m) = pgcs l ++ pgcs m := rowsOf_append l m
/-- A page with its error, as the reference links them. -/
structure Lk where
  p : Pg
  e : Int
def Lk.cells (b : Lk) : List Value := [.int .i64 b.p.kd, .int .i64 b.p.ct, .int .u32 b.p.pg, .int .u32 b.p.lk, .int .u64 b.p.tx, .string b.p.bd, .int .i64 b.e]
theorem Lk.cells_len (b : Lk) : b.cells.length = 7 := rfl
def lkc (l : List Lk) : List Value := rowsOf Lk.cells l
theorem lkc_len {w : World} {B n : Nat} {A : Option Addr} {l : List Lk} (h : Reads w B 7 A n (lkc l)) : l.length = n := rows_len (fun b => Lk.cells_len b) (by decide) h
theorem lkc_snoc (l : List Lk) (b : Lk) : lkc l ++ b.cells = lkc (l ++ [b]) := by simp [lkc, rowsOf]
theorem lkc_append (l m : List Lk) : lkc (l ++ m) = lkc l ++ lkc m := rowsOf_append l m
theorem cells7 {w : World} {p : Addr} {v0 v1 v2 v3 v4 v5 v6 : Value} (h : ∀ j u, ([v0, v1, v2, v3, v4, v5, v6] : List Value)[j]? = some u → w.cell? (p.add j) = some u) :
    w.cell? p = some v0 ∧ w.cell? ⟨p.block, p.off + 1, none⟩ = some v1 ∧ w.cell? ⟨p.block, p.off + 2, none⟩ = some v2 ∧ w.cell? ⟨p.block, p.off + 3, none⟩ = some v3 ∧ w.cell? ⟨p.block, p.off + 4, none⟩ = some v4 ∧ w.cell? ⟨p.block, p.off + 5, none⟩ = some v5 ∧ w.cell? ⟨p.block, p.off + 6, none⟩ = some v6 := by
  have e : ∀ k, 0 < k → p.add k = ⟨p.block, p.off + k, none⟩ := fun k hk => by unfold Addr.add; rw [if_neg (by omega)]
  refine ⟨h 0 _ rfl, ?_, ?_, ?_, ?_, ?_, ?_⟩
  · rw [← e 1 (by decide)]; exact h 1 _ rfl
  · rw [← e 2 (by decide)]; exact h 2 _ rfl
  · rw [← e 3 (by decide)]; exact h 3 _ rfl
  · rw [← e 4 (by decide)]; exact h 4 _ rfl
  · rw [← e 5 (by decide)]; exact h 5 _ rfl
  · rw [← e 6 (by decide)]; exact h 6 _ rfl
theorem cells6p {w : World} {p : Addr} {v0 v1 v2 v3 v4 v5 : Value} (h : ∀ j u, ([v0, v1, v2, v3, v4, v5] : List Value)[j]? = some u → w.cell? (p.add j) = some u) :
    w.cell? p = some v0 ∧ w.cell? ⟨p.block, p.off + 1, none⟩ = some v1 ∧ w.cell? ⟨p.block, p.off + 2, none⟩ = some v2 ∧ w.cell? ⟨p.block, p.off + 3, none⟩ = some v3 ∧ w.cell? ⟨p.block, p.off + 4, none⟩ = some v4 ∧ w.cell? ⟨p.block, p.off + 5, none⟩ = some v5 := by
  have e : ∀ k, 0 < k → p.add k = ⟨p.block, p.off + k, none⟩ := fun k hk => by unfold Addr.add; rw [if_neg (by omega)]
  refine ⟨h 0 _ rfl, ?_, ?_, ?_, ?_, ?_⟩
  · rw [← e 1 (by decide)]; exact h 1 _ rfl
  · rw [← e 2 (by decide)]; exact h 2 _ rfl
  · rw [← e 3 (by decide)]; exact h 3 _ rfl
  · rw [← e 4 (by decide)]; exact h 4 _ rfl
  · rw [← e 5 (by decide)]; exact h 5 _ rfl
/-- A page's cells stand at p. -/
def PgAt (w : World) (p : Addr) (b : Pg) : Prop := w.cell? p = some (.int .i64 b.kd) ∧ w.cell? ⟨p.block, p.off + 1, none⟩ = some (.int .i64 b.ct) ∧ w.cell? ⟨p.block, p.off + 2, none⟩ = some (.int .u32 b.pg) ∧ w.cell? ⟨p.block, p.off + 3, none⟩ = some (.int .u32 b.lk) ∧ w.cell? ⟨p.block, p.off + 4, none⟩ = some (.int .u64 b.tx) ∧ w.cell? ⟨p.block, p.off + 5, none⟩ = some (.string b.bd)
theorem page_at {w : World} {B n i : Nat} {A : Option Addr} {l : List Pg} (h : Reads w B 6 A n (pgcs l)) (hi : i < n) :
    ∃ ad x, A = some ad ∧ (ad.add (i * 6)).block < B ∧ l[i]? = some x ∧ PgAt w (ad.add (i * 6)) x := by
  obtain ⟨ad, x, hA, hb, hx, hc⟩ := row_at (fun b => Pg.cells_len b) (by decide) h hi
  exact ⟨ad, x, hA, by rw [block_add]; exact hb, hx, cells6p hc⟩
/-- A link's cells stand at p. -/
def LkAt (w : World) (p : Addr) (b : Lk) : Prop := PgAt w p b.p ∧ w.cell? ⟨p.block, p.off + 6, none⟩ = some (.int .i64 b.e)
theorem link_at {w : World} {B n i : Nat} {A : Option Addr} {l : List Lk} (h : Reads w B 7 A n (lkc l)) (hi : i < n) :
    ∃ ad x, A = some ad ∧ (ad.add (i * 7)).block < B ∧ l[i]? = some x ∧ LkAt w (ad.add (i * 7)) x := by
  obtain ⟨ad, x, hA, hb, hx, hc⟩ := row_at (fun b => Lk.cells_len b) (by decide) h hi
  obtain ⟨h0, h1, h2, h3, h4, h5, h6⟩ := cells7 hc
  exact ⟨ad, x, hA, by rw [block_add]; exact hb, hx, ⟨h0, h1, h2, h3, h4, h5⟩, h6⟩
/-- The n-th block of an image. -/
def blkOf (z : Nat) (s : ByteArray) (n : Nat) : ByteArray := s.extract (n * z) (n * z + z)
/-- What is read of page n of an image. -/
def readAt (size : Int) (s : ByteArray) (n : Nat) : Option Pg :=
  if goodSize size && (decide (n < s.size / size.toNat) && blockOk size n (blkOf size.toNat s n)) then
    some ⟨numAt (blkOf size.toNat s n) 4 1, numAt (blkOf size.toNat s n) 6 2, numAt (blkOf size.toNat s n) 8 4, numAt (blkOf size.toNat s n) 12 4, numAt (blkOf size.toNat s n) 16 8, (blkOf size.toNat s n).extract 24 (blkOf size.toNat s n).size⟩
  else none
theorem readAt_some {size : Int} {s : ByteArray} {n : Nat} {p : Pg} (h : readAt size s n = some p) : goodSize size = true ∧ n < s.size / size.toNat ∧ p.pg = n ∧ mayPg size p.kd p.ct p.pg p.lk p.tx p.bd = true := by
  unfold readAt at h
  split at h
  · rename_i hc
    injection h with h
    subst h
    simp only [Bool.and_eq_true, decide_eq_true_eq] at hc
    obtain ⟨h1, h2, h3⟩ := hc
    simp only [blockOk, Bool.and_eq_true, decide_eq_true_eq] at h3
    obtain ⟨_, _, _, h4, h5⟩ := h3
    exact ⟨h1, h2, h4, h5⟩
  · cases h
theorem readAt_bad {size : Int} {s : ByteArray} {n : Nat} (h : goodSize size = false) : readAt size s n = none := by unfold readAt; rw [h]; rfl
end Go.Proofs.Ytabhhccdbfjigaa
namespace Go.Proofs.Ytabhhccdbfjigaa
open Go.RowKit
open Go.Lib hiding intOf
set_option linter.unusedVariables false
set_option linter.unusedSimpArgs false

/-- Is page n among these? -/
def wasIn (L : List Pg) (n : Nat) : Bool := L.any fun p => decide (p.pg = n)
/-- The page to which a chain goes on, behind these. -/
def goes (size : Int) (s : ByteArray) (kd : Int) (L : List Pg) (h : Nat) : Option Pg :=
  if decide (2 ≤ h) && !wasIn L h then (match readAt size s h with
    | some p => if p.kd = kd then some p else none
    | none => none) else none
/-- So many pages of a chain, and where it goes on. -/
def along (size : Int) (s : ByteArray) (kd : Int) (head : Nat) : Nat → List Pg × Nat
  | 0 => ([], head)
  | k + 1 => match goes size s kd (along size s kd head k).1 (along size s kd head k).2 with
    | some p => ((along size s kd head k).1 ++ [p], p.lk)
    | none => along size s kd head k
/-- The pages of a chain; and whether it ends as it should. -/
def chainL (size : Int) (s : ByteArray) (kd : Int) (head : Nat) : List Pg := (along size s kd head s.size).1
def chainOk (size : Int) (s : ByteArray) (kd : Int) (head : Nat) : Bool := decide ((along size s kd head s.size).2 = 0)
theorem goes_some {size : Int} {s : ByteArray} {kd : Int} {L : List Pg} {h : Nat} {p : Pg} (hg : goes size s kd L h = some p) : 2 ≤ h ∧ wasIn L h = false ∧ readAt size s h = some p ∧ p.kd = kd := by
  unfold goes at hg
  split at hg
  · rename_i h1
    simp only [Bool.and_eq_true, decide_eq_true_eq, Bool.not_eq_true'] at h1
    split at hg
    · rename_i q hq
      split at hg
      · rename_i hk
        injection hg with hg
        subst hg
        exact ⟨h1.1, h1.2, hq, hk⟩
      · cases hg
    · cases hg
  · cases hg
theorem along_next {size : Int} {s : ByteArray} {kd : Int} {head k h : Nat} {L : List Pg} {p : Pg} (ha : along size s kd head k = (L, h)) (hg : goes size s kd L h = some p) : along size s kd head (k + 1) = (L ++ [p], p.lk) := by
  simp only [along, ha, hg]
theorem along_stop {size : Int} {s : ByteArray} {kd : Int} {head k h : Nat} {L : List Pg} (ha : along size s kd head k = (L, h)) (hg : goes size s kd L h = none) : ∀ d, along size s kd head (k + d) = (L, h)
  | 0 => ha
  | d + 1 => by
    rw [← Nat.add_assoc]
    simp only [along, along_stop ha hg d, hg]
/-- The pages so far: none twice, each within the image. -/
def Fresh (P : Nat) : List Pg → Prop
  | [] => True
  | p :: l => p.pg < P ∧ wasIn l p.pg = false ∧ Fresh P l
theorem wasIn_append (L M : List Pg) (n : Nat) : wasIn (L ++ M) n = (wasIn L n || wasIn M n) := by unfold wasIn; rw [List.any_append]
theorem Fresh.snoc {P : Nat} : ∀ {L : List Pg} {p : Pg}, Fresh P L → p.pg < P → wasIn L p.pg = false → Fresh P (L ++ [p])
  | [], p, _, h1, _ => ⟨h1, rfl, trivial⟩
  | q :: l, p, ⟨g1, g2, g3⟩, h1, h2 => by
    have h3 : wasIn l p.pg = false ∧ ¬ q.pg = p.pg := by
      unfold wasIn at h2 ⊢
      simp only [List.any_cons, Bool.or_eq_false_iff, decide_eq_false_iff_not] at h2
      exact ⟨h2.2, h2.1⟩
    refine ⟨g1, ?_, Fresh.snoc g3 h1 h3.1⟩
    show wasIn (l ++ [p]) q.pg = false
    rw [wasIn_append, g2]
    unfold wasIn
    simp
    exact fun h => h3.2 h.symm
/-- How many of these numbers are below P. -/
theorem fresh_drop {P : Nat} : ∀ {L : List Pg}, Fresh (P + 1) L → ∃ M, Fresh P M ∧ L.length ≤ M.length + 1 ∧ ∀ n, n < P → wasIn M n = wasIn L n
  | [], _ => ⟨[], trivial, by simp, fun n _ => rfl⟩
  | q :: l, ⟨g1, g2, g3⟩ => by
    by_cases hq : q.pg = P
    · refine ⟨l, ?_, by simp, fun n hn => ?_⟩
      · clear g1
        induction l with
        | nil => trivial
        | cons a t ih =>
          have h2 : ¬ a.pg = q.pg ∧ wasIn t q.pg = false := by
            unfold wasIn at g2 ⊢
            simp only [List.any_cons, Bool.or_eq_false_iff, decide_eq_false_iff_not] at g2
            exact g2
          exact ⟨by have := g3.1; omega, g3.2.1, ih h2.2 g3.2.2⟩
      · unfold wasIn
        simp only [List.any_cons]
        rw [decide_eq_false (by omega : ¬ q.pg = n), Bool.false_or]
    · obtain ⟨M, h1, h2, h3⟩ := fresh_drop g3
      refine ⟨q :: M, ⟨by omega, ?_, h1⟩, by simp only [List.length_cons]; omega, fun n hn => ?_⟩
      · rw [h3 q.pg (by omega)]
        exact g2
      · have := h3 n hn
        unfold wasIn at this ⊢
        simp only [List.any_cons]
        rw [this]
theorem fresh_le : ∀ {P : Nat} {L : List Pg}, Fresh P L → L.length ≤ P
  | 0, [], _ => Nat.le_refl _
  | 0, q :: l, h => absurd h.1 (by omega)
  | P + 1, L, h => by
    obtain ⟨M, h1, h2, _⟩ := fresh_drop h
    have := fresh_le h1
    omega
theorem along_fresh {size : Int} {s : ByteArray} {kd : Int} {head : Nat} : ∀ k, Fresh (s.size / size.toNat) (along size s kd head k).1
  | 0 => trivial
  | k + 1 => by
    have ih := along_fresh (size := size) (s := s) (kd := kd) (head := head) k
    simp only [along]
    split
    · rename_i p hp
      obtain ⟨_, h2, h3, _⟩ := goes_some hp
      obtain ⟨_, h4, h5, _⟩ := readAt_some h3
      exact ih.snoc (by rw [h5]; exact h4) (by rw [h5]; exact h2)
    · exact ih
/-- As long as a chain goes on, there are as many pages as rounds, and fewer than bytes. -/
theorem along_len {size : Int} {s : ByteArray} {kd : Int} {head k h : Nat} {L : List Pg} (ha : along size s kd head k = (L, h)) (hl : L.length = k) {p : Pg} (hg : goes size s kd L h = some p) : k + 1 ≤ s.size := by
  have h1 := along_fresh (size := size) (s := s) (kd := kd) (head := head) (k + 1)
  rw [along_next ha hg] at h1
  have h2 := fresh_le h1
  rw [List.length_append, hl] at h2
  have h3 := Nat.div_le_self s.size size.toNat
  simp at h2
  omega
/-- Where it stops: the chain's pages are those so far. -/
theorem chain_end {size : Int} {s : ByteArray} {kd : Int} {head k h : Nat} {L : List Pg} (hk : k ≤ s.size) (ha : along size s kd head k = (L, h)) (hg : goes size s kd L h = none) : chainL size s kd head = L ∧ chainOk size s kd head = decide (h = 0) := by
  have h1 := along_stop ha hg (s.size - k)
  rw [show k + (s.size - k) = s.size by omega] at h1
  exact ⟨by rw [chainL, h1], by rw [chainOk, h1]⟩
theorem goes_zero {size : Int} {s : ByteArray} {kd : Int} {L : List Pg} : goes size s kd L 0 = none := by unfold goes; rfl
theorem goes_bad {size : Int} {s : ByteArray} {kd : Int} {L : List Pg} {h : Nat} (hg : readAt size s h = none) : goes size s kd L h = none := by
  unfold goes; rw [hg]; simp
theorem goes_is {size : Int} {s : ByteArray} {kd : Int} {L : List Pg} {h : Nat} {p : Pg} (hg : readAt size s h = some p) : goes size s kd L h = if (decide (h < 2) || !decide (p.kd = kd)) || wasIn L h then none else some p := by
  unfold goes
  rw [hg]
  by_cases h1 : 2 ≤ h <;> by_cases h2 : p.kd = kd <;> cases h3 : wasIn L h <;> simp [h1, h2] <;> omega
/-- What Follow tells: the pages, and an error where it does not end. -/
def followL (size : Int) (s : ByteArray) (kd : Int) (head : Nat) : List Lk := (chainL size s kd head).map (fun p => ⟨p, 0⟩) ++ (if chainOk size s kd head then [] else [⟨Pg.zero, 4⟩])
end Go.Proofs.Ytabhhccdbfjigaa
