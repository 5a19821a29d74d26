/-
  Texts that the main proof rests on, put together: ChLaw, Turned, ChBackG, ChPlaces. No statement is proved here.
-/
import Derived.Test.YtabhhccdbfjigaaJ45
import Derived.Test.YtabhhccdbfjigaaJ26
import Derived.Test.YtabhhccdbfjigaaJ24
import Derived.Test.YtabhhccdbfjigaaJ12
import Derived.Test.YtabhhccdbfjigaaJ5
import Derived.Test.YtabhhccdbfjigaaJ11
import Derived.LoopN
import Derived.Test.YtabhhccdbfjigaaJ40
import Derived.Test.YtabhhccdbfjigaaJ7
import Derived.Deep.CutRange
namespace Go.Proofs.Ytabhhccdbfjigaa
open Go.RowKit
open Go.Lib hiding intOf
set_option linter.unusedVariables false
set_option linter.unusedSimpArgs false
attribute [local go_sem ↓] Go.wp_at_zero Go.wp_at_succ

/-- The pages that a call makes, none where it refuses; its error. -/
def pgsL (o : Option (List Pg)) : List Pg := o.getD []
def pgsE (o : Option (List Pg)) : Int := if o.isSome then 0 else 2
theorem pgspost_any {o : Option (List Pg)} {w : World} {e : Ending} {w' : World} (h : PgsPost o w e w') : ∃ A n c, e = .returned (.tuple #[.slice A n c, .int .i64 (pgsE o)]) ∧ Reads w' w'.heap.size 6 A n (pgcs (pgsL o)) ∧ Below w.heap.size w w' := by
  cases o with
  | none => obtain ⟨rfl, hb⟩ := h; exact ⟨none, 0, 0, rfl, Reads.none_, hb⟩
  | some L => obtain ⟨A, n, c, rfl, hr, hb⟩ := h; exact ⟨A, n, c, rfl, hr, hb⟩
theorem listV_bad {size : Int} {s : ByteArray} {head : Nat} (h : goodSize size = false) : ldNs (listV size s head) = [] ∧ ldPs (listV size s head) = [] := by
  have ha : ∀ k, along size s 6 head k = ([], head) := fun k => by
    induction k with
    | zero => rfl
    | succ k ih => simp only [along, ih, goes_bad (readAt_bad h)]
  have hc : chainL size s 6 head = [] := by rw [chainL, ha]
  unfold listV
  rw [hc]
  split
  · exact ⟨rfl, rfl⟩
  · exact ⟨rfl, rfl⟩
theorem listpost_any {size : Int} {s : ByteArray} {head : Nat} {w : World} {e : Ending} {w' : World} (h : ListPost size (listV size s head) w e w') : ∃ A n c A2 n2 c2, e = .returned (.tuple #[.slice A n c, .slice A2 n2 c2, .int .i64 (ldErr size (listV size s head))]) ∧ Reads w' w'.heap.size 1 A n (ucells (ldNs (listV size s head))) ∧ Reads w' w'.heap.size 1 A2 n2 (ucells (ldPs (listV size s head))) ∧ Below w.heap.size w w' := by
  unfold ListPost at h
  rcases hg : goodSize size with _ | _
  · rw [hg, if_neg (by decide)] at h
    obtain ⟨rfl, hb⟩ := h
    obtain ⟨h1, h2⟩ := listV_bad (s := s) (head := head) hg
    rw [h1, h2]
    exact ⟨none, 0, 0, none, 0, 0, by rw [ldErr, hg] <;> rfl, Reads.none_, Reads.none_, hb⟩
  · rw [hg, if_pos rfl] at h
    exact h
theorem str_eqleq (a : ByteArray) (w : World) : (binOp .eql 9 (.string a) (.string a)).run Try.prog w = .ok (.bool true) w := by
  simp [go_sem]
/-- A page of a value, by its place. -/
theorem on_nth {z tx : Nat} {ps : List Nat} {v : ByteArray} {L : List Pg} (h : onL z tx ps v = some L) {i : Nat} (hi : i < ps.length) : ∃ bd, L[i]? = some ⟨5, (min (z - 24) (v.size - i * (z - 24)) : Nat), nthU ps i, nthU ps (i + 1), tx, bd⟩ := by
  obtain ⟨h1, h2, h3, h4, h5, h6, hL⟩ := onL_some h
  have hr : 0 < z - 24 := by obtain ⟨z', hz, hz1, _⟩ := good_nat h1; omega
  obtain ⟨g1, _⟩ := on_part h hi
  refine ⟨overBody z (piece (z - 24) v i), ?_⟩
  rw [hL, List.getElem?_map, List.getElem?_range hi, Option.map_some]
  unfold onPg
  rw [g1, piece_size hr (by rw [h4]; exact hi), nextL_is]
theorem on_len {z tx : Nat} {ps : List Nat} {v : ByteArray} {L : List Pg} (h : onL z tx ps v = some L) : L.length = ps.length := by
  obtain ⟨_, _, _, _, _, _, hL⟩ := onL_some h
  rw [hL]
  simp
set_option maxRecDepth 100000 in
set_option maxHeartbeats 6400000 in
theorem lives11_any (w : World) : Calls Try.prog 7 #[] w fun e w' => e = .returned (.bool true) ∧ Below w.heap.size w w' := by
  have hT := fun w => times_any ⟨#[118]⟩ 105 w (by decide) (by decide)
  obtain ⟨V, hV⟩ : ∃ V, V = reps ⟨#[118]⟩ 105 := ⟨_, rfl⟩
  have hVs : V.size = 105 := by rw [hV, reps_size]; rfl
  rw [← hV] at hT
  have hne : needN 128 (V.size : Int) = 2 := by rw [hVs]; rfl
  have hpl : (partsL 128 V).length = (runW 7 2).length := by rw [parts_need, hne]; rfl
  have ho : pagesL 128 3 7 V = some ((List.range 2).map (onPg 128 3 (runW 7 2) V)) := by
    unfold pagesL
    rw [hne]
    exact onL_yes (size := 128) rfl (by omega) (by omega) hpl (by decide) (by decide)
  have hP := fun w => hpages_any 128 3 7 V w (by decide) (by omega) (fun _ => by rw [hne]; decide)
  obtain ⟨L, hL⟩ : ∃ L, L = (List.range 2).map (onPg 128 3 (runW 7 2) V) := ⟨_, rfl⟩
  rw [← hL] at ho
  have ho2 : onL ((128 : Nat) : Int) 3 (runW 7 2) V = some L := by
    unfold pagesL at ho
    rw [hne] at ho
    exact ho
  obtain ⟨b0, h0⟩ := on_nth ho2 (i := 0) (by decide)
  obtain ⟨b1, h1⟩ := on_nth ho2 (i := 1) (by decide)
  have hlen : L.length = 2 := on_len ho2
  rw [hVs] at h0 h1
  rw [ho] at hP
  have H0 := Lib.hid (show L[0]? = some ⟨5, 104, 7, 8, 3, b0⟩ from h0)
  have H1 := Lib.hid (show L[1]? = some ⟨5, 1, 8, 0, 3, b1⟩ from h1)
  have HLn := Lib.hid hlen
  clear h0 h1 hlen ho ho2 hL hpl hne hVs hV
  have HB := Lib.hid (Below.refl w.heap.size w)
  go_enter Try.func7, Try.ntmps7
  go_wp2_with fail
  refine (hT _).mono ?_
  rintro e w1 ⟨rfl, rfl⟩
  clear hT
  go_wp2_with fail
  refine (hP _).mono ?_
  rintro e w2 ⟨A, n, c, rfl, hr, hb⟩
  have HR := Lib.hid hr
  have hn : n = 2 := by have := pgcs_len hr; rw [HLn.out] at this; omega
  subst hn
  replace HB := Lib.hid (HB.out.trans (hb.mono HB.out.size))
  clear hb hr hP
  obtain ⟨ad, x, rfl, _, hx, hc⟩ := page_at HR.out (show 0 < 2 by decide)
  rw [H0.out] at hx
  injection hx with hx
  subst hx
  obtain ⟨d0, d1, d2, d3, d4, d5⟩ := hc
  obtain ⟨e0, e1, e2, e3, e4, e5⟩ := pgcell HR.out (show 1 < 2 by decide) H1.out
  simp [Addr.add] at d1 d2 d3 e1 e2 e3
  clear d0 d4 d5 e0 e4 e5
  go_wp2_with fail
  go_ret
  exact ⟨rfl, HB.out⟩
end Go.Proofs.Ytabhhccdbfjigaa
namespace Go.Proofs.Ytabhhccdbfjigaa
open Go.RowKit
open Go.Lib
set_option linter.unusedVariables false
set_option linter.unusedSimpArgs false
attribute [local go_sem ↓] Go.wp_at_zero Go.wp_at_succ

theorem low_byte (b p i : Nat) : lowAt b p (i + 8) = lowAt b p i ^^^ ((b / 2 ^ i % 256) * 2 ^ (p + i)) := by
  apply Nat.eq_of_testBit_eq
  intro j
  unfold lowAt
  rw [Nat.testBit_xor, Nat.testBit_mul_two_pow, Nat.testBit_mul_two_pow, Nat.testBit_mul_two_pow, Nat.testBit_mod_two_pow, Nat.testBit_mod_two_pow, show (256 : Nat) = 2 ^ 8 from rfl, Nat.testBit_mod_two_pow, Nat.testBit_div_two_pow]
  by_cases h1 : p ≤ j
  · by_cases h2 : p + i ≤ j
    · have e : j - (p + i) + i = j - p := by omega
      rw [e]
      by_cases h3 : j - p < i + 8
      · simp [h1, h2, h3, show ¬ j - p < i by omega, show j - (p + i) < 8 by omega]
      · simp [h1, h2, h3, show ¬ j - p < i by omega, show ¬ j - (p + i) < 8 by omega]
    · simp [h1, h2, show j - p < i by omega, show j - p < i + 8 by omega]
  · simp [h1, show ¬ p + i ≤ j by omega]
theorem byte_mul (v c m : Nat) (hv : v < 256) : v * 2 ^ (8 * c) / 2 ^ (8 * m) % 256 = if m = c then v else 0 := by
  by_cases h : m = c
  · subst h
    rw [if_pos rfl, Nat.mul_div_cancel _ (Nat.two_pow_pos _), Nat.mod_eq_of_lt hv]
  · rw [if_neg h]
    by_cases h2 : m < c
    · have e : 2 ^ (8 * c) = 2 ^ (8 * m) * (256 * 2 ^ (8 * (c - m - 1))) := by
        rw [show (256 : Nat) = 2 ^ 8 from rfl, ← Nat.pow_add, ← Nat.pow_add]
        congr 1
        omega
      rw [e, Nat.mul_left_comm, Nat.mul_div_cancel_left _ (Nat.two_pow_pos _), Nat.mul_left_comm, Nat.mul_mod_right]
    · have e : 2 ^ (8 * m) = 2 ^ (8 * c) * 2 ^ (8 * (m - c)) := by
        rw [← Nat.pow_add]
        congr 1
        omega
      rw [e, ← Nat.div_div_eq_div_mul, Nat.mul_div_cancel _ (Nat.two_pow_pos _)]
      have : 2 ^ 8 ≤ 2 ^ (8 * (m - c)) := Nat.pow_le_pow_right (by omega) (by omega)
      rw [Nat.div_eq_of_lt (by omega)]
theorem turned_get (l : List UInt8) (b p k m : Nat) (hm : m < l.length) : (turned l b p k)[m]? = some ((l.getD m 0) ^^^ ((lowAt b p k) / 2 ^ (8 * m) % 256).toUInt8) := by
  unfold turned
  rw [List.getElem?_zipWith, leBytes_get _ _ _ hm, List.getElem?_eq_getElem hm]
  simp [List.getD, hm]
theorem turned_byte (l : List UInt8) (d q k : Nat) (hj : q + k < (turned l d (8 * q) (8 * k)).length) :
    turned l d (8 * q) (8 * (k + 1)) = (turned l d (8 * q) (8 * k)).set (q + k) ((turned l d (8 * q) (8 * k))[q + k] ^^^ (d / 2 ^ (8 * k) % 256).toUInt8) := by
  have hl := turned_len l d (8 * q) (8 * k)
  apply List.ext_getElem?
  intro j
  rw [List.getElem?_set]
  by_cases hjl : j < l.length
  · rw [turned_get _ _ _ _ _ hjl, show 8 * (k + 1) = 8 * k + 8 by omega, low_byte, byte_xor, show 8 * q + 8 * k = 8 * (q + k) by omega, byte_mul _ _ _ (Nat.mod_lt _ (by omega))]
    by_cases he : q + k = j
    · rw [if_pos he, if_pos he.symm, if_pos (by omega)]
      have h2 := turned_get l d (8 * q) (8 * k) (q + k) (by omega)
      rw [List.getElem?_eq_getElem hj] at h2
      rw [Option.some.inj h2, he, UInt8.xor_assoc]
    · rw [if_neg he, if_neg (fun h => he h.symm), turned_get _ _ _ _ _ hjl]
      simp
  · rw [List.getElem?_eq_none (by rw [turned_len]; omega), if_neg (by omega), List.getElem?_eq_none (by rw [turned_len]; omega)]
/-- The bytes of s with a word's bits turned, from byte q on. -/
def turnB (s : ByteArray) (q d : Nat) : ByteArray := ⟨(turned s.data.toList d (8 * q) 32).toArray⟩
theorem turnB_list (s : ByteArray) (q d : Nat) : (turnB s q d).data.toList = turned s.data.toList d (8 * q) 32 := by simp [turnB]
theorem turnB_size (s : ByteArray) (q d : Nat) : (turnB s q d).size = s.size := by rw [← size_list, turnB_list, turned_len, size_list]
/-- A right block with turned bits behind its checksum is no right block. -/
theorem turn_bad (z n m : Nat) (s : ByteArray) (q d : Nat) (hs : blockOk z n s = true) (hd : d < 4294967296) (h0 : d ≠ 0) (h4 : 4 ≤ q) (hq : q + 4 ≤ s.size) : blockOk z m (turnB s q d) = false := by
  simp only [blockOk, Bool.and_eq_true, decide_eq_true_eq] at hs
  obtain ⟨h1, h2, _⟩ := hs
  have hlow : lowAt d (8 * q) 32 % 4294967296 = 0 := by
    unfold lowAt
    rw [show 8 * q = 32 + (8 * q - 32) by omega, Nat.pow_add, show (2 : Nat) ^ 32 = 4294967296 from rfl, Nat.mul_left_comm, Nat.mul_mod_right]
  have hb := burst_bad s.data.toList d (8 * q) hd h0 (by rw [size_list]; omega) (by rw [size_list]; omega) h2 (.inl hlow)
  rw [Bool.eq_false_iff]
  intro h
  simp only [blockOk, Bool.and_eq_true, decide_eq_true_eq] at h
  rw [turnB_list] at h
  exact hb h.2.1
theorem byte_xor_word (b : UInt8) (v : Nat) : bits .xor .u8 (b.toNat : Int) ((v : Int) % 256) = ((b ^^^ (v % 256).toUInt8).toNat : Int) := by
  have e : ((v : Int) % 256) = ((v % 256 : Nat) : Int) := by omega
  have hb := b.toNat_lt
  rw [e, u8_xor_nat _ _ hb (by omega), UInt8.toNat_xor]
  congr 2
  simp only [Nat.toUInt8_eq, UInt8.toNat_ofNat']
  omega
end Go.Proofs.Ytabhhccdbfjigaa
namespace Go.Proofs.Ytabhhccdbfjigaa
open Go.RowKit
open Go.Lib hiding intOf
set_option linter.unusedVariables false
set_option linter.unusedSimpArgs false
attribute [local go_sem ↓] Go.wp_at_zero Go.wp_at_succ

theorem rd_some (v : ByteArray) (ps : List Nat) : rdStr (some (v, ps)) = v ∧ rdPs (some (v, ps)) = ps ∧ rdErr 128 (some (v, ps)) = 0 := ⟨rfl, rfl, rfl⟩
theorem rd_none : rdStr none = ⟨#[]⟩ ∧ rdPs none = [] ∧ rdErr 128 none = 4 := ⟨rfl, rfl, rfl⟩
theorem listpost_yes {size : Int} {l m : List Nat} {w : World} {e : Ending} {w' : World} (hg : goodSize size = true) (h : ListPost size (some (l, m)) w e w') : ∃ A n c A2 n2 c2, e = .returned (.tuple #[.slice A n c, .slice A2 n2 c2, .int .i64 0]) ∧ Reads w' w'.heap.size 1 A n (ucells l) ∧ Reads w' w'.heap.size 1 A2 n2 (ucells m) ∧ Below w.heap.size w w' := by
  unfold ListPost at h
  rw [if_pos hg] at h
  obtain ⟨A, n, c, A2, n2, c2, he, h1, h2, hb⟩ := h
  exact ⟨A, n, c, A2, n2, c2, by rw [he, ldErr, if_pos hg] <;> rfl, h1, h2, hb⟩
end Go.Proofs.Ytabhhccdbfjigaa
namespace Go.Proofs.Ytabhhccdbfjigaa
open Go.RowKit
open Go.Lib hiding intOf
set_option linter.unusedVariables false
set_option linter.unusedSimpArgs false
attribute [local go_sem ↓] Go.wp_at_zero Go.wp_at_succ

set_option maxRecDepth 100000 in
set_option maxHeartbeats 25600000 in
theorem chplaces_g1 (a b : ByteArray) (f r : Nat) (len : Int) (w : World) (h1 : a.size = 0) :
    Calls Try.prog 6 #[.string a, .string b, .int .u32 f, .int .u32 r, .int .i64 len] w fun e w' => e = .returned (.bool true) ∧ Below w.heap.size w w' := by
  have hea : (a.toList == []) = true := by rw [List.eq_nil_of_length_eq_zero (show a.toList.length = 0 by rw [ByteArray.toList_eq, size_list]; exact h1)]; rfl
  clear h1
  have HB := Lib.hid (Below.refl w.heap.size w)
  go_enter Try.func6, Try.ntmps6
  go_wp2_with fail
  refine (lives11_any _).mono ?_
  rintro e w1 ⟨rfl, hb⟩
  replace HB := Lib.hid (HB.out.trans (hb.mono HB.out.size))
  clear hb
  go_wp2_with fail
  go_ret
  exact ⟨rfl, HB.out⟩
set_option maxRecDepth 100000 in
set_option maxHeartbeats 25600000 in
theorem chplaces_g2 (a b : ByteArray) (f r : Nat) (len : Int) (w : World) (h1 : 0 < a.size) (h2 : b.size = 0) :
    Calls Try.prog 6 #[.string a, .string b, .int .u32 f, .int .u32 r, .int .i64 len] w fun e w' => e = .returned (.bool true) ∧ Below w.heap.size w w' := by
  have hea : (a.toList == []) = false := by rw [Bool.eq_false_iff]; intro h; rw [beq_iff_eq] at h; have h9 := size_list a; rw [← ByteArray.toList_eq, h] at h9; simp at h9; omega
  have heb : (b.toList == []) = true := by rw [List.eq_nil_of_length_eq_zero (show b.toList.length = 0 by rw [ByteArray.toList_eq, size_list]; exact h2)]; rfl
  clear h1 h2
  have HB := Lib.hid (Below.refl w.heap.size w)
  go_enter Try.func6, Try.ntmps6
  go_wp2_with fail
  refine (lives11_any _).mono ?_
  rintro e w1 ⟨rfl, hb⟩
  replace HB := Lib.hid (HB.out.trans (hb.mono HB.out.size))
  clear hb
  go_wp2_with fail
  go_ret
  exact ⟨rfl, HB.out⟩
set_option maxRecDepth 100000 in
set_option maxHeartbeats 25600000 in
theorem chplaces_g3 (a b : ByteArray) (f r : Nat) (len : Int) (w : World) (h1 : 0 < a.size) (h2 : 0 < b.size) (h3 : 500 < a.size) :
    Calls Try.prog 6 #[.string a, .string b, .int .u32 f, .int .u32 r, .int .i64 len] w fun e w' => e = .returned (.bool true) ∧ Below w.heap.size w w' := by
  have hea : (a.toList == []) = false := by rw [Bool.eq_false_iff]; intro h; rw [beq_iff_eq] at h; have h9 := size_list a; rw [← ByteArray.toList_eq, h] at h9; simp at h9; omega
  have heb : (b.toList == []) = false := by rw [Bool.eq_false_iff]; intro h; rw [beq_iff_eq] at h; have h9 := size_list b; rw [← ByteArray.toList_eq, h] at h9; simp at h9; omega
  have g3 : decide ((500 : Int) < (a.size : Int)) = true := by simp; omega
  have g3b : decide (500 < a.size) = true := by simp; omega
  clear h1 h2 h3
  have HB := Lib.hid (Below.refl w.heap.size w)
  go_enter Try.func6, Try.ntmps6
  go_wp2_with fail
  refine (lives11_any _).mono ?_
  rintro e w1 ⟨rfl, hb⟩
  replace HB := Lib.hid (HB.out.trans (hb.mono HB.out.size))
  clear hb
  go_wp2_with fail
  go_ret
  exact ⟨rfl, HB.out⟩
set_option maxRecDepth 100000 in
set_option maxHeartbeats 25600000 in
theorem chplaces_g4 (a b : ByteArray) (f r : Nat) (len : Int) (w : World) (h1 : 0 < a.size) (h2 : 0 < b.size) (h3 : ¬ 500 < a.size) (h4 : 500 < b.size) :
    Calls Try.prog 6 #[.string a, .string b, .int .u32 f, .int .u32 r, .int .i64 len] w fun e w' => e = .returned (.bool true) ∧ Below w.heap.size w w' := by
  have hea : (a.toList == []) = false := by rw [Bool.eq_false_iff]; intro h; rw [beq_iff_eq] at h; have h9 := size_list a; rw [← ByteArray.toList_eq, h] at h9; simp at h9; omega
  have heb : (b.toList == []) = false := by rw [Bool.eq_false_iff]; intro h; rw [beq_iff_eq] at h; have h9 := size_list b; rw [← ByteArray.toList_eq, h] at h9; simp at h9; omega
  have g3 : decide ((500 : Int) < (a.size : Int)) = false := by simp; omega
  have g3b : decide (500 < a.size) = false := by simp; omega
  have g4 : decide ((500 : Int) < (b.size : Int)) = true := by simp; omega
  have g4b : decide (500 < b.size) = true := by simp; omega
  clear h1 h2 h3 h4
  have HB := Lib.hid (Below.refl w.heap.size w)
  go_enter Try.func6, Try.ntmps6
  go_wp2_with fail
  refine (lives11_any _).mono ?_
  rintro e w1 ⟨rfl, hb⟩
  replace HB := Lib.hid (HB.out.trans (hb.mono HB.out.size))
  clear hb
  go_wp2_with fail
  go_ret
  exact ⟨rfl, HB.out⟩
set_option maxRecDepth 100000 in
set_option maxHeartbeats 25600000 in
theorem chplaces_main (a b : ByteArray) (f r : Nat) (len : Int) (w : World) (h1 : 0 < a.size) (h2 : 0 < b.size) (h3 : ¬ 500 < a.size) (h4 : ¬ 500 < b.size) (hl9 : -9223372036854775808 ≤ len ∧ len ≤ 9223372036854775807) :
    Calls Try.prog 6 #[.string a, .string b, .int .u32 f, .int .u32 r, .int .i64 len] w fun e w' => e = .returned (.bool true) ∧ Below w.heap.size w w' := by
  have hea : (a.toList == []) = false := by rw [Bool.eq_false_iff]; intro h; rw [beq_iff_eq] at h; have h9 := size_list a; rw [← ByteArray.toList_eq, h] at h9; simp at h9; omega
  have heb : (b.toList == []) = false := by rw [Bool.eq_false_iff]; intro h; rw [beq_iff_eq] at h; have h9 := size_list b; rw [← ByteArray.toList_eq, h] at h9; simp at h9; omega
  have g3 : decide ((500 : Int) < (a.size : Int)) = false := by simp; omega
  have g3b : decide (500 < a.size) = false := by simp; omega
  have g4 : decide ((500 : Int) < (b.size : Int)) = false := by simp; omega
  have g4b : decide (500 < b.size) = false := by simp; omega
  obtain ⟨F, hF⟩ : ∃ F, F = 2 + f % 10 := ⟨_, rfl⟩
  obtain ⟨na, hna⟩ : ∃ n, n = needN 128 a.size := ⟨_, rfl⟩
  obtain ⟨nb, hnb⟩ : ∃ n, n = needN 128 b.size := ⟨_, rfl⟩
  obtain ⟨G1, hG1⟩ : ∃ G, G = F + na := ⟨_, rfl⟩
  obtain ⟨G, hG⟩ : ∃ G, G = G1 + r % 10 := ⟨_, rfl⟩
  have hna9 : na ≤ 5 := by
    rw [hna]
    unfold needN
    rw [show goodSize 128 = true from rfl, decide_eq_true (show (1 : Int) ≤ a.size by omega)]
    show ((a.size : Int).toNat - 1) / ((128 : Int) - 24).toNat + 1 ≤ 5
    have : ((128 : Int) - 24).toNat = 104 := rfl
    rw [this]
    omega
  obtain ⟨n1, n2, n3, n4, LA, LB, x1, x, m1, m2, m3, m4, m5, m6, m7, m8, m9, m10, m11⟩ := places_all (F := F) (G := G) (by omega) (by omega) h1 (by omega) h2 (by omega) hna hnb (by omega) (by omega)
  have HNd := fun w => rneed9_any 128 a.size w (by omega)
  rw [← hna] at HNd
  have HPa := fun w => hpages_any 128 1 F a w (by omega) (by omega) (fun _ => by rw [← hna]; omega)
  have HPb := fun w => hpages_any 128 2 G b w (by omega) (by omega) (fun _ => by rw [← hnb]; omega)
  rw [m1] at HPa
  rw [m2] at HPb
  have M3 := Lib.hid m3
  have M4 := Lib.hid m4
  have M5 := Lib.hid m5
  have M6 := Lib.hid m6
  have M7 := Lib.hid m7
  have M8 := Lib.hid m8
  have HRa := fun w => hread_any 128 x F a.size w (by omega) (by omega) (by omega)
  have HRb := fun w => hread_any 128 x G b.size w (by omega) (by omega) (by omega)
  have HRo := fun w => hread_any 128 x F len w (by omega) (by omega) hl9
  rw [m10, if_pos rfl, (rd_some _ _).1, (rd_some _ _).2.1, (rd_some _ _).2.2] at HRa
  rw [m11, (rd_some _ _).1, (rd_some _ _).2.1, (rd_some _ _).2.2] at HRb
  rw [m10] at HRo
  obtain ⟨RE, RQ, HRE, hEQ, hLN⟩ : ∃ (E : Int) (q : Bool), (∀ w, Calls Try.prog 11 #[.int .i64 128, .string x, .int .u32 F, .int .i64 len] w fun e w' => ∃ s A n c, e = .returned (.tuple #[.string s, .slice A n c, .int .i64 E]) ∧ Below w.heap.size w w') ∧ (E == 0) = q ∧ (len == (a.size : Int)) = q := by
    by_cases hl : (a.size : Int) = len
    · refine ⟨0, true, fun w => (HRo w).mono ?_, rfl, by simp [hl]⟩
      rw [if_pos hl, (rd_some _ _).1, (rd_some _ _).2.1, (rd_some _ _).2.2]
      rintro e w' ⟨A, n, c, rfl, _, hb⟩
      exact ⟨_, A, n, c, rfl, hb⟩
    · refine ⟨4, false, fun w => (HRo w).mono ?_, rfl, by simp; omega⟩
      rw [if_neg hl, rd_none.1, rd_none.2.1, rd_none.2.2]
      rintro e w' ⟨A, n, c, rfl, _, hb⟩
      exact ⟨_, A, n, c, rfl, hb⟩
  have hj0 : nthU (runW F na) (na - 1) = F + (na - 1) := runW_at (by omega) (by omega)
  have hj1 : nthU (runW G nb) 0 = G := by rw [runW_at (by omega) (by omega)]; rfl
  obtain ⟨la, hla⟩ : ∃ x, x = na - 1 := ⟨_, rfl⟩
  obtain ⟨pv, hpv⟩ : ∃ x, x = F + la := ⟨_, rfl⟩
  rw [← hla, ← hpv] at hj0
  have y1 : (na : Int) - 1 = (la : Int) := by omega
  have y2 : (pv : Int) < (G : Int) := by omega
  have y2b : decide (pv < G) = true := by simp; omega
  have y3 : decide ((0 : Int) < (na : Int)) = true := by simp; omega
  have y3b : decide (0 < na) = true := by simp; omega
  have y4 : decide ((0 : Int) < (nb : Int)) = true := by simp; omega
  have y4b : decide (0 < nb) = true := by simp; omega
  have y5 : (0 : Int) ≤ (la : Int) := by omega
  have y6 : (la : Int) < (na : Int) := by omega
  have y7 : (0 : Int) < (nb : Int) := by omega
  have y8 : 0 < nb := by omega
  have LL := Lib.hid (show la < na by omega)
  have LB0 := Lib.hid y8
  have hs1 := fun w => str_noteq x w
  have hs2 := fun w => str_eqleq a w
  have hs3 := fun w => str_eqleq b w
  have u3 : 2 + (f : Int) % 10 = (F : Int) := by omega
  have u9 : (F : Int) + (na : Int) = (G1 : Int) := by omega
  have u13 : (G1 : Int) + (r : Int) % 10 = (G : Int) := by omega
  have hF9 : F ≤ 11 := by omega
  have hG9 : G ≤ 100 := by omega
  have hG19 : G1 ≤ 100 := by omega
  have hla9 : la ≤ 5 := by omega
  have N9 := Lib.hid (show na ≤ 5 ∧ nb ≤ 5 by omega)
  have u1 : Int.tmod (f : Int) 10 = (f : Int) % 10 := Int.tmod_eq_emod_of_nonneg (by omega)
  have u11 : Int.tmod (r : Int) 10 = (r : Int) % 10 := Int.tmod_eq_emod_of_nonneg (by omega)
  have hU32 := fun (n : Nat) (h : n ≤ 100000) => (show IntKind.u32.wrap (n : Int) = (n : Int) by rw [IntKind.wrap_u32]; omega)
  have u2 : IntKind.u32.wrap ((f : Int) % 10) = (f : Int) % 10 := by rw [IntKind.wrap_u32]; omega
  have u12 : IntKind.u32.wrap ((r : Int) % 10) = (r : Int) % 10 := by rw [IntKind.wrap_u32]; omega
  have u4 := hU32 F (Nat.le_trans hF9 (by decide))
  have u8 := hU32 na (Nat.le_trans hna9 (by decide))
  have u10 := hU32 G1 (Nat.le_trans hG19 (by decide))
  have u14 := hU32 G (Nat.le_trans hG9 (by decide))
  have w1l := i64_nat la (Nat.lt_of_le_of_lt hla9 (by decide))
  have w2l := wrap64_nat la (Nat.lt_of_le_of_lt hla9 (by decide))
  have J0 := Lib.hid hj0
  have J1 := Lib.hid hj1
  obtain ⟨i0, hi0, hz0, hz1, hz2⟩ := info_parts infoPg11
  clear hF hna hnb hG1 hG hna9 m1 m2 m3 m4 m5 m6 m7 m8 m9 m10 m11 HRo h1 h2 h3 h4 hj0 hj1 hla hpv hU32 n1 n2 n3 n4 hF9 hG9 hG19 hla9 y8
  have HB := Lib.hid (Below.refl w.heap.size w)
  go_enter Try.func6, Try.ntmps6
  go_wp2_with fail
  refine (lives11_any _).mono ?_
  rintro e w1 ⟨rfl, hb⟩
  replace HB := Lib.hid (HB.out.trans (hb.mono HB.out.size))
  clear hb
  go_wp2_with fail
  refine (HNd _).mono ?_
  rintro e wS ⟨rfl, rfl⟩
  clear HNd
  go_wp2_with fail
  refine (HPa _).mono ?_
  rintro e x2 ⟨B2, m2, d2, rfl, hr2, hb⟩
  have RA := Lib.hid hr2
  clear hr2 HPa
  replace HB := Lib.hid (HB.out.trans (hb.mono HB.out.size))
  clear hb
  go_wp2_with fail
  refine (HPb _).mono ?_
  rintro e x3 ⟨B3, m3, d3, rfl, hr3, hb⟩
  have RB := Lib.hid hr3
  clear hr3 HPb
  replace HB := Lib.hid (HB.out.trans (hb.mono HB.out.size))
  replace RA := Lib.hid ((RA.out.below hb).more hb.size)
  clear hb
  go_wp2_with fail
  obtain rfl : na = m2 := M3.out.symm.trans (pgcs_len RA.out)
  obtain rfl : nb = m3 := M4.out.symm.trans (pgcs_len RB.out)
  refine (hlay_any 128 ⟨#[]⟩ B3 nb d3 LB _ (by decide) RB.out (Nat.le_trans N9.out.2 (by decide))).mono ?_
  rw [(lay_yes M5.out).1, (lay_yes M5.out).2]
  rintro e x4 ⟨rfl, hb⟩
  replace HB := Lib.hid (HB.out.trans (hb.mono HB.out.size))
  replace RA := Lib.hid ((RA.out.below hb).more hb.size)
  replace RB := Lib.hid ((RB.out.below hb).more hb.size)
  clear hb
  go_wp2_with fail
  refine (hlay_any 128 x1 B2 na d2 LA _ (Nat.le_trans M8.out (by decide)) RA.out (Nat.le_trans N9.out.1 (by decide))).mono ?_
  rw [(lay_yes M6.out).1, (lay_yes M6.out).2]
  rintro e x5 ⟨rfl, hb⟩
  have HS4 := Lib.hid (HB.out.trans (hb.mono HB.out.size)).size
  replace HB := Lib.hid (HB.out.trans (hb.mono HB.out.size))
  replace RA := Lib.hid ((RA.out.below hb).more hb.size)
  replace RB := Lib.hid ((RB.out.below hb).more hb.size)
  clear hb
  go_wp2_with fail
  refine (ownPg_any d2 RA.out (Nat.le_trans N9.out.1 (by decide))).mono ?_
  rintro e x6 ⟨B6, d6, rfl, hown6, hb⟩
  have HO6 := Lib.hid hown6
  have HS6 := Lib.hid hb.size
  clear hown6
  replace HB := Lib.hid (HB.out.trans (hb.mono HB.out.size))
  replace RA := Lib.hid ((RA.out.below hb).more hb.size)
  replace RB := Lib.hid ((RB.out.below hb).more hb.size)
  clear hb
  have z1 : na + nb ≤ maxLen := by have := N9.out; unfold maxLen; clear u1 u2 u4 u8 u10 u11 u12 u14 w1l w2l; omega
  have z2 : (na + nb) * 48 ≤ 140737488355328 := by have := N9.out; clear u1 u2 u4 u8 u10 u11 u12 u14 w1l w2l; omega
  go_wp2_with (at_builtin; refine wpList_append_any _ rfl (.tmp 85) (.tmp 86) _ rfl x5.heap.size 40 i0 _ 6 48 Try.underlying24 hi0 hz0 hz1 hz2 rfl (by decide) _ na _ rfl HO6.out x6.heap.size B3 nb d3 (pgcs LB) rfl RB.out (pgcs_one _) z1 z2 HS6.out ?_; intro v7 x7 hown7 hg7 hat7; clear hat7; rw [← pgcs_append] at hown7; obtain ⟨A7, d7, rfl, _, _, _⟩ := own_form hown7; have R7 := Lib.hid (Reads.of_own hown7); replace HB := Lib.hid (HB.out.grown hg7 HB.out.size (fun g hg => Nat.le_trans HS4.out (HO6.out.lt g hg).1)); have HZ7 := Lib.hid z1; clear hown7 hg7 z1 z2)
  refine (hlay_any 128 ⟨#[]⟩ A7 (na + nb) d7 (LA ++ LB) _ (by decide) R7.out (Nat.le_trans (Nat.add_le_add N9.out.1 N9.out.2) (by decide))).mono ?_
  rw [(lay_yes M7.out).1, (lay_yes M7.out).2]
  rintro e x8 ⟨rfl, hb⟩
  replace HB := Lib.hid (HB.out.trans (hb.mono HB.out.size))
  clear hb
  go_wp2_with fail
  refine (HRa _).mono ?_
  rintro e x9 ⟨B9, m9, d9, rfl, hr9, hb⟩
  have R9 := Lib.hid hr9
  clear hr9 HRa
  replace HB := Lib.hid (HB.out.trans (hb.mono HB.out.size))
  clear hb
  go_wp2_with fail
  refine (HRb _).mono ?_
  rintro e xa ⟨Ba, ma, da, rfl, hra, hb⟩
  have Ra := Lib.hid hra
  clear hra HRb
  replace HB := Lib.hid (HB.out.trans (hb.mono HB.out.size))
  replace R9 := Lib.hid ((R9.out.below hb).more hb.size)
  clear hb
  go_wp2_with fail
  refine (HRE _).mono ?_
  rintro e xb ⟨sb, Bb, mb, db, rfl, hb⟩
  clear HRE
  replace HB := Lib.hid (HB.out.trans (hb.mono HB.out.size))
  replace R9 := Lib.hid ((R9.out.below hb).more hb.size)
  replace Ra := Lib.hid ((Ra.out.below hb).more hb.size)
  clear hb
  obtain rfl : na = m9 := (runW_len F na).symm.trans (ulen R9.out)
  obtain rfl : nb = ma := (runW_len G nb).symm.trans (ulen Ra.out)
  obtain ⟨adp, rfl, -, pp⟩ := ureads_at R9.out LL.out
  obtain ⟨adq, rfl, -, pq⟩ := ureads_at Ra.out LB0.out
  rw [J0.out] at pp
  rw [J1.out, add_zero_addr] at pq
  have y8 := LB0.out
  go_upto_region 17 with fail
  go_quiet (fail)
  go_wp2_with fail
  go_ret
  exact ⟨by cases RQ <;> rfl, below_drewN HB.out _⟩
theorem chplaces_walk (a b : ByteArray) (f0 r0 len : Int) (w : World) (_h0 : a.size ≤ maxLen) (_h1 : b.size ≤ maxLen) (hf : (Lit.int .u32 f0).wf = true) (hs : (Lit.int .u32 r0).wf = true) (_h4 : (Lit.int .i64 len).wf = true) :
    Calls Try.prog 6 #[.string a, .string b, .int .u32 f0, .int .u32 r0, .int .i64 len] w fun e w' => e = .returned (.bool true) ∧ Below w.heap.size w w' := by
  obtain ⟨f, rfl⟩ := Int.eq_ofNat_of_zero_le (lit_u32' hf).1
  obtain ⟨r, rfl⟩ := Int.eq_ofNat_of_zero_le (lit_u32' hs).1
  by_cases g1 : a.size = 0
  · exact chplaces_g1 a b f r len w g1
  by_cases g2 : b.size = 0
  · exact chplaces_g2 a b f r len w (by omega) g2
  by_cases g3 : 500 < a.size
  · exact chplaces_g3 a b f r len w (by omega) (by omega) g3
  by_cases g4 : 500 < b.size
  · exact chplaces_g4 a b f r len w (by omega) (by omega) g3 g4
  exact chplaces_main a b f r len w (by omega) (by omega) g3 g4 (lit_i64' _h4)
end Go.Proofs.Ytabhhccdbfjigaa
