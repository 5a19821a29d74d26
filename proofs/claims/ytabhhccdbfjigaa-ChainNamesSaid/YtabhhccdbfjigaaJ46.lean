/-
  Texts that the main proof rests on, put together: ChLaw, Turned, ChBackG, CnMath4. No statement is proved here.
-/
import Derived.Test.YtabhhccdbfjigaaJ45
import Derived.Test.YtabhhccdbfjigaaJ26
import Derived.Test.YtabhhccdbfjigaaJ24
import Derived.Test.YtabhhccdbfjigaaJ12
import Derived.Test.YtabhhccdbfjigaaJ5
import Derived.Test.YtabhhccdbfjigaaJ11
import Derived.LoopN
import Derived.Test.YtabhhccdbfjigaaJ40
import Derived.Test.YtabhhccdbfjigaaJ7
import Derived.Deep.CutRange
import Derived.Test.YtabhhccdbfjigaaJ21
namespace Go.Proofs.Ytabhhccdbfjigaa
open Go.RowKit
open Go.Lib hiding intOf
set_option linter.unusedVariables false
set_option linter.unusedSimpArgs false
attribute [local go_sem ↓] Go.wp_at_zero Go.wp_at_succ

/-- The pages that a call makes, none where it refuses; its error. -/
def pgsL (o : Option (List Pg)) : List Pg := o.getD []
def pgsE (o : Option (List Pg)) : Int := if o.isSome then 0 else 2
theorem pgspost_any {o : Option (List Pg)} {w : World} {e : Ending} {w' : World} (h : PgsPost o w e w') : ∃ A n c, e = .returned (.tuple #[.slice A n c, .int .i64 (pgsE o)]) ∧ Reads w' w'.heap.size 6 A n (pgcs (pgsL o)) ∧ Below w.heap.size w w' := by
  cases o with
  | none => obtain ⟨rfl, hb⟩ := h; exact ⟨none, 0, 0, rfl, Reads.none_, hb⟩
  | some L => obtain ⟨A, n, c, rfl, hr, hb⟩ := h; exact ⟨A, n, c, rfl, hr, hb⟩
theorem listV_bad {size : Int} {s : ByteArray} {head : Nat} (h : goodSize size = false) : ldNs (listV size s head) = [] ∧ ldPs (listV size s head) = [] := by
  have ha : ∀ k, along size s 6 head k = ([], head) := fun k => by
    induction k with
    | zero => rfl
    | succ k ih => simp only [along, ih, goes_bad (readAt_bad h)]
  have hc : chainL size s 6 head = [] := by rw [chainL, ha]
  unfold listV
  rw [hc]
  split
  · exact ⟨rfl, rfl⟩
  · exact ⟨rfl, rfl⟩
theorem listpost_any {size : Int} {s : ByteArray} {head : Nat} {w : World} {e : Ending} {w' : World} (h : ListPost size (listV size s head) w e w') : ∃ A n c A2 n2 c2, e = .returned (.tuple #[.slice A n c, .slice A2 n2 c2, .int .i64 (ldErr size (listV size s head))]) ∧ Reads w' w'.heap.size 1 A n (ucells (ldNs (listV size s head))) ∧ Reads w' w'.heap.size 1 A2 n2 (ucells (ldPs (listV size s head))) ∧ Below w.heap.size w w' := by
  unfold ListPost at h
  rcases hg : goodSize size with _ | _
  · rw [hg, if_neg (by decide)] at h
    obtain ⟨rfl, hb⟩ := h
    obtain ⟨h1, h2⟩ := listV_bad (s := s) (head := head) hg
    rw [h1, h2]
    exact ⟨none, 0, 0, none, 0, 0, by rw [ldErr, hg] <;> rfl, Reads.none_, Reads.none_, hb⟩
  · rw [hg, if_pos rfl] at h
    exact h
theorem str_eqleq (a : ByteArray) (w : World) : (binOp .eql 9 (.string a) (.string a)).run Try.prog w = .ok (.bool true) w := by
  simp [go_sem]
/-- A page of a value, by its place. -/
theorem on_nth {z tx : Nat} {ps : List Nat} {v : ByteArray} {L : List Pg} (h : onL z tx ps v = some L) {i : Nat} (hi : i < ps.length) : ∃ bd, L[i]? = some ⟨5, (min (z - 24) (v.size - i * (z - 24)) : Nat), nthU ps i, nthU ps (i + 1), tx, bd⟩ := by
  obtain ⟨h1, h2, h3, h4, h5, h6, hL⟩ := onL_some h
  have hr : 0 < z - 24 := by obtain ⟨z', hz, hz1, _⟩ := good_nat h1; omega
  obtain ⟨g1, _⟩ := on_part h hi
  refine ⟨overBody z (piece (z - 24) v i), ?_⟩
  rw [hL, List.getElem?_map, List.getElem?_range hi, Option.map_some]
  unfold onPg
  rw [g1, piece_size hr (by rw [h4]; exact hi), nextL_is]
theorem on_len {z tx : Nat} {ps : List Nat} {v : ByteArray} {L : List Pg} (h : onL z tx ps v = some L) : L.length = ps.length := by
  obtain ⟨_, _, _, _, _, _, hL⟩ := onL_some h
  rw [hL]
  simp
set_option maxRecDepth 100000 in
set_option maxHeartbeats 6400000 in
theorem lives11_any (w : World) : Calls Try.prog 7 #[] w fun e w' => e = .returned (.bool true) ∧ Below w.heap.size w w' := by
  have hT := fun w => times_any ⟨#[118]⟩ 105 w (by decide) (by decide)
  obtain ⟨V, hV⟩ : ∃ V, V = reps ⟨#[118]⟩ 105 := ⟨_, rfl⟩
  have hVs : V.size = 105 := by rw [hV, reps_size]; rfl
  rw [← hV] at hT
  have hne : needN 128 (V.size : Int) = 2 := by rw [hVs]; rfl
  have hpl : (partsL 128 V).length = (runW 7 2).length := by rw [parts_need, hne]; rfl
  have ho : pagesL 128 3 7 V = some ((List.range 2).map (onPg 128 3 (runW 7 2) V)) := by
    unfold pagesL
    rw [hne]
    exact onL_yes (size := 128) rfl (by omega) (by omega) hpl (by decide) (by decide)
  have hP := fun w => hpages_any 128 3 7 V w (by decide) (by omega) (fun _ => by rw [hne]; decide)
  obtain ⟨L, hL⟩ : ∃ L, L = (List.range 2).map (onPg 128 3 (runW 7 2) V) := ⟨_, rfl⟩
  rw [← hL] at ho
  have ho2 : onL ((128 : Nat) : Int) 3 (runW 7 2) V = some L := by
    unfold pagesL at ho
    rw [hne] at ho
    exact ho
  obtain ⟨b0, h0⟩ := on_nth ho2 (i := 0) (by decide)
  obtain ⟨b1, h1⟩ := on_nth ho2 (i := 1) (by decide)
  have hlen : L.length = 2 := on_len ho2
  rw [hVs] at h0 h1
  rw [ho] at hP
  have H0 := Lib.hid (show L[0]? = some ⟨5, 104, 7, 8, 3, b0⟩ from h0)
  have H1 := Lib.hid (show L[1]? = some ⟨5, 1, 8, 0, 3, b1⟩ from h1)
  have HLn := Lib.hid hlen
  clear h0 h1 hlen ho ho2 hL hpl hne hVs hV
  have HB := Lib.hid (Below.refl w.heap.size w)
  go_enter Try.func7, Try.ntmps7
  go_wp2_with fail
  refine (hT _).mono ?_
  rintro e w1 ⟨rfl, rfl⟩
  clear hT
  go_wp2_with fail
  refine (hP _).mono ?_
  rintro e w2 ⟨A, n, c, rfl, hr, hb⟩
  have HR := Lib.hid hr
  have hn : n = 2 := by have := pgcs_len hr; rw [HLn.out] at this; omega
  subst hn
  replace HB := Lib.hid (HB.out.trans (hb.mono HB.out.size))
  clear hb hr hP
  obtain ⟨ad, x, rfl, _, hx, hc⟩ := page_at HR.out (show 0 < 2 by decide)
  rw [H0.out] at hx
  injection hx with hx
  subst hx
  obtain ⟨d0, d1, d2, d3, d4, d5⟩ := hc
  obtain ⟨e0, e1, e2, e3, e4, e5⟩ := pgcell HR.out (show 1 < 2 by decide) H1.out
  simp [Addr.add] at d1 d2 d3 e1 e2 e3
  clear d0 d4 d5 e0 e4 e5
  go_wp2_with fail
  go_ret
  exact ⟨rfl, HB.out⟩
end Go.Proofs.Ytabhhccdbfjigaa
namespace Go.Proofs.Ytabhhccdbfjigaa
open Go.RowKit
open Go.Lib
set_option linter.unusedVariables false
set_option linter.unusedSimpArgs false
attribute [local go_sem ↓] Go.wp_at_zero Go.wp_at_succ

theorem low_byte (b p i : Nat) : lowAt b p (i + 8) = lowAt b p i ^^^ ((b / 2 ^ i % 256) * 2 ^ (p + i)) := by
  apply Nat.eq_of_testBit_eq
  intro j
  unfold lowAt
  rw [Nat.testBit_xor, Nat.testBit_mul_two_pow, Nat.testBit_mul_two_pow, Nat.testBit_mul_two_pow, Nat.testBit_mod_two_pow, Nat.testBit_mod_two_pow, show (256 : Nat) = 2 ^ 8 from rfl, Nat.testBit_mod_two_pow, Nat.testBit_div_two_pow]
  by_cases h1 : p ≤ j
  · by_cases h2 : p + i ≤ j
    · have e : j - (p + i) + i = j - p := by omega
      rw [e]
      by_cases h3 : j - p < i + 8
      · simp [h1, h2, h3, show ¬ j - p < i by omega, show j - (p + i) < 8 by omega]
      · simp [h1, h2, h3, show ¬ j - p < i by omega, show ¬ j - (p + i) < 8 by omega]
    · simp [h1, h2, show j - p < i by omega, show j - p < i + 8 by omega]
  · simp [h1, show ¬ p + i ≤ j by omega]
theorem byte_mul (v c m : Nat) (hv : v < 256) : v * 2 ^ (8 * c) / 2 ^ (8 * m) % 256 = if m = c then v else 0 := by
  by_cases h : m = c
  · subst h
    rw [if_pos rfl, Nat.mul_div_cancel _ (Nat.two_pow_pos _), Nat.mod_eq_of_lt hv]
  · rw [if_neg h]
    by_cases h2 : m < c
    · have e : 2 ^ (8 * c) = 2 ^ (8 * m) * (256 * 2 ^ (8 * (c - m - 1))) := by
        rw [show (256 : Nat) = 2 ^ 8 from rfl, ← Nat.pow_add, ← Nat.pow_add]
        congr 1
        omega
      rw [e, Nat.mul_left_comm, Nat.mul_div_cancel_left _ (Nat.two_pow_pos _), Nat.mul_left_comm, Nat.mul_mod_right]
    · have e : 2 ^ (8 * m) = 2 ^ (8 * c) * 2 ^ (8 * (m - c)) := by
        rw [← Nat.pow_add]
        congr 1
        omega
      rw [e, ← Nat.div_div_eq_div_mul, Nat.mul_div_cancel _ (Nat.two_pow_pos _)]
      have : 2 ^ 8 ≤ 2 ^ (8 * (m - c)) := Nat.pow_le_pow_right (by omega) (by omega)
      rw [Nat.div_eq_of_lt (by omega)]
theorem turned_get (l : List UInt8) (b p k m : Nat) (hm : m < l.length) : (turned l b p k)[m]? = some ((l.getD m 0) ^^^ ((lowAt b p k) / 2 ^ (8 * m) % 256).toUInt8) := by
  unfold turned
  rw [List.getElem?_zipWith, leBytes_get _ _ _ hm, List.getElem?_eq_getElem hm]
  simp [List.getD, hm]
theorem turned_byte (l : List UInt8) (d q k : Nat) (hj : q + k < (turned l d (8 * q) (8 * k)).length) :
    turned l d (8 * q) (8 * (k + 1)) = (turned l d (8 * q) (8 * k)).set (q + k) ((turned l d (8 * q) (8 * k))[q + k] ^^^ (d / 2 ^ (8 * k) % 256).toUInt8) := by
  have hl := turned_len l d (8 * q) (8 * k)
  apply List.ext_getElem?
  intro j
  rw [List.getElem?_set]
  by_cases hjl : j < l.length
  · rw [turned_get _ _ _ _ _ hjl, show 8 * (k + 1) = 8 * k + 8 by omega, low_byte, byte_xor, show 8 * q + 8 * k = 8 * (q + k) by omega, byte_mul _ _ _ (Nat.mod_lt _ (by omega))]
    by_cases he : q + k = j
    · rw [if_pos he, if_pos he.symm, if_pos (by omega)]
      have h2 := turned_get l d (8 * q) (8 * k) (q + k) (by omega)
      rw [List.getElem?_eq_getElem hj] at h2
      rw [Option.some.inj h2, he, UInt8.xor_assoc]
    · rw [if_neg he, if_neg (fun h => he h.symm), turned_get _ _ _ _ _ hjl]
      simp
  · rw [List.getElem?_eq_none (by rw [turned_len]; omega), if_neg (by omega), List.getElem?_eq_none (by rw [turned_len]; omega)]
/-- The bytes of s with a word's bits turned, from byte q on. -/
def turnB (s : ByteArray) (q d : Nat) : ByteArray := ⟨(turned s.data.toList d (8 * q) 32).toArray⟩
theorem turnB_list (s : ByteArray) (q d : Nat) : (turnB s q d).data.toList = turned s.data.toList d (8 * q) 32 := by simp [turnB]
theorem turnB_size (s : ByteArray) (q d : Nat) : (turnB s q d).size = s.size := by rw [← size_list, turnB_list, turned_len, size_list]
/-- A right block with turned bits behind its checksum is no right block. -/
theorem turn_bad (z n m : Nat) (s : ByteArray) (q d : Nat) (hs : blockOk z n s = true) (hd : d < 4294967296) (h0 : d ≠ 0) (h4 : 4 ≤ q) (hq : q + 4 ≤ s.size) : blockOk z m (turnB s q d) = false := by
  simp only [blockOk, Bool.and_eq_true, decide_eq_true_eq] at hs
  obtain ⟨h1, h2, _⟩ := hs
  have hlow : lowAt d (8 * q) 32 % 4294967296 = 0 := by
    unfold lowAt
    rw [show 8 * q = 32 + (8 * q - 32) by omega, Nat.pow_add, show (2 : Nat) ^ 32 = 4294967296 from rfl, Nat.mul_left_comm, Nat.mul_mod_right]
  have hb := burst_bad s.data.toList d (8 * q) hd h0 (by rw [size_list]; omega) (by rw [size_list]; omega) h2 (.inl hlow)
  rw [Bool.eq_false_iff]
  intro h
  simp only [blockOk, Bool.and_eq_true, decide_eq_true_eq] at h
  rw [turnB_list] at h
  exact hb h.2.1
theorem byte_xor_word (b : UInt8) (v : Nat) : bits .xor .u8 (b.toNat : Int) ((v : Int) % 256) = ((b ^^^ (v % 256).toUInt8).toNat : Int) := by
  have e : ((v : Int) % 256) = ((v % 256 : Nat) : Int) := by omega
  have hb := b.toNat_lt
  rw [e, u8_xor_nat _ _ hb (by omega), UInt8.toNat_xor]
  congr 2
  simp only [Nat.toUInt8_eq, UInt8.toNat_ofNat']
  omega
end Go.Proofs.Ytabhhccdbfjigaa
namespace Go.Proofs.Ytabhhccdbfjigaa
open Go.RowKit
open Go.Lib hiding intOf
set_option linter.unusedVariables false
set_option linter.unusedSimpArgs false
attribute [local go_sem ↓] Go.wp_at_zero Go.wp_at_succ

theorem rd_some (v : ByteArray) (ps : List Nat) : rdStr (some (v, ps)) = v ∧ rdPs (some (v, ps)) = ps ∧ rdErr 128 (some (v, ps)) = 0 := ⟨rfl, rfl, rfl⟩
theorem rd_none : rdStr none = ⟨#[]⟩ ∧ rdPs none = [] ∧ rdErr 128 none = 4 := ⟨rfl, rfl, rfl⟩
theorem listpost_yes {size : Int} {l m : List Nat} {w : World} {e : Ending} {w' : World} (hg : goodSize size = true) (h : ListPost size (some (l, m)) w e w') : ∃ A n c A2 n2 c2, e = .returned (.tuple #[.slice A n c, .slice A2 n2 c2, .int .i64 0]) ∧ Reads w' w'.heap.size 1 A n (ucells l) ∧ Reads w' w'.heap.size 1 A2 n2 (ucells m) ∧ Below w.heap.size w w' := by
  unfold ListPost at h
  rw [if_pos hg] at h
  obtain ⟨A, n, c, A2, n2, c2, he, h1, h2, hb⟩ := h
  exact ⟨A, n, c, A2, n2, c2, by rw [he, ldErr, if_pos hg] <;> rfl, h1, h2, hb⟩
end Go.Proofs.Ytabhhccdbfjigaa
namespace Go.Proofs.Ytabhhccdbfjigaa
open Go.RowKit
open Go.Lib hiding intOf
set_option linter.unusedVariables false
set_option linter.unusedSimpArgs false

theorem goes_kind {size : Int} {s : ByteArray} {kd : Int} {L : List Pg} {h : Nat} {p : Pg} (hr : readAt size s h = some p) (hk : p.kd ≠ kd) : goes size s kd L h = none := by
  rw [goes_is hr, decide_eq_false hk]
  simp
theorem chain_wrong {size : Int} {s : ByteArray} {kd : Int} {h : Nat} {p : Pg} (hr : readAt size s h = some p) (hk : p.kd ≠ kd) (h2 : 2 ≤ h) : chainL size s kd h = [] ∧ chainOk size s kd h = false := by
  have := chain_end (size := size) (s := s) (kd := kd) (head := h) (k := 0) (Nat.zero_le _) rfl (goes_kind hr hk)
  exact ⟨this.1, by rw [this.2, decide_eq_false (by omega)]⟩
/-- All that the statement ChainNames asks. -/
theorem names_all {V : ByteArray} (hV : V.size = 105) : ∃ L M im lay, pagesL 128 3 2 V = some L ∧ layL 128 ⟨#[]⟩ L = some im ∧ im.size = 512 ∧ readV 128 im 2 105 = some (V, [2, 3]) ∧ readV 128 im 2 104 = none ∧ readV 128 im 3 105 = none ∧ readV 128 im 0 1 = none ∧
    listsL 128 3 [9, 8] [20, 30, 40] = some M ∧ M.length = 2 ∧ (∃ p, M[1]? = some p ∧ p.ct = 0) ∧ layL 128 im M = some lay ∧ lay.size ≤ 100000 ∧ listV 128 lay 9 = some ([20, 30, 40], [9, 8]) ∧ listV 128 lay 0 = some ([], []) ∧ listV 128 lay 2 = none ∧
    onL 128 3 [7] V = none ∧ onL 128 3 [7, 7] V = none ∧ listsL 128 3 [] [20, 30, 40] = none ∧ followL 128 im 6 2 = [⟨Pg.zero, 4⟩] ∧ layL 128 ⟨#[]⟩ [Pg.zero] = none ∧ L.length = 2 := by
  have hnd : needN 128 (V.size : Int) = 2 := by rw [hV]; rfl
  obtain ⟨L, hL⟩ : ∃ L, onL 128 3 [2, 3] V = some L := ⟨_, onL_yesN (by omega) (by omega) (by rw [parts_need, hnd]; rfl) (by decide) (by decide)⟩
  have hL' : onL ((128 : Nat) : Int) 3 [2, 3] V = some L := hL
  have hnL : nosP L = [2, 3] := on_nos (onL_some hL').2.2.2.2.2.2
  obtain ⟨M, hM⟩ : ∃ M, listsL 128 3 [9, 8] [20, 30, 40] = some M := ⟨_, listsL_yesN (by decide) (by decide) (by decide) (by decide)⟩
  have hM' : listsL ((128 : Nat) : Int) 3 [9, 8] [20, 30, 40] = some M := hM
  have hnM : nosP M = [9, 8] := li_nos (listsL_some hM').2.2.2.2.2.2
  have hlL : L.length = 2 := by rw [← nosP_len, hnL]; rfl
  have hlM : M.length = 2 := by rw [← nosP_len, hnM]; rfl
  have hLm : ∀ p ∈ L, p.pg = 2 ∨ p.pg = 3 := fun p hp => by
    have h : p.pg ∈ nosP L := List.mem_map_of_mem hp
    rw [hnL] at h
    simpa using h
  have hMm : ∀ p ∈ M, p.pg = 9 ∨ p.pg = 8 := fun p hp => by
    have h : p.pg ∈ nosP M := List.mem_map_of_mem hp
    rw [hnM] at h
    simpa using h
  obtain ⟨im, C1, a1, a2, a3, a4, a5, a6, a7⟩ := lay_reads (z := 128) L 0 ⟨#[]⟩ (on_may hL') rfl
  obtain ⟨lay, C2, b1, b2, b3, b4, b5, b6, b7⟩ := lay_reads (z := 128) M C1 im (li_may hM') a2
  have hrL := a7 (by rw [hnL]; decide)
  have hrM := b7 (by rw [hnM]; decide)
  obtain ⟨p0, h0⟩ : ∃ p, L[0]? = some p := ⟨L[0], List.getElem?_eq_getElem (by omega)⟩
  obtain ⟨p1, h1⟩ : ∃ p, L[1]? = some p := ⟨L[1], List.getElem?_eq_getElem (by omega)⟩
  have e0 : p0.pg = 2 := by have := nosP_at h0; rw [hnL] at this; exact this.symm
  have e1 : p1.pg = 3 := by have := nosP_at h1; rw [hnL] at this; exact this.symm
  have hC1 : C1 = 4 := by
    have g1 := a5 4 (by omega) (fun p hp => by have := hLm p hp; omega)
    have g2 := a4 p1 (List.mem_of_getElem? h1)
    omega
  have hC2 : C2 ≤ 10 := b5 10 (by omega) (fun p hp => by have := hMm p hp; omega)
  obtain ⟨l0, l0k, _, _⟩ : ∃ x : Unit, p0.kd = 5 ∧ True ∧ True := ⟨(), ((on_linked hL').2 0 p0 h0).1, trivial, trivial⟩
  have v1 := value_back hL' hrL 105
  have v2 := value_back hL' hrL 104
  have hh : nthU [2, 3] 0 = 2 := rfl
  rw [hh, hV, if_pos (by decide)] at v1
  rw [hh, hV, if_neg (by decide)] at v2
  have hlist := list_back hM' hrM
  have hh2 : nthU [9, 8] 0 = 9 := rfl
  rw [hh2] at hlist
  have r2 : readAt 128 im 2 = some p0 := by have := hrL p0 (List.mem_of_getElem? h0); rw [e0] at this; exact this
  have r2' : readAt 128 lay 2 = some p0 := by
    have := b6 2 (fun q hq => by have := hMm q hq; omega)
    rw [show readAt 128 lay 2 = readAt ((128 : Nat) : Int) lay 2 from rfl, this]
    exact r2
  have hone : linkedL 5 [p1] := by
    refine ⟨by simp [nosP], fun i p hp => ?_⟩
    have hi : i = 0 := by have := (List.getElem?_eq_some_iff.1 hp).1; simpa using this
    subst hi
    obtain rfl : p1 = p := by simpa using hp
    obtain ⟨g1, g2, g3⟩ := (on_linked hL').2 1 p1 h1
    refine ⟨g1, g2, ?_⟩
    rw [g3, hnL]
    rfl
  have hc3 := chain_whole (size := 128) (s := im) hone (fun p hp => by
    obtain rfl : p = p1 := by simpa using hp
    exact hrL p (List.mem_of_getElem? h1))
  rw [show nthU (nosP [p1]) 0 = 3 from e1] at hc3
  obtain ⟨hps, hmay⟩ := on_part hL' (i := 1) (by decide)
  have hov : p1.over = some (piece 104 V 1) := by
    obtain ⟨_, hp⟩ := on_at (onL_some hL').2.2.2.2.2.2 h1
    rw [hp]
    unfold Pg.over onPg
    rw [hps]
    exact readO_page hmay
  have hpz : (piece 104 V 1).size = 1 := by rw [piece_size (by decide) (by rw [hV]; decide), hV]; rfl
  refine ⟨L, M, im, lay, ?_, a1, by rw [a2, hC1], v1, v2, ?_, ?_, hM, hlM, ?_, b1, by rw [b2]; omega, hlist, ?_, ?_, ?_, ?_, ?_, ?_, ?_, hlL⟩
  · unfold pagesL
    rw [hnd]
    exact hL
  · unfold readV
    rw [hc3.1, hc3.2]
    simp only [if_true]
    have : valV [p1] = some (⟨#[]⟩ ++ piece 104 V 1) := by
      show valV ([] ++ [p1]) = _
      rw [valV_snoc, hov]
      rfl
    rw [this]
    simp only
    rw [if_neg]
    rintro ⟨_, h⟩
    rw [ByteArray.size_append, hpz] at h
    revert h
    decide
  · unfold readV
    rw [chain_nil.1, chain_nil.2]
    simp only [if_true]
    rw [show valV [] = some ⟨#[]⟩ from rfl]
    simp only
    rw [if_neg]
    rintro ⟨_, h⟩
    revert h
    decide
  · obtain ⟨p, hp⟩ : ∃ p, M[1]? = some p := ⟨M[1], List.getElem?_eq_getElem (by omega)⟩
    refine ⟨p, hp, ?_⟩
    obtain ⟨_, he⟩ := li_at (listsL_some hM').2.2.2.2.2.2 hp
    rw [he]
    decide
  · unfold listV
    rw [chain_nil.1, chain_nil.2]
    rfl
  · unfold listV
    rw [(chain_wrong r2' (by rw [l0k]; decide) (by decide)).2]
    rfl
  · unfold onL
    rw [if_neg]
    simp only [Bool.and_eq_true, decide_eq_true_eq]
    rintro ⟨_, _, _, h, _⟩
    rw [parts_need, hnd] at h
    cases h
  · unfold onL
    rw [if_neg]
    simp only [Bool.and_eq_true, decide_eq_true_eq]
    rintro ⟨_, _, _, _, h, _⟩
    revert h
    decide
  · decide
  · unfold followL
    obtain ⟨g1, g2⟩ := chain_wrong (kd := 6) r2 (by rw [l0k]; decide) (by decide)
    rw [g1, g2]
    rfl
  · decide
end Go.Proofs.Ytabhhccdbfjigaa
