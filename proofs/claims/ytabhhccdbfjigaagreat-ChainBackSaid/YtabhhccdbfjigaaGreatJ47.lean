/-
  Texts that the main proof rests on, put together: ChLaw, Turned. No statement is proved here.
-/
import Derived.Test.YtabhhccdbfjigaaGreatJ46
import Derived.Test.YtabhhccdbfjigaaGreatJ29
import Derived.Test.YtabhhccdbfjigaaGreatJ28
import Derived.Test.YtabhhccdbfjigaaGreatJ12
import Derived.Test.YtabhhccdbfjigaaGreatJ5
import Derived.Test.YtabhhccdbfjigaaGreatJ11
import Derived.LoopN
namespace Go.Proofs.YtabhhccdbfjigaaGreat
open Go.RowKit
open Go.Lib hiding intOf
set_option linter.unusedVariables false
set_option linter.unusedSimpArgs false
attribute [local go_sem ↓] Go.wp_at_zero Go.wp_at_succ

/-- The pages that a call makes, none where it refuses; its error. -/
def pgsL (o : Option (List Pg)) : List Pg := o.getD []
def pgsE (o : Option (List Pg)) : Int := if o.isSome then 0 else 2
theorem pgspost_any {o : Option (List Pg)} {w : World} {e : Ending} {w' : World} (h : PgsPost o w e w') : ∃ A n c, e = .returned (.tuple #[.slice A n c, .int .i64 (pgsE o)]) ∧ Reads w' w'.heap.size 6 A n (pgcs (pgsL o)) ∧ Below w.heap.size w w' := by
  cases o with
  | none => obtain ⟨rfl, hb⟩ := h; exact ⟨none, 0, 0, rfl, Reads.none_, hb⟩
  | some L => obtain ⟨A, n, c, rfl, hr, hb⟩ := h; exact ⟨A, n, c, rfl, hr, hb⟩
theorem listV_bad {size : Int} {s : ByteArray} {head : Nat} (h : goodSize size = false) : ldNs (listV size s head) = [] ∧ ldPs (listV size s head) = [] := by
  have ha : ∀ k, along size s 6 head k = ([], head) := fun k => by
    induction k with
    | zero => rfl
    | succ k ih => simp only [along, ih, goes_bad (readAt_bad h)]
  have hc : chainL size s 6 head = [] := by rw [chainL, ha]
  unfold listV
  rw [hc]
  split
  · exact ⟨rfl, rfl⟩
  · exact ⟨rfl, rfl⟩
theorem listpost_any {size : Int} {s : ByteArray} {head : Nat} {w : World} {e : Ending} {w' : World} (h : ListPost size (listV size s head) w e w') : ∃ A n c A2 n2 c2, e = .returned (.tuple #[.slice A n c, .slice A2 n2 c2, .int .i64 (ldErr size (listV size s head))]) ∧ Reads w' w'.heap.size 1 A n (ucells (ldNs (listV size s head))) ∧ Reads w' w'.heap.size 1 A2 n2 (ucells (ldPs (listV size s head))) ∧ Below w.heap.size w w' := by
  unfold ListPost at h
  rcases hg : goodSize size with _ | _
  · rw [hg, if_neg (by decide)] at h
    obtain ⟨rfl, hb⟩ := h
    obtain ⟨h1, h2⟩ := listV_bad (s := s) (head := head) hg
    rw [h1, h2]
    exact ⟨none, 0, 0, none, 0, 0, by rw [ldErr, hg] <;> rfl, Reads.none_, Reads.none_, hb⟩
  · rw [hg, if_pos rfl] at h
    exact h
theorem str_eqleq (a : ByteArray) (w : World) : (binOp .eql 9 (.string a) (.string a)).run Tryz.prog w = .ok (.bool true) w := by
  simp [go_sem]
/-- A page of a value, by its place. -/
theorem on_nth {z tx : Nat} {ps : List Nat} {v : ByteArray} {L : List Pg} (h : onL z tx ps v = some L) {i : Nat} (hi : i < ps.length) : ∃ bd, L[i]? = some ⟨5, (min (z - 24) (v.size - i * (z - 24)) : Nat), nthU ps i, nthU ps (i + 1), tx, bd⟩ := by
  obtain ⟨h1, h2, h3, h4, h5, h6, hL⟩ := onL_some h
  have hr : 0 < z - 24 := by obtain ⟨z', hz, hz1, _⟩ := good_nat h1; omega
  obtain ⟨g1, _⟩ := on_part h hi
  refine ⟨overBody z (piece (z - 24) v i), ?_⟩
  rw [hL, List.getElem?_map, List.getElem?_range hi, Option.map_some]
  unfold onPg
  rw [g1, piece_size hr (by rw [h4]; exact hi), nextL_is]
theorem on_len {z tx : Nat} {ps : List Nat} {v : ByteArray} {L : List Pg} (h : onL z tx ps v = some L) : L.length = ps.length := by
  obtain ⟨_, _, _, _, _, _, hL⟩ := onL_some h
  rw [hL]
  simp
set_option maxRecDepth 100000 in
set_option maxHeartbeats 6400000 in
theorem lives11_any (w : World) : Calls Tryz.prog 5 #[] w fun e w' => e = .returned (.bool true) ∧ Below w.heap.size w w' := by
  have hT := fun w => times_any ⟨#[118]⟩ 105 w (by decide) (by decide)
  obtain ⟨V, hV⟩ : ∃ V, V = reps ⟨#[118]⟩ 105 := ⟨_, rfl⟩
  have hVs : V.size = 105 := by rw [hV, reps_size]; rfl
  rw [← hV] at hT
  have hne : needN 128 (V.size : Int) = 2 := by rw [hVs]; rfl
  have hpl : (partsL 128 V).length = (runW 7 2).length := by rw [parts_need, hne]; rfl
  have ho : pagesL 128 3 7 V = some ((List.range 2).map (onPg 128 3 (runW 7 2) V)) := by
    unfold pagesL
    rw [hne]
    exact onL_yes (size := 128) rfl (by omega) (by omega) hpl (by decide) (by decide)
  have hP := fun w => hpages_any 128 3 7 V w (by decide) (by omega) (fun _ => by rw [hne]; decide)
  obtain ⟨L, hL⟩ : ∃ L, L = (List.range 2).map (onPg 128 3 (runW 7 2) V) := ⟨_, rfl⟩
  rw [← hL] at ho
  have ho2 : onL ((128 : Nat) : Int) 3 (runW 7 2) V = some L := by
    unfold pagesL at ho
    rw [hne] at ho
    exact ho
  obtain ⟨b0, h0⟩ := on_nth ho2 (i := 0) (by decide)
  obtain ⟨b1, h1⟩ := on_nth ho2 (i := 1) (by decide)
  have hlen : L.length = 2 := on_len ho2
  rw [hVs] at h0 h1
  rw [ho] at hP
  have H0 := Lib.hid (show L[0]? = some ⟨5, 104, 7, 8, 3, b0⟩ from h0)
  have H1 := Lib.hid (show L[1]? = some ⟨5, 1, 8, 0, 3, b1⟩ from h1)
  have HLn := Lib.hid hlen
  clear h0 h1 hlen ho ho2 hL hpl hne hVs hV
  have HB := Lib.hid (Below.refl w.heap.size w)
  go_enter Tryz.func5, Tryz.ntmps5
  go_wp2_with fail
  refine (hT _).mono ?_
  rintro e w1 ⟨rfl, rfl⟩
  clear hT
  go_wp2_with fail
  refine (hP _).mono ?_
  rintro e w2 ⟨A, n, c, rfl, hr, hb⟩
  have HR := Lib.hid hr
  have hn : n = 2 := by have := pgcs_len hr; rw [HLn.out] at this; omega
  subst hn
  replace HB := Lib.hid (HB.out.trans (hb.mono HB.out.size))
  clear hb hr hP
  obtain ⟨ad, x, rfl, _, hx, hc⟩ := page_at HR.out (show 0 < 2 by decide)
  rw [H0.out] at hx
  injection hx with hx
  subst hx
  obtain ⟨d0, d1, d2, d3, d4, d5⟩ := hc
  obtain ⟨e0, e1, e2, e3, e4, e5⟩ := pgcell HR.out (show 1 < 2 by decide) H1.out
  simp [Addr.add] at d1 d2 d3 e1 e2 e3
  clear d0 d4 d5 e0 e4 e5
  go_wp2_with fail
  go_ret
  exact ⟨rfl, HB.out⟩
end Go.Proofs.YtabhhccdbfjigaaGreat
namespace Go.Proofs.YtabhhccdbfjigaaGreat
open Go.RowKit
open Go.Lib
set_option linter.unusedVariables false
set_option linter.unusedSimpArgs false
attribute [local go_sem ↓] Go.wp_at_zero Go.wp_at_succ

theorem low_byte (b p i : Nat) : lowAt b p (i + 8) = lowAt b p i ^^^ ((b / 2 ^ i % 256) * 2 ^ (p + i)) := by
  apply Nat.eq_of_testBit_eq
  intro j
  unfold lowAt
  rw [Nat.testBit_xor, Nat.testBit_mul_two_pow, Nat.testBit_mul_two_pow, Nat.testBit_mul_two_pow, Nat.testBit_mod_two_pow, Nat.testBit_mod_two_pow, show (256 : Nat) = 2 ^ 8 from rfl, Nat.testBit_mod_two_pow, Nat.testBit_div_two_pow]
  by_cases h1 : p ≤ j
  · by_cases h2 : p + i ≤ j
    · have e : j - (p + i) + i = j - p := by omega
      rw [e]
      by_cases h3 : j - p < i + 8
      · simp [h1, h2, h3, show ¬ j - p < i by omega, show j - (p + i) < 8 by omega]
      · simp [h1, h2, h3, show ¬ j - p < i by omega, show ¬ j - (p + i) < 8 by omega]
    · simp [h1, h2, show j - p < i by omega, show j - p < i + 8 by omega]
  · simp [h1, show ¬ p + i ≤ j by omega]
theorem byte_mul (v c m : Nat) (hv : v < 256) : v * 2 ^ (8 * c) / 2 ^ (8 * m) % 256 = if m = c then v else 0 := by
  by_cases h : m = c
  · subst h
    rw [if_pos rfl, Nat.mul_div_cancel _ (Nat.two_pow_pos _), Nat.mod_eq_of_lt hv]
  · rw [if_neg h]
    by_cases h2 : m < c
    · have e : 2 ^ (8 * c) = 2 ^ (8 * m) * (256 * 2 ^ (8 * (c - m - 1))) := by
        rw [show (256 : Nat) = 2 ^ 8 from rfl, ← Nat.pow_add, ← Nat.pow_add]
        congr 1
        omega
      rw [e, Nat.mul_left_comm, Nat.mul_div_cancel_left _ (Nat.two_pow_pos _), Nat.mul_left_comm, Nat.mul_mod_right]
    · have e : 2 ^ (8 * m) = 2 ^ (8 * c) * 2 ^ (8 * (m - c)) := by
        rw [← Nat.pow_add]
        congr 1
        omega
      rw [e, ← Nat.div_div_eq_div_mul, Nat.mul_div_cancel _ (Nat.two_pow_pos _)]
      have : 2 ^ 8 ≤ 2 ^ (8 * (m - c)) := Nat.pow_le_pow_right (by omega) (by omega)
      rw [Nat.div_eq_of_lt (by omega)]
theorem turned_get (l : List UInt8) (b p k m : Nat) (hm : m < l.length) : (turned l b p k)[m]? = some ((l.getD m 0) ^^^ ((lowAt b p k) / 2 ^ (8 * m) % 256).toUInt8) := by
  unfold turned
  rw [List.getElem?_zipWith, leBytes_get _ _ _ hm, List.getElem?_eq_getElem hm]
  simp [List.getD, hm]
theorem turned_byte (l : List UInt8) (d q k : Nat) (hj : q + k < (turned l d (8 * q) (8 * k)).length) :
    turned l d (8 * q) (8 * (k + 1)) = (turned l d (8 * q) (8 * k)).set (q + k) ((turned l d (8 * q) (8 * k))[q + k] ^^^ (d / 2 ^ (8 * k) % 256).toUInt8) := by
  have hl := turned_len l d (8 * q) (8 * k)
  apply List.ext_getElem?
  intro j
  rw [List.getElem?_set]
  by_cases hjl : j < l.length
  · rw [turned_get _ _ _ _ _ hjl, show 8 * (k + 1) = 8 * k + 8 by omega, low_byte, byte_xor, show 8 * q + 8 * k = 8 * (q + k) by omega, byte_mul _ _ _ (Nat.mod_lt _ (by omega))]
    by_cases he : q + k = j
    · rw [if_pos he, if_pos he.symm, if_pos (by omega)]
      have h2 := turned_get l d (8 * q) (8 * k) (q + k) (by omega)
      rw [List.getElem?_eq_getElem hj] at h2
      rw [Option.some.inj h2, he, UInt8.xor_assoc]
    · rw [if_neg he, if_neg (fun h => he h.symm), turned_get _ _ _ _ _ hjl]
      simp
  · rw [List.getElem?_eq_none (by rw [turned_len]; omega), if_neg (by omega), List.getElem?_eq_none (by rw [turned_len]; omega)]
/-- The bytes of s with a word's bits turned, from byte q on. -/
def turnB (s : ByteArray) (q d : Nat) : ByteArray := ⟨(turned s.data.toList d (8 * q) 32).toArray⟩
theorem turnB_list (s : ByteArray) (q d : Nat) : (turnB s q d).data.toList = turned s.data.toList d (8 * q) 32 := by simp [turnB]
theorem turnB_size (s : ByteArray) (q d : Nat) : (turnB s q d).size = s.size := by rw [← size_list, turnB_list, turned_len, size_list]
/-- A right block with turned bits behind its checksum is no right block. -/
theorem turn_bad (z n m : Nat) (s : ByteArray) (q d : Nat) (hs : blockOk z n s = true) (hd : d < 4294967296) (h0 : d ≠ 0) (h4 : 4 ≤ q) (hq : q + 4 ≤ s.size) : blockOk z m (turnB s q d) = false := by
  simp only [blockOk, Bool.and_eq_true, decide_eq_true_eq] at hs
  obtain ⟨h1, h2, _⟩ := hs
  have hlow : lowAt d (8 * q) 32 % 4294967296 = 0 := by
    unfold lowAt
    rw [show 8 * q = 32 + (8 * q - 32) by omega, Nat.pow_add, show (2 : Nat) ^ 32 = 4294967296 from rfl, Nat.mul_left_comm, Nat.mul_mod_right]
  have hb := burst_bad s.data.toList d (8 * q) hd h0 (by rw [size_list]; omega) (by rw [size_list]; omega) h2 (.inl hlow)
  rw [Bool.eq_false_iff]
  intro h
  simp only [blockOk, Bool.and_eq_true, decide_eq_true_eq] at h
  rw [turnB_list] at h
  exact hb h.2.1
theorem byte_xor_word (b : UInt8) (v : Nat) : bits .xor .u8 (b.toNat : Int) ((v : Int) % 256) = ((b ^^^ (v % 256).toUInt8).toNat : Int) := by
  have e : ((v : Int) % 256) = ((v % 256 : Nat) : Int) := by omega
  have hb := b.toNat_lt
  rw [e, u8_xor_nat _ _ hb (by omega), UInt8.toNat_xor]
  congr 2
  simp only [Nat.toUInt8_eq, UInt8.toNat_ofNat']
  omega
set_option maxRecDepth 100000 in
set_option maxHeartbeats 6400000 in
theorem turned_any (s : ByteArray) (at_ : Int) (d q : Nat) (T : ByteArray) (w : World) (h8 : 8 ≤ s.size) (hs : s.size ≤ 1000000) (hd : d < 4294967296) (hq : (q : Int) = 4 + at_ % ((s.size - 7 : Nat) : Int)) (hT : T = turnB s q d) :
    Calls Tryz.prog 22 #[.string s, .int .i64 at_, .int .u32 d] w fun e w' => e = .returned (.string T) ∧ Below w.heap.size w w' := by
  obtain ⟨p, hp⟩ : ∃ p : Nat, (p : Int) = at_ % ((s.size - 7 : Nat) : Int) := ⟨(at_ % ((s.size - 7 : Nat) : Int)).toNat, by have := Int.emod_nonneg at_ (show ((s.size - 7 : Nat) : Int) ≠ 0 by omega); omega⟩
  have hp2 : p + 8 ≤ s.size := by have := Int.emod_lt_of_pos at_ (show (0 : Int) < ((s.size - 7 : Nat) : Int) by omega); omega
  have hqp : q = 4 + p := by omega
  obtain ⟨n7, hn7⟩ : ∃ n7, n7 = s.size - 7 := ⟨_, rfl⟩
  have hcast : ((s.size : Int) - 7) = (n7 : Int) := by omega
  have HC := fun w => pick_any at_ n7 w (by omega) (by omega)
  rw [← hn7] at hp
  rw [← hp] at HC
  have hlt8 : decide ((s.size : Int) < 8) = false := by simp; omega
  have hlt8' : decide (s.size < 8) = false := by simp; omega
  have hcv0 := fun w => run_bytes_of_string (P := Tryz.prog) w 9 57 5 s Tryz.underlying9 Tryz.underlying57 Tryz.underlying5
  have hq4 : (4 : Int) + (p : Int) = (q : Int) := by omega
  have hqs := Lib.hid (show q + 4 ≤ s.size by omega)
  have r0 := MRow.of_bytes w 5 s (grownCap w s.size 0 5)
  have hb0 : Below w.heap.size w (w.drew.alloc (.cells (bytesRow s (grownCap w s.size 0 5)) 5 ((bytesRow s (grownCap w s.size 0 5)).size, (bytesRow s (grownCap w s.size 0 5)).size + 1))) := (Below.refl _ _).drew.alloc (Nat.le_refl _) _
  have R0 := Lib.hid (show MRow (w.alloc (.cells (bytesRow s (grownCap w s.size 0 5)) 5 ((bytesRow s (grownCap w s.size 0 5)).size, (bytesRow s (grownCap w s.size 0 5)).size + 1))).drew w.heap.size s.data.toList from r0)
  have HB := Lib.hid (show Below w.heap.size w (w.alloc (.cells (bytesRow s (grownCap w s.size 0 5)) 5 ((bytesRow s (grownCap w s.size 0 5)).size, (bytesRow s (grownCap w s.size 0 5)).size + 1))).drew from hb0)
  have z7 : n7 ≤ 1000000 := by omega
  have hq9 : q + 4 ≤ s.size := by omega
  have HTT := Lib.hid hT
  clear r0 hb0 hp hp2 hq hqp hd hT h8 hn7
  go_enter Tryz.func22, Tryz.ntmps22
  go_wp2_with fail
  generalize grownCap w s.size 0 5 = cap at *
  obtain ⟨w1, hw1⟩ : ∃ w1, w1 = (w.alloc (.cells (bytesRow s cap) 5 ((bytesRow s cap).size, (bytesRow s cap).size + 1))).drew := ⟨_, rfl⟩
  rw [← hw1] at R0 HB ⊢
  clear hw1 hcv0
  refine (HC _).mono ?_
  rintro e wb ⟨rfl, rfl⟩
  go_wp2_with fail
  refine wp_loop_rounds 5 ?_
  have l0 := turned_len s.data.toList d (8 * q) (8 * 0)
  rw [size_list] at l0
  replace R0 := Lib.hid (show MRow w1 w.heap.size (turned s.data.toList d (8 * q) (8 * 0)) by rw [Nat.mul_zero, turned_zero]; exact R0.out)
  have hj0 : q + 0 < (turned s.data.toList d (8 * q) (8 * 0)).length := by rw [l0]; exact Nat.lt_of_lt_of_le (Nat.add_lt_add_left (by decide) q) hqs.out
  have c0 := R0.out.cell hj0
  have f0 := R0.out.frozen hj0
  have tb0 := turned_byte s.data.toList d q 0 hj0
  have n0 := R0.out.set_ hj0 ((turned s.data.toList d (8 * q) (8 * 0))[q + 0] ^^^ (d / 2 ^ (8 * 0) % 256).toUInt8)
  rw [← tb0] at n0
  obtain ⟨b0, hb0⟩ : ∃ b, b = (turned s.data.toList d (8 * q) (8 * 0))[q + 0] := ⟨_, rfl⟩
  rw [← hb0] at c0 n0
  obtain ⟨e0, he0⟩ : ∃ e : UInt8, e = b0 ^^^ (d / 2 ^ (8 * 0) % 256).toUInt8 := ⟨_, rfl⟩
  rw [← he0] at n0
  have y0 := byte_xor_word b0 (d / 2 ^ (8 * 0))
  rw [← he0] at y0
  have N0 := Lib.hid n0
  clear n0 hj0 tb0 hb0 he0
  simp at y0 c0 f0
  rw [rounds_succ]
  go_wp2_with fail
  obtain ⟨wn0, hwn0⟩ : ∃ x, x = w1.setCell ⟨w.heap.size, q, none⟩ (.int .u8 (e0.toNat : Int)) := ⟨_, rfl⟩
  rw [← hwn0]
  have R1 := Lib.hid (show MRow wn0 w.heap.size _ by rw [hwn0]; exact N0.out)
  have l1 := turned_len s.data.toList d (8 * q) (8 * (0 + 1))
  rw [size_list] at l1
  replace HB := Lib.hid (show Below w.heap.size w wn0 by rw [hwn0]; exact HB.out.setCell (Nat.le_refl _) _)
  clear hwn0 c0 f0 y0 N0
  have hj1 : q + 1 < (turned s.data.toList d (8 * q) (8 * 1)).length := by rw [l1]; exact Nat.lt_of_lt_of_le (Nat.add_lt_add_left (by decide) q) hqs.out
  have c1 := R1.out.cell hj1
  have f1 := R1.out.frozen hj1
  have tb1 := turned_byte s.data.toList d q 1 hj1
  have n1 := R1.out.set_ hj1 ((turned s.data.toList d (8 * q) (8 * 1))[q + 1] ^^^ (d / 2 ^ (8 * 1) % 256).toUInt8)
  rw [← tb1] at n1
  obtain ⟨b1, hb1⟩ : ∃ b, b = (turned s.data.toList d (8 * q) (8 * 1))[q + 1] := ⟨_, rfl⟩
  rw [← hb1] at c1 n1
  obtain ⟨e1, he1⟩ : ∃ e : UInt8, e = b1 ^^^ (d / 2 ^ (8 * 1) % 256).toUInt8 := ⟨_, rfl⟩
  rw [← he1] at n1
  have y1 := byte_xor_word b1 (d / 2 ^ (8 * 1))
  rw [← he1] at y1
  have N1 := Lib.hid n1
  clear n1 hj1 tb1 hb1 he1
  simp at y1 c1 f1
  rw [rounds_succ]
  go_wp2_with fail
  obtain ⟨wn1, hwn1⟩ : ∃ x, x = wn0.setCell ⟨w.heap.size, q + 1, none⟩ (.int .u8 (e1.toNat : Int)) := ⟨_, rfl⟩
  rw [← hwn1]
  have R2 := Lib.hid (show MRow wn1 w.heap.size _ by rw [hwn1]; exact N1.out)
  have l2 := turned_len s.data.toList d (8 * q) (8 * (1 + 1))
  rw [size_list] at l2
  replace HB := Lib.hid (show Below w.heap.size w wn1 by rw [hwn1]; exact HB.out.setCell (Nat.le_refl _) _)
  clear hwn1 c1 f1 y1 N1
  have hj2 : q + 2 < (turned s.data.toList d (8 * q) (8 * 2)).length := by rw [l2]; exact Nat.lt_of_lt_of_le (Nat.add_lt_add_left (by decide) q) hqs.out
  have c2 := R2.out.cell hj2
  have f2 := R2.out.frozen hj2
  have tb2 := turned_byte s.data.toList d q 2 hj2
  have n2 := R2.out.set_ hj2 ((turned s.data.toList d (8 * q) (8 * 2))[q + 2] ^^^ (d / 2 ^ (8 * 2) % 256).toUInt8)
  rw [← tb2] at n2
  obtain ⟨b2, hb2⟩ : ∃ b, b = (turned s.data.toList d (8 * q) (8 * 2))[q + 2] := ⟨_, rfl⟩
  rw [← hb2] at c2 n2
  obtain ⟨e2, he2⟩ : ∃ e : UInt8, e = b2 ^^^ (d / 2 ^ (8 * 2) % 256).toUInt8 := ⟨_, rfl⟩
  rw [← he2] at n2
  have y2 := byte_xor_word b2 (d / 2 ^ (8 * 2))
  rw [← he2] at y2
  have N2 := Lib.hid n2
  clear n2 hj2 tb2 hb2 he2
  simp at y2 c2 f2
  rw [rounds_succ]
  go_wp2_with fail
  obtain ⟨wn2, hwn2⟩ : ∃ x, x = wn1.setCell ⟨w.heap.size, q + 2, none⟩ (.int .u8 (e2.toNat : Int)) := ⟨_, rfl⟩
  rw [← hwn2]
  have R3 := Lib.hid (show MRow wn2 w.heap.size _ by rw [hwn2]; exact N2.out)
  have l3 := turned_len s.data.toList d (8 * q) (8 * (2 + 1))
  rw [size_list] at l3
  replace HB := Lib.hid (show Below w.heap.size w wn2 by rw [hwn2]; exact HB.out.setCell (Nat.le_refl _) _)
  clear hwn2 c2 f2 y2 N2
  have hj3 : q + 3 < (turned s.data.toList d (8 * q) (8 * 3)).length := by rw [l3]; exact Nat.lt_of_lt_of_le (Nat.add_lt_add_left (by decide) q) hqs.out
  have c3 := R3.out.cell hj3
  have f3 := R3.out.frozen hj3
  have tb3 := turned_byte s.data.toList d q 3 hj3
  have n3 := R3.out.set_ hj3 ((turned s.data.toList d (8 * q) (8 * 3))[q + 3] ^^^ (d / 2 ^ (8 * 3) % 256).toUInt8)
  rw [← tb3] at n3
  obtain ⟨b3, hb3⟩ : ∃ b, b = (turned s.data.toList d (8 * q) (8 * 3))[q + 3] := ⟨_, rfl⟩
  rw [← hb3] at c3 n3
  obtain ⟨e3, he3⟩ : ∃ e : UInt8, e = b3 ^^^ (d / 2 ^ (8 * 3) % 256).toUInt8 := ⟨_, rfl⟩
  rw [← he3] at n3
  have y3 := byte_xor_word b3 (d / 2 ^ (8 * 3))
  rw [← he3] at y3
  have N3 := Lib.hid n3
  clear n3 hj3 tb3 hb3 he3
  simp at y3 c3 f3
  rw [rounds_succ]
  go_wp2_with fail
  obtain ⟨wn3, hwn3⟩ : ∃ x, x = wn2.setCell ⟨w.heap.size, q + 3, none⟩ (.int .u8 (e3.toNat : Int)) := ⟨_, rfl⟩
  rw [← hwn3]
  have R4 := Lib.hid (show MRow wn3 w.heap.size _ by rw [hwn3]; exact N3.out)
  have l4 := turned_len s.data.toList d (8 * q) (8 * (3 + 1))
  rw [size_list] at l4
  replace HB := Lib.hid (show Below w.heap.size w wn3 by rw [hwn3]; exact HB.out.setCell (Nat.le_refl _) _)
  clear hwn3 c3 f3 y3 N3
  rw [rounds_succ]
  have hcv := run_string_reads wn3 57 9 5 cap Tryz.underlying57 Tryz.underlying5 Tryz.underlying9 R4.out.reads
  rw [l4] at hcv
  rw [show (⟨(turned s.data.toList d (8 * q) (8 * (3 + 1))).toArray⟩ : ByteArray) = T from HTT.out.symm] at hcv
  go_wp2_with fail
  go_ret
  exact ⟨rfl, HB.out⟩
end Go.Proofs.YtabhhccdbfjigaaGreat
