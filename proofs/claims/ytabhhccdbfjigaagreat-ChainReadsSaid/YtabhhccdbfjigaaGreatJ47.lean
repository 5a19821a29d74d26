/-
  Texts that the main proof rests on, put together: ChLaw, ChReads. No statement is proved here.
-/
import Derived.Test.YtabhhccdbfjigaaGreatJ46
import Derived.Test.YtabhhccdbfjigaaGreatJ29
import Derived.Test.YtabhhccdbfjigaaGreatJ28
import Derived.Deep.CutRange
namespace Go.Proofs.YtabhhccdbfjigaaGreat
open Go.RowKit
open Go.Lib hiding intOf
set_option linter.unusedVariables false
set_option linter.unusedSimpArgs false
attribute [local go_sem ↓] Go.wp_at_zero Go.wp_at_succ

/-- The pages that a call makes, none where it refuses; its error. -/
def pgsL (o : Option (List Pg)) : List Pg := o.getD []
def pgsE (o : Option (List Pg)) : Int := if o.isSome then 0 else 2
theorem pgspost_any {o : Option (List Pg)} {w : World} {e : Ending} {w' : World} (h : PgsPost o w e w') : ∃ A n c, e = .returned (.tuple #[.slice A n c, .int .i64 (pgsE o)]) ∧ Reads w' w'.heap.size 6 A n (pgcs (pgsL o)) ∧ Below w.heap.size w w' := by
  cases o with
  | none => obtain ⟨rfl, hb⟩ := h; exact ⟨none, 0, 0, rfl, Reads.none_, hb⟩
  | some L => obtain ⟨A, n, c, rfl, hr, hb⟩ := h; exact ⟨A, n, c, rfl, hr, hb⟩
theorem listV_bad {size : Int} {s : ByteArray} {head : Nat} (h : goodSize size = false) : ldNs (listV size s head) = [] ∧ ldPs (listV size s head) = [] := by
  have ha : ∀ k, along size s 6 head k = ([], head) := fun k => by
    induction k with
    | zero => rfl
    | succ k ih => simp only [along, ih, goes_bad (readAt_bad h)]
  have hc : chainL size s 6 head = [] := by rw [chainL, ha]
  unfold listV
  rw [hc]
  split
  · exact ⟨rfl, rfl⟩
  · exact ⟨rfl, rfl⟩
theorem listpost_any {size : Int} {s : ByteArray} {head : Nat} {w : World} {e : Ending} {w' : World} (h : ListPost size (listV size s head) w e w') : ∃ A n c A2 n2 c2, e = .returned (.tuple #[.slice A n c, .slice A2 n2 c2, .int .i64 (ldErr size (listV size s head))]) ∧ Reads w' w'.heap.size 1 A n (ucells (ldNs (listV size s head))) ∧ Reads w' w'.heap.size 1 A2 n2 (ucells (ldPs (listV size s head))) ∧ Below w.heap.size w w' := by
  unfold ListPost at h
  rcases hg : goodSize size with _ | _
  · rw [hg, if_neg (by decide)] at h
    obtain ⟨rfl, hb⟩ := h
    obtain ⟨h1, h2⟩ := listV_bad (s := s) (head := head) hg
    rw [h1, h2]
    exact ⟨none, 0, 0, none, 0, 0, by rw [ldErr, hg] <;> rfl, Reads.none_, Reads.none_, hb⟩
  · rw [hg, if_pos rfl] at h
    exact h
theorem str_eqleq (a : ByteArray) (w : World) : (binOp .eql 9 (.string a) (.string a)).run Tryz.prog w = .ok (.bool true) w := by
  simp [go_sem]
/-- A page of a value, by its place. -/
theorem on_nth {z tx : Nat} {ps : List Nat} {v : ByteArray} {L : List Pg} (h : onL z tx ps v = some L) {i : Nat} (hi : i < ps.length) : ∃ bd, L[i]? = some ⟨5, (min (z - 24) (v.size - i * (z - 24)) : Nat), nthU ps i, nthU ps (i + 1), tx, bd⟩ := by
  obtain ⟨h1, h2, h3, h4, h5, h6, hL⟩ := onL_some h
  have hr : 0 < z - 24 := by obtain ⟨z', hz, hz1, _⟩ := good_nat h1; omega
  obtain ⟨g1, _⟩ := on_part h hi
  refine ⟨overBody z (piece (z - 24) v i), ?_⟩
  rw [hL, List.getElem?_map, List.getElem?_range hi, Option.map_some]
  unfold onPg
  rw [g1, piece_size hr (by rw [h4]; exact hi), nextL_is]
theorem on_len {z tx : Nat} {ps : List Nat} {v : ByteArray} {L : List Pg} (h : onL z tx ps v = some L) : L.length = ps.length := by
  obtain ⟨_, _, _, _, _, _, hL⟩ := onL_some h
  rw [hL]
  simp
set_option maxRecDepth 100000 in
set_option maxHeartbeats 6400000 in
theorem lives11_any (w : World) : Calls Tryz.prog 5 #[] w fun e w' => e = .returned (.bool true) ∧ Below w.heap.size w w' := by
  have hT := fun w => times_any ⟨#[118]⟩ 105 w (by decide) (by decide)
  obtain ⟨V, hV⟩ : ∃ V, V = reps ⟨#[118]⟩ 105 := ⟨_, rfl⟩
  have hVs : V.size = 105 := by rw [hV, reps_size]; rfl
  rw [← hV] at hT
  have hne : needN 128 (V.size : Int) = 2 := by rw [hVs]; rfl
  have hpl : (partsL 128 V).length = (runW 7 2).length := by rw [parts_need, hne]; rfl
  have ho : pagesL 128 3 7 V = some ((List.range 2).map (onPg 128 3 (runW 7 2) V)) := by
    unfold pagesL
    rw [hne]
    exact onL_yes (size := 128) rfl (by omega) (by omega) hpl (by decide) (by decide)
  have hP := fun w => hpages_any 128 3 7 V w (by decide) (by omega) (fun _ => by rw [hne]; decide)
  obtain ⟨L, hL⟩ : ∃ L, L = (List.range 2).map (onPg 128 3 (runW 7 2) V) := ⟨_, rfl⟩
  rw [← hL] at ho
  have ho2 : onL ((128 : Nat) : Int) 3 (runW 7 2) V = some L := by
    unfold pagesL at ho
    rw [hne] at ho
    exact ho
  obtain ⟨b0, h0⟩ := on_nth ho2 (i := 0) (by decide)
  obtain ⟨b1, h1⟩ := on_nth ho2 (i := 1) (by decide)
  have hlen : L.length = 2 := on_len ho2
  rw [hVs] at h0 h1
  rw [ho] at hP
  have H0 := Lib.hid (show L[0]? = some ⟨5, 104, 7, 8, 3, b0⟩ from h0)
  have H1 := Lib.hid (show L[1]? = some ⟨5, 1, 8, 0, 3, b1⟩ from h1)
  have HLn := Lib.hid hlen
  clear h0 h1 hlen ho ho2 hL hpl hne hVs hV
  have HB := Lib.hid (Below.refl w.heap.size w)
  go_enter Tryz.func5, Tryz.ntmps5
  go_wp2_with fail
  refine (hT _).mono ?_
  rintro e w1 ⟨rfl, rfl⟩
  clear hT
  go_wp2_with fail
  refine (hP _).mono ?_
  rintro e w2 ⟨A, n, c, rfl, hr, hb⟩
  have HR := Lib.hid hr
  have hn : n = 2 := by have := pgcs_len hr; rw [HLn.out] at this; omega
  subst hn
  replace HB := Lib.hid (HB.out.trans (hb.mono HB.out.size))
  clear hb hr hP
  obtain ⟨ad, x, rfl, _, hx, hc⟩ := page_at HR.out (show 0 < 2 by decide)
  rw [H0.out] at hx
  injection hx with hx
  subst hx
  obtain ⟨d0, d1, d2, d3, d4, d5⟩ := hc
  obtain ⟨e0, e1, e2, e3, e4, e5⟩ := pgcell HR.out (show 1 < 2 by decide) H1.out
  simp [Addr.add] at d1 d2 d3 e1 e2 e3
  clear d0 d4 d5 e0 e4 e5
  go_wp2_with fail
  go_ret
  exact ⟨rfl, HB.out⟩
end Go.Proofs.YtabhhccdbfjigaaGreat
namespace Go.Proofs.YtabhhccdbfjigaaGreat
open Go.RowKit
open Go.Lib hiding intOf
set_option linter.unusedVariables false
set_option linter.unusedSimpArgs false
attribute [local go_sem ↓] Go.wp_at_zero Go.wp_at_succ

theorem num_front_len (L : List Pg) (l : List Nat) (h : numV L = some l) : l.length ≤ L.length * 1018 := by
  have key : ∀ (k : Nat) (l : List Nat), numV (L.take k) = some l → l.length ≤ k * 1018 := by
    intro k
    induction k with
    | zero => intro l h; simp [numV] at h; subst h; simp
    | succ k ih =>
      intro l h
      by_cases hk : k < L.length
      · rw [take_snoc_at (List.getElem?_eq_getElem hk), numV_snoc] at h
        split at h
        · rename_i a b ha hb
          injection h with h
          subst h
          have h1 := ih a ha
          have h2 := free_len hb
          rw [List.length_append]
          omega
        · cases h
      · rw [List.take_of_length_le (by omega)] at h
        exact Nat.le_trans (ih l (by rw [List.take_of_length_le (by omega)]; exact h)) (Nat.mul_le_mul_right _ (Nat.le_succ k))
  exact key L.length l (by rw [List.take_length]; exact h)
theorem chain_short (size : Int) (s : ByteArray) (kd : Int) (head : Nat) : (chainL size s kd head).length ≤ s.size := by
  have h1 := fresh_le (along_fresh (size := size) (s := s) (kd := kd) (head := head) s.size)
  unfold chainL
  exact Nat.le_trans h1 (Nat.div_le_self _ _)
theorem num_short (size : Int) (s : ByteArray) (head : Nat) : (ldNs (listV size s head)).length ≤ (chainL size s 6 head).length * 1018 := by
  unfold listV
  split
  · split
    · rename_i l hl
      split
      · exact num_front_len _ _ hl
      · simp [ldNs]
    · simp [ldNs]
  · simp [ldNs]

set_option maxRecDepth 100000 in
set_option maxHeartbeats 12800000 in
theorem chreads_far (size : Int) (s : ByteArray) (head : Nat) (len kd : Int) (w : World) (h : 6000 < s.size) :
    Calls Tryz.prog 3 #[.int .i64 size, .string s, .int .u32 head, .int .i64 len, .int .i64 kd] w fun e w' => e = .returned (.bool true) ∧ Below w.heap.size w w' := by
  have h1 : decide ((6000 : Int) < (s.size : Int)) = true := by simp; omega
  have h2 : decide (6000 < s.size) = true := by simp; omega
  clear h
  have HB := Lib.hid (Below.refl w.heap.size w)
  go_enter Tryz.func3, Tryz.ntmps3
  go_wp2_with fail
  refine (lives11_any _).mono ?_
  rintro e w1 ⟨rfl, hb⟩
  replace HB := Lib.hid (HB.out.trans (hb.mono HB.out.size))
  clear hb
  go_wp2_with fail
  go_ret
  exact ⟨rfl, HB.out⟩
set_option maxRecDepth 100000 in
set_option maxHeartbeats 12800000 in
theorem chreads_main (size : Int) (s : ByteArray) (head : Nat) (len kd : Int) (w : World) (hs : ¬ 6000 < s.size) (hh : head < 4294967296) (hl9 : -9223372036854775808 ≤ len ∧ len ≤ 9223372036854775807) :
    Calls Tryz.prog 3 #[.int .i64 size, .string s, .int .u32 head, .int .i64 len, .int .i64 kd] w fun e w' => e = .returned (.bool true) ∧ Below w.heap.size w w' := by
  have h1 : decide ((6000 : Int) < (s.size : Int)) = false := by simp; omega
  have h2 : decide (6000 < s.size) = false := by simp; omega
  have HRc := fun w => hread_any size s head len w (by omega) hh hl9
  have HRr := fun w => rread11_any size s head len w (by omega) hh
  have HLc := fun w => (hlist_any size s head w (by omega) hh).mono fun _ _ h => listpost_any h
  have HLr := fun w => (rlist11_any size s head w (by omega) hh).mono fun _ _ h => listpost_any h
  have HKc := fun w => hlinks_any size s head kd w (by omega) hh
  have HKr := fun w => rfollow_any size s head kd w (by omega) hh
  obtain ⟨V, hV⟩ : ∃ x, x = rdStr (readV size s head len) := ⟨_, rfl⟩
  obtain ⟨E, hE⟩ : ∃ x, x = rdErr size (readV size s head len) := ⟨_, rfl⟩
  obtain ⟨PS, hPS⟩ : ∃ x, x = rdPs (readV size s head len) := ⟨_, rfl⟩
  rw [← hV, ← hE, ← hPS] at HRc HRr
  obtain ⟨F, hF⟩ : ∃ x, x = ldErr size (listV size s head) := ⟨_, rfl⟩
  obtain ⟨NS, hNS⟩ : ∃ x, x = ldNs (listV size s head) := ⟨_, rfl⟩
  obtain ⟨QS, hQS⟩ : ∃ x, x = ldPs (listV size s head) := ⟨_, rfl⟩
  rw [← hF, ← hNS, ← hQS] at HLc HLr
  obtain ⟨LK, hLK⟩ : ∃ x, x = followL size s kd head := ⟨_, rfl⟩
  rw [← hLK] at HKc HKr
  have hps9 : PS.length ≤ 1000000 := by
    rw [hPS]
    unfold readV
    have := chain_short size s 5 head
    split
    · split
      · split
        · simp [rdPs]; omega
        · simp [rdPs]
      · simp [rdPs]
    · simp [rdPs]
  have hqs9 : QS.length ≤ 1000000 := by
    rw [hQS]
    unfold listV
    have := chain_short size s 6 head
    split
    · split
      · split
        · simp [ldPs]; omega
        · simp [ldPs]
      · simp [ldPs]
    · simp [ldPs]
  have hlk9 : LK.length ≤ 1000001 := by
    rw [hLK]
    unfold followL
    have := chain_short size s kd head
    rw [List.length_append, List.length_map]
    split <;> simp <;> omega
  have hns9 : NS.length ≤ 1018000000 := by
    rw [hNS]
    have := chain_short size s 6 head
    have h3 := num_short size s head
    omega
  have HPS := Lib.hid hps9
  have HQS := Lib.hid hqs9
  have HLK := Lib.hid hlk9
  have HNS := Lib.hid hns9
  have heq := fun w => str_eqleq V w
  clear hV hE hPS hF hNS hQS hLK hs hh hps9 hqs9 hlk9 hns9
  have HB := Lib.hid (Below.refl w.heap.size w)
  go_enter Tryz.func3, Tryz.ntmps3
  go_wp2_with fail
  refine (lives11_any _).mono ?_
  rintro e w1 ⟨rfl, hb⟩
  replace HB := Lib.hid (HB.out.trans (hb.mono HB.out.size))
  clear hb
  go_wp2_with fail
  refine (HRc _).mono ?_
  rintro e w2 ⟨A2, n2, c2, rfl, hr2, hb⟩
  replace HB := Lib.hid (HB.out.trans (hb.mono HB.out.size))
  have R2 := Lib.hid hr2
  clear hb hr2 HRc
  go_wp2_with fail
  refine (HRr _).mono ?_
  rintro e w3 ⟨A3, n3, c3, rfl, hr3, hb⟩
  replace HB := Lib.hid (HB.out.trans (hb.mono HB.out.size))
  replace R2 := Lib.hid (R2.out.below hb)
  have R3 := Lib.hid hr3
  have S2 := Lib.hid hb.size
  clear hb hr3 HRr
  go_wp2_with fail
  refine (HLc _).mono ?_
  rintro e w4 ⟨A4, n4, c4, A5, n5, c5, rfl, hr4, hr5, hb⟩
  replace HB := Lib.hid (HB.out.trans (hb.mono HB.out.size))
  replace R2 := Lib.hid (R2.out.below (hb.mono S2.out))
  replace R3 := Lib.hid (R3.out.below hb)
  have R4 := Lib.hid hr4
  have R5 := Lib.hid hr5
  have S4 := Lib.hid hb.size
  clear hb hr4 hr5 HLc
  go_wp2_with fail
  refine (HLr _).mono ?_
  rintro e w5 ⟨A6, n6, c6, A7, n7, c7, rfl, hr6, hr7, hb⟩
  replace HB := Lib.hid (HB.out.trans (hb.mono HB.out.size))
  replace R2 := Lib.hid (R2.out.below (hb.mono (Nat.le_trans S2.out S4.out)))
  replace R3 := Lib.hid (R3.out.below (hb.mono S4.out))
  replace R4 := Lib.hid (R4.out.below hb)
  replace R5 := Lib.hid (R5.out.below hb)
  have R6 := Lib.hid hr6
  have R7 := Lib.hid hr7
  have S5 := Lib.hid hb.size
  clear hr6 hr7 HLr
  replace R2 := Lib.hid (R2.out.more (Nat.le_trans S2.out (Nat.le_trans S4.out hb.size)))
  replace R3 := Lib.hid (R3.out.more (Nat.le_trans S4.out hb.size))
  replace R4 := Lib.hid (R4.out.more hb.size)
  replace R5 := Lib.hid (R5.out.more hb.size)
  clear hb
  go_wp2_with fail
  refine (HKc _).mono ?_
  rintro e w6 ⟨A8, n8, c8, rfl, hr8, hb⟩
  replace HB := Lib.hid (HB.out.trans (hb.mono HB.out.size))
  replace R2 := Lib.hid (R2.out.below hb)
  replace R3 := Lib.hid (R3.out.below hb)
  replace R4 := Lib.hid (R4.out.below hb)
  replace R5 := Lib.hid (R5.out.below hb)
  replace R6 := Lib.hid (R6.out.below hb)
  replace R7 := Lib.hid (R7.out.below hb)
  have R8 := Lib.hid hr8
  clear hb hr8 HKc
  obtain rfl : n2 = n3 := (ulen R2.out).symm.trans (ulen R3.out)
  obtain rfl : n4 = n6 := (ulen R4.out).symm.trans (ulen R6.out)
  obtain rfl : n5 = n7 := (ulen R5.out).symm.trans (ulen R7.out)
  have hn2 : n2 ≤ maxLen := by have h := HPS.out; rw [ulen R2.out] at h; unfold maxLen; omega
  have hn4 : n4 ≤ maxLen := by have h := HNS.out; rw [ulen R4.out] at h; unfold maxLen; omega
  have hn5 : n5 ≤ maxLen := by have h := HQS.out; rw [ulen R5.out] at h; unfold maxLen; omega
  have hn8 : n8 ≤ maxLen := by have h := HLK.out; rw [lkc_len R8.out] at h; unfold maxLen; omega
  have M2 := Lib.hid hn2
  have M4 := Lib.hid hn4
  have M5 := Lib.hid hn5
  have M8 := Lib.hid hn8
  clear hn2 hn4 hn5 hn8
  go_wp2_with fail
  refine (sameU_yes A2 n2 c2 A3 c3 PS _ R2.out R3.out M2.out).mono ?_
  rintro e w7 ⟨rfl, q7, hq⟩
  replace HB := Lib.hid (show Below w.heap.size w w7 by rw [hq]; exact below_drewN HB.out q7)
  have R4' := Lib.hid (show Reads w7 w5.heap.size 1 A4 n4 (ucells NS) by rw [hq]; exact R4.out.drewN q7)
  have R6' := Lib.hid (show Reads w7 w5.heap.size 1 A6 n4 (ucells NS) by rw [hq]; exact R6.out.drewN q7)
  have R5' := Lib.hid (show Reads w7 w5.heap.size 1 A5 n5 (ucells QS) by rw [hq]; exact R5.out.drewN q7)
  have R7' := Lib.hid (show Reads w7 w5.heap.size 1 A7 n5 (ucells QS) by rw [hq]; exact R7.out.drewN q7)
  have R8' := Lib.hid (show Reads w7 w7.heap.size 7 A8 n8 (lkc LK) by rw [hq]; exact R8.out.drewN q7)
  clear hq R2 R3 R4 R5 R6 R7 R8
  go_wp2_with fail
  refine (sameU_yes A4 n4 c4 A6 c6 NS _ R4'.out R6'.out M4.out).mono ?_
  rintro e w8 ⟨rfl, q8, hq⟩
  replace HB := Lib.hid (show Below w.heap.size w w8 by rw [hq]; exact below_drewN HB.out q8)
  have R5 := Lib.hid (show Reads w8 w5.heap.size 1 A5 n5 (ucells QS) by rw [hq]; exact R5'.out.drewN q8)
  have R7 := Lib.hid (show Reads w8 w5.heap.size 1 A7 n5 (ucells QS) by rw [hq]; exact R7'.out.drewN q8)
  have R8 := Lib.hid (show Reads w8 w8.heap.size 7 A8 n8 (lkc LK) by rw [hq]; exact R8'.out.drewN q8)
  clear hq R4' R5' R6' R7' R8'
  go_wp2_with fail
  refine (sameU_yes A5 n5 c5 A7 c7 QS _ R5.out R7.out M5.out).mono ?_
  rintro e w9 ⟨rfl, q9, hq⟩
  replace HB := Lib.hid (show Below w.heap.size w w9 by rw [hq]; exact below_drewN HB.out q9)
  have R9 := Lib.hid (show Reads w9 w9.heap.size 7 A8 n8 (lkc LK) by rw [hq]; exact R8.out.drewN q9)
  clear hq R5 R7 R8
  go_wp2_with fail
  refine (HKr _).mono ?_
  rintro e wa ⟨Aa, na, ca, rfl, hra, hb⟩
  replace HB := Lib.hid (HB.out.trans (hb.mono HB.out.size))
  replace R9 := Lib.hid (R9.out.below hb)
  have Ra := Lib.hid hra
  clear hb hra HKr
  obtain rfl : n8 = na := (lkc_len R9.out).symm.trans (lkc_len Ra.out)
  go_wp2_with fail
  refine (sameLk_yes A8 n8 c8 Aa ca LK _ R9.out Ra.out M8.out).mono ?_
  rintro e wb ⟨rfl, qb, hq⟩
  replace HB := Lib.hid (show Below w.heap.size w wb by rw [hq]; exact below_drewN HB.out qb)
  clear hq
  go_wp2_with fail
  go_ret
  exact ⟨rfl, HB.out⟩
theorem chreads_walk (size : Int) (s : ByteArray) (head0 len kd : Int) (w : World) (_h0 : (Lit.int .i64 size).wf = true) (_hs : s.size ≤ maxLen) (hh : (Lit.int .u32 head0).wf = true) (_h3 : (Lit.int .i64 len).wf = true) (_h4 : (Lit.int .i64 kd).wf = true) :
    Calls Tryz.prog 3 #[.int .i64 size, .string s, .int .u32 head0, .int .i64 len, .int .i64 kd] w fun e w' => e = .returned (.bool true) ∧ Below w.heap.size w w' := by
  obtain ⟨head, rfl⟩ := Int.eq_ofNat_of_zero_le (lit_u32' hh).1
  have hh2 := (lit_u32' hh).2
  by_cases h1 : 6000 < s.size
  · exact chreads_far size s head len kd w h1
  · exact chreads_main size s head len kd w h1 (by omega) (lit_i64' _h3)
end Go.Proofs.YtabhhccdbfjigaaGreat
