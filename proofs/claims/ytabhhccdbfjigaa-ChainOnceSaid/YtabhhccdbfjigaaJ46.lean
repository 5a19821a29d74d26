/-
  Texts that the main proof rests on, put together: ChLaw, CnMath5. No statement is proved here.
-/
import Derived.Test.YtabhhccdbfjigaaJ45
import Derived.Test.YtabhhccdbfjigaaJ26
import Derived.Test.YtabhhccdbfjigaaJ24
import Derived.Test.YtabhhccdbfjigaaJ40
namespace Go.Proofs.Ytabhhccdbfjigaa
open Go.RowKit
open Go.Lib hiding intOf
set_option linter.unusedVariables false
set_option linter.unusedSimpArgs false
attribute [local go_sem ↓] Go.wp_at_zero Go.wp_at_succ

/-- The pages that a call makes, none where it refuses; its error. -/
def pgsL (o : Option (List Pg)) : List Pg := o.getD []
def pgsE (o : Option (List Pg)) : Int := if o.isSome then 0 else 2
theorem pgspost_any {o : Option (List Pg)} {w : World} {e : Ending} {w' : World} (h : PgsPost o w e w') : ∃ A n c, e = .returned (.tuple #[.slice A n c, .int .i64 (pgsE o)]) ∧ Reads w' w'.heap.size 6 A n (pgcs (pgsL o)) ∧ Below w.heap.size w w' := by
  cases o with
  | none => obtain ⟨rfl, hb⟩ := h; exact ⟨none, 0, 0, rfl, Reads.none_, hb⟩
  | some L => obtain ⟨A, n, c, rfl, hr, hb⟩ := h; exact ⟨A, n, c, rfl, hr, hb⟩
theorem listV_bad {size : Int} {s : ByteArray} {head : Nat} (h : goodSize size = false) : ldNs (listV size s head) = [] ∧ ldPs (listV size s head) = [] := by
  have ha : ∀ k, along size s 6 head k = ([], head) := fun k => by
    induction k with
    | zero => rfl
    | succ k ih => simp only [along, ih, goes_bad (readAt_bad h)]
  have hc : chainL size s 6 head = [] := by rw [chainL, ha]
  unfold listV
  rw [hc]
  split
  · exact ⟨rfl, rfl⟩
  · exact ⟨rfl, rfl⟩
theorem listpost_any {size : Int} {s : ByteArray} {head : Nat} {w : World} {e : Ending} {w' : World} (h : ListPost size (listV size s head) w e w') : ∃ A n c A2 n2 c2, e = .returned (.tuple #[.slice A n c, .slice A2 n2 c2, .int .i64 (ldErr size (listV size s head))]) ∧ Reads w' w'.heap.size 1 A n (ucells (ldNs (listV size s head))) ∧ Reads w' w'.heap.size 1 A2 n2 (ucells (ldPs (listV size s head))) ∧ Below w.heap.size w w' := by
  unfold ListPost at h
  rcases hg : goodSize size with _ | _
  · rw [hg, if_neg (by decide)] at h
    obtain ⟨rfl, hb⟩ := h
    obtain ⟨h1, h2⟩ := listV_bad (s := s) (head := head) hg
    rw [h1, h2]
    exact ⟨none, 0, 0, none, 0, 0, by rw [ldErr, hg] <;> rfl, Reads.none_, Reads.none_, hb⟩
  · rw [hg, if_pos rfl] at h
    exact h
theorem str_eqleq (a : ByteArray) (w : World) : (binOp .eql 9 (.string a) (.string a)).run Try.prog w = .ok (.bool true) w := by
  simp [go_sem]
/-- A page of a value, by its place. -/
theorem on_nth {z tx : Nat} {ps : List Nat} {v : ByteArray} {L : List Pg} (h : onL z tx ps v = some L) {i : Nat} (hi : i < ps.length) : ∃ bd, L[i]? = some ⟨5, (min (z - 24) (v.size - i * (z - 24)) : Nat), nthU ps i, nthU ps (i + 1), tx, bd⟩ := by
  obtain ⟨h1, h2, h3, h4, h5, h6, hL⟩ := onL_some h
  have hr : 0 < z - 24 := by obtain ⟨z', hz, hz1, _⟩ := good_nat h1; omega
  obtain ⟨g1, _⟩ := on_part h hi
  refine ⟨overBody z (piece (z - 24) v i), ?_⟩
  rw [hL, List.getElem?_map, List.getElem?_range hi, Option.map_some]
  unfold onPg
  rw [g1, piece_size hr (by rw [h4]; exact hi), nextL_is]
theorem on_len {z tx : Nat} {ps : List Nat} {v : ByteArray} {L : List Pg} (h : onL z tx ps v = some L) : L.length = ps.length := by
  obtain ⟨_, _, _, _, _, _, hL⟩ := onL_some h
  rw [hL]
  simp
set_option maxRecDepth 100000 in
set_option maxHeartbeats 6400000 in
theorem lives11_any (w : World) : Calls Try.prog 7 #[] w fun e w' => e = .returned (.bool true) ∧ Below w.heap.size w w' := by
  have hT := fun w => times_any ⟨#[118]⟩ 105 w (by decide) (by decide)
  obtain ⟨V, hV⟩ : ∃ V, V = reps ⟨#[118]⟩ 105 := ⟨_, rfl⟩
  have hVs : V.size = 105 := by rw [hV, reps_size]; rfl
  rw [← hV] at hT
  have hne : needN 128 (V.size : Int) = 2 := by rw [hVs]; rfl
  have hpl : (partsL 128 V).length = (runW 7 2).length := by rw [parts_need, hne]; rfl
  have ho : pagesL 128 3 7 V = some ((List.range 2).map (onPg 128 3 (runW 7 2) V)) := by
    unfold pagesL
    rw [hne]
    exact onL_yes (size := 128) rfl (by omega) (by omega) hpl (by decide) (by decide)
  have hP := fun w => hpages_any 128 3 7 V w (by decide) (by omega) (fun _ => by rw [hne]; decide)
  obtain ⟨L, hL⟩ : ∃ L, L = (List.range 2).map (onPg 128 3 (runW 7 2) V) := ⟨_, rfl⟩
  rw [← hL] at ho
  have ho2 : onL ((128 : Nat) : Int) 3 (runW 7 2) V = some L := by
    unfold pagesL at ho
    rw [hne] at ho
    exact ho
  obtain ⟨b0, h0⟩ := on_nth ho2 (i := 0) (by decide)
  obtain ⟨b1, h1⟩ := on_nth ho2 (i := 1) (by decide)
  have hlen : L.length = 2 := on_len ho2
  rw [hVs] at h0 h1
  rw [ho] at hP
  have H0 := Lib.hid (show L[0]? = some ⟨5, 104, 7, 8, 3, b0⟩ from h0)
  have H1 := Lib.hid (show L[1]? = some ⟨5, 1, 8, 0, 3, b1⟩ from h1)
  have HLn := Lib.hid hlen
  clear h0 h1 hlen ho ho2 hL hpl hne hVs hV
  have HB := Lib.hid (Below.refl w.heap.size w)
  go_enter Try.func7, Try.ntmps7
  go_wp2_with fail
  refine (hT _).mono ?_
  rintro e w1 ⟨rfl, rfl⟩
  clear hT
  go_wp2_with fail
  refine (hP _).mono ?_
  rintro e w2 ⟨A, n, c, rfl, hr, hb⟩
  have HR := Lib.hid hr
  have hn : n = 2 := by have := pgcs_len hr; rw [HLn.out] at this; omega
  subst hn
  replace HB := Lib.hid (HB.out.trans (hb.mono HB.out.size))
  clear hb hr hP
  obtain ⟨ad, x, rfl, _, hx, hc⟩ := page_at HR.out (show 0 < 2 by decide)
  rw [H0.out] at hx
  injection hx with hx
  subst hx
  obtain ⟨d0, d1, d2, d3, d4, d5⟩ := hc
  obtain ⟨e0, e1, e2, e3, e4, e5⟩ := pgcell HR.out (show 1 < 2 by decide) H1.out
  simp [Addr.add] at d1 d2 d3 e1 e2 e3
  clear d0 d4 d5 e0 e4 e5
  go_wp2_with fail
  go_ret
  exact ⟨rfl, HB.out⟩
end Go.Proofs.Ytabhhccdbfjigaa
namespace Go.Proofs.Ytabhhccdbfjigaa
open Go.RowKit
open Go.Lib hiding intOf
set_option linter.unusedVariables false
set_option linter.unusedSimpArgs false

section
variable {size : Int} {s : ByteArray} {kd : Int} {head : Nat}
theorem along_full (k : Nat) : (along size s kd head k).1.length = k ∨ goes size s kd (along size s kd head k).1 (along size s kd head k).2 = none := by
  induction k with
  | zero => exact .inl rfl
  | succ k ih =>
    rcases h : goes size s kd (along size s kd head k).1 (along size s kd head k).2 with _ | p
    · refine .inr ?_
      have := along_stop (size := size) (s := s) (kd := kd) (head := head) (k := k) rfl h 1
      rw [this]
      exact h
    · rcases ih with ih | ih
      · refine .inl ?_
        rw [along_next (size := size) (s := s) (kd := kd) (head := head) (k := k) rfl h, List.length_append, ih]
        rfl
      · rw [ih] at h
        cases h
theorem along_short (k : Nat) : (along size s kd head k).1.length ≤ k := by
  induction k with
  | zero => exact Nat.le_refl _
  | succ k ih =>
    rcases h : goes size s kd (along size s kd head k).1 (along size s kd head k).2 with _ | p
    · rw [along_stop (size := size) (s := s) (kd := kd) (head := head) (k := k) rfl h 1]
      exact Nat.le_succ_of_le ih
    · rw [along_next (size := size) (s := s) (kd := kd) (head := head) (k := k) rfl h, List.length_append]
      simp
      omega
theorem along_prefix (i d : Nat) : ∃ t, (along size s kd head (i + d)).1 = (along size s kd head i).1 ++ t := by
  induction d with
  | zero => exact ⟨[], by simp⟩
  | succ d ih =>
    obtain ⟨t, ht⟩ := ih
    rw [← Nat.add_assoc]
    rcases h : goes size s kd (along size s kd head (i + d)).1 (along size s kd head (i + d)).2 with _ | p
    · rw [along_stop (size := size) (s := s) (kd := kd) (head := head) (k := i + d) rfl h 1]
      exact ⟨t, ht⟩
    · rw [along_next (size := size) (s := s) (kd := kd) (head := head) (k := i + d) rfl h, ht, List.append_assoc]
      exact ⟨_, rfl⟩
/-- A chain's page by its place. -/
theorem chain_step {i : Nat} (hi : i < (chainL size s kd head).length) : ∃ p, (chainL size s kd head)[i]? = some p ∧ (along size s kd head i).1 = (chainL size s kd head).take i ∧ goes size s kd ((chainL size s kd head).take i) (along size s kd head i).2 = some p ∧ (along size s kd head (i + 1)).2 = p.lk := by
  have hle := along_short (size := size) (s := s) (kd := kd) (head := head) s.size
  have hc : chainL size s kd head = (along size s kd head s.size).1 := rfl
  rw [← hc] at hle
  rcases h : goes size s kd (along size s kd head i).1 (along size s kd head i).2 with _ | p
  · have h1 := along_stop (size := size) (s := s) (kd := kd) (head := head) (k := i) rfl h (s.size - i)
    rw [show i + (s.size - i) = s.size by omega] at h1
    have h2 := along_short (size := size) (s := s) (kd := kd) (head := head) i
    rw [hc, h1] at hi
    simp only at hi
    omega
  · have hl : (along size s kd head i).1.length = i := by
      rcases along_full (size := size) (s := s) (kd := kd) (head := head) i with h3 | h3
      · exact h3
      · rw [h3] at h; cases h
    have hn := along_next (size := size) (s := s) (kd := kd) (head := head) (k := i) rfl h
    obtain ⟨t, ht⟩ := along_prefix (size := size) (s := s) (kd := kd) (head := head) (i + 1) (s.size - (i + 1))
    rw [show i + 1 + (s.size - (i + 1)) = s.size by omega, ← hc, hn] at ht
    simp only at ht
    have e1 : (along size s kd head i).1 = (chainL size s kd head).take i := by
      rw [ht, List.append_assoc, List.take_append_of_le_length (by omega), List.take_of_length_le (by omega)]
    refine ⟨p, ?_, e1, by rw [← e1]; exact h, by rw [hn]⟩
    rw [ht, List.append_assoc, List.getElem?_append_right (by omega), hl, Nat.sub_self]
    rfl
/-- Where a chain ends. -/
theorem chain_last : (along size s kd head (chainL size s kd head).length).1 = chainL size s kd head ∧ goes size s kd (chainL size s kd head) (along size s kd head (chainL size s kd head).length).2 = none ∧ chainOk size s kd head = decide ((along size s kd head (chainL size s kd head).length).2 = 0) := by
  obtain ⟨m, hm⟩ : ∃ m, m = (chainL size s kd head).length := ⟨_, rfl⟩
  have hle := along_short (size := size) (s := s) (kd := kd) (head := head) s.size
  have hc : chainL size s kd head = (along size s kd head s.size).1 := rfl
  rw [← hc, ← hm] at hle
  rw [← hm]
  have hg : goes size s kd (along size s kd head m).1 (along size s kd head m).2 = none := by
    rcases h : goes size s kd (along size s kd head m).1 (along size s kd head m).2 with _ | p
    · rfl
    · exfalso
      have hl : (along size s kd head m).1.length = m := by
        rcases along_full (size := size) (s := s) (kd := kd) (head := head) m with h3 | h3
        · exact h3
        · rw [h3] at h; cases h
      have h4 := along_len (size := size) (s := s) (kd := kd) (head := head) (k := m) rfl hl h
      have hn := along_next (size := size) (s := s) (kd := kd) (head := head) (k := m) rfl h
      obtain ⟨t, ht⟩ := along_prefix (size := size) (s := s) (kd := kd) (head := head) (m + 1) (s.size - (m + 1))
      rw [show m + 1 + (s.size - (m + 1)) = s.size by omega, ← hc, hn] at ht
      have := congrArg List.length ht
      rw [← hm, List.length_append, List.length_append, hl] at this
      simp at this
      omega
  have h1 := along_stop (size := size) (s := s) (kd := kd) (head := head) (k := m) rfl hg (s.size - m)
  rw [show m + (s.size - m) = s.size by omega] at h1
  have e : (along size s kd head m).1 = chainL size s kd head := by rw [hc, h1]
  refine ⟨e, by rw [← e]; exact hg, ?_⟩
  rw [chainOk, h1]
end
/-- So many pages, each full of one byte, with links among them. -/
def ringPg (B : ByteArray) (lk : Nat → Nat) (i : Nat) : Pg := ⟨5, 104, i + 2, lk i, 1, B⟩
theorem ring_all {v : ByteArray} {n : Nat} {lk : Nat → Nat} (hv : v.size = 104) (hn : 1 ≤ n) (hn2 : n ≤ 20) (hlk : ∀ i, i < n → lk i = 0 ∨ (2 ≤ lk i ∧ lk i ≤ n + 1)) :
    (∀ i, i < n → mayP9 128 (i + 2) (lk i) 1 v = true) ∧ ∃ im, layL 128 ⟨#[]⟩ ((List.range n).map (ringPg (overBody 128 v) lk)) = some im ∧ im.size ≤ 100000 ∧ n + 2 ≤ im.size ∧
      (∀ h, 2 ≤ h → h < n + 2 → readAt 128 im h = some (ringPg (overBody 128 v) lk (h - 2))) ∧ (∀ h, n + 2 ≤ h → readAt 128 im h = none) := by
  have hmay : ∀ i, i < n → mayP9 128 (i + 2) (lk i) 1 v = true := fun i hi => by
    unfold mayP9
    rw [show goodSize 128 = true from rfl, hv]
    have h1 : numB (i + 2) = true := numB_iff.2 (by omega)
    rw [h1]
    rcases hlk i hi with h | ⟨h, h2⟩
    · rw [h]
      rfl
    · rw [numB_iff.2 (show 2 ≤ lk i ∧ lk i ≤ 2147483647 by omega)]
      simp
  refine ⟨hmay, ?_⟩
  obtain ⟨L, hL⟩ : ∃ L, L = (List.range n).map (ringPg (overBody 128 v) lk) := ⟨_, rfl⟩
  have hmem : ∀ p ∈ L, ∃ i, i < n ∧ p = ringPg (overBody 128 v) lk i := fun p hp => by
    rw [hL] at hp
    obtain ⟨i, hi, rfl⟩ := List.mem_map.1 hp
    exact ⟨i, List.mem_range.1 hi, rfl⟩
  have hpm : ∀ p ∈ L, mayPg ((128 : Nat) : Int) p.kd p.ct p.pg p.lk p.tx p.bd = true := fun p hp => by
    obtain ⟨i, hi, rfl⟩ := hmem p hp
    have := may_of_9 (z := 128) (hmay i hi)
    rw [hv] at this
    exact this
  have hno : nosP L = (List.range n).map (· + 2) := by
    rw [hL]
    unfold nosP
    rw [List.map_map]
    rfl
  have hnd : (nosP L).Nodup := by
    rw [hno]
    refine List.pairwise_iff_getElem.2 fun i j hi hj hij => ?_
    simp
    omega
  obtain ⟨im, C, a1, a2, a3, a4, a5, a6, a7⟩ := lay_reads (z := 128) L 0 ⟨#[]⟩ hpm rfl
  have hin : ∀ i, i < n → ringPg (overBody 128 v) lk i ∈ L := fun i hi => by rw [hL]; exact List.mem_map.2 ⟨i, List.mem_range.2 hi, rfl⟩
  have hC : C = n + 2 := by
    have g1 := a5 (n + 2) (Nat.zero_le _) (fun p hp => by
      obtain ⟨i, hi, rfl⟩ := hmem p hp
      show i + 2 < n + 2
      omega)
    have g2 := a4 _ (hin (n - 1) (by omega))
    have g3 : (ringPg (overBody 128 v) lk (n - 1)).pg = n - 1 + 2 := rfl
    omega
  rw [← hL]
  refine ⟨im, a1, by rw [a2]; omega, by rw [a2]; omega, fun h h1 h2 => ?_, fun h h1 => ?_⟩
  · have := a7 hnd _ (hin (h - 2) (by omega))
    have e : (ringPg (overBody 128 v) lk (h - 2)).pg = h := by show h - 2 + 2 = h; omega
    rw [e] at this
    exact this
  · unfold readAt
    rw [show ((128 : Int)).toNat = 128 from rfl, a2, Nat.mul_div_cancel _ (by decide), decide_eq_false (by omega)]
    simp
end Go.Proofs.Ytabhhccdbfjigaa
