/-
  Texts that the main proof rests on, put together: Fn, CnV, Ref9. No statement is proved here.
-/
import Derived.Test.YtabhhccdbfjigaaJ14
import Derived.Test.YtabhhccdbfjigaaJ16
import Derived.Test.YtabhhccdbfjigaaJ2
import Derived.Test.YtabhhccdbfjigaaJ5
import Derived.Test.YtabhhccdbfjigaaJ4
import Derived.Test.YtabhhccdbfjigaaJ12
import Derived.Test.YtabhhccdbfjigaaJ15
import Derived.Test.YtabhhccdbfjigaaJ7
import Derived.Test.YtabhhccdbfjigaaJ11
import Derived.Deep.CutRange
import Derived.Deep.DrawnRows
import Derived.Deep.QuietTactic
import Derived.BigQuiet
import Derived.Lib.MinMax
namespace Go.Proofs.Ytabhhccdbfjigaa
open Go.RowKit
open Go.Lib hiding intOf
set_option linter.unusedVariables false
set_option linter.unusedSimpArgs false

def nthU (l : List Nat) (i : Nat) : Nat := (l[i]?).getD 0
/-- Numbers of 32 bits as cells. -/
def ucells (l : List Nat) : List Value := l.map fun (n : Nat) => Value.int .u32 (n : Int)
/-- Strictly increasing. -/
def ascU (l : List Nat) : Bool := (List.range (l.length - 1)).all fun i => decide (nthU l i < nthU l (i + 1))
def allU (l : List Nat) : Bool := l.all numB
def mostN (size : Int) : Nat := if goodSize size then (size - 24).toNat / 4 else 0
/-- How many pages so many numbers take. -/
def needF (size n : Int) : Nat := if goodSize size && decide (1 ≤ n) then (n.toNat - 1) / mostN size + 1 else 0
def bytesU (l : List Nat) : List UInt8 := l.flatMap (leBytes 4)
def freeBody (z : Nat) (l : List Nat) : ByteArray := ⟨(bytesU l ++ List.replicate (z - 24 - 4 * l.length) 0).toArray⟩
/-- Numbers may be a page's. -/
def mayP10 (size : Int) (n next tx : Nat) (l : List Nat) : Bool := goodSize size && (allU l && (ascU l && (decide (l.length ≤ mostN size) && (numB n && ((decide (next = 0) || numB next) && decide (tx ≤ 4611686018427387904))))))
theorem ucells_length (l : List Nat) : (ucells l).length = l.length := by simp [ucells]
theorem ucells_append (l m : List Nat) : ucells (l ++ m) = ucells l ++ ucells m := by simp [ucells]
theorem ucells_one (l : List Nat) : ∀ u ∈ ucells l, u.oneCell' = true := by
  intro u hu
  obtain ⟨s, _, rfl⟩ := List.mem_map.1 hu
  rfl
theorem ucells_at {l : List Nat} {k : Nat} {n : Nat} (h : l[k]? = some n) : (ucells l)[k]? = some (.int .u32 n) := by
  unfold ucells; rw [List.getElem?_map, h]; rfl
theorem nthU_of {l : List Nat} {k n : Nat} (h : l[k]? = some n) : nthU l k = n := by unfold nthU; rw [h]; rfl
theorem nthU_at {l : List Nat} {k : Nat} (h : k < l.length) : l[k]? = some (nthU l k) := by unfold nthU; rw [List.getElem?_eq_getElem h]; rfl
theorem ascU_iff {l : List Nat} : ascU l = true ↔ ∀ i, i + 1 < l.length → nthU l i < nthU l (i + 1) := by
  unfold ascU
  rw [List.all_eq_true]
  constructor
  · intro h i hi
    have := h i (List.mem_range.2 (by omega))
    simpa using this
  · intro h i hi
    have := h i (by have := List.mem_range.1 hi; omega)
    simpa using this
theorem ascU_no {l : List Nat} {i : Nat} (hi : i + 1 < l.length) (h : ¬ nthU l i < nthU l (i + 1)) : ascU l = false := by
  rw [Bool.eq_false_iff]
  intro ha
  exact h (ascU_iff.1 ha i hi)
theorem ascU_lt {l : List Nat} (h : ascU l = true) {i : Nat} : ∀ {d : Nat}, i + d + 1 < l.length → nthU l i < nthU l (i + d + 1)
  | 0, hd => ascU_iff.1 h i hd
  | d + 1, hd => Nat.lt_trans (ascU_lt h (d := d) (by omega)) (ascU_iff.1 h (i + d + 1) (by omega))
theorem allU_iff {l : List Nat} : allU l = true ↔ ∀ n, n ∈ l → numB n = true := by unfold allU; rw [List.all_eq_true]
theorem allU_at {l : List Nat} : allU l = true ↔ ∀ i, i < l.length → numB (nthU l i) = true := by
  rw [allU_iff]
  constructor
  · intro h i hi
    exact h _ (List.mem_of_getElem? (nthU_at hi))
  · intro h n hn
    obtain ⟨i, hi, rfl⟩ := List.getElem_of_mem hn
    have := h i hi
    rwa [nthU_of (List.getElem?_eq_getElem hi)] at this
theorem allU_no {l : List Nat} {i : Nat} (hi : i < l.length) (h : numB (nthU l i) = false) : allU l = false := by
  rw [Bool.eq_false_iff]
  intro ha
  rw [allU_at.1 ha i hi] at h
  cases h
theorem allU_lt {l : List Nat} (h : allU l = true) {n : Nat} (hn : n ∈ l) : n < 4294967296 := by
  have := allU_iff.1 h n hn
  unfold numB at this
  simp at this
  omega
theorem mostN_good {z : Nat} (h : goodSize z = true) : mostN z = (z - 24) / 4 := by
  unfold mostN
  rw [if_pos h]
  have := good_pos h
  rw [show ((z : Int) - 24).toNat = z - 24 by omega]
theorem bytesU_length (l : List Nat) : (bytesU l).length = 4 * l.length := by
  unfold bytesU
  induction l with
  | nil => rfl
  | cons a t ih => rw [List.flatMap_cons, List.length_append, ih, leB_len, List.length_cons]; omega
theorem bytesU_snoc (l : List Nat) (n : Nat) : bytesU (l ++ [n]) = bytesU l ++ leBytes 4 n := by
  unfold bytesU; rw [List.flatMap_append]; simp
theorem mayP10_parts {z n next tx : Nat} {l : List Nat} (h : mayP10 z n next tx l = true) : goodSize z = true ∧ allU l = true ∧ ascU l = true ∧ l.length ≤ (z - 24) / 4 ∧ numB n = true ∧ (next = 0 ∨ numB next = true) ∧ tx ≤ 4611686018427387904 := by
  simp only [mayP10, Bool.and_eq_true, Bool.or_eq_true, decide_eq_true_eq] at h
  obtain ⟨h1, h2, h3, h4, h5, h6, h7⟩ := h
  rw [mostN_good h1] at h4
  exact ⟨h1, h2, h3, h4, h5, h6, h7⟩
theorem freeBody_size (z : Nat) (l : List Nat) (h : l.length ≤ (z - 24) / 4) : (freeBody z l).size = z - 24 := by
  show (bytesU l ++ List.replicate (z - 24 - 4 * l.length) 0).toArray.size = _
  rw [List.size_toArray, List.length_append, List.length_replicate, bytesU_length]
  omega
/-- One number from the front. -/
def stepU (r : List UInt8) : Option (Nat × List UInt8) := if r.length < 4 then none else some (leNat (r.take 4), r.drop 4)
/-- So many numbers from the front. -/
def parseU : Nat → List UInt8 → Option (List Nat × List UInt8)
  | 0, bs => some ([], bs)
  | k + 1, bs => match parseU k bs with
    | none => none
    | some (l, r) => match stepU r with
      | none => none
      | some (b, r') => some (l ++ [b], r')
theorem parseU_none {k : Nat} {bs : List UInt8} (h : parseU k bs = none) : ∀ d, parseU (k + d) bs = none
  | 0 => h
  | d + 1 => by rw [← Nat.add_assoc]; simp only [parseU, parseU_none h d]
theorem parseU_step {k : Nat} {bs r r' : List UInt8} {l : List Nat} {b : Nat} (h : parseU k bs = some (l, r)) (hs : stepU r = some (b, r')) : parseU (k + 1) bs = some (l ++ [b], r') := by simp only [parseU, h, hs]
theorem parseU_stop {k : Nat} {bs r : List UInt8} {l : List Nat} (h : parseU k bs = some (l, r)) (hs : stepU r = none) : parseU (k + 1) bs = none := by simp only [parseU, h, hs]
theorem parseU_len : ∀ {k : Nat} {bs : List UInt8} {l : List Nat} {r : List UInt8}, parseU k bs = some (l, r) → l.length = k
  | 0, bs, l, r, h => by simp [parseU] at h; obtain ⟨rfl, _⟩ := h; rfl
  | k + 1, bs, l, r, h => by
    simp only [parseU] at h
    split at h
    · cases h
    · rename_i l0 r0 h0
      split at h
      · cases h
      · rename_i b r1 _
        injection h with h
        injection h with h1 _
        rw [← h1, List.length_append, parseU_len h0]
        rfl
theorem parseU_size : ∀ {k : Nat} {bs : List UInt8} {l : List Nat} {r : List UInt8}, parseU k bs = some (l, r) → 4 * k + r.length = bs.length
  | 0, bs, l, r, h => by simp [parseU] at h; obtain ⟨rfl, rfl⟩ := h; simp
  | k + 1, bs, l, r, h => by
    simp only [parseU] at h
    split at h
    · cases h
    · rename_i l0 r0 h0
      split at h
      · cases h
      · rename_i b r1 hs
        injection h with h
        injection h with h1 h2
        have e1 := parseU_size h0
        unfold stepU at hs
        split at hs
        · cases hs
        · injection hs with hs
          injection hs with _ hs
          rw [← h2, ← hs, List.length_drop]
          omega
theorem stepU_bytes (n : Nat) (t : List UInt8) (h : n < 4294967296) : stepU (leBytes 4 n ++ t) = some (n, t) := by
  have l4 : (leBytes 4 n).length = 4 := leB_len 4 n
  have hr : leNat (leBytes 4 n) = n := by rw [leNat_leBytes_mod]; omega
  unfold stepU
  rw [if_neg (by rw [List.length_append, l4]; omega), List.take_left' l4, List.drop_left' l4, hr]
theorem parseU_bytes (l : List Nat) (t : List UInt8) (h : ∀ n, n ∈ l → n < 4294967296) : ∀ k, k ≤ l.length → parseU k (bytesU l ++ t) = some (l.take k, bytesU (l.drop k) ++ t)
  | 0, _ => by simp [parseU]
  | k + 1, hk => by
    have ih := parseU_bytes l t h k (by omega)
    have hx : l.drop k = l[k] :: l.drop (k + 1) := List.drop_eq_getElem_cons (by omega)
    have hs : stepU (bytesU (l.drop k) ++ t) = some (l[k], bytesU (l.drop (k + 1)) ++ t) := by
      rw [hx]
      simp only [bytesU, List.flatMap_cons, List.append_assoc]
      exact stepU_bytes l[k] _ (h _ (List.getElem_mem _))
    simp only [parseU, ih, hs]
    rw [List.take_succ_eq_append_getElem (by omega)]
theorem parseU_all (l : List Nat) (t : List UInt8) (h : ∀ n, n ∈ l → n < 4294967296) : parseU l.length (bytesU l ++ t) = some (l, t) := by
  have := parseU_bytes l t h l.length (Nat.le_refl _)
  simpa [bytesU] using this
/-- The numbers of which a page is the page. -/
def readU (kd ct : Int) (pg lk ty : Nat) (bd : ByteArray) : Option (List Nat) :=
  match parseU ct.toNat bd.data.toList with
  | none => none
  | some (l, _) => if mayP10 ((bd.size + 24 : Nat) : Int) pg lk ty l && decide (kd = 6 ∧ ct = l.length ∧ bd = freeBody (bd.size + 24) l) then some l else none
theorem readU_page {z n next tx : Nat} {l : List Nat} (h : mayP10 z n next tx l = true) : readU 6 l.length n next tx (freeBody z l) = some l := by
  obtain ⟨h1, h2, h3, h4, h5, h6, h7⟩ := mayP10_parts h
  have hz := freeBody_size z l h4
  have hp := good_pos h1
  have hz2 : (freeBody z l).size + 24 = z := by omega
  have hd : (freeBody z l).data.toList = bytesU l ++ List.replicate (z - 24 - 4 * l.length) 0 := by unfold freeBody; simp
  unfold readU
  rw [show ((l.length : Nat) : Int).toNat = l.length by omega, hd, parseU_all l _ (fun n hn => allU_lt h2 hn)]
  simp only
  rw [hz2, h]
  simp
theorem readU_some {kd ct : Int} {pg lk ty : Nat} {bd : ByteArray} {l : List Nat} (h : readU kd ct pg lk ty bd = some l) : mayP10 ((bd.size + 24 : Nat) : Int) pg lk ty l = true ∧ kd = 6 ∧ ct = l.length ∧ bd = freeBody (bd.size + 24) l := by
  unfold readU at h
  split at h
  · cases h
  · rename_i l0 r hp
    split at h
    · rename_i hc
      injection h with h
      subst h
      simp only [Bool.and_eq_true, decide_eq_true_eq] at hc
      exact ⟨hc.1, hc.2⟩
    · cases h
end Go.Proofs.Ytabhhccdbfjigaa
namespace Go.Proofs.Ytabhhccdbfjigaa
open Go.RowKit
open Go.Lib hiding intOf
set_option linter.unusedVariables false
set_option linter.unusedSimpArgs false

def Pg.over (p : Pg) : Option ByteArray := readO p.kd p.ct p.pg p.lk p.tx p.bd
def Pg.free (p : Pg) : Option (List Nat) := readU p.kd p.ct p.pg p.lk p.tx p.bd
/-- The parts of these pages, one behind the other. -/
def valV (L : List Pg) : Option ByteArray := L.foldl (fun a p => match a, p.over with | some v, some s => some (v ++ s) | _, _ => none) (some ⟨#[]⟩)
/-- The numbers of these pages, one behind the other. -/
def numV (L : List Pg) : Option (List Nat) := L.foldl (fun a p => match a, p.free with | some v, some s => some (v ++ s) | _, _ => none) (some [])
theorem valV_snoc (L : List Pg) (p : Pg) : valV (L ++ [p]) = match valV L, p.over with | some v, some s => some (v ++ s) | _, _ => none := by unfold valV; rw [List.foldl_append]; rfl
theorem numV_snoc (L : List Pg) (p : Pg) : numV (L ++ [p]) = match numV L, p.free with | some v, some s => some (v ++ s) | _, _ => none := by unfold numV; rw [List.foldl_append]; rfl
theorem valV_none {L : List Pg} (h : valV L = none) : ∀ M, valV (L ++ M) = none := by
  intro M
  induction M generalizing L with
  | nil => simpa using h
  | cons p t ih =>
    rw [show L ++ p :: t = (L ++ [p]) ++ t by simp]
    exact ih (by rw [valV_snoc, h])
theorem numV_none {L : List Pg} (h : numV L = none) : ∀ M, numV (L ++ M) = none := by
  intro M
  induction M generalizing L with
  | nil => simpa using h
  | cons p t ih =>
    rw [show L ++ p :: t = (L ++ [p]) ++ t by simp]
    exact ih (by rw [numV_snoc, h])
theorem take_snoc_at {α : Type} {L : List α} {k : Nat} {p : α} (h : L[k]? = some p) : L.take (k + 1) = L.take k ++ [p] := by
  obtain ⟨h1, h2⟩ := List.getElem?_eq_some_iff.1 h
  rw [List.take_succ_eq_append_getElem h1, h2]
/-- What a chain of values is read as. -/
def readV (size : Int) (s : ByteArray) (head : Nat) (len : Int) : Option (ByteArray × List Nat) :=
  if chainOk size s 5 head then (match valV (chainL size s 5 head) with
    | some v => if 1 ≤ len ∧ (v.size : Int) = len then some (v, (chainL size s 5 head).map (·.pg)) else none
    | none => none) else none
/-- What a chain of lists is read as. -/
def listV (size : Int) (s : ByteArray) (head : Nat) : Option (List Nat × List Nat) :=
  if chainOk size s 6 head then (match numV (chainL size s 6 head) with
    | some l => if ascU l then some (l, (chainL size s 6 head).map (·.pg)) else none
    | none => none) else none
/-- The numbers are pages', and none stands twice. -/
def fineL (l : List Nat) : Bool := l.all numB && decide l.Nodup
/-- The page behind a place, 0 where there is none. -/
def nextL (l : List Nat) (i : Nat) : Nat := if i + 1 < l.length then nthU l (i + 1) else 0
/-- The pages of a value at these numbers. -/
def onL (size : Int) (tx : Nat) (ps : List Nat) (v : ByteArray) : Option (List Pg) :=
  if goodSize size && (decide (0 < v.size) && (decide (v.size ≤ 4096) && (decide ((partsL size v).length = ps.length) && (fineL ps && decide (tx ≤ 4611686018427387904))))) then
    some ((List.range ps.length).map fun i => ⟨5, ((partsL size v).getD i ⟨#[]⟩).size, nthU ps i, nextL ps i, tx, overBody size.toNat ((partsL size v).getD i ⟨#[]⟩)⟩)
  else none
/-- The pages of free numbers at these numbers. -/
def listsL (size : Int) (tx : Nat) (ps ns : List Nat) : Option (List Pg) :=
  if goodSize size && ((allU ns && ascU ns) && (decide (needF size ns.length ≤ ps.length) && (fineL ps && decide (tx ≤ 4611686018427387904)))) then
    some ((List.range ps.length).map fun i => ⟨6, ((ns.drop (i * mostN size)).take (mostN size)).length, nthU ps i, nextL ps i, tx, freeBody size.toNat ((ns.drop (i * mostN size)).take (mostN size))⟩)
  else none
end Go.Proofs.Ytabhhccdbfjigaa
namespace Go.Proofs.Ytabhhccdbfjigaa
open Go.RowKit
open Go.Lib hiding intOf
set_option linter.unusedVariables false
set_option linter.unusedSimpArgs false
attribute [local go_sem ↓] Go.wp_at_zero Go.wp_at_succ

set_option maxRecDepth 100000 in
set_option maxHeartbeats 3200000 in
theorem rneed9_any (size n : Int) (w : World) (hn : n ≤ 9223372036854775807) : Calls Try.prog 24 #[.int .i64 size, .int .i64 n] w fun e w' => e = .returned (.int .i64 (needN size n)) ∧ w' = w := by
  have HG := fun w => rgood_any size w
  rcases hg : goodSize size with _ | _
  · rw [hg] at HG
    have HE := Lib.hid (show ((needN size n : Nat) : Int) = 0 by rw [needN, hg]; rfl)
    clear hg
    go_enter Try.func24, Try.ntmps24
    go_wp2_with (go_at_call 49; refine (HG _).mono ?_; rintro e w' ⟨rfl, rfl⟩)
    go_ret
    exact ⟨by rw [HE.out]; rfl, rfl⟩
  rw [hg] at HG
  by_cases h1 : n < 1
  · have HE := Lib.hid (show ((needN size n : Nat) : Int) = 0 by rw [needN, decide_eq_false (show ¬ 1 ≤ n by omega), Bool.and_false]; rfl)
    clear hg
    go_enter Try.func24, Try.ntmps24
    go_wp2_with (go_at_call 49; refine (HG _).mono ?_; rintro e w' ⟨rfl, rfl⟩)
    go_ret
    exact ⟨by rw [HE.out]; rfl, rfl⟩
  · obtain ⟨z, rfl, hz1, hz2, _⟩ := good_nat hg
    obtain ⟨r, hr⟩ : ∃ r, r = z - 24 := ⟨_, rfl⟩
    have HM : ∀ w : World, Calls Try.prog 23 #[.int .i64 z] w fun e w' => e = .returned (.int .i64 (r : Int)) ∧ w' = w := fun w => by
      have h := rroom_is z w hg
      rwa [show (z : Int) - 24 = (r : Int) by omega] at h
    obtain ⟨m, hm⟩ : ∃ m : Nat, (m : Int) = n - 1 := ⟨(n - 1).toNat, by omega⟩
    obtain ⟨q, hq⟩ : ∃ q, q = m / r := ⟨_, rfl⟩
    have hqm : q ≤ m := by rw [hq]; exact Nat.div_le_self _ _
    have HE := Lib.hid (show ((needN z n : Nat) : Int) = (q : Int) + 1 by
      rw [needN, hg, decide_eq_true (show 1 ≤ n by omega), Bool.and_self, if_pos (by rfl), show n.toNat - 1 = m by omega, show ((z : Int) - 24).toNat = r by omega, ← hq]
      rfl)
    obtain rfl : n = (m : Int) + 1 := by omega
    have hr0 : ((r : Int) == 0) = false := by simp; omega
    have hr1 : ¬ (r : Int) = 0 := by omega
    have hdiv : (m : Int) / (r : Int) = (q : Int) := by rw [hq]; simp
    have hwq : wrap64 (q : Int) = (q : Int) := wrap64_nat q (by omega)
    have hwq1 : wrap64 ((q : Int) + 1) = (q : Int) + 1 := by unfold wrap64; omega
    have hwq2 : IntKind.i64.wrap ((q : Int) + 1) = (q : Int) + 1 := by rw [IntKind.wrap_i64]; omega
    have hwm : IntKind.i64.wrap (m : Int) = (m : Int) := by rw [IntKind.wrap_i64]; omega
    have hwm2 : wrap64 (m : Int) = (m : Int) := by unfold wrap64; omega
    have hm9 : ¬ (m : Int) + 1 < 1 := by omega
    clear hg hm hq hr hz1 hz2 hqm hn h1
    go_enter Try.func24, Try.ntmps24
    go_wp2_with (first | (go_at_call 49; refine (HG _).mono ?_; rintro e w' ⟨rfl, rfl⟩) | (go_at_call 23; refine (HM _).mono ?_; rintro e w' ⟨rfl, rfl⟩))
    go_ret
    exact ⟨by rw [HE.out]; rfl, rfl⟩
def strc (l : List ByteArray) : List Value := l.map Value.string
theorem str_noteq (a : ByteArray) (w : World) : (binOp .neq 9 (.string a) (.string a)).run Try.prog w = .ok (.bool false) w := by
  simp [go_sem]
end Go.Proofs.Ytabhhccdbfjigaa
