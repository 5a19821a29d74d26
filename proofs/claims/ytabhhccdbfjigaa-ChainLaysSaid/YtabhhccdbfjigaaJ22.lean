/-
  Texts that the main proof rests on, put together: FnMath, Ref11S. No statement is proved here.
-/
import Derived.Test.YtabhhccdbfjigaaJ17
import Derived.Test.YtabhhccdbfjigaaJ19
import Derived.Deep.CutRange
import Derived.Deep.DrawnRows
import Derived.Deep.QuietTactic
import Derived.BigQuiet
namespace Go.Proofs.Ytabhhccdbfjigaa
open Go.RowKit
open Go.Lib hiding intOf
set_option linter.unusedVariables false
set_option linter.unusedSimpArgs false

theorem nthU_take {l : List Nat} {k i : Nat} (h : i < k) : nthU (l.take k) i = nthU l i := by unfold nthU; rw [List.getElem?_take_of_lt h]
theorem nthU_drop {l : List Nat} {k i : Nat} : nthU (l.drop k) i = nthU l (k + i) := by unfold nthU; rw [List.getElem?_drop]
theorem ascU_take {l : List Nat} (h : ascU l = true) (k : Nat) : ascU (l.take k) = true := by
  rw [ascU_iff] at h ⊢
  intro i hi
  rw [List.length_take] at hi
  rw [nthU_take (by omega), nthU_take (by omega)]
  exact h i (by omega)
theorem ascU_drop {l : List Nat} (h : ascU l = true) (k : Nat) : ascU (l.drop k) = true := by
  rw [ascU_iff] at h ⊢
  intro i hi
  rw [List.length_drop] at hi
  rw [nthU_drop, nthU_drop]
  exact h (k + i) (by omega)
theorem allU_take {l : List Nat} (h : allU l = true) (k : Nat) : allU (l.take k) = true := by
  rw [allU_iff] at h ⊢
  exact fun n hn => h n (List.mem_of_mem_take hn)
theorem allU_drop {l : List Nat} (h : allU l = true) (k : Nat) : allU (l.drop k) = true := by
  rw [allU_iff] at h ⊢
  exact fun n hn => h n (List.mem_of_mem_drop hn)
/-- The first two swapped; the second one in the place of the first one. -/
def swapU (l : List Nat) : List Nat := (l.set 0 (nthU l 1)).set 1 (nthU l 0)
def dupU (l : List Nat) : List Nat := l.set 0 (nthU l 1)
theorem swapU_len (l : List Nat) : (swapU l).length = l.length := by simp [swapU]
theorem dupU_len (l : List Nat) : (dupU l).length = l.length := by simp [dupU]
theorem swapU_no {l : List Nat} (h : ascU l = true) (h2 : 2 ≤ l.length) : ascU (swapU l) = false := by
  have h1 : nthU l 0 < nthU l 1 := ascU_iff.1 h 0 (by omega)
  refine ascU_no (i := 0) (by rw [swapU_len]; omega) ?_
  have e0 : nthU (swapU l) 0 = nthU l 1 := nthU_of (by unfold swapU; rw [List.getElem?_set_ne (by decide), List.getElem?_set_self (by omega)])
  have e1 : nthU (swapU l) (0 + 1) = nthU l 0 := nthU_of (by unfold swapU; rw [List.getElem?_set_self (by rw [List.length_set]; omega)])
  rw [e0, e1]
  omega
theorem dupU_no {l : List Nat} (h2 : 2 ≤ l.length) : ascU (dupU l) = false := by
  refine ascU_no (i := 0) (by rw [dupU_len]; omega) ?_
  have e0 : nthU (dupU l) 0 = nthU l 1 := nthU_of (by unfold dupU; rw [List.getElem?_set_self (by omega)])
  have e1 : nthU (dupU l) (0 + 1) = nthU l 1 := nthU_of (by unfold dupU; rw [List.getElem?_set_ne (by decide)]; exact nthU_at (by omega))
  rw [e0, e1]
  omega
/-- Numbers one after the other. -/
def runU (N k : Nat) : List Nat := (List.range k).map (N + ·)
theorem runU_len (N k : Nat) : (runU N k).length = k := by simp [runU]
theorem runU_succ (N k : Nat) : runU N (k + 1) = runU N k ++ [N + k] := by unfold runU; rw [List.range_succ, List.map_append]; rfl
theorem runU_nth {N k i : Nat} (h : i < k) : nthU (runU N k) i = N + i := nthU_of (by unfold runU; rw [List.getElem?_map, List.getElem?_range h]; rfl)
theorem runU_asc (N k : Nat) : ascU (runU N k) = true := by
  rw [ascU_iff]
  intro i hi
  rw [runU_len] at hi
  rw [runU_nth (by omega), runU_nth (by omega)]
  omega
theorem runU_all {N k : Nat} (h : 2 ≤ N) (h2 : N + k ≤ 2147483648) : allU (runU N k) = true := by
  rw [allU_at]
  intro i hi
  rw [runU_len] at hi
  rw [runU_nth hi]
  unfold numB
  simp
  omega
theorem run_may {z N k : Nat} (hz : goodSize z = true) (h : 2 ≤ N) (h2 : N ≤ 1001) (hk : k ≤ 1100) : mayP10 z 2 0 0 (runU N k) = decide (k ≤ mostN z) := by
  unfold mayP10
  rw [hz, runU_all h (by omega), runU_asc, runU_len]
  simp [numB]
theorem need_one {z k : Nat} (hz : goodSize z = true) : decide (needF z k ≤ 1) = decide (k ≤ mostN z) := by
  obtain ⟨z', hzz, h1, h2, _⟩ := good_nat hz
  obtain rfl : z = z' := by omega
  have hm := mostN_good hz
  have hm0 : 0 < mostN z := by rw [hm]; omega
  have hk : (k : Int).toNat - 1 = k - 1 := by omega
  unfold needF
  rw [hz, Bool.true_and, hk]
  by_cases h1 : (1 : Int) ≤ k
  · rw [decide_eq_true h1, if_pos rfl]
    by_cases h3 : k ≤ mostN z
    · rw [decide_eq_true h3, Nat.div_eq_of_lt (by omega)]
      rfl
    · rw [decide_eq_false h3]
      have := Nat.div_pos (show mostN z ≤ k - 1 by omega) hm0
      exact decide_eq_false (by omega)
  · rw [decide_eq_false h1]
    have : k = 0 := by omega
    subst this
    simp
/-- The numbers that steps lead to, from a first one on; where they end. -/
def stepsU : Nat → List Nat → List Nat
  | _, [] => []
  | n, s :: t => n :: stepsU (n + 1 + s % 9) t
def endU : Nat → List Nat → Nat
  | n, [] => n
  | n, s :: t => endU (n + 1 + s % 9) t
theorem stepsU_len : ∀ (l : List Nat) (n : Nat), (stepsU n l).length = l.length
  | [], _ => rfl
  | s :: t, n => by simp [stepsU, stepsU_len t]
theorem stepsU_snoc : ∀ (l : List Nat) (n s : Nat), stepsU n (l ++ [s]) = stepsU n l ++ [endU n l] ∧ endU n (l ++ [s]) = endU n l + 1 + s % 9
  | [], n, s => ⟨rfl, rfl⟩
  | a :: t, n, s => by
    obtain ⟨h1, h2⟩ := stepsU_snoc t (n + 1 + a % 9) s
    simp only [List.cons_append, stepsU, endU]
    exact ⟨by rw [h1], h2⟩
theorem endU_le : ∀ (l : List Nat) (n : Nat), n + l.length ≤ endU n l ∧ endU n l ≤ n + 9 * l.length
  | [], n => ⟨Nat.le_refl _, Nat.le_refl _⟩
  | s :: t, n => by
    have := endU_le t (n + 1 + s % 9)
    simp only [endU, List.length_cons]
    omega
theorem stepsU_from : ∀ (l : List Nat) (n i : Nat), i < l.length → n + i ≤ nthU (stepsU n l) i ∧ nthU (stepsU n l) i ≤ n + 9 * i
  | s :: t, n, 0, _ => by simp [stepsU, nthU]
  | s :: t, n, i + 1, h => by
    have := stepsU_from t (n + 1 + s % 9) i (by simpa using h)
    have e : nthU (stepsU n (s :: t)) (i + 1) = nthU (stepsU (n + 1 + s % 9) t) i := rfl
    rw [e]
    omega
theorem stepsU_asc : ∀ (l : List Nat) (n i : Nat), i + 1 < l.length → nthU (stepsU n l) i < nthU (stepsU n l) (i + 1)
  | s :: t, n, 0, h => by
    have := stepsU_from t (n + 1 + s % 9) 0 (by simpa using h)
    have e : nthU (stepsU n (s :: t)) (0 + 1) = nthU (stepsU (n + 1 + s % 9) t) 0 := rfl
    have e0 : nthU (stepsU n (s :: t)) 0 = n := rfl
    rw [e, e0]
    omega
  | s :: t, n, i + 1, h => stepsU_asc t (n + 1 + s % 9) i (by simpa using h)
theorem stepsU_good {l : List Nat} {n : Nat} (h : 2 ≤ n) (h2 : n ≤ 1001) (hl : l.length ≤ 26) : allU (stepsU n l) = true ∧ ascU (stepsU n l) = true := by
  constructor
  · rw [allU_at]
    intro i hi
    rw [stepsU_len] at hi
    have := stepsU_from l n i hi
    unfold numB
    simp
    omega
  · rw [ascU_iff]
    intro i hi
    rw [stepsU_len] at hi
    exact stepsU_asc l n i hi
end Go.Proofs.Ytabhhccdbfjigaa
namespace Go.Proofs.Ytabhhccdbfjigaa
open Go.RowKit
open Go.Lib hiding intOf
set_option linter.unusedVariables false
set_option linter.unusedSimpArgs false
attribute [local go_sem ↓] Go.wp_at_zero Go.wp_at_succ

theorem nthU_get {l : List Nat} {i : Nat} (h : i < l.length) : nthU l i = l[i] := nthU_of (List.getElem?_eq_getElem h)
theorem fineL_iff {l : List Nat} : fineL l = true ↔ ∀ j, j < l.length → numB (nthU l j) = true ∧ ∀ m, m < j → nthU l m ≠ nthU l j := by
  unfold fineL
  rw [Bool.and_eq_true, decide_eq_true_eq]
  constructor
  · rintro ⟨h1, h2⟩ j hj
    refine ⟨allU_at.1 h1 j hj, fun m hm => ?_⟩
    have h3 := (List.pairwise_iff_getElem.1 h2) m j (by omega) hj hm
    rw [nthU_get (by omega), nthU_get hj]
    exact h3
  · intro h
    refine ⟨allU_at.2 fun i hi => (h i hi).1, List.pairwise_iff_getElem.2 fun i j hi hj hij => ?_⟩
    have := (h j hj).2 i hij
    rw [nthU_get hi, nthU_get hj] at this
    exact this
theorem fineL_no {l : List Nat} {j : Nat} (hj : j < l.length) (h : numB (nthU l j) = false ∨ ∃ m, m < j ∧ nthU l m = nthU l j) : fineL l = false := by
  rw [Bool.eq_false_iff]
  intro hf
  obtain ⟨h1, h2⟩ := fineL_iff.1 hf j hj
  rcases h with h | ⟨m, hm, he⟩
  · rw [h] at h1; cases h1
  · exact h2 m hm he
set_option maxRecDepth 100000 in
set_option maxHeartbeats 3200000 in
theorem rnext_any (A : Option Addr) (n c : Nat) (l : List Nat) (i : Nat) (w : World) {B : Nat} (hr : Reads w B 1 A n (ucells l)) (hn : n ≤ 1000000) (hi : i ≤ 1000000) :
    Calls Try.prog 51 #[.slice A n c, .int .i64 i] w fun e w' => e = .returned (.int .u32 (nextL l i)) ∧ w = w' := by
  have hl := ulen hr
  by_cases h : i + 1 < n
  · obtain ⟨ad, rfl, _, hc⟩ := ureads_at hr h
    have hc1 : w.cell? { block := ad.block, off := ad.off + (i + 1) } = some (.int .u32 (nthU l (i + 1))) := by have h := hc; simpa [Addr.add] using h
    have HE := Lib.hid (show nextL l i = nthU l (i + 1) by unfold nextL; rw [if_pos (by omega)])
    generalize nthU l (i + 1) = a at *
    have h1 : (i : Int) + 1 < n := by omega
    have h2 : (0 : Int) ≤ (i : Int) + 1 := by omega
    clear hr hl h
    go_enter Try.func51, Try.ntmps51
    go_wp2_with fail
    go_ret
    exact ⟨by rw [HE.out] <;> rfl, rfl⟩
  · have HE := Lib.hid (show nextL l i = 0 by unfold nextL; rw [if_neg (by omega)])
    have h1 : ¬ (i : Int) + 1 < n := by omega
    clear hr hl h
    go_enter Try.func51, Try.ntmps51
    go_wp2_with fail
    go_ret
    exact ⟨by rw [HE.out] <;> rfl, rfl⟩
set_option maxRecDepth 300000 in
set_option maxHeartbeats 6400000 in
theorem rfine_any (A : Option Addr) (n c : Nat) (l : List Nat) (w : World) {B : Nat} (hr : Reads w B 1 A n (ucells l)) (hn : n ≤ 1000000) :
    Calls Try.prog 50 #[.slice A n c] w fun e w' => e = .returned (.bool (fineL l)) ∧ ∃ q, w' = w.drewN q := by
  have HL := Lib.hid (ulen hr)
  have HR := Lib.hid hr
  clear hr
  go_enter Try.func50, Try.ntmps50
  go_wp2_with fail
  go_loopw [3] (fun i wr => ∃ k : Nat, k ≤ n ∧ i = .int .i64 k ∧ Hid (∀ j, j < k → numB (nthU l j) = true ∧ ∀ m, m < j → nthU l m ≠ nthU l j) ∧ ∃ q, wr = w.drewN q) (fun i _ => n - (intOf i).toNat)
  case atStart => exact ⟨0, Nat.zero_le _, rfl, Lib.hid (fun j hj => absurd hj (by omega)), 0, rfl⟩
  case round =>
    obtain ⟨k, hk, rfl, HU, q, hq⟩ := hrel
    have HQ := Lib.hid hq
    by_cases hlt : k < n
    · obtain ⟨ad, rfl, hab, hc0⟩ := ureads_at HR.out hlt
      obtain ⟨a, ha⟩ : ∃ a, a = nthU l k := ⟨_, rfl⟩
      rw [← ha] at hc0
      have hc0 : wr.cell? (ad.add k) = some (.int .u32 a) := by rw [hq]; exact hc0
      have hk0 : (0 : Int) ≤ k := by omega
      have hk1 : (k : Int) < n := by omega
      have HA := Lib.hid ha
      have HNm := fun w => (rnumB_any a w).mono (R' := fun e w' => e = .returned (.bool (numB a)) ∧ w = w') fun _ _ ⟨a, b⟩ => ⟨a, b.symm⟩
      clear ha hab hq
      rcases hnb : numB a with _ | _
      · rw [hnb] at HNm
        have HE := Lib.hid (show fineL l = false from fineL_no (j := k) (by rw [HL.out]; exact hlt) (.inl (by rw [← HA.out]; exact hnb)))
        clear hnb
        go_wp2_with (go_at_call 59; refine (HNm _).mono ?_; rintro e w' ⟨rfl, rfl⟩)
        go_ret
        exact ⟨by rw [HE.out] <;> rfl, q, HQ.out⟩
      · rw [hnb] at HNm
        have HNb := Lib.hid hnb
        clear hnb
        go_wp2_with (go_at_call 59; refine (HNm _).mono ?_; rintro e w' ⟨rfl, rfl⟩)
        clear hc0
        obtain ⟨wo, hwo⟩ : ∃ wo, wo = wr := ⟨_, rfl⟩
        subst hwo
        go_loopw [4] (fun i wr => ∃ t : Nat, t ≤ k ∧ i = .int .i64 t ∧ Hid (∀ m, m < t → nthU l m ≠ nthU l k) ∧ ∃ q, wr = w.drewN q) (fun i _ => k - (intOf i).toNat)
        case atStart => exact ⟨0, Nat.zero_le _, rfl, Lib.hid (fun m hm => absurd hm (by omega)), q, HQ.out⟩
        case round =>
          obtain ⟨t, ht, rfl, HM, q2, hq2⟩ := hrel
          have HQ2 := Lib.hid hq2
          by_cases hlt2 : t < k
          · obtain ⟨ad2, he2, _, hc1⟩ := ureads_at HR.out (show t < n by omega)
            injection he2 with he2
            subst he2
            obtain ⟨ad3, he3, _, hc2⟩ := ureads_at HR.out hlt
            injection he3 with he3
            subst he3
            rw [← HA.out] at hc2
            obtain ⟨b, hb⟩ : ∃ b, b = nthU l t := ⟨_, rfl⟩
            rw [← hb] at hc1
            have hc1 : wr.cell? (ad.add t) = some (.int .u32 b) := by rw [hq2]; exact hc1
            have hc2 : wr.cell? (ad.add k) = some (.int .u32 a) := by rw [hq2]; exact hc2
            have ht0 : (0 : Int) ≤ t := by omega
            have ht1 : (t : Int) < k := by omega
            have ht2 : (t : Int) < n := by omega
            have HBb := Lib.hid hb
            clear hb hq2
            by_cases hab : b = a
            · have hd1 : ((b : Int) == (a : Int)) = true := by simp [hab]
              have hd2 : (b == a) = true := by simp [hab]
              have HE := Lib.hid (show fineL l = false from fineL_no (j := k) (by rw [HL.out]; exact hlt) (.inr ⟨t, hlt2, by rw [← HA.out, ← HBb.out, hab]⟩))
              clear hab
              go_wp2_with fail
              go_quiet (fail)
              go_wp2_with fail
              go_ret
              exact ⟨by rw [HE.out] <;> rfl, q2 + nq, by rw [HQ2.out, World.drewN_drewN]⟩
            · have hd1 : ((b : Int) == (a : Int)) = false := by simp; omega
              have hd2 : (b == a) = false := by simp [hab]
              have HM2 := Lib.hid (show ∀ m, m < t + 1 → nthU l m ≠ nthU l k from fun m hm => by
                rcases Nat.lt_or_ge m t with h | h
                · exact HM.out m h
                · obtain rfl : m = t := by omega
                  rw [← HA.out, ← HBb.out]
                  exact hab)
              clear hab
              go_wp2_with fail
              go_quiet (fail)
              go_wp2_with fail
              go_roundw
              case rel =>
                have hqq : ∃ q', wr.drewN nq = w.drewN q' := ⟨q2 + nq, by rw [HQ2.out, World.drewN_drewN]⟩
                first
                  | exact ⟨t + 1, by omega, by go_num, HM2, hqq⟩
                  | ((repeat apply Exists.intro); exact ⟨⟨t + 1, by omega, by go_num, HM2, hqq⟩, rfl⟩)
              case measure => simp [intOf]; omega
          · obtain rfl : t = k := by omega
            have hU : ∀ j, j < t + 1 → numB (nthU l j) = true ∧ ∀ m, m < j → nthU l m ≠ nthU l j := fun j hj => by
              rcases Nat.lt_or_ge j t with h | h
              · exact HU.out j h
              · obtain rfl : j = t := by omega
                exact ⟨by rw [← HA.out]; exact HNb.out, HM.out⟩
            have HU2 := Lib.hid hU
            clear hlt2 ht hq2 hU
            go_wp2_with fail
            go_roundw
            case rel =>
              first
                | exact ⟨t + 1, by omega, by go_num, HU2, q2, HQ2.out⟩
                | ((repeat apply Exists.intro); exact ⟨⟨t + 1, by omega, by go_num, HU2, q2, HQ2.out⟩, rfl⟩)
            case measure => simp [intOf]; omega
    · obtain rfl : k = n := by omega
      have HE := Lib.hid (show fineL l = true from fineL_iff.2 (fun j hj => HU.out j (by rw [HL.out] at hj; exact hj)))
      clear hlt hk hq
      go_wp2_with fail
      go_ret
      exact ⟨by rw [HE.out] <;> rfl, q, HQ.out⟩
end Go.Proofs.Ytabhhccdbfjigaa
