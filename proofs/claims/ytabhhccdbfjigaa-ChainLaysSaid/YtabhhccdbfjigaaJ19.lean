/-
  Texts that the main proof rests on, put together: Ref9Of, Ref10. No statement is proved here.
-/
import Derived.Test.YtabhhccdbfjigaaJ18
import Derived.Test.YtabhhccdbfjigaaJ17
import Derived.Test.YtabhhccdbfjigaaJ15
import Derived.Test.YtabhhccdbfjigaaJ7
import Derived.Test.YtabhhccdbfjigaaJ11
import Derived.Test.YtabhhccdbfjigaaJ16
import Derived.Deep.CutRange
import Derived.Deep.DrawnRows
import Derived.Deep.QuietTactic
import Derived.BigQuiet
import Derived.Lib.MinMax
namespace Go.Proofs.Ytabhhccdbfjigaa
open Go.RowKit
open Go.Lib hiding intOf
set_option linter.unusedVariables false
set_option linter.unusedSimpArgs false
attribute [local go_sem ↓] Go.wp_at_zero Go.wp_at_succ

theorem page9_neq_no (a0 a1 a2 a3 a4 : Int) (a5 : ByteArray) (w : World) : (binOp .neq 40 (.agg #[.int .i64 a0, .int .i64 a1, .int .u32 a2, .int .u32 a3, .int .u64 a4, .string a5]) (.agg #[.int .i64 a0, .int .i64 a1, .int .u32 a2, .int .u32 a3, .int .u64 a4, .string a5])).run Try.prog w = .ok (.bool false) w := by
  simp [go_sem]
theorem page9_neq_yes (a0 a1 a2 a3 a4 : Int) (a5 : ByteArray) (b0 b1 b2 b3 b4 : Int) (b5 : ByteArray) (w : World) (h : ¬ (a0 = b0 ∧ a1 = b1 ∧ a2 = b2 ∧ a3 = b3 ∧ a4 = b4 ∧ a5 = b5)) : (binOp .neq 40 (.agg #[.int .i64 a0, .int .i64 a1, .int .u32 a2, .int .u32 a3, .int .u64 a4, .string a5]) (.agg #[.int .i64 b0, .int .i64 b1, .int .u32 b2, .int .u32 b3, .int .u64 b4, .string b5])).run Try.prog w = .ok (.bool true) w := by
  have h1 : (((((a0 == b0 && a1 == b1) && a2 == b2) && a3 == b3) && a4 == b4) && a5.toList == b5.toList) = false := by
    rw [Bool.eq_false_iff]
    intro ht
    simp only [Bool.and_eq_true, beq_iff_eq] at ht
    obtain ⟨⟨⟨⟨⟨h0, h1⟩, h2⟩, h3⟩, h4⟩, h5⟩ := ht
    rw [ByteArray.toList_eq, ByteArray.toList_eq] at h5
    exact h ⟨h0, h1, h2, h3, h4, bytes_ext h5⟩
  simp [go_sem] at h1 ⊢
  exact h1
/-- What Of returns of what a page reads as. -/
def OfPost9 (o : Option ByteArray) (lk : Nat) (w : World) (e : Ending) (w' : World) : Prop :=
  match o with
  | none => e = .returned (.tuple #[.string ⟨#[]⟩, .int .u32 0, .int .i64 4]) ∧ Below w.heap.size w w'
  | some s => e = .returned (.tuple #[.string s, .int .u32 lk, .int .i64 0]) ∧ Below w.heap.size w w'
end Go.Proofs.Ytabhhccdbfjigaa
namespace Go.Proofs.Ytabhhccdbfjigaa
open Go.RowKit
open Go.Lib hiding intOf
set_option linter.unusedVariables false
set_option linter.unusedSimpArgs false
attribute [local go_sem ↓] Go.wp_at_zero Go.wp_at_succ

theorem mostN_le (size : Int) : mostN size ≤ 1018 := by
  unfold mostN
  split
  · rename_i h
    obtain ⟨z, rfl, h1, h2, _⟩ := good_nat h
    omega
  · omega
set_option maxRecDepth 100000 in
set_option maxHeartbeats 3200000 in
theorem rmost10_any (size : Int) (w : World) : Calls Try.prog 55 #[.int .i64 size] w fun e w' => e = .returned (.int .i64 (mostN size)) ∧ w = w' := by
  rcases hg : goodSize size with _ | _
  · have HM := fun w => rroom_no size w hg
    have HE := Lib.hid (show ((mostN size : Nat) : Int) = 0 by rw [mostN, hg]; rfl)
    clear hg
    go_enter Try.func55, Try.ntmps55
    go_wp2_with (go_at_call 23; refine (HM _).mono ?_; rintro e w' ⟨rfl, rfl⟩)
    go_ret
    exact ⟨by rw [HE.out]; rfl, rfl⟩
  · have HM := fun w => rroom_yes size w hg
    obtain ⟨z, rfl, hz1, hz2, _⟩ := good_nat hg
    obtain ⟨r, hr⟩ : ∃ r, r = z - 24 := ⟨_, rfl⟩
    have hri : (z : Int) - 24 = (r : Int) := by omega
    obtain ⟨q, hq⟩ : ∃ q, q = r / 4 := ⟨_, rfl⟩
    have hdiv : (r : Int) / 4 = (q : Int) := by omega
    have HW := Lib.hid (wrap64_nat q (by omega))
    have HE := Lib.hid (show mostN z = q by rw [mostN, hg, if_pos rfl, show ((z : Int) - 24).toNat = r by omega, hq])
    simp only [hri] at HM
    clear hg hq hr hz1 hz2 hri
    go_enter Try.func55, Try.ntmps55
    go_wp2_with (go_at_call 23; refine (HM _).mono ?_; rintro e w' ⟨rfl, rfl⟩)
    go_ret
    refine ⟨?_, rfl⟩
    rw [HE.out]
    show Ending.returned (.int .i64 (wrap64 (q : Int))) = _
    rw [HW.out]
set_option maxRecDepth 100000 in
set_option maxHeartbeats 3200000 in
theorem rneed10_any (size n : Int) (w : World) (hn : n ≤ 9223372036854775807) : Calls Try.prog 54 #[.int .i64 size, .int .i64 n] w fun e w' => e = .returned (.int .i64 (needF size n)) ∧ w = w' := by
  have HG := fun w => rgood_any size w
  rcases hg : goodSize size with _ | _
  · rw [hg] at HG
    have HE := Lib.hid (show ((needF size n : Nat) : Int) = 0 by rw [needF, hg]; rfl)
    clear hg
    go_enter Try.func54, Try.ntmps54
    go_wp2_with (go_at_call 49; refine (HG _).mono ?_; rintro e w' ⟨rfl, rfl⟩)
    go_ret
    exact ⟨by rw [HE.out]; rfl, rfl⟩
  rw [hg] at HG
  by_cases h1 : n < 1
  · have HE := Lib.hid (show ((needF size n : Nat) : Int) = 0 by rw [needF, decide_eq_false (show ¬ 1 ≤ n by omega), Bool.and_false]; rfl)
    clear hg
    go_enter Try.func54, Try.ntmps54
    go_wp2_with (go_at_call 49; refine (HG _).mono ?_; rintro e w' ⟨rfl, rfl⟩)
    go_ret
    exact ⟨by rw [HE.out]; rfl, rfl⟩
  · obtain ⟨z, rfl, hz1, hz2, _⟩ := good_nat hg
    have HM := fun w => rmost10_any z w
    have hmg := mostN_good hg
    obtain ⟨r, hr⟩ : ∃ r, r = mostN z := ⟨_, rfl⟩
    rw [← hr] at HM hmg
    obtain ⟨m, hm⟩ : ∃ m : Nat, (m : Int) = n - 1 := ⟨(n - 1).toNat, by omega⟩
    obtain ⟨q, hq⟩ : ∃ q, q = m / r := ⟨_, rfl⟩
    have hqm : q ≤ m := by rw [hq]; exact Nat.div_le_self _ _
    have HE := Lib.hid (show ((needF z n : Nat) : Int) = (q : Int) + 1 by
      rw [needF, hg, decide_eq_true (show 1 ≤ n by omega), Bool.and_self, if_pos (by rfl), show n.toNat - 1 = m by omega, ← hr, ← hq]
      rfl)
    obtain rfl : n = (m : Int) + 1 := by omega
    have hr0 : ((r : Int) == 0) = false := by simp; omega
    have hr1 : ¬ (r : Int) = 0 := by omega
    have hm9 : ¬ (m : Int) + 1 < 1 := by omega
    have hq9 : q < 9223372036854775807 := by omega
    have hmm9 : m < 9223372036854775807 := by omega
    have hdiv : (m : Int) / (r : Int) = (q : Int) := by rw [hq]; simp
    have hwq : wrap64 (q : Int) = (q : Int) := wrap64_nat q (Nat.lt_succ_of_lt hq9)
    have hwq1 : wrap64 ((q : Int) + 1) = (q : Int) + 1 := wrap64_nat (q + 1) (Nat.succ_lt_succ hq9)
    have hwq2 : IntKind.i64.wrap ((q : Int) + 1) = (q : Int) + 1 := i64_nat (q + 1) (Nat.succ_lt_succ hq9)
    have hwm : IntKind.i64.wrap (m : Int) = (m : Int) := i64_nat m (Nat.lt_succ_of_lt hmm9)
    have hwm2 : wrap64 (m : Int) = (m : Int) := wrap64_nat m (Nat.lt_succ_of_lt hmm9)
    clear hg hm hq hr hz1 hz2 hqm hn h1 hmg hq9 hmm9
    go_enter Try.func54, Try.ntmps54
    go_wp2_with (first | (go_at_call 49; refine (HG _).mono ?_; rintro e w' ⟨rfl, rfl⟩) | (go_at_call 55; refine (HM _).mono ?_; rintro e w' ⟨rfl, rfl⟩))
    go_ret
    exact ⟨by rw [HE.out]; rfl, rfl⟩
theorem ureads_at {w : World} {B n k : Nat} {A : Option Addr} {l : List Nat} (h : Reads w B 1 A n (ucells l)) (hk : k < n) : ∃ ad, A = some ad ∧ ad.block < B ∧ w.cell? (ad.add k) = some (.int .u32 (nthU l k)) := by
  obtain ⟨ad, u, ha, hb, hx, hc⟩ := h.at_ hk
  have hl : l.length = n := by have := h.1; rw [ucells_length] at this; omega
  rw [ucells_at (nthU_at (show k < l.length by omega))] at hx
  injection hx with hx
  exact ⟨ad, ha, hb, by rw [hc, ← hx]⟩
theorem ulen {w : World} {B n : Nat} {A : Option Addr} {l : List Nat} (h : Reads w B 1 A n (ucells l)) : l.length = n := by have := h.1; rw [ucells_length] at this; omega
set_option maxRecDepth 300000 in
set_option maxHeartbeats 3200000 in
theorem rrises_any (A : Option Addr) (n c : Nat) (l : List Nat) (w : World) {B : Nat} (hr : Reads w B 1 A n (ucells l)) (hn : n ≤ maxLen) :
    Calls Try.prog 82 #[.slice A n c] w fun e w' => e = .returned (.bool (ascU l)) ∧ ∃ q, w' = w.drewN q := by
  have HL := Lib.hid (ulen hr)
  have HR := Lib.hid hr
  unfold maxLen at hn
  clear hr
  go_enter Try.func82, Try.ntmps82
  go_wp2_with fail
  go_loopw [3] (fun i wr => ∃ k : Nat, (k + 1 ≤ n ∨ k = 0) ∧ i = .int .i64 ((k : Int) + 1) ∧ Hid (∀ j, j < k → nthU l j < nthU l (j + 1)) ∧ ∃ q, wr = w.drewN q) (fun i _ => n + 1 - (intOf i).toNat)
  case atStart => exact ⟨0, .inr rfl, rfl, Lib.hid (fun j hj => absurd hj (by omega)), 0, rfl⟩
  case round =>
    obtain ⟨k, hk, rfl, HU, q, hq⟩ := hrel
    by_cases hlt : k + 1 < n
    · obtain ⟨ad, rfl, hab, hc0⟩ := ureads_at HR.out (show k < n by omega)
      obtain ⟨ad', ha', _, hc1⟩ := ureads_at HR.out hlt
      injection ha' with ha'
      subst ha'
      obtain ⟨a, ha⟩ : ∃ a, a = nthU l k := ⟨_, rfl⟩
      obtain ⟨b, hb⟩ : ∃ b, b = nthU l (k + 1) := ⟨_, rfl⟩
      rw [← ha] at hc0
      rw [← hb] at hc1
      have hc0 : wr.cell? (ad.add k) = some (.int .u32 a) := by rw [hq]; exact hc0
      have hc1 : wr.cell? (ad.add (k + 1)) = some (.int .u32 b) := by rw [hq]; exact hc1
      have hc1' : wr.cell? { block := ad.block, off := ad.off + (k + 1) } = some (.int .u32 b) := by have h := hc1; simpa [Addr.add] using h
      have hk0 : (0 : Int) ≤ k := by omega
      have hk1 : (k : Int) < n := by omega
      have hk2 : (k : Int) + 1 < n := by omega
      have hk3 : (0 : Int) ≤ (k : Int) + 1 := by omega
      have hwk : IntKind.i64.wrap (k : Int) = (k : Int) := by rw [IntKind.wrap_i64]; omega
      have HQ := Lib.hid hq
      have HA := Lib.hid ha
      have HBb := Lib.hid hb
      clear hq ha hb hk
      by_cases hab2 : a < b
      · have hd : decide ((b : Int) ≤ (a : Int)) = false := by simp; omega
        have hd2 : decide (b ≤ a) = false := by simp; omega
        clear hab
        go_wp2_with fail
        go_quiet (fail)
        go_wp2_with fail
        go_roundw
        case rel =>
          have hqq : ∃ q', wr.drewN nq = w.drewN q' := ⟨q + nq, by rw [HQ.out, World.drewN_drewN]⟩
          have hU : ∀ j, j < k + 1 → nthU l j < nthU l (j + 1) := fun j hj => by
            rcases Nat.lt_or_ge j k with h | h
            · exact HU.out j h
            · obtain rfl : j = k := by omega
              rw [← HA.out, ← HBb.out]
              exact hab2
          first
            | exact ⟨k + 1, by omega, by go_num, hU, hqq⟩
            | ((repeat apply Exists.intro); exact ⟨⟨k + 1, by omega, by go_num, hU, hqq⟩, rfl⟩)
        case measure => simp [intOf]; omega
      · have hd : decide ((b : Int) ≤ (a : Int)) = true := by simp; omega
        have hd2 : decide (b ≤ a) = true := by simp; omega
        have HE := Lib.hid (show ascU l = false from ascU_no (i := k) (by rw [HL.out]; exact hlt) (by rw [← HA.out, ← HBb.out]; exact hab2))
        clear hab
        go_wp2_with fail
        go_quiet (fail)
        go_wp2_with fail
        go_ret
        exact ⟨by rw [HE.out] <;> rfl, q + nq, by rw [HQ.out, World.drewN_drewN]⟩
    · have hk2 : ¬ (k : Int) + 1 < n := by omega
      have HE := Lib.hid (show ascU l = true from ascU_iff.2 (fun i hi => HU.out i (by rw [HL.out] at hi; omega)))
      have HQ := Lib.hid hq
      clear hq hlt
      go_wp2_with fail
      go_ret
      exact ⟨by rw [HE.out] <;> rfl, q, HQ.out⟩
set_option maxRecDepth 300000 in
set_option maxHeartbeats 3200000 in
theorem rnumbers_any (A : Option Addr) (n c : Nat) (l : List Nat) (w : World) {B : Nat} (hr : Reads w B 1 A n (ucells l)) (hn : n ≤ maxLen) :
    Calls Try.prog 53 #[.slice A n c] w fun e w' => e = .returned (.bool (allU l && ascU l)) ∧ ∃ q, w' = w.drewN q := by
  have HL := Lib.hid (ulen hr)
  have HR := Lib.hid hr
  have HN9 := Lib.hid hn
  unfold maxLen at hn
  clear hr
  go_enter Try.func53, Try.ntmps53
  go_wp2_with fail
  go_loopw [3] (fun i wr => ∃ k : Nat, k ≤ n ∧ i = .int .i64 k ∧ Hid (∀ j, j < k → numB (nthU l j) = true) ∧ ∃ q, wr = w.drewN q) (fun i _ => n - (intOf i).toNat)
  case atStart => exact ⟨0, Nat.zero_le _, rfl, Lib.hid (fun j hj => absurd hj (by omega)), 0, rfl⟩
  case round =>
    obtain ⟨k, hk, rfl, HU, q, hq⟩ := hrel
    have HQ := Lib.hid hq
    by_cases hlt : k < n
    · obtain ⟨ad, rfl, hab, hc0⟩ := ureads_at HR.out hlt
      obtain ⟨a, ha⟩ : ∃ a, a = nthU l k := ⟨_, rfl⟩
      rw [← ha] at hc0
      have hc0 : wr.cell? (ad.add k) = some (.int .u32 a) := by rw [hq]; exact hc0
      have hk0 : (0 : Int) ≤ k := by omega
      have hk1 : (k : Int) < n := by omega
      have HA := Lib.hid ha
      have HNm := fun w => (rnumB_any a w).mono (R' := fun e w' => e = .returned (.bool (numB a)) ∧ w = w') fun _ _ ⟨a, b⟩ => ⟨a, b.symm⟩
      clear ha hab hq
      rcases hnb : numB a with _ | _
      · rw [hnb] at HNm
        have HE := Lib.hid (show allU l = false from allU_no (i := k) (by rw [HL.out]; exact hlt) (by rw [← HA.out]; exact hnb))
        clear hnb
        go_wp2_with (go_at_call 59; refine (HNm _).mono ?_; rintro e w' ⟨rfl, rfl⟩)
        go_ret
        exact ⟨by rw [HE.out] <;> rfl, q, HQ.out⟩
      · rw [hnb] at HNm
        have HNb := Lib.hid hnb
        clear hnb
        go_wp2_with (go_at_call 59; refine (HNm _).mono ?_; rintro e w' ⟨rfl, rfl⟩)
        go_roundw
        case rel =>
          have hU : ∀ j, j < k + 1 → numB (nthU l j) = true := fun j hj => by
            rcases Nat.lt_or_ge j k with h | h
            · exact HU.out j h
            · obtain rfl : j = k := by omega
              rw [← HA.out]
              exact HNb.out
          first
            | exact ⟨k + 1, by omega, by go_num, hU, q, HQ.out⟩
            | ((repeat apply Exists.intro); exact ⟨⟨k + 1, by omega, by go_num, hU, q, HQ.out⟩, rfl⟩)
        case measure => simp [intOf]; omega
    · obtain rfl : k = n := by omega
      have HE := Lib.hid (show allU l = true from allU_at.2 (fun i hi => HU.out i (by rw [HL.out] at hi; exact hi)))
      clear hlt hk hq
      go_wp2_with fail
      refine (rrises_any A k c l _ (show Reads wr B 1 A k (ucells l) by rw [HQ.out]; exact HR.out.drewN q) HN9.out).mono ?_
      rintro e w1 ⟨rfl, q2, hq⟩
      have HQ2 := Lib.hid hq
      clear hq
      go_wp2_with fail
      go_ret
      exact ⟨by rw [HE.out] <;> rfl, q + q2, by rw [HQ2.out, HQ.out, World.drewN_drewN]⟩
theorem u32_noteq (a : Int) (w : World) : (binOp .neq 29 (.int .u32 a) (.int .u32 a)).run Try.prog w = .ok (.bool false) w := by
  simp [go_sem]
set_option maxRecDepth 300000 in
set_option maxHeartbeats 3200000 in
theorem sameU_yes (A : Option Addr) (n c : Nat) (A' : Option Addr) (c' : Nat) (l : List Nat) (w : World) {B B' : Nat} (hr : Reads w B 1 A n (ucells l)) (hr' : Reads w B' 1 A' n (ucells l)) (hn : n ≤ maxLen) :
    Calls Try.prog 16 #[.slice A n c, .slice A' n c'] w fun e w' => e = .returned (.bool true) ∧ ∃ q, w' = w.drewN q := by
  have HR := Lib.hid hr
  have HR' := Lib.hid hr'
  unfold maxLen at hn
  clear hr hr'
  go_enter Try.func16, Try.ntmps16
  go_wp2_with fail
  go_loopw [5] (fun i wr => ∃ k : Nat, k ≤ n ∧ i = .int .i64 k ∧ ∃ q, wr = w.drewN q) (fun i _ => n - (intOf i).toNat)
  case atStart => exact ⟨0, Nat.zero_le _, rfl, 0, rfl⟩
  case round =>
    obtain ⟨k, hk, rfl, q, hq⟩ := hrel
    by_cases hlt : k < n
    · obtain ⟨ad, rfl, _, hc⟩ := ureads_at HR.out hlt
      obtain ⟨ad', rfl, _, hc'⟩ := ureads_at HR'.out hlt
      have hc : wr.cell? (ad.add k) = some (.int .u32 (nthU l k)) := by rw [hq]; exact hc
      have hc' : wr.cell? (ad'.add k) = some (.int .u32 (nthU l k)) := by rw [hq]; exact hc'
      generalize nthU l k = a at hc hc'
      have hk0 : (0 : Int) ≤ k := by omega
      have hk1 : (k : Int) < n := by omega
      have HQ := Lib.hid hq
      have he := fun w => u32_noteq a w
      clear hq
      go_wp2_with fail
      go_quiet (fail)
      go_wp2_with fail
      go_roundw
      case rel =>
        have hqq : ∃ q', wr.drewN nq = w.drewN q' := ⟨q + nq, by rw [HQ.out, World.drewN_drewN]⟩
        first
          | exact ⟨k + 1, by omega, by go_num, hqq⟩
          | ((repeat apply Exists.intro); exact ⟨⟨k + 1, by omega, by go_num, hqq⟩, rfl⟩)
      case measure => simp [intOf]; omega
    · obtain rfl : k = n := by omega
      clear hlt hk
      have HQ := Lib.hid hq
      clear hq
      go_wp2_with fail
      go_ret
      exact ⟨rfl, q, HQ.out⟩
end Go.Proofs.Ytabhhccdbfjigaa
