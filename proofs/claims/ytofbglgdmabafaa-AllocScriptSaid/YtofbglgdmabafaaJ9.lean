/-
  Contracts of the reference of layer 10: Most, Need, Rises, Numbers; the kit's Same over numbers of 32 bits.
-/
import Derived.Test.YtofbglgdmabafaaJ5
import Derived.Test.YtofbglgdmabafaaJ8
import Derived.Test.YtofbglgdmabafaaJ7
import Derived.Deep.CutRange
import Derived.Deep.DrawnRows
import Derived.Deep.QuietTactic
import Derived.BigQuiet
import Derived.Lib.MinMax
namespace Go.Proofs.Ytofbglgdmabafaa
open Go.RowKit
open Go.Lib hiding intOf
set_option linter.unusedVariables false
set_option linter.unusedSimpArgs false
attribute [local go_sem ↓] Go.wp_at_zero Go.wp_at_succ

theorem ureads_at {w : World} {B n k : Nat} {A : Option Addr} {l : List Nat} (h : Reads w B 1 A n (ucells l)) (hk : k < n) : ∃ ad, A = some ad ∧ ad.block < B ∧ w.cell? (ad.add k) = some (.int .u32 (nthU l k)) := by
  obtain ⟨ad, u, ha, hb, hx, hc⟩ := h.at_ hk
  have hl : l.length = n := by have := h.1; rw [ucells_length] at this; omega
  rw [ucells_at (nthU_at (show k < l.length by omega))] at hx
  injection hx with hx
  exact ⟨ad, ha, hb, by rw [hc, ← hx]⟩
theorem ulen {w : World} {B n : Nat} {A : Option Addr} {l : List Nat} (h : Reads w B 1 A n (ucells l)) : l.length = n := by have := h.1; rw [ucells_length] at this; omega
set_option maxRecDepth 300000 in
set_option maxHeartbeats 3200000 in
theorem rrises_any (A : Option Addr) (n c : Nat) (l : List Nat) (w : World) {B : Nat} (hr : Reads w B 1 A n (ucells l)) (hn : n ≤ maxLen) :
    Calls Try.prog 64 #[.slice A n c] w fun e w' => e = .returned (.bool (ascU l)) ∧ ∃ q, w' = w.drewN q := by
  have HL := Lib.hid (ulen hr)
  have HR := Lib.hid hr
  unfold maxLen at hn
  clear hr
  go_enter Try.func64, Try.ntmps64
  go_wp2_with fail
  go_loopw [3] (fun i wr => ∃ k : Nat, (k + 1 ≤ n ∨ k = 0) ∧ i = .int .i64 ((k : Int) + 1) ∧ Hid (∀ j, j < k → nthU l j < nthU l (j + 1)) ∧ ∃ q, wr = w.drewN q) (fun i _ => n + 1 - (intOf i).toNat)
  case atStart => exact ⟨0, .inr rfl, rfl, Lib.hid (fun j hj => absurd hj (by omega)), 0, rfl⟩
  case round =>
    obtain ⟨k, hk, rfl, HU, q, hq⟩ := hrel
    by_cases hlt : k + 1 < n
    · obtain ⟨ad, rfl, hab, hc0⟩ := ureads_at HR.out (show k < n by omega)
      obtain ⟨ad', ha', _, hc1⟩ := ureads_at HR.out hlt
      injection ha' with ha'
      subst ha'
      obtain ⟨a, ha⟩ : ∃ a, a = nthU l k := ⟨_, rfl⟩
      obtain ⟨b, hb⟩ : ∃ b, b = nthU l (k + 1) := ⟨_, rfl⟩
      rw [← ha] at hc0
      rw [← hb] at hc1
      have hc0 : wr.cell? (ad.add k) = some (.int .u32 a) := by rw [hq]; exact hc0
      have hc1 : wr.cell? (ad.add (k + 1)) = some (.int .u32 b) := by rw [hq]; exact hc1
      have hc1' : wr.cell? { block := ad.block, off := ad.off + (k + 1) } = some (.int .u32 b) := by have h := hc1; simpa [Addr.add] using h
      have hk0 : (0 : Int) ≤ k := by omega
      have hk1 : (k : Int) < n := by omega
      have hk2 : (k : Int) + 1 < n := by omega
      have hk3 : (0 : Int) ≤ (k : Int) + 1 := by omega
      have hwk : IntKind.i64.wrap (k : Int) = (k : Int) := by rw [IntKind.wrap_i64]; omega
      have HQ := Lib.hid hq
      have HA := Lib.hid ha
      have HBb := Lib.hid hb
      clear hq ha hb hk
      by_cases hab2 : a < b
      · have hd : decide ((b : Int) ≤ (a : Int)) = false := by simp; omega
        have hd2 : decide (b ≤ a) = false := by simp; omega
        clear hab
        go_wp2_with fail
        go_quiet (fail)
        go_wp2_with fail
        go_roundw
        case rel =>
          have hqq : ∃ q', wr.drewN nq = w.drewN q' := ⟨q + nq, by rw [HQ.out, World.drewN_drewN]⟩
          have hU : ∀ j, j < k + 1 → nthU l j < nthU l (j + 1) := fun j hj => by
            rcases Nat.lt_or_ge j k with h | h
            · exact HU.out j h
            · obtain rfl : j = k := by omega
              rw [← HA.out, ← HBb.out]
              exact hab2
          first
            | exact ⟨k + 1, by omega, by go_num, hU, hqq⟩
            | ((repeat apply Exists.intro); exact ⟨⟨k + 1, by omega, by go_num, hU, hqq⟩, rfl⟩)
        case measure => simp [intOf]; omega
      · have hd : decide ((b : Int) ≤ (a : Int)) = true := by simp; omega
        have hd2 : decide (b ≤ a) = true := by simp; omega
        have HE := Lib.hid (show ascU l = false from ascU_no (i := k) (by rw [HL.out]; exact hlt) (by rw [← HA.out, ← HBb.out]; exact hab2))
        clear hab
        go_wp2_with fail
        go_quiet (fail)
        go_wp2_with fail
        go_ret
        exact ⟨by rw [HE.out] <;> rfl, q + nq, by rw [HQ.out, World.drewN_drewN]⟩
    · have hk2 : ¬ (k : Int) + 1 < n := by omega
      have HE := Lib.hid (show ascU l = true from ascU_iff.2 (fun i hi => HU.out i (by rw [HL.out] at hi; omega)))
      have HQ := Lib.hid hq
      clear hq hlt
      go_wp2_with fail
      go_ret
      exact ⟨by rw [HE.out] <;> rfl, q, HQ.out⟩
set_option maxRecDepth 300000 in
set_option maxHeartbeats 3200000 in
theorem rnumbers_any (A : Option Addr) (n c : Nat) (l : List Nat) (w : World) {B : Nat} (hr : Reads w B 1 A n (ucells l)) (hn : n ≤ maxLen) :
    Calls Try.prog 43 #[.slice A n c] w fun e w' => e = .returned (.bool (allU l && ascU l)) ∧ ∃ q, w' = w.drewN q := by
  have HL := Lib.hid (ulen hr)
  have HR := Lib.hid hr
  have HN9 := Lib.hid hn
  unfold maxLen at hn
  clear hr
  go_enter Try.func43, Try.ntmps43
  go_wp2_with fail
  go_loopw [3] (fun i wr => ∃ k : Nat, k ≤ n ∧ i = .int .i64 k ∧ Hid (∀ j, j < k → numB (nthU l j) = true) ∧ ∃ q, wr = w.drewN q) (fun i _ => n - (intOf i).toNat)
  case atStart => exact ⟨0, Nat.zero_le _, rfl, Lib.hid (fun j hj => absurd hj (by omega)), 0, rfl⟩
  case round =>
    obtain ⟨k, hk, rfl, HU, q, hq⟩ := hrel
    have HQ := Lib.hid hq
    by_cases hlt : k < n
    · obtain ⟨ad, rfl, hab, hc0⟩ := ureads_at HR.out hlt
      obtain ⟨a, ha⟩ : ∃ a, a = nthU l k := ⟨_, rfl⟩
      rw [← ha] at hc0
      have hc0 : wr.cell? (ad.add k) = some (.int .u32 a) := by rw [hq]; exact hc0
      have hk0 : (0 : Int) ≤ k := by omega
      have hk1 : (k : Int) < n := by omega
      have HA := Lib.hid ha
      have HNm := fun w => (rnumB_any a w).mono (R' := fun e w' => e = .returned (.bool (numB a)) ∧ w = w') fun _ _ ⟨a, b⟩ => ⟨a, b.symm⟩
      clear ha hab hq
      rcases hnb : numB a with _ | _
      · rw [hnb] at HNm
        have HE := Lib.hid (show allU l = false from allU_no (i := k) (by rw [HL.out]; exact hlt) (by rw [← HA.out]; exact hnb))
        clear hnb
        go_wp2_with (go_at_call 63; refine (HNm _).mono ?_; rintro e w' ⟨rfl, rfl⟩)
        go_ret
        exact ⟨by rw [HE.out] <;> rfl, q, HQ.out⟩
      · rw [hnb] at HNm
        have HNb := Lib.hid hnb
        clear hnb
        go_wp2_with (go_at_call 63; refine (HNm _).mono ?_; rintro e w' ⟨rfl, rfl⟩)
        go_roundw
        case rel =>
          have hU : ∀ j, j < k + 1 → numB (nthU l j) = true := fun j hj => by
            rcases Nat.lt_or_ge j k with h | h
            · exact HU.out j h
            · obtain rfl : j = k := by omega
              rw [← HA.out]
              exact HNb.out
          first
            | exact ⟨k + 1, by omega, by go_num, hU, q, HQ.out⟩
            | ((repeat apply Exists.intro); exact ⟨⟨k + 1, by omega, by go_num, hU, q, HQ.out⟩, rfl⟩)
        case measure => simp [intOf]; omega
    · obtain rfl : k = n := by omega
      have HE := Lib.hid (show allU l = true from allU_at.2 (fun i hi => HU.out i (by rw [HL.out] at hi; exact hi)))
      clear hlt hk hq
      go_wp2_with fail
      refine (rrises_any A k c l _ (show Reads wr B 1 A k (ucells l) by rw [HQ.out]; exact HR.out.drewN q) HN9.out).mono ?_
      rintro e w1 ⟨rfl, q2, hq⟩
      have HQ2 := Lib.hid hq
      clear hq
      go_wp2_with fail
      go_ret
      exact ⟨by rw [HE.out] <;> rfl, q + q2, by rw [HQ2.out, HQ.out, World.drewN_drewN]⟩
theorem u32_noteq (a : Int) (w : World) : (binOp .neq 27 (.int .u32 a) (.int .u32 a)).run Try.prog w = .ok (.bool false) w := by
  simp [go_sem]
set_option maxRecDepth 300000 in
set_option maxHeartbeats 3200000 in
theorem sameU_yes (A : Option Addr) (n c : Nat) (A' : Option Addr) (c' : Nat) (l : List Nat) (w : World) {B B' : Nat} (hr : Reads w B 1 A n (ucells l)) (hr' : Reads w B' 1 A' n (ucells l)) (hn : n ≤ maxLen) :
    Calls Try.prog 17 #[.slice A n c, .slice A' n c'] w fun e w' => e = .returned (.bool true) ∧ ∃ q, w' = w.drewN q := by
  have HR := Lib.hid hr
  have HR' := Lib.hid hr'
  unfold maxLen at hn
  clear hr hr'
  go_enter Try.func17, Try.ntmps17
  go_wp2_with fail
  go_loopw [5] (fun i wr => ∃ k : Nat, k ≤ n ∧ i = .int .i64 k ∧ ∃ q, wr = w.drewN q) (fun i _ => n - (intOf i).toNat)
  case atStart => exact ⟨0, Nat.zero_le _, rfl, 0, rfl⟩
  case round =>
    obtain ⟨k, hk, rfl, q, hq⟩ := hrel
    by_cases hlt : k < n
    · obtain ⟨ad, rfl, _, hc⟩ := ureads_at HR.out hlt
      obtain ⟨ad', rfl, _, hc'⟩ := ureads_at HR'.out hlt
      have hc : wr.cell? (ad.add k) = some (.int .u32 (nthU l k)) := by rw [hq]; exact hc
      have hc' : wr.cell? (ad'.add k) = some (.int .u32 (nthU l k)) := by rw [hq]; exact hc'
      generalize nthU l k = a at hc hc'
      have hk0 : (0 : Int) ≤ k := by omega
      have hk1 : (k : Int) < n := by omega
      have HQ := Lib.hid hq
      have he := fun w => u32_noteq a w
      clear hq
      go_wp2_with fail
      go_quiet (fail)
      go_wp2_with fail
      go_roundw
      case rel =>
        have hqq : ∃ q', wr.drewN nq = w.drewN q' := ⟨q + nq, by rw [HQ.out, World.drewN_drewN]⟩
        first
          | exact ⟨k + 1, by omega, by go_num, hqq⟩
          | ((repeat apply Exists.intro); exact ⟨⟨k + 1, by omega, by go_num, hqq⟩, rfl⟩)
      case measure => simp [intOf]; omega
    · obtain rfl : k = n := by omega
      clear hlt hk
      have HQ := Lib.hid hq
      clear hq
      go_wp2_with fail
      go_ret
      exact ⟨rfl, q, HQ.out⟩
end Go.Proofs.Ytofbglgdmabafaa

