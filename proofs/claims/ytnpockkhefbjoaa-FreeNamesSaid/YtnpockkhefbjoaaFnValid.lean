/-
  Contract of free.valid: may numbers be a page's?
-/
import Derived.Test.YtnpockkhefbjoaaFnSmall
import Derived.Test.YtnpockkhefbjoaaFnSort
namespace Go.Proofs.Ytnpockkhefbjoaa
open Go.RowKit
open Go.Lib hiding intOf
set_option linter.unusedVariables false
set_option linter.unusedSimpArgs false
attribute [local go_sem ↓] Go.wp_at_zero Go.wp_at_succ

/-- What free.valid answers. -/
def fitU (size : Int) (l : List Nat) : Bool := allU l && (decide (l.length ≤ mostN size) && ascU l)
set_option maxRecDepth 100000 in
set_option maxHeartbeats 6400000 in
theorem fvalid_any (size : Int) (A : Option Addr) (m c : Nat) (l : List Nat) (w : World) (hr : Reads w w.heap.size 1 A m (ucells l)) (hm : m ≤ 1000000) :
    Calls Try.prog 23 #[.int .i64 size, .slice A m c] w fun e w' => e = .returned (.bool (fitU size l)) ∧ Below w.heap.size w w' := by
  have HR := Lib.hid hr
  have HL := Lib.hid (ulen hr)
  have HM := fun w => fmost_same size w
  obtain ⟨mo, hmo⟩ : ∃ mo, mo = mostN size := ⟨_, rfl⟩
  rw [← hmo] at HM
  have HMo := Lib.hid hmo
  have HS := Lib.hid (frises_any A m c l w hr hm)
  clear hr hmo
  go_enter Try.func23, Try.ntmps23
  go_wp2_with fail
  go_loopw [6, 9] (fun _ i wr => ∃ k : Nat, k ≤ m ∧ i = .int .i64 k ∧ Hid (∀ j, j < k → numB (nthU l j) = true) ∧ wr = w) (fun _ i _ => m - (intOf i).toNat)
  case atStart => exact ⟨0, Nat.zero_le _, rfl, Lib.hid (fun j hj => absurd hj (Nat.not_lt_zero _)), rfl⟩
  case round =>
    obtain ⟨k, hk, rfl, HU, rfl⟩ := hrel
    by_cases hlt : k < m
    · obtain ⟨ad, rfl, hab, hc0⟩ := ureads_at HR.out hlt
      obtain ⟨a, ha⟩ : ∃ a, a = nthU l k := ⟨_, rfl⟩
      rw [← ha] at hc0
      have HN := fun w => fnum_any a w
      have HA := Lib.hid ha
      have hk0 : (0 : Int) ≤ k := by omega
      have hk1 : (k : Int) < m := by omega
      clear ha hab
      rcases hn : numB a with _ | _
      · rw [hn] at HN
        have HE := Lib.hid (show fitU size l = false by
          unfold fitU
          rw [allU_no (i := k) (by rw [HL.out]; exact hlt) (by rw [← HA.out]; exact hn)]
          rfl)
        clear hn
        go_wp2_with (go_at_call 22; refine (HN _).mono ?_; rintro e w' ⟨rfl, rfl⟩)
        go_ret
        exact ⟨by rw [HE.out]; rfl, Below.refl _ _⟩
      · rw [hn] at HN
        have HU2 := Lib.hid (show ∀ j, j < k + 1 → numB (nthU l j) = true from fun j hj => by
          rcases Nat.lt_or_ge j k with h | h
          · exact HU.out j h
          · obtain rfl : j = k := by omega
            rw [← HA.out]
            exact hn)
        clear hn
        go_wp2_with (go_at_call 22; refine (HN _).mono ?_; rintro e w' ⟨rfl, rfl⟩)
        go_roundw
        case rel =>
          first
            | exact ⟨k + 1, by omega, by go_num, HU2, rfl⟩
            | exact ⟨k + 1, by omega, by go_num, HU2, trivial⟩
            | ((repeat apply Exists.intro); exact ⟨⟨k + 1, by omega, by go_num, HU2, rfl⟩, rfl⟩)
        case measure => simp [intOf]; omega
    · obtain rfl : k = m := by omega
      have hal : allU l = true := allU_at.2 (fun i hi => HU.out i (by rw [← HL.out]; exact hi))
      by_cases h2 : k ≤ mo
      · have hd1 : decide ((k : Int) ≤ (mo : Int)) = true := by simp; omega
        have hd2 : decide (k ≤ mo) = true := decide_eq_true h2
        have HE := Lib.hid (show fitU size l = ascU l by
          unfold fitU
          rw [hal, HL.out, ← HMo.out, hd2]
          rfl)
        clear hlt hal h2
        go_wp2_with (go_at_call 13; refine (HM _).mono ?_; rintro e w' ⟨rfl, rfl⟩)
        refine HS.out.mono ?_
        rintro e w1 ⟨rfl, hb⟩
        go_wp2_with fail
        go_ret
        exact ⟨by rw [HE.out]; rfl, hb⟩
      · have hd1 : decide ((k : Int) ≤ (mo : Int)) = false := by simp; omega
        have hd2 : decide (k ≤ mo) = false := decide_eq_false h2
        have HE := Lib.hid (show fitU size l = false by
          unfold fitU
          rw [hal, HL.out, ← HMo.out, hd2]
          rfl)
        clear hlt hal h2
        go_wp2_with (go_at_call 13; refine (HM _).mono ?_; rintro e w' ⟨rfl, rfl⟩)
        go_ret
        exact ⟨by rw [HE.out]; rfl, Below.refl _ _⟩
end Go.Proofs.Ytnpockkhefbjoaa
