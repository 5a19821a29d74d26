/-
  Contracts of the reference of layer 9: Need, Page, Of; the kit's Same over strings.
-/
import Derived.Test.YtihhchncglnbiaaOv
import Derived.Test.YtihhchncglnbiaaRef4Body
import Derived.Test.YtihhchncglnbiaaPgWords
import Derived.Test.YtihhchncglnbiaaBytes
import Derived.Test.YtihhchncglnbiaaOwnW
import Derived.Deep.CutRange
import Derived.Deep.DrawnRows
import Derived.Deep.QuietTactic
import Derived.BigQuiet
import Derived.Lib.MinMax
namespace Go.Proofs.Ytihhchncglnbiaa
open Go.RowKit
open Go.Lib hiding intOf
set_option linter.unusedVariables false
set_option linter.unusedSimpArgs false
attribute [local go_sem ↓] Go.wp_at_zero Go.wp_at_succ

set_option maxRecDepth 100000 in
set_option maxHeartbeats 3200000 in
theorem rneed9_any (size n : Int) (w : World) (hn : n ≤ 9223372036854775807) : Calls Try.prog 18 #[.int .i64 size, .int .i64 n] w fun e w' => e = .returned (.int .i64 (needN size n)) ∧ w' = w := by
  have HG := fun w => rgood_any size w
  rcases hg : goodSize size with _ | _
  · rw [hg] at HG
    have HE := Lib.hid (show ((needN size n : Nat) : Int) = 0 by rw [needN, hg]; rfl)
    clear hg
    go_enter Try.func18, Try.ntmps18
    go_wp2_with (go_at_call 28; refine (HG _).mono ?_; rintro e w' ⟨rfl, rfl⟩)
    go_ret
    exact ⟨by rw [HE.out]; rfl, rfl⟩
  rw [hg] at HG
  by_cases h1 : n < 1
  · have HE := Lib.hid (show ((needN size n : Nat) : Int) = 0 by rw [needN, decide_eq_false (show ¬ 1 ≤ n by omega), Bool.and_false]; rfl)
    clear hg
    go_enter Try.func18, Try.ntmps18
    go_wp2_with (go_at_call 28; refine (HG _).mono ?_; rintro e w' ⟨rfl, rfl⟩)
    go_ret
    exact ⟨by rw [HE.out]; rfl, rfl⟩
  · obtain ⟨z, rfl, hz1, hz2, _⟩ := good_nat hg
    obtain ⟨r, hr⟩ : ∃ r, r = z - 24 := ⟨_, rfl⟩
    have HM : ∀ w : World, Calls Try.prog 19 #[.int .i64 z] w fun e w' => e = .returned (.int .i64 (r : Int)) ∧ w' = w := fun w => by
      have h := rroom_is z w hg
      rwa [show (z : Int) - 24 = (r : Int) by omega] at h
    obtain ⟨m, hm⟩ : ∃ m : Nat, (m : Int) = n - 1 := ⟨(n - 1).toNat, by omega⟩
    obtain ⟨q, hq⟩ : ∃ q, q = m / r := ⟨_, rfl⟩
    have hqm : q ≤ m := by rw [hq]; exact Nat.div_le_self _ _
    have HE := Lib.hid (show ((needN z n : Nat) : Int) = (q : Int) + 1 by
      rw [needN, hg, decide_eq_true (show 1 ≤ n by omega), Bool.and_self, if_pos (by rfl), show n.toNat - 1 = m by omega, show ((z : Int) - 24).toNat = r by omega, ← hq]
      rfl)
    obtain rfl : n = (m : Int) + 1 := by omega
    have hr0 : ((r : Int) == 0) = false := by simp; omega
    have hr1 : ¬ (r : Int) = 0 := by omega
    have hdiv : (m : Int) / (r : Int) = (q : Int) := by rw [hq]; simp
    have hwq : wrap64 (q : Int) = (q : Int) := wrap64_nat q (by omega)
    have hwq1 : wrap64 ((q : Int) + 1) = (q : Int) + 1 := by unfold wrap64; omega
    have hwq2 : IntKind.i64.wrap ((q : Int) + 1) = (q : Int) + 1 := by rw [IntKind.wrap_i64]; omega
    have hwm : IntKind.i64.wrap (m : Int) = (m : Int) := by rw [IntKind.wrap_i64]; omega
    have hwm2 : wrap64 (m : Int) = (m : Int) := by unfold wrap64; omega
    have hm9 : ¬ (m : Int) + 1 < 1 := by omega
    clear hg hm hq hr hz1 hz2 hqm hn h1
    go_enter Try.func18, Try.ntmps18
    go_wp2_with (first | (go_at_call 28; refine (HG _).mono ?_; rintro e w' ⟨rfl, rfl⟩) | (go_at_call 19; refine (HM _).mono ?_; rintro e w' ⟨rfl, rfl⟩))
    go_ret
    exact ⟨by rw [HE.out]; rfl, rfl⟩
def strc (l : List ByteArray) : List Value := l.map Value.string
theorem str_noteq (a : ByteArray) (w : World) : (binOp .neq 9 (.string a) (.string a)).run Try.prog w = .ok (.bool false) w := by
  simp [go_sem]
set_option maxRecDepth 300000 in
set_option maxHeartbeats 3200000 in
theorem sameS_yes (A : Option Addr) (n c : Nat) (A' : Option Addr) (c' : Nat) (l : List ByteArray) (w : World) {B B' : Nat} (hr : Reads w B 1 A n (strc l)) (hr' : Reads w B' 1 A' n (strc l)) (hn : n ≤ maxLen) :
    Calls Try.prog 13 #[.slice A n c, .slice A' n c'] w fun e w' => e = .returned (.bool true) ∧ ∃ q, w' = w.drewN q := by
  have HR := Lib.hid hr
  have HR' := Lib.hid hr'
  unfold maxLen at hn
  clear hr hr'
  go_enter Try.func13, Try.ntmps13
  go_wp2_with fail
  go_loopw [5] (fun i wr => ∃ k : Nat, k ≤ n ∧ i = .int .i64 k ∧ ∃ q, wr = w.drewN q) (fun i _ => n - (intOf i).toNat)
  case atStart => exact ⟨0, Nat.zero_le _, rfl, 0, rfl⟩
  case round =>
    obtain ⟨k, hk, rfl, q, hq⟩ := hrel
    by_cases hlt : k < n
    · obtain ⟨ad, u, rfl, _, hx, hc⟩ := HR.out.at_ hlt
      obtain ⟨ad', u', rfl, _, hx', hc'⟩ := HR'.out.at_ hlt
      rw [hx] at hx'
      injection hx' with hx'
      subst hx'
      obtain ⟨s, _, rfl⟩ := List.mem_map.1 (List.mem_of_getElem? hx)
      have hc : wr.cell? (ad.add k) = some (.string s) := by rw [hq]; exact hc
      have hc' : wr.cell? (ad'.add k) = some (.string s) := by rw [hq]; exact hc'
      have hk0 : (0 : Int) ≤ k := by omega
      have hk1 : (k : Int) < n := by omega
      have HQ := Lib.hid hq
      have he := fun w => str_noteq s w
      clear hq hx
      go_wp2_with fail
      go_quiet (fail)
      go_wp2_with fail
      go_roundw
      case rel =>
        have hqq : ∃ q', wr.drewN nq = w.drewN q' := ⟨q + nq, by rw [HQ.out, World.drewN_drewN]⟩
        first
          | exact ⟨k + 1, by omega, by go_num, hqq⟩
          | ((repeat apply Exists.intro); exact ⟨⟨k + 1, by omega, by go_num, hqq⟩, rfl⟩)
      case measure => simp [intOf]; omega
    · obtain rfl : k = n := by omega
      clear hlt hk
      have HQ := Lib.hid hq
      clear hq
      go_wp2_with fail
      go_ret
      exact ⟨rfl, q, HQ.out⟩
end Go.Proofs.Ytihhchncglnbiaa
