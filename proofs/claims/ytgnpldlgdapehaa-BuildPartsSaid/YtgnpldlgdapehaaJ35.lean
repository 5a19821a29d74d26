/-
  Contracts of the reference of layer 7: May and Pick.
-/
import Derived.Test.YtgnpldlgdapehaaJ12
import Derived.Deep.CutRange
import Derived.Deep.QuietTactic
import Derived.BigQuiet
import Derived.Lib.MinMax
set_option linter.unusedVariables false
set_option linter.unusedSimpArgs false
namespace Go.Proofs.Ytgnpldlgdapehaa
open Go.RowKit
open Go.Lib hiding intOf
attribute [local go_sem ↓] Go.wp_at_zero Go.wp_at_succ

set_option maxRecDepth 100000 in
set_option maxHeartbeats 6400000 in
theorem rmay7_any (A : Option Addr) (n c : Nat) (l : List Fk) (w : World) (hr : Reads w w.heap.size 2 A n (fkc l)) (hn : n ≤ 5864062014805) :
  Calls Try.prog 37 #[.slice A n c] w fun e w' => e = .returned (.bool (mayF l)) ∧ Below w.heap.size w w' := by
 have HL := Lib.hid (fk_len hr)
 have HR := Lib.hid hr
 clear hr
 go_enter Try.func37, Try.ntmps37
 go_wp2_with fail
 go_loopw [3] (fun i wr => ∃ k : Nat, k ≤ n ∧ i = .int .i64 k ∧ Hid (∀ j, j < k → okAtF l j = true) ∧ Hid (Below w.heap.size w wr)) (fun i _ => n - (intOf i).toNat)
 case atStart => exact ⟨0, Nat.zero_le _, rfl, Lib.hid fun j hj => absurd hj (by omega), Lib.hid (Below.refl _ _)⟩
 case round =>
  obtain ⟨k, hk, rfl, HF, HB⟩ := hrel
  by_cases hlt : k < n
  ·obtain ⟨ad, x, rfl, _, hp, hx, hc⟩ := fk_at HR.out hlt
   obtain ⟨c0, c1⟩ := hc.below HB.out hp
   have hk0 : (0 : Int) ≤ k := by omega
   have hk1 : (k : Int) < n := by omega
   have HX := Lib.hid hx
   have hkl : k < l.length := by rw [HL.out]; exact hlt
   have HK := fun w => rkey_any x.nm w
   have HN := fun w => rnumB_any x.rt w
   clear hx hc hp
   rcases hnm : keyF x.nm with _ | _
   ·have HE := Lib.hid (show mayF l = false by rw [mayF, allOkF_no hkl (by rw [okAtF_of HX.out, okFk, hnm]; rfl)]; rfl)
    rw [hnm] at HK
    clear hkl hnm
    go_wp2_with fail
    go_quiet ((go_at_call 26; exact Calls.quiet_of_same (HK _)))
    go_wp2_with fail
    go_ret
    exact ⟨by rw [HE.out]; rfl, below_drewN HB.out _⟩
   rw [hnm] at HK
   rcases hnb : numB x.rt with _ | _
   ·have HE := Lib.hid (show mayF l = false by rw [mayF, allOkF_no hkl (by rw [okAtF_of HX.out, okFk, hnm, hnb]; rfl)]; rfl)
    rw [hnb] at HN
    clear hkl hnm hnb
    go_wp2_with fail
    go_quiet (first | (go_at_call 26; exact Calls.quiet_of_same (HK _)) | (go_at_call 56; exact Calls.quiet_of_same (HN _)))
    go_wp2_with fail
    go_ret
    exact ⟨by rw [HE.out]; rfl, below_drewN HB.out _⟩
   rw [hnb] at HN
   have hok : okFk x = true := by rw [okFk, hnm, hnb]; rfl
   clear hnm hnb
   by_cases hk00 : k = 0
   ·have HE := Lib.hid (show okAtF l k = true by rw [okAtF_of HX.out, hok, hk00]; rfl)
    have hk3 : decide ((k : Int) > 0) = false := by simp; omega
    have hk4 : decide (0 < k) = false := by simp; omega
    clear hk00 hok hkl
    go_wp2_with fail
    go_quiet (first | (go_at_call 26; exact Calls.quiet_of_same (HK _)) | (go_at_call 56; exact Calls.quiet_of_same (HN _)))
    go_wp2_with fail
    have HF' := Lib.hid (fun j (hj : j < k + 1) => show okAtF l j = true from by
     by_cases hjk : j < k
     ·exact HF.out j hjk
     ·have e : j = k := by omega
      rw [e]; exact HE.out)
    have HB' := Lib.hid (below_drewN HB.out nq)
    go_roundw
    case rel =>
     first
      | exact ⟨k + 1, by omega, by go_num, HF', HB'⟩
      | ((repeat apply Exists.intro); exact ⟨⟨k + 1, by omega, by go_num, HF', HB'⟩, rfl⟩)
    case measure => simp [intOf]; omega
   obtain ⟨j, hkj⟩ : ∃ j, k = j + 1 := ⟨k - 1, by omega⟩
   obtain ⟨ad', y, had, _, hpy, hy, hcy⟩ := fk_at HR.out (show j < n by omega)
   injection had with had
   subst had
   obtain ⟨y0, _⟩ := hcy.below HB.out hpy
   have hj1 : IntKind.i64.wrap ((k : Int) - 1) = (j : Int) := by rw [IntKind.wrap_i64]; omega
   have hj2 : (k : Int) - 1 = (j : Int) := by omega
   have hj5 : IntKind.i64.wrap (j : Int) = (j : Int) := by rw [IntKind.wrap_i64]; omega
   have hj3 : (0 : Int) ≤ j := by omega
   have hj4 : (j : Int) < n := by omega
   have hk3 : decide ((k : Int) > 0) = true := by simp; omega
   have hk4 : decide (0 < k) = true := by simp; omega
   have hat : okAtF l k = Op.bytesLess y.nm.toList x.nm.toList := by rw [okAtF_of HX.out, hok, hkj]; simp [hy]
   rcases hless : Op.bytesLess y.nm.toList x.nm.toList with _ | _
   ·have HE := Lib.hid (show mayF l = false by rw [mayF, allOkF_no hkl (by rw [hat, hless])]; rfl)
    clear hat hkl hok hy hkj hk00 hcy
    go_wp2_with fail
    go_quiet (first | (go_at_call 26; exact Calls.quiet_of_same (HK _)) | (go_at_call 56; exact Calls.quiet_of_same (HN _)))
    go_wp2_with fail
    go_ret
    exact ⟨by rw [HE.out]; rfl, below_drewN HB.out _⟩
   ·have HE := Lib.hid (show okAtF l k = true by rw [hat, hless])
    clear hat hkl hok hy hkj hk00 hcy
    go_wp2_with fail
    go_quiet (first | (go_at_call 26; exact Calls.quiet_of_same (HK _)) | (go_at_call 56; exact Calls.quiet_of_same (HN _)))
    clear hj1 hj2 hj5
    go_wp2_with fail
    have HF' := Lib.hid (fun j (hj : j < k + 1) => show okAtF l j = true from by
     by_cases hjk : j < k
     ·exact HF.out j hjk
     ·have e : j = k := by omega
      rw [e]; exact HE.out)
    have HB' := Lib.hid (below_drewN HB.out nq)
    go_roundw
    case rel =>
     first
      | exact ⟨k + 1, by omega, by go_num, HF', HB'⟩
      | ((repeat apply Exists.intro); exact ⟨⟨k + 1, by omega, by go_num, HF', HB'⟩, rfl⟩)
    case measure => simp [intOf]; omega
  ·obtain rfl : k = n := by omega
   have ha : allOkF l = true := allOkF_yes fun j hj => HF.out j (by rw [← HL.out]; exact hj)
   have HE := Lib.hid (show mayF l = decide (0 < k) by rw [mayF, ha, HL.out]; rfl)
   clear ha hlt
   go_wp2_with fail
   go_ret
   exact ⟨by rw [HE.out]; rfl, HB.out⟩
end Go.Proofs.Ytgnpldlgdapehaa

