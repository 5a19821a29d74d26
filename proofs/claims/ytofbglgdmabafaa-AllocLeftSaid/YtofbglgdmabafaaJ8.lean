/-
  Texts that the main proof rests on, put together: Ref10, Ref10Page, RdTot. No statement is proved here.
-/
import Derived.Test.YtofbglgdmabafaaJ4
import Derived.Test.YtofbglgdmabafaaJ7
import Derived.Test.YtofbglgdmabafaaJ6
import Derived.Deep.CutRange
import Derived.Deep.DrawnRows
import Derived.Deep.QuietTactic
import Derived.BigQuiet
import Derived.Lib.MinMax
import Derived.Test.YtofbglgdmabafaaJ2
namespace Go.Proofs.Ytofbglgdmabafaa
open Go.RowKit
open Go.Lib hiding intOf
set_option linter.unusedVariables false
set_option linter.unusedSimpArgs false
attribute [local go_sem ↓] Go.wp_at_zero Go.wp_at_succ

theorem ureads_at {w : World} {B n k : Nat} {A : Option Addr} {l : List Nat} (h : Reads w B 1 A n (ucells l)) (hk : k < n) : ∃ ad, A = some ad ∧ ad.block < B ∧ w.cell? (ad.add k) = some (.int .u32 (nthU l k)) := by
  obtain ⟨ad, u, ha, hb, hx, hc⟩ := h.at_ hk
  have hl : l.length = n := by have := h.1; rw [ucells_length] at this; omega
  rw [ucells_at (nthU_at (show k < l.length by omega))] at hx
  injection hx with hx
  exact ⟨ad, ha, hb, by rw [hc, ← hx]⟩
theorem ulen {w : World} {B n : Nat} {A : Option Addr} {l : List Nat} (h : Reads w B 1 A n (ucells l)) : l.length = n := by have := h.1; rw [ucells_length] at this; omega
theorem u32_noteq (a : Int) (w : World) : (binOp .neq 27 (.int .u32 a) (.int .u32 a)).run Try.prog w = .ok (.bool false) w := by
  simp [go_sem]
set_option maxRecDepth 300000 in
set_option maxHeartbeats 3200000 in
theorem sameU_yes (A : Option Addr) (n c : Nat) (A' : Option Addr) (c' : Nat) (l : List Nat) (w : World) {B B' : Nat} (hr : Reads w B 1 A n (ucells l)) (hr' : Reads w B' 1 A' n (ucells l)) (hn : n ≤ maxLen) :
    Calls Try.prog 17 #[.slice A n c, .slice A' n c'] w fun e w' => e = .returned (.bool true) ∧ ∃ q, w' = w.drewN q := by
  have HR := Lib.hid hr
  have HR' := Lib.hid hr'
  unfold maxLen at hn
  clear hr hr'
  go_enter Try.func17, Try.ntmps17
  go_wp2_with fail
  go_loopw [5] (fun i wr => ∃ k : Nat, k ≤ n ∧ i = .int .i64 k ∧ ∃ q, wr = w.drewN q) (fun i _ => n - (intOf i).toNat)
  case atStart => exact ⟨0, Nat.zero_le _, rfl, 0, rfl⟩
  case round =>
    obtain ⟨k, hk, rfl, q, hq⟩ := hrel
    by_cases hlt : k < n
    · obtain ⟨ad, rfl, _, hc⟩ := ureads_at HR.out hlt
      obtain ⟨ad', rfl, _, hc'⟩ := ureads_at HR'.out hlt
      have hc : wr.cell? (ad.add k) = some (.int .u32 (nthU l k)) := by rw [hq]; exact hc
      have hc' : wr.cell? (ad'.add k) = some (.int .u32 (nthU l k)) := by rw [hq]; exact hc'
      generalize nthU l k = a at hc hc'
      have hk0 : (0 : Int) ≤ k := by omega
      have hk1 : (k : Int) < n := by omega
      have HQ := Lib.hid hq
      have he := fun w => u32_noteq a w
      clear hq
      go_wp2_with fail
      go_quiet (fail)
      go_wp2_with fail
      go_roundw
      case rel =>
        have hqq : ∃ q', wr.drewN nq = w.drewN q' := ⟨q + nq, by rw [HQ.out, World.drewN_drewN]⟩
        first
          | exact ⟨k + 1, by omega, by go_num, hqq⟩
          | ((repeat apply Exists.intro); exact ⟨⟨k + 1, by omega, by go_num, hqq⟩, rfl⟩)
      case measure => simp [intOf]; omega
    · obtain rfl : k = n := by omega
      clear hlt hk
      have HQ := Lib.hid hq
      clear hq
      go_wp2_with fail
      go_ret
      exact ⟨rfl, q, HQ.out⟩
end Go.Proofs.Ytofbglgdmabafaa

namespace Go.Proofs.Ytofbglgdmabafaa
open Go.RowKit
open Go.Lib hiding intOf
set_option linter.unusedVariables false
set_option linter.unusedSimpArgs false
attribute [local go_sem ↓] Go.wp_at_zero Go.wp_at_succ

end Go.Proofs.Ytofbglgdmabafaa

namespace Go.Proofs.Ytofbglgdmabafaa
open Go.RowKit
open Go.Lib
set_option linter.unusedVariables false
set_option linter.unusedSimpArgs false

end Go.Proofs.Ytofbglgdmabafaa

