/-
  Contracts of what the statements of layer 9 share: lives; parts as a slice that reads.
-/
import Derived.Test.YtihhchncglnbiaaOvImpl
import Derived.Deep.CutRange
namespace Go.Proofs.Ytihhchncglnbiaa
open Go.RowKit
open Go.Lib hiding intOf
set_option linter.unusedVariables false
set_option linter.unusedSimpArgs false
attribute [local go_sem ↓] Go.wp_at_zero Go.wp_at_succ

set_option maxRecDepth 100000 in
set_option maxHeartbeats 3200000 in
theorem lives9_any (w : World) : Calls Try.prog 8 #[] w fun e w' => e = .returned (.bool true) ∧ Below w.heap.size w w' := by
  have HB := Lib.hid (Below.refl w.heap.size w)
  have I1 : ∀ w : World, Calls Try.prog 14 #[.int .i64 128, .int .i64 104] w fun e w' => e = .returned (.int .i64 1) ∧ Below w.heap.size w w' := fun w => oneed_any 128 104 w (by decide)
  have I2 : ∀ w : World, Calls Try.prog 14 #[.int .i64 128, .int .i64 105] w fun e w' => e = .returned (.int .i64 2) ∧ Below w.heap.size w w' := fun w => oneed_any 128 105 w (by decide)
  have I3 : ∀ w : World, Calls Try.prog 14 #[.int .i64 128, .int .i64 0] w fun e w' => e = .returned (.int .i64 0) ∧ Below w.heap.size w w' := fun w => oneed_any 128 0 w (by decide)
  go_enter Try.func8, Try.ntmps8
  go_wp2_with fail
  refine (I1 _).mono ?_
  rintro e w2 ⟨rfl, hb⟩
  replace HB := Lib.hid (HB.out.trans (hb.mono HB.out.size))
  clear hb I1
  go_wp2_with fail
  refine (I2 _).mono ?_
  rintro e w3 ⟨rfl, hb⟩
  replace HB := Lib.hid (HB.out.trans (hb.mono HB.out.size))
  clear hb I2
  go_wp2_with fail
  refine (I3 _).mono ?_
  rintro e w4 ⟨rfl, hb⟩
  replace HB := Lib.hid (HB.out.trans (hb.mono HB.out.size))
  clear hb I3
  go_wp2_with fail
  go_ret
  exact ⟨rfl, HB.out⟩
theorem lparts_read (size : Int) (v : ByteArray) (w : World) (hv : v.size ≤ 1000000) :
    Calls Try.prog 12 #[.int .i64 size, .string v] w fun e w' => ∃ A c, e = .returned (.tuple #[.slice A (partsL size v).length c, .bool true]) ∧ Reads w' w'.heap.size 1 A (partsL size v).length (strc (partsL size v)) ∧ Below w.heap.size w w' :=
  (lparts_any size v w hv).mono fun _ _ ⟨V, base, he, hb, ho, hB⟩ => by
    obtain ⟨A, c, rfl, _, _, _⟩ := own_form ho
    exact ⟨A, c, he, Reads.of_own ho, hB⟩
end Go.Proofs.Ytihhchncglnbiaa
