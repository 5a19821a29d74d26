/-
  A meta that came in by value, read field by field.
-/
import Derived.Test.YtfmalohaaibhiaaFrameOpen
namespace Go.Proofs.Ytfmalohaaibhiaa
open Go.RowKit Go.ChangeShapes Go.WideShapes
set_option linter.unusedVariables false
set_option linter.unusedSimpArgs false
section
variable {H : Type} {enc : TypeId × Value → H} {w : World} {base : Nat} {held : Bool}
set_option maxRecDepth 100000 in
theorem open_meta {fuel : Nat} {cs : Array Value} {x : DataW H × List MemPlace} (h : DataW.trod enc Try.prog w base (fun _ => true) held fuel 31 cs.toList = some x) (hs : cs.size = 5) :
    ∃ (a0 : Nat) (a1 : Int) (a2 a3 a4 : Nat), cs = #[.int .u64 a0, .int .i64 a1, .int .u32 a2, .int .u32 a3, .int .u32 a4] ∧ a0 < 18446744073709551616 ∧ -9223372036854775808 ≤ a1 ∧ a1 ≤ 9223372036854775807 ∧ a2 < 4294967296 ∧ a3 < 4294967296 ∧ a4 < 4294967296 := by
  obtain ⟨xs, k', hk, hxy, _, hxl, hf⟩ := DataW.trod_struct Try.underlying31 h
  obtain ⟨cl⟩ := cs
  match xs, hxl, cl, hs with
  | [y0, y1, y2, y3, y4], _, [v0, v1, v2, v3, v4], _ =>
    have g0 := hf 0 _ rfl
    have g1 := hf 1 _ rfl
    have g2 := hf 2 _ rfl
    have g3 := hf 3 _ rfl
    have g4 := hf 4 _ rfl
    have hone : ∀ t, t = 3 ∨ t = 23 ∨ t = 24 → Try.prog.cellsOf t = 1 := by
      rintro t (rfl | rfl | rfl) <;> kernel_rfl
    simp [hone] at g0 g1 g2 g3 g4
    obtain ⟨z0, hv0, _, hz0⟩ := DataW.trod_int Try.underlying24 g0
    obtain ⟨z1, hv1, _, hz1⟩ := DataW.trod_int Try.underlying3 g1
    obtain ⟨z2, hv2, _, hz2⟩ := DataW.trod_int Try.underlying23 g2
    obtain ⟨z3, hv3, _, hz3⟩ := DataW.trod_int Try.underlying23 g3
    obtain ⟨z4, hv4, _, hz4⟩ := DataW.trod_int Try.underlying23 g4
    simp at hv0 hv1 hv2 hv3 hv4
    subst hv0 hv1 hv2 hv3 hv4
    have b0 := lit_u64b hz0
    have b2 := lit_u32b hz2
    have b3 := lit_u32b hz3
    have b4 := lit_u32b hz4
    have b1 : -9223372036854775808 ≤ z1 ∧ z1 ≤ 9223372036854775807 := by
      simp [Lit.wf, IntKind.min, IntKind.max, IntKind.signed, IntKind.bits] at hz1
      omega
    refine ⟨z0.toNat, z1, z2.toNat, z3.toNat, z4.toNat, ?_, by omega, by omega, by omega, by omega, by omega, by omega⟩
    rw [show ((z2.toNat : Nat) : Int) = z2 by omega, show ((z3.toNat : Nat) : Int) = z3 by omega, show ((z4.toNat : Nat) : Int) = z4 by omega, show ((z0.toNat : Nat) : Int) = z0 by omega]
end
end Go.Proofs.Ytfmalohaaibhiaa
