/-
  A page that came in by value, read field by field; a slice of strings that came in, read as a list of strings.
-/
import Derived.Test.YtnpockkhefbjoaaWords
import Derived.Deep.Slices
import Derived.SliceStrings
import Derived.ChangeSame
import Derived.SizedLaws
namespace Go.Proofs.Ytnpockkhefbjoaa
open Go.RowKit Go.ChangeShapes Go.WideShapes
set_option linter.unusedVariables false
set_option linter.unusedSimpArgs false

theorem lit_u32b {z : Int} (h : (Lit.int .u32 z).wf = true) : 0 ≤ z ∧ z ≤ 4294967295 := by
  simp [Lit.wf, IntKind.min, IntKind.max, IntKind.signed, IntKind.bits] at h
  omega
theorem lit_u64b {z : Int} (h : (Lit.int .u64 z).wf = true) : 0 ≤ z ∧ z ≤ 18446744073709551615 := by
  simp [Lit.wf, IntKind.min, IntKind.max, IntKind.signed, IntKind.bits] at h
  omega
section
variable {H : Type} {enc : TypeId × Value → H} {w : World} {base : Nat} {held : Bool}
set_option maxRecDepth 100000 in
theorem open_page {fuel : Nat} {cs : Array Value} {x : DataW H × List MemPlace} (h : DataW.trod enc Try.prog w base (fun _ => true) held fuel 26 cs.toList = some x) (hs : cs.size = 6) :
    ∃ (a0 a1 : Int) (a2 a3 a4 : Nat) (a5 : ByteArray), cs = #[.int .i64 a0, .int .i64 a1, .int .u32 a2, .int .u32 a3, .int .u64 a4, .string a5] ∧ a2 < 4294967296 ∧ a3 < 4294967296 ∧ a4 < 18446744073709551616 ∧ a5.size ≤ maxLen := by
  obtain ⟨xs, k', hk, hxy, _, hxl, hf⟩ := DataW.trod_struct Try.underlying26 h
  obtain ⟨cl⟩ := cs
  match xs, hxl, cl, hs with
  | [y0, y1, y2, y3, y4, y5], _, [v0, v1, v2, v3, v4, v5], _ =>
    have g0 := hf 0 _ rfl
    have g1 := hf 1 _ rfl
    have g2 := hf 2 _ rfl
    have g3 := hf 3 _ rfl
    have g4 := hf 4 _ rfl
    have g5 := hf 5 _ rfl
    have hone : ∀ t, t = 3 ∨ t = 23 ∨ t = 9 ∨ t = 24 → Try.prog.cellsOf t = 1 := by
      rintro t (rfl | rfl | rfl | rfl) <;> kernel_rfl
    simp [hone] at g0 g1 g2 g3 g4 g5
    obtain ⟨z0, hv0, _, hz0⟩ := DataW.trod_int Try.underlying3 g0
    obtain ⟨z1, hv1, _, hz1⟩ := DataW.trod_int Try.underlying3 g1
    obtain ⟨z2, hv2, _, hz2⟩ := DataW.trod_int Try.underlying23 g2
    obtain ⟨z3, hv3, _, hz3⟩ := DataW.trod_int Try.underlying23 g3
    obtain ⟨z4, hv4, _, hz4⟩ := DataW.trod_int Try.underlying24 g4
    obtain ⟨s5, hv5, _, hs5⟩ := DataW.trod_string Try.underlying9 g5
    simp at hv0 hv1 hv2 hv3 hv4 hv5
    subst hv0 hv1 hv2 hv3 hv4 hv5
    have b2 := lit_u32b hz2
    have b3 := lit_u32b hz3
    have b4 := lit_u64b hz4
    refine ⟨z0, z1, z2.toNat, z3.toNat, z4.toNat, s5, ?_, by omega, by omega, by omega, hs5⟩
    rw [show ((z2.toNat : Nat) : Int) = z2 by omega, show ((z3.toNat : Nat) : Int) = z3 by omega, show ((z4.toNat : Nat) : Int) = z4 by omega]
/-- A slice of strings that reads as the list l. -/
def Texts (w : World) (B : Nat) (A : Option Addr) (n : Nat) (l : List ByteArray) : Prop := Reads w B 1 A n (l.map Value.string) ∧ ∀ s ∈ l, s.size ≤ maxLen
end
end Go.Proofs.Ytnpockkhefbjoaa
