/-
  Texts that the main proof rests on, put together: Ref10Page, RdTot, Ref6Set, Ref10Of, BkOpen. No statement is proved here.
-/
import Derived.Test.YtofbglgdmabafaaJ9
import Derived.Test.YtofbglgdmabafaaJ8
import Derived.Test.YtofbglgdmabafaaJ2
import Derived.Test.YtofbglgdmabafaaJ7
import Derived.Test.YtofbglgdmabafaaJ4
import Derived.Deep.CutRange
import Derived.Deep.RegionLaw
import Derived.Deep.DrawnRows
import Derived.Deep.Slices
import Derived.ChangeSame
import Derived.SizedLaws
namespace Go.Proofs.Ytofbglgdmabafaa
open Go.RowKit
open Go.Lib hiding intOf
set_option linter.unusedVariables false
set_option linter.unusedSimpArgs false
attribute [local go_sem ↓] Go.wp_at_zero Go.wp_at_succ

end Go.Proofs.Ytofbglgdmabafaa

namespace Go.Proofs.Ytofbglgdmabafaa
open Go.RowKit
open Go.Lib
set_option linter.unusedVariables false
set_option linter.unusedSimpArgs false

end Go.Proofs.Ytofbglgdmabafaa

namespace Go.Proofs.Ytofbglgdmabafaa
open Go.RowKit
open Go.Lib hiding intOf
set_option linter.unusedVariables false
set_option linter.unusedSimpArgs false
attribute [local go_sem ↓] Go.wp_at_zero Go.wp_at_succ

/-- A block of the call's own, read as rows. -/
theorem reads_own {w : World} {g k n : Nat} {t : TypeId} {cs : Array Value} (h : Blk w g t cs) (hs : cs.size = n * k) : Reads w (g + 1) k (some ⟨g, 0, none⟩) n cs.toList := by
  refine ⟨by simp [hs], fun _ => ⟨_, rfl, Nat.lt_succ_self _, fun j u hu => ?_⟩⟩
  have e : (⟨g, 0, none⟩ : Addr).add j = ⟨g, j, none⟩ := by unfold Addr.add; split <;> simp_all
  rw [e, h.cell j]
  simpa using hu
end Go.Proofs.Ytofbglgdmabafaa

namespace Go.Proofs.Ytofbglgdmabafaa
open Go.RowKit
open Go.Lib hiding intOf
set_option linter.unusedVariables false
set_option linter.unusedSimpArgs false
attribute [local go_sem ↓] Go.wp_at_zero Go.wp_at_succ

theorem infoU32 : (Try.prog.info? 27).map (fun i => (i.zero, i.size, i.bytes)) = some (some (.int .u32 0), 1, 4) := by kernel_rfl
/-- What Of returns of what a page reads as. -/
def OfPost10 (o : Option (List Nat)) (lk : Nat) (w : World) (e : Ending) (w' : World) : Prop :=
  match o with
  | none => e = .returned (.tuple #[.slice none 0 0, .int .u32 0, .int .i64 4]) ∧ Below w.heap.size w w'
  | some l => ∃ A n c, e = .returned (.tuple #[.slice A n c, .int .u32 lk, .int .i64 0]) ∧ Reads w' w'.heap.size 1 A n (ucells l) ∧ n ≤ c ∧ c ≤ maxLen ∧ Below w.heap.size w w'
/-- What Of returns of what a page reads as: a slice of the call's own. -/
def OwnPost10 (o : Option (List Nat)) (lk : Nat) (w : World) (e : Ending) (w' : World) : Prop :=
  match o with
  | none => e = .returned (.tuple #[.slice none 0 0, .int .u32 0, .int .i64 4]) ∧ Below w.heap.size w w'
  | some l => ∃ A n c, e = .returned (.tuple #[.slice A n c, .int .u32 lk, .int .i64 0]) ∧ w'.ownsRow w.heap.size 27 1 (.slice A n c) n (ucells l) ∧ Below w.heap.size w w'
theorem OwnPost10.any {o : Option (List Nat)} {lk : Nat} {w : World} {e : Ending} {w' : World} (h : OwnPost10 o lk w e w') : OfPost10 o lk w e w' := by
  revert h
  cases o with
  | none => exact fun h => h
  | some l =>
    rintro ⟨A, n, c, rfl, ho, hb⟩
    obtain ⟨A', c', he, h1, h2, _⟩ := own_form ho
    injection he with e1 e2 e3
    subst e1
    subst e3
    exact ⟨A, n, c, rfl, Reads.of_own ho, h1, h2, hb⟩
end Go.Proofs.Ytofbglgdmabafaa

namespace Go.Proofs.Ytofbglgdmabafaa
open Go.RowKit Go.ChangeShapes Go.WideShapes
open Go.Deep (open_slice choose_lt)
set_option linter.unusedVariables false
set_option linter.unusedSimpArgs false

instance : Inhabited Bk := ⟨⟨⟨#[]⟩, 0, 0⟩⟩
theorem lit_u32' {z : Int} (h : (Lit.int .u32 z).wf = true) : 0 ≤ z ∧ z ≤ 4294967295 := by
  simp [Lit.wf, IntKind.min, IntKind.max, IntKind.signed, IntKind.bits] at h
  omega
section
variable {H : Type} {enc : TypeId × Value → H} {w : World} {base : Nat} {spare : Nat → Bool} {held : Bool}
end
end Go.Proofs.Ytofbglgdmabafaa

