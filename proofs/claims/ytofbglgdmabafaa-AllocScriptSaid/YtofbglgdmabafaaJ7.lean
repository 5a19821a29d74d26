/-
  Texts that the main proof rests on, put together: Ref1, FramePut, FramePutP, Ref4Put, Bytes. No statement is proved here.
-/
import Derived.Test.YtofbglgdmabafaaJ2
import Derived.Test.YtofbglgdmabafaaJ4
import Derived.Deep.RegionHeld3
import Derived.Test.YtofbglgdmabafaaJ1
import Derived.Laws.MakeOwn
namespace Go.Proofs.Ytofbglgdmabafaa
open Go.RowKit Go.Lib
set_option linter.unusedVariables false
set_option linter.unusedSimpArgs false
set_option maxRecDepth 100000

end Go.Proofs.Ytofbglgdmabafaa

namespace Go.Proofs.Ytofbglgdmabafaa
open Go.RowKit
open Go.Lib
set_option linter.unusedVariables false
set_option linter.unusedSimpArgs false
attribute [local go_sem ↓] Go.wp_at_zero Go.wp_at_succ

end Go.Proofs.Ytofbglgdmabafaa

namespace Go.Proofs.Ytofbglgdmabafaa
open Go.RowKit
open Go.Lib
set_option linter.unusedVariables false
set_option linter.unusedSimpArgs false
attribute [local go_sem ↓] Go.wp_at_zero Go.wp_at_succ

end Go.Proofs.Ytofbglgdmabafaa

namespace Go.Proofs.Ytofbglgdmabafaa
open Go.RowKit
open Go.Lib
set_option linter.unusedVariables false
set_option linter.unusedSimpArgs false
attribute [local go_sem ↓] Go.wp_at_zero Go.wp_at_succ

end Go.Proofs.Ytofbglgdmabafaa

namespace Go.Proofs.Ytofbglgdmabafaa
open Go.RowKit Go.Lib
set_option linter.unusedVariables false
set_option linter.unusedSimpArgs false

/-- Bytes in block g from its beginning on, which may be written. -/
def MRow (w : World) (g : Nat) (l : List UInt8) : Prop := g < w.heap.size ∧ ∀ j b, l[j]? = some b → w.cell? ⟨g, j, none⟩ = some (.int .u8 (b.toNat : Int)) ∧ w.frozen? ⟨g, j, none⟩ = false
section
variable {w w' : World} {g : Nat} {l : List UInt8}
theorem MRow.keep (h : MRow w g l) (hs : w.heap.size ≤ w'.heap.size) (hb : w'.heap[g]? = w.heap[g]?) : MRow w' g l :=
  ⟨Nat.lt_of_lt_of_le h.1 hs, fun j b hj => ⟨(World.cell?_of_block (a := ⟨g, j, none⟩) hb).trans (h.2 j b hj).1, (World.frozen?_of_block (a := ⟨g, j, none⟩) hb).trans (h.2 j b hj).2⟩⟩
theorem MRow.drew (h : MRow w g l) : MRow w.drew g l := h
theorem MRow.drewN (h : MRow w g l) (n : Nat) : MRow (w.drewN n) g l := h
theorem MRow.alloc (h : MRow w g l) (o : Obj) : MRow (w.alloc o) g l := h.keep (by simp) (Below.heap_alloc w o g h.1)
theorem MRow.below {B : Nat} (h : MRow w g l) (hb : Below B w w') (hg : g < B) : MRow w' g l := h.keep hb.size (hb.block g hg)
theorem MRow.far (h : MRow w g l) {p : Addr} (hp : g ≠ p.block) (u : Value) : MRow (w.setCell p u) g l := h.keep (by simp [World.setCell]) (Below.heap_setCell w p u g hp)
theorem MRow.cell (h : MRow w g l) {j : Nat} (hj : j < l.length) : w.cell? ⟨g, j, none⟩ = some (.int .u8 (l[j].toNat : Int)) := (h.2 j _ (List.getElem?_eq_getElem hj)).1
theorem MRow.frozen (h : MRow w g l) {j : Nat} (hj : j < l.length) : w.frozen? ⟨g, j, none⟩ = false := (h.2 j _ (List.getElem?_eq_getElem hj)).2
theorem MRow.reads (h : MRow w g l) : Reads w w.heap.size 1 (some ⟨g, 0, none⟩) l.length (bcells l) := by
  refine ⟨by rw [bcells_length, Nat.mul_one], fun _ => ⟨_, rfl, h.1, fun j u hu => ?_⟩⟩
  unfold bcells at hu
  rw [List.getElem?_map] at hu
  obtain ⟨b, hb, rfl⟩ := Option.map_eq_some_iff.1 hu
  have e : (⟨g, 0, none⟩ : Addr).add j = ⟨g, j, none⟩ := by unfold Addr.add; split <;> simp_all
  rw [e]
  exact (h.2 j b hb).1
theorem MRow.set_ (h : MRow w g l) {j : Nat} (hj : j < l.length) (b : UInt8) : MRow (w.setCell ⟨g, j, none⟩ (.int .u8 (b.toNat : Int))) g (l.set j b) := by
  refine ⟨by simpa [World.setCell] using h.1, fun i c hc => ?_⟩
  rw [List.getElem?_set] at hc
  by_cases hi : j = i
  · subst hi
    rw [if_pos rfl, if_pos hj] at hc
    injection hc with hc
    subst hc
    exact ⟨World.cell?_setCell_same _ _ _ (h.cell hj), by rw [World.frozen?_setCell]; exact h.frozen hj⟩
  · rw [if_neg hi] at hc
    have h2 := h.2 i c hc
    exact ⟨by rw [World.cell?_setCell_other _ _ _ _ (by simp)]; exact h2.1, by rw [World.frozen?_setCell]; exact h2.2⟩
end
theorem i64_nat (k : Nat) (h : k < 9223372036854775808) : IntKind.i64.wrap (k : Int) = (k : Int) := by rw [IntKind.wrap_i64]; omega
end Go.Proofs.Ytofbglgdmabafaa

