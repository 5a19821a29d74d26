/-
  Contracts of the reference of layer 6: Set, Del; and of the kit's Own over buckets.
-/
import Derived.Test.YtnpockkhefbjoaaRef6Find
import Derived.Deep.CutRange
import Derived.Deep.RegionLaw
import Derived.Deep.DrawnRows
namespace Go.Proofs.Ytnpockkhefbjoaa
open Go.RowKit
open Go.Lib hiding intOf
set_option linter.unusedVariables false
set_option linter.unusedSimpArgs false
attribute [local go_sem ↓] Go.wp_at_zero Go.wp_at_succ

theorem bkc_one (l : List Bk) : ∀ u ∈ bkc l, u.oneCell' = true := by
  intro u hu
  obtain ⟨b, _, hb⟩ := List.mem_flatMap.1 hu
  simp only [Bk.cells, List.mem_cons, List.not_mem_nil, or_false] at hb
  rcases hb with rfl | rfl | rfl <;> rfl
theorem bk_one (b : Bk) : ∀ u ∈ b.cells, u.oneCell' = true := fun u hu => bkc_one [b] u (by simpa [bkc, rowsOf] using hu)
/-- A block of the call's own, read as rows. -/
theorem reads_own {w : World} {g k n : Nat} {t : TypeId} {cs : Array Value} (h : Blk w g t cs) (hs : cs.size = n * k) : Reads w (g + 1) k (some ⟨g, 0, none⟩) n cs.toList := by
  refine ⟨by simp [hs], fun _ => ⟨_, rfl, Nat.lt_succ_self _, fun j u hu => ?_⟩⟩
  have e : (⟨g, 0, none⟩ : Addr).add j = ⟨g, j, none⟩ := by unfold Addr.add; split <;> simp_all
  rw [e, h.cell j]
  simpa using hu
end Go.Proofs.Ytnpockkhefbjoaa
