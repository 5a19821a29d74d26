/-
  Texts that the main proof rests on, put together: AlCall, AlRest. No statement is proved here.
-/
import Derived.Test.YtofbglgdmabafaaJ37
import Derived.Deep.Grids
import Derived.SizedLaws
namespace Go.Proofs.Ytofbglgdmabafaa
open Go.RowKit
open Go.Lib hiding intOf
set_option linter.unusedVariables false
set_option linter.unusedSimpArgs false
attribute [local go_sem ↓] Go.wp_at_zero Go.wp_at_succ

end Go.Proofs.Ytofbglgdmabafaa

namespace Go.Proofs.Ytofbglgdmabafaa
open Go.RowKit
open Go.Lib hiding intOf
set_option linter.unusedVariables false
set_option linter.unusedSimpArgs false
attribute [local go_sem ↓] Go.wp_at_zero Go.wp_at_succ

structure Rest (R : World → (Nat → Prop) → Prop) : Prop where
  st : Stable R
  mono : ∀ w (G G' : Nat → Prop), R w G → (∀ k, G k → G' k) → R w G'
def AlIn (g : Nat) (S : AlS) (w : World) (G : Nat → Prop) : Prop := ∃ Ga : Nat → Prop, (∀ k, Ga k → G k) ∧ Al w Ga g S
def RowIn (A : Option Addr) (n : Nat) (l : List Nat) (w : World) (G : Nat → Prop) : Prop := Reads w w.heap.size 1 A n (ucells l) ∧ ∀ ad, A = some ad → G ad.block
section
variable {w0 w w' : World} {g g' : Nat} {S T : AlS} {R Q : World → (Nat → Prop) → Prop}
theorem Held.rest (h : Held w0 w g S R) : ∃ G, R w G := by obtain ⟨F, G, h⟩ := h; exact ⟨G, h.rest⟩
theorem Held.row {A : Option Addr} {n : Nat} {l : List Nat} (h : Held w0 w g S R) (hR : ∀ w G, R w G → RowIn A n l w G) : Reads w w.heap.size 1 A n (ucells l) := by
  obtain ⟨G, hg⟩ := h.rest
  exact (hR w G hg).1
/-- The other allocation's turn. -/
theorem Held.turn (h : Held w0 w g S R) (hR : ∀ w G, R w G → AlIn g' T w G) : Held w0 w g' T (AlIn g S) := by
  obtain ⟨F, G, h⟩ := h
  obtain ⟨Ga, hs, ha⟩ := hR w G h.rest
  exact ⟨Ga, F, h.bel, ha, fun k hk => h.gb k (hs k hk), ⟨F, fun k hk => hk, h.al⟩, h.fb, h.al.lt, fun k hg hf => h.apart k hf (hs k hg)⟩
end
/-- A slice of bools that reads as the list l. -/
def Bools (w : World) (B : Nat) (A : Option Addr) (n : Nat) (l : List Bool) : Prop := Reads w B 1 A n (l.map Value.bool)
theorem Bools.len {w : World} {B n : Nat} {A : Option Addr} {l : List Bool} (h : Bools w B A n l) : l.length = n := by have := h.1; simpa using this
theorem Bools.at_ {w : World} {B n k : Nat} {A : Option Addr} {l : List Bool} (h : Bools w B A n l) (hk : k < n) : ∃ ad, A = some ad ∧ ad.block < B ∧ w.cell? (ad.add k) = some (.bool (l.getD k false)) := by
  obtain ⟨ad, u, hA, hb, hu, hc⟩ := Reads.at_ h hk
  rw [List.getElem?_map] at hu
  obtain ⟨z, hz, rfl⟩ := Option.map_eq_some_iff.1 hu
  exact ⟨ad, hA, hb, by rw [hc, List.getD_eq_getElem?_getD, hz]; rfl⟩
end Go.Proofs.Ytofbglgdmabafaa

