/-
  What stands beside an allocation: another one, rows of numbers; reading the other one; the numbers of pages that bools tell. Plain lemmas and contracts, each with its conditions in its own statement.
-/
import Derived.Test.YtofbglgdmabafaaJ35
import Derived.Deep.Grids
import Derived.SizedLaws
namespace Go.Proofs.Ytofbglgdmabafaa
open Go.RowKit
open Go.Lib hiding intOf
set_option linter.unusedVariables false
set_option linter.unusedSimpArgs false
attribute [local go_sem ↓] Go.wp_at_zero Go.wp_at_succ

structure Rest (R : World → (Nat → Prop) → Prop) : Prop where
  st : Stable R
  mono : ∀ w (G G' : Nat → Prop), R w G → (∀ k, G k → G' k) → R w G'
def AlIn (g : Nat) (S : AlS) (w : World) (G : Nat → Prop) : Prop := ∃ Ga : Nat → Prop, (∀ k, Ga k → G k) ∧ Al w Ga g S
def RowIn (A : Option Addr) (n : Nat) (l : List Nat) (w : World) (G : Nat → Prop) : Prop := Reads w w.heap.size 1 A n (ucells l) ∧ ∀ ad, A = some ad → G ad.block
section
variable {w0 w w' : World} {g g' : Nat} {S T : AlS} {R Q : World → (Nat → Prop) → Prop}
theorem Held.rest (h : Held w0 w g S R) : ∃ G, R w G := by obtain ⟨F, G, h⟩ := h; exact ⟨G, h.rest⟩
theorem Held.row {A : Option Addr} {n : Nat} {l : List Nat} (h : Held w0 w g S R) (hR : ∀ w G, R w G → RowIn A n l w G) : Reads w w.heap.size 1 A n (ucells l) := by
  obtain ⟨G, hg⟩ := h.rest
  exact (hR w G hg).1
/-- The other allocation's turn. -/
theorem Held.turn (h : Held w0 w g S R) (hR : ∀ w G, R w G → AlIn g' T w G) : Held w0 w g' T (AlIn g S) := by
  obtain ⟨F, G, h⟩ := h
  obtain ⟨Ga, hs, ha⟩ := hR w G h.rest
  exact ⟨Ga, F, h.bel, ha, fun k hk => h.gb k (hs k hk), ⟨F, fun k hk => hk, h.al⟩, h.fb, h.al.lt, fun k hg hf => h.apart k hf (hs k hg)⟩
end
/-- A slice of bools that reads as the list l. -/
def Bools (w : World) (B : Nat) (A : Option Addr) (n : Nat) (l : List Bool) : Prop := Reads w B 1 A n (l.map Value.bool)
theorem open_bl {H : Type} {enc : TypeId × Value → H} {w : World} {base : Nat} {held : Bool} {fuel : Nat} {A : Option Addr} {n c : Nat} {x : DataW H × List MemPlace} (h : DataW.trod enc Try.prog w base (fun _ => true) held fuel 46 [.slice A n c] = some x) (_hw : ∀ m ∈ x.1.weights Try.prog 46, m ≤ reachBytes) :
    ∃ l, Bools w w.heap.size A n l ∧ n ≤ maxLen := by
  rcases Go.Deep.open_bools Try.underlying46 Try.underlying4 (by kernel_rfl) h with ⟨hv, _⟩ | ⟨a, len, cap, bf, hv, _, hl, hm, _, hcell⟩
  · simp at hv
    obtain ⟨rfl, rfl, rfl⟩ := hv
    exact ⟨[], Reads.none_, by simp [maxLen]⟩
  · simp at hv
    obtain ⟨rfl, rfl, rfl⟩ := hv
    refine ⟨(List.range n).map bf, ⟨by simp, fun hn => ⟨a, rfl, ?_, fun j u hu => ?_⟩⟩, by omega⟩
    · have := World.block_lt_of_cell? w _ (hcell 0 (by omega))
      simpa [block_add] using this
    · have hj : j < n := by
        have := (List.getElem?_eq_some_iff.1 hu).1
        simp at this
        omega
      rw [hcell j (by omega), ← hu]
      simp [hj]
theorem Bools.len {w : World} {B n : Nat} {A : Option Addr} {l : List Bool} (h : Bools w B A n l) : l.length = n := by have := h.1; simpa using this
theorem Bools.at_ {w : World} {B n k : Nat} {A : Option Addr} {l : List Bool} (h : Bools w B A n l) (hk : k < n) : ∃ ad, A = some ad ∧ ad.block < B ∧ w.cell? (ad.add k) = some (.bool (l.getD k false)) := by
  obtain ⟨ad, u, hA, hb, hu, hc⟩ := Reads.at_ h hk
  rw [List.getElem?_map] at hu
  obtain ⟨z, hz, rfl⟩ := Option.map_eq_some_iff.1 hu
  exact ⟨ad, hA, hb, by rw [hc, List.getD_eq_getElem?_getD, hz]; rfl⟩
/-- The numbers that the first k bools tell. -/
def numsB (l : List Bool) : Nat → List Nat
  | 0 => []
  | k + 1 => if l.getD k false then numsB l k ++ [k + 2] else numsB l k
theorem numsB_lt (l : List Bool) : ∀ k, ∀ n ∈ numsB l k, 2 ≤ n ∧ n < k + 2
  | 0, n, h => by simp [numsB] at h
  | k + 1, n, h => by
    unfold numsB at h
    split at h
    · rcases List.mem_append.1 h with h | h
      · have := numsB_lt l k n h; omega
      · simp at h; omega
    · have := numsB_lt l k n h; omega
theorem numsB_rise (l : List Bool) : ∀ k, RiseU (numsB l k)
  | 0 => List.Pairwise.nil
  | k + 1 => by
    unfold numsB
    split
    · refine List.pairwise_append.2 ⟨numsB_rise l k, by simp, fun a ha b hb => ?_⟩
      simp at hb
      have := numsB_lt l k a ha
      omega
    · exact numsB_rise l k
theorem numsB_len (l : List Bool) (k : Nat) : (numsB l k).length ≤ k := by
  induction k with
  | zero => simp [numsB]
  | succ k ih =>
    unfold numsB
    split
    · simp; omega
    · omega
theorem numsB_may {l : List Bool} {k m : Nat} (h1 : k + 2 ≤ m) (h2 : m ≤ 1048576) : mayAl (numsB l k) (k + 2) m = true := by
  unfold mayAl
  simp only [Bool.and_eq_true, decide_eq_true_eq, List.all_eq_true]
  exact ⟨by omega, h1, h2, rise_asc.2 (numsB_rise l k), fun n hn => numsB_lt l k n hn⟩
/-- All pages there are, together, are no more than there may be. -/
theorem AlS.ok.sums {S : AlS} (h : S.ok) (hm : S.most ≤ 1000) : S.now.length + S.gave.length ≤ 1000000 ∧ S.took.length ≤ 1000000 := by
  have a := rise_len h.r1 fun n hn => (h.i1 n hn).2
  have b := rise_len h.r2 fun n hn => (h.i2 n hn).2
  have c := rise_len h.r3 fun n hn => (h.i3 n hn).2
  have := h.cm
  omega
end Go.Proofs.Ytofbglgdmabafaa

