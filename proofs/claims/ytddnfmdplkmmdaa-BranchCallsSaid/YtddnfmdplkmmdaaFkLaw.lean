/-
  Contracts of what the statements of layer 7 share: row and lives.
-/
import Derived.Test.YtddnfmdplkmmdaaFkImpl
import Derived.Test.YtddnfmdplkmmdaaKit7
import Derived.Deep.CutRange
namespace Go.Proofs.Ytddnfmdplkmmdaa
open Go.RowKit
open Go.Lib hiding intOf
set_option linter.unusedVariables false
set_option linter.unusedSimpArgs false
attribute [local go_sem ↓] Go.wp_at_zero Go.wp_at_succ

def row7L : List Fk := [⟨⟨#[]⟩, 5⟩, ⟨⟨#[98]⟩, 6⟩, ⟨⟨#[100]⟩, 4⟩]
theorem row7_is (w : World) : Calls Try.prog 10 #[] w fun e w' => ∃ A c, e = .returned (.slice A 3 c) ∧ Reads w' w'.heap.size 2 A 3 (fkc row7L) ∧ 3 ≤ c ∧ c ≤ maxLen ∧ Below w.heap.size w w' := by
  go_enter Try.func10, Try.ntmps10
  go_wp2
  go_ret
  exact ⟨_, 3, rfl, (reads_own (n := 3) (Blk.new w _ _) rfl).more (by simp), by decide, by decide, (Below.refl _ _).alloc (Nat.le_refl _) _⟩
theorem pick_a : pickF row7L ⟨#[97]⟩ = 0 := by decide +kernel
theorem pick_b : pickF row7L ⟨#[98]⟩ = 1 := by decide +kernel
theorem pick_z : pickF row7L ⟨#[122]⟩ = 2 := by decide +kernel
set_option maxRecDepth 100000 in
set_option maxHeartbeats 3200000 in
theorem lives7_any (w : World) : Calls Try.prog 8 #[] w fun e w' => e = .returned (.bool true) ∧ Below w.heap.size w w' := by
  have HB := Lib.hid (Below.refl w.heap.size w)
  have P1 := fun (A : Option Addr) (c : Nat) (w : World) (hr : Reads w w.heap.size 2 A 3 (fkc row7L)) => bpick_any A 3 c row7L ⟨#[97]⟩ w hr (by decide)
  have P2 := fun (A : Option Addr) (c : Nat) (w : World) (hr : Reads w w.heap.size 2 A 3 (fkc row7L)) => bpick_any A 3 c row7L ⟨#[98]⟩ w hr (by decide)
  have P3 := fun (A : Option Addr) (c : Nat) (w : World) (hr : Reads w w.heap.size 2 A 3 (fkc row7L)) => bpick_any A 3 c row7L ⟨#[122]⟩ w hr (by decide)
  simp only [pick_a] at P1
  simp only [pick_b] at P2
  simp only [pick_z] at P3
  go_enter Try.func8, Try.ntmps8
  go_wp2_with fail
  refine (row7_is _).mono ?_
  rintro e w1 ⟨A1, c1, rfl, hr, _, _, hb⟩
  replace HB := Lib.hid (HB.out.trans (hb.mono HB.out.size))
  go_wp2_with fail
  refine (P1 A1 c1 _ hr).mono ?_
  rintro e w2 ⟨rfl, hb2⟩
  replace HB := Lib.hid (HB.out.trans (hb2.mono HB.out.size))
  clear hb hb2 hr P1
  go_wp2_with fail
  refine (row7_is _).mono ?_
  rintro e w3 ⟨A2, c2, rfl, hr, _, _, hb⟩
  replace HB := Lib.hid (HB.out.trans (hb.mono HB.out.size))
  go_wp2_with fail
  refine (P2 A2 c2 _ hr).mono ?_
  rintro e w4 ⟨rfl, hb2⟩
  replace HB := Lib.hid (HB.out.trans (hb2.mono HB.out.size))
  clear hb hb2 hr P2
  go_wp2_with fail
  refine (row7_is _).mono ?_
  rintro e w5 ⟨A3, c3, rfl, hr, _, _, hb⟩
  replace HB := Lib.hid (HB.out.trans (hb.mono HB.out.size))
  go_wp2_with fail
  refine (P3 A3 c3 _ hr).mono ?_
  rintro e w6 ⟨rfl, hb2⟩
  replace HB := Lib.hid (HB.out.trans (hb2.mono HB.out.size))
  clear hb hb2 hr P3
  go_wp2_with fail
  go_ret
  exact ⟨rfl, HB.out⟩
theorem light7_size {l : List Fk} (h : lightF l = true) (hb : ∀ b, b ∈ l → b.nm.size ≤ 140737488351232) : l.length ≤ 100 ∧ sizeF l ≤ 8000000000000000 := by
  have h1 : ∀ l : List Fk, minSumF l ≤ 3000 → (∀ b, b ∈ l → b.nm.size ≤ 140737488351232) → sizeF l ≤ l.length * 5 + minSumF l + 140737488351232 * (minSumF l / 3000) := by
    intro l
    induction l with
    | nil => simp [sizeF, minSumF]
    | cons b l ih =>
      intro hm hx
      have hbs := hx b List.mem_cons_self
      have ih := ih (by simp only [minSumF] at hm; omega) fun x hx' => hx x (List.mem_cons_of_mem _ hx')
      simp only [sizeF, List.length_cons, minSumF] at *
      by_cases hlt : b.nm.size < 3000
      · rw [Nat.min_eq_left (by omega)] at *
        have : minSumF l / 3000 ≤ (b.nm.size + minSumF l) / 3000 := Nat.div_le_div_right (by omega)
        have := Nat.mul_le_mul_left 140737488351232 this
        omega
      · rw [Nat.min_eq_right (by omega)] at *
        have h0 : minSumF l = 0 := by omega
        rw [h0] at *
        simp at *
        omega
  simp only [lightF, Bool.and_eq_true, decide_eq_true_eq] at h
  have h2 := h1 l h.2 hb
  have h3 : minSumF l / 3000 ≤ 1 := by omega
  have := Nat.mul_le_mul_left 140737488351232 h3
  exact ⟨h.1, by omega⟩
end Go.Proofs.Ytddnfmdplkmmdaa
