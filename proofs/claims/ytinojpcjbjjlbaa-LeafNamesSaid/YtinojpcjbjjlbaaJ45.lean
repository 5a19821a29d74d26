/-
  Texts that the main proof rests on, put together: ItImpl, ItLaw. No statement is proved here.
-/
import Derived.Test.YtinojpcjbjjlbaaJ43
import Derived.Test.YtinojpcjbjjlbaaJ44
import Derived.Deep.CutRange

namespace Go.Proofs.Ytinojpcjbjjlbaa
open Go.RowKit
open Go.Lib hiding intOf
set_option linter.unusedVariables false
set_option linter.unusedSimpArgs false
attribute [local go_sem ↓] Go.wp_at_zero Go.wp_at_succ

def row8L : List It := [⟨⟨#[97]⟩, ⟨#[118]⟩, false, 0, 0⟩, ⟨⟨#[98]⟩, ⟨#[]⟩, true, 300, 9⟩]
theorem row8_is (w : World) : Calls Try.prog 10 #[] w fun e w' => ∃ A c, e = .returned (.slice A 2 c) ∧ Reads w' w'.heap.size 5 A 2 (itc row8L) ∧ 2 ≤ c ∧ c ≤ maxLen ∧ Below w.heap.size w w' := by
  obtain ⟨i0, hi0, hz0, hz1, hz2⟩ := info_parts infoIt
  go_enter Try.func10, Try.ntmps10
  go_wp2
  go_ret
  exact ⟨_, 2, rfl, (reads_own (n := 2) (Blk.new w _ _) rfl).more (by simp), by decide, by decide, (Below.refl _ _).alloc (Nat.le_refl _) _⟩
def oneL : List It := [⟨⟨#[107]⟩, ⟨#[118]⟩, false, 0, 0⟩]
set_option maxRecDepth 100000 in
set_option maxHeartbeats 3200000 in
theorem lives8_any (w : World) : Calls Try.prog 8 #[] w fun e w' => e = .returned (.bool true) ∧ Below w.heap.size w w' := by
  obtain ⟨i0, hi0, hz0, hz1, hz2⟩ := info_parts infoIt
  have HB := Lib.hid (Below.refl w.heap.size w)
  have I1 : ∀ w : World, Calls Try.prog 16 #[.int .i64 128, .int .i64 16] w fun e w' => e = .returned (.bool true) ∧ Below w.heap.size w w' := fun w => lin_any 128 16 w (by decide)
  have I2 : ∀ w : World, Calls Try.prog 16 #[.int .i64 128, .int .i64 17] w fun e w' => e = .returned (.bool false) ∧ Below w.heap.size w w' := fun w => lin_any 128 17 w (by decide)
  have I3 : ∀ w : World, Calls Try.prog 16 #[.int .i64 4096, .int .i64 255] w fun e w' => e = .returned (.bool true) ∧ Below w.heap.size w w' := fun w => lin_any 4096 255 w (by decide)
  have I4 : ∀ w : World, Calls Try.prog 16 #[.int .i64 4096, .int .i64 256] w fun e w' => e = .returned (.bool false) ∧ Below w.heap.size w w' := fun w => lin_any 4096 256 w (by decide)
  have S1 : ∀ w : World, Calls Try.prog 15 #[.slice (some ⟨w.heap.size, 0, none⟩) 1 1] (w.alloc (.cells #[.string ⟨#[107]⟩, .string ⟨#[118]⟩, .bool false, .int .i64 0, .int .u32 0] 35)) fun e w' => e = .returned (.int .i64 5) ∧ Below (w.alloc (.cells #[.string ⟨#[107]⟩, .string ⟨#[118]⟩, .bool false, .int .i64 0, .int .u32 0] 35)).heap.size (w.alloc (.cells #[.string ⟨#[107]⟩, .string ⟨#[118]⟩, .bool false, .int .i64 0, .int .u32 0] 35)) w' := fun w =>
    lsize_any (some ⟨w.heap.size, 0, none⟩) 1 1 oneL _ ((reads_own (n := 1) (Blk.new w _ _) rfl).more (by simp)) (by decide) (fun b hb => by simp [oneL] at hb; subst hb; exact ⟨by decide, by decide⟩) (by decide)
  have HA := Lib.hid (HB.out.alloc (Nat.le_refl _) (.cells #[.string ⟨#[107]⟩, .string ⟨#[118]⟩, .bool false, .int .i64 0, .int .u32 0] 35))
  go_enter Try.func8, Try.ntmps8
  go_wp2_with fail
  refine (S1 _).mono ?_
  rintro e w1 ⟨rfl, hb⟩
  replace HB := Lib.hid (HA.out.trans (hb.mono HA.out.size))
  clear hb HA S1
  go_wp2_with fail
  refine (I1 _).mono ?_
  rintro e w2 ⟨rfl, hb⟩
  replace HB := Lib.hid (HB.out.trans (hb.mono HB.out.size))
  clear hb I1
  go_wp2_with fail
  refine (I2 _).mono ?_
  rintro e w3 ⟨rfl, hb⟩
  replace HB := Lib.hid (HB.out.trans (hb.mono HB.out.size))
  clear hb I2
  go_wp2_with fail
  refine (I3 _).mono ?_
  rintro e w4 ⟨rfl, hb⟩
  replace HB := Lib.hid (HB.out.trans (hb.mono HB.out.size))
  clear hb I3
  go_wp2_with fail
  refine (I4 _).mono ?_
  rintro e w5 ⟨rfl, hb⟩
  replace HB := Lib.hid (HB.out.trans (hb.mono HB.out.size))
  clear hb I4
  go_wp2_with fail
  go_ret
  exact ⟨rfl, HB.out⟩
theorem light8_bel (A : Option Addr) (n c : Nat) (l : List It) (w : World) {B : Nat} (hr : Reads w B 5 A n (itc l)) (hn : n ≤ 300000000000000) (hx : NearI l) :
    Calls Try.prog 17 #[.slice A n c] w fun e w' => e = .returned (.bool (lightI l)) ∧ Below w.heap.size w w' :=
  (light8_any A n c l w hr hn hx).mono fun _ _ ⟨he, q, hq⟩ => ⟨he, by rw [hq]; exact below_drewN (Below.refl _ _) q⟩
theorem sizeI_sum (l : List It) : sizeI l ≤ 10 * l.length + sumI l := by
  induction l with
  | nil => simp [sizeI, sumI]
  | cons b l ih =>
    simp only [sizeI, sumI, List.length_cons]
    have : oneI b ≤ 10 + (b.ky.size + b.vl.size) := by unfold oneI; split <;> omega
    omega
theorem light8_size {l : List It} (h : lightI l = true) : l.length ≤ 100 ∧ sizeI l ≤ 5000 := by
  simp only [lightI, Bool.and_eq_true, decide_eq_true_eq] at h
  have := sizeI_sum l
  exact ⟨h.1, by omega⟩
end Go.Proofs.Ytinojpcjbjjlbaa
