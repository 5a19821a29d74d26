/-
  Contract of slices.IsSortedFunc over numbers of 32 bits, with a comparison that lets no two be equal.
-/
import Derived.Test.YtofbglgdmabafaaJ9
import Derived.Deep.DrawnRows
import Derived.Lib.Hide
namespace Go.Proofs.Ytofbglgdmabafaa
open Go.RowKit
open Go.Lib hiding intOf
set_option maxRecDepth 100000
set_option linter.unusedVariables false
set_option linter.unusedSimpArgs false
attribute [local go_sem ↓] Go.wp_at_zero Go.wp_at_succ

set_option maxRecDepth 100000 in
set_option maxHeartbeats 6400000 in
theorem sorted_any (g : Nat) (lb : Array Value) (eg : ∀ args w, (callFunc g args).run Try.prog w = .ok (.enter g args) w) (A : Option Addr) (n c : Nat) (l : List Nat) (w : World)
    (hr : Reads w w.heap.size 1 A n (ucells l)) (hn : n ≤ 1000000)
    (hp : ∀ (W : World) (a b : Nat), Below w.heap.size w W → Calls Try.prog g (#[.int .u32 a, .int .u32 b] ++ lb) W fun e w' => ∃ z : Int, e = .returned (.int .i64 z) ∧ decide (z < 0) = decide (a ≤ b) ∧ Below w.heap.size w w') :
    Calls Try.prog 82 #[.slice A n c, .func (.func g) #[] lb] w fun e w' => e = .returned (.bool (ascU l)) ∧ Below w.heap.size w w' := by
  have hl := ulen hr
  have HR := Lib.hid hr
  have HL := Lib.hid hl
  have HP := Lib.hid hp
  clear hr hp
  rcases Nat.eq_zero_or_pos n with h0 | h0
  · subst h0
    have HE := Lib.hid (show ascU l = true by rw [List.eq_nil_of_length_eq_zero hl]; rfl)
    clear hl
    go_enter Try.func82, Try.ntmps82
    go_wp2_with fail
    go_loopw [5] (fun i wr => i = .int .i64 (-1) ∧ wr = w) (fun _ _ => 0)
    case atStart => exact ⟨rfl, rfl⟩
    case round =>
      obtain ⟨rfl, rfl⟩ := hrel
      go_wp2_with fail
      go_ret
      exact ⟨by rw [HE.out] <;> rfl, Below.refl _ _⟩
  obtain ⟨m, rfl⟩ : ∃ m, n = m + 1 := ⟨n - 1, by omega⟩
  have hwm : IntKind.i64.wrap (m : Int) = (m : Int) := i64_nat m (by omega)
  clear hl
  go_enter Try.func82, Try.ntmps82
  go_wp2_with fail
  clear hwm
  go_loopw [5] (fun i wr => ∃ k : Nat, k ≤ m ∧ i = .int .i64 k ∧ Hid (∀ j, k ≤ j → j + 1 < m + 1 → nthU l j < nthU l (j + 1)) ∧ Hid (Below w.heap.size w wr)) (fun i _ => (intOf i).toNat)
  case atStart => exact ⟨m, Nat.le_refl _, rfl, Lib.hid (fun j h1 h2 => absurd h2 (by omega)), Lib.hid (Below.refl _ _)⟩
  case round =>
    obtain ⟨k, hk, rfl, HF, HB⟩ := hrel
    rcases Nat.eq_zero_or_pos k with hk0 | hk0
    · subst hk0
      have HE := Lib.hid (show ascU l = true from ascU_iff.2 (fun i hi => HF.out i (Nat.zero_le _) (by rw [HL.out] at hi; exact hi)))
      clear hk
      go_wp2_with fail
      go_ret
      exact ⟨by rw [HE.out] <;> rfl, HB.out⟩
    · obtain ⟨t, rfl⟩ : ∃ t, k = t + 1 := ⟨k - 1, by omega⟩
      obtain ⟨ad, rfl, hab, hc0⟩ := ureads_at HR.out (show t < m + 1 by omega)
      obtain ⟨ad', ha', _, hc1⟩ := ureads_at HR.out (show t + 1 < m + 1 by omega)
      injection ha' with ha'
      subst ha'
      obtain ⟨a, ha⟩ : ∃ a, a = nthU l t := ⟨_, rfl⟩
      obtain ⟨b, hb⟩ : ∃ b, b = nthU l (t + 1) := ⟨_, rfl⟩
      rw [← ha] at hc0
      rw [← hb] at hc1
      replace hc0 := cell_in hc0 HB.out hab
      replace hc1 := cell_in hc1 HB.out hab
      have hc1' : wr.cell? { block := ad.block, off := ad.off + (t + 1) } = some (.int .u32 b) := by have h := hc1; simpa [Addr.add] using h
      have ht0 : (0 : Int) ≤ t := by omega
      have ht1 : (t : Int) < (m : Int) := by omega
      have ht2 : (t : Int) < (m : Int) + 1 := by omega
      have ht3 : (t : Int) + 1 < (m : Int) + 1 := by omega
      have ht4 : (0 : Int) ≤ (t : Int) + 1 := by omega
      have ht5 : (0 : Int) < (t : Int) + 1 := by omega
      have hwt : IntKind.i64.wrap (t : Int) = (t : Int) := i64_nat t (by omega)
      have HPc := Lib.hid (fun (W : World) (hW : Below w.heap.size w W) => HP.out W b a hW)
      have HA := Lib.hid ha
      have HBb := Lib.hid hb
      have HBd := Lib.hid HB.out.drew
      clear ha hb hab
      by_cases hlt : b ≤ a
      · have HE := Lib.hid (show ascU l = false from ascU_no (i := t) (by rw [HL.out]; omega) (by rw [← HA.out, ← HBb.out]; omega))
        have HLt := Lib.hid hlt
        clear hlt
        go_wp2_with fail
        go_region_with (refine (HPc.out _ HBd.out).mono ?_; rintro e w2 ⟨z, rfl, hz, hb⟩; have HB2 := Lib.hid hb; have hz2 : decide (z < 0) = true := by rw [hz]; exact decide_eq_true HLt.out)
        all_goals (go_wp2_with fail; go_ret; exact ⟨by rw [HE.out] <;> rfl, HB2.out⟩)
      · have HF2 := Lib.hid (show ∀ j, t ≤ j → j + 1 < m + 1 → nthU l j < nthU l (j + 1) from fun j h1 h2 => by
          rcases Nat.lt_or_ge t j with h | h
          · exact HF.out j h h2
          · obtain rfl : j = t := by omega
            rw [← HA.out, ← HBb.out]
            omega)
        have HLt := Lib.hid hlt
        clear hlt
        go_wp2_with fail
        go_region_with (refine (HPc.out _ HBd.out).mono ?_; rintro e w2 ⟨z, rfl, hz, hb⟩; have HB2 := Lib.hid hb; have hz2 : decide (z < 0) = false := by rw [hz]; exact decide_eq_false HLt.out)
        all_goals (
          go_wp2_with fail
          go_roundw
          case rel =>
            first
              | exact ⟨t, by omega, rfl, HF2, HB2⟩
              | ((repeat apply Exists.intro); exact ⟨⟨t, by omega, rfl, HF2, HB2⟩, rfl⟩)
          case measure =>
            show ((t : Int)).toNat < (((t + 1 : Nat)) : Int).toNat
            omega)
/-- Rises's comparison. -/
theorem cmp_any (a b : Nat) (w : World) : Calls Try.prog 83 #[.int .u32 a, .int .u32 b] w fun e w' => ∃ z : Int, e = .returned (.int .i64 z) ∧ decide (z < 0) = decide (a ≤ b) ∧ w' = w := by
  by_cases h : a ≤ b
  · have hd : decide ((b : Int) < (a : Int)) = false := by simp; omega
    have hd3 : decide (b < a) = false := by simp; omega
    have hd2 : decide (a ≤ b) = true := decide_eq_true h
    clear h
    go_enter Try.func83, Try.ntmps83
    go_wp2_with fail
    go_ret
    exact ⟨-1, rfl, by rw [hd2]; rfl, rfl⟩
  · have hd : decide ((b : Int) < (a : Int)) = true := by simp; omega
    have hd3 : decide (b < a) = true := by simp; omega
    have hd2 : decide (a ≤ b) = false := decide_eq_false h
    clear h
    go_enter Try.func83, Try.ntmps83
    go_wp2_with fail
    go_ret
    exact ⟨1, rfl, by rw [hd2]; rfl, rfl⟩
theorem frises_any (A : Option Addr) (n c : Nat) (l : List Nat) (w : World) (hr : Reads w w.heap.size 1 A n (ucells l)) (hn : n ≤ 1000000) :
    Calls Try.prog 54 #[.slice A n c] w fun e w' => e = .returned (.bool (ascU l)) ∧ Below w.heap.size w w' := by
  have hs := sorted_any 83 #[] (fun _ _ => rfl) A n c l w hr hn (fun W a b hB => (cmp_any a b W).mono (by rintro e w' ⟨z, rfl, hz, rfl⟩; exact ⟨z, rfl, hz, hB⟩))
  have HS := Lib.hid hs
  clear hs hr
  go_enter Try.func54, Try.ntmps54
  go_wp2_with fail
  refine HS.out.mono ?_
  rintro e w1 ⟨rfl, hb⟩
  go_wp2_with fail
  go_ret
  exact ⟨rfl, hb⟩
end Go.Proofs.Ytofbglgdmabafaa

