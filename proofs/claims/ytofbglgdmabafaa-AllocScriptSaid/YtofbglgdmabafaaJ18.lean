/-
  Contract of slices.BinarySearch in rising numbers of 32 bits.
-/
import Derived.Test.YtofbglgdmabafaaJ15
namespace Go.Proofs.Ytofbglgdmabafaa
open Go.RowKit
open Go.Lib hiding intOf
set_option linter.unusedVariables false
set_option linter.unusedSimpArgs false
attribute [local go_sem ↓] Go.wp_at_zero Go.wp_at_succ

theorem cnan_any (x : Nat) (w : World) : Calls Try.prog 84 #[.int .u32 x] w fun e w' => e = .returned (.bool false) ∧ w = w' := by
  go_enter Try.func84, Try.ntmps84
  go_wp2
  go_ret
  exact ⟨by simp, rfl⟩
theorem snan_any (x : Nat) (w : World) : Calls Try.prog 56 #[.int .u32 x] w fun e w' => e = .returned (.bool false) ∧ w = w' := by
  go_enter Try.func56, Try.ntmps56
  go_wp2
  go_ret
  exact ⟨by simp, rfl⟩
theorem cless_any (x y : Nat) (w : World) : Calls Try.prog 55 #[.int .u32 x, .int .u32 y] w fun e w' => e = .returned (.bool (decide (x < y))) ∧ w = w' := by
  go_enter Try.func55, Try.ntmps55
  go_wp2_with (go_at_call 84; refine (cnan_any _ _).mono ?_; rintro e w' ⟨rfl, rfl⟩)
  go_ret
  exact ⟨by simp, rfl⟩
/-- Between what is less and what is not. -/
theorem place_is : ∀ {l : List Nat} {n i : Nat}, RiseU l → i ≤ l.length → (∀ t, t < i → nthU l t < n) → (∀ t, i ≤ t → t < l.length → n ≤ nthU l t) → placeU l n = i := by
  intro l n i hr hi h1 h2
  have hle := placeU_le l n
  rcases Nat.lt_trichotomy (placeU l n) i with h | h | h
  · have := placeU_ge l n (by omega)
    have := h1 _ h
    omega
  · exact h
  · have := placeU_lt l n i h
    have := h2 i (Nat.le_refl _) (by omega)
    omega
set_option maxRecDepth 1000000 in
set_option maxHeartbeats 3200000 in
theorem ubin_any {w : World} {B : Nat} {A : Option Addr} {n : Nat} (c : Nat) {l : List Nat} (x : Nat) (hr : Reads w B 1 A n (ucells l)) (hl : RiseU l) (hbig : n ≤ 1000000000) :
    Calls Try.prog 37 #[.slice A n c, .int .u32 x] w fun e w' => e = .returned (.tuple #[.int .i64 ((placeU l x : Nat) : Int), .bool (inU l x)]) ∧ w = w' := by
  have hlen := ulen hr
  have hcell : ∀ j, j < n → ∃ ad, A = some ad ∧ w.cell? (ad.add j) = some (.int .u32 (nthU l j)) := fun j hj => by
    obtain ⟨ad, h1, _, h2⟩ := ureads_at hr hj
    exact ⟨ad, h1, h2⟩
  have HC := Lib.hid hcell
  have HL := Lib.hid hl
  have HN := Lib.hid hlen
  have HP := Lib.hid (place_in hl x)
  clear hcell hr hl hlen
  go_enter Try.func37, Try.ntmps37
  go_wp2
  go_loopg [7, 8] n (fun g s7 s8 wr => ∃ lo hi : Nat, s7 = .int .i64 lo ∧ s8 = .int .i64 hi ∧ lo ≤ hi ∧ hi ≤ n ∧ hi - lo ≤ g ∧ wr = w ∧ Hid ((∀ t, t < lo → nthU l t < x) ∧ (∀ t, hi ≤ t → t < n → x ≤ nthU l t)))
  case atStart => exact ⟨0, n, rfl, rfl, Nat.zero_le _, Nat.le_refl _, by omega, rfl, Lib.hid ⟨fun t ht => absurd ht (Nat.not_lt_zero _), fun t h1 h2 => by omega⟩⟩
  case round =>
    obtain ⟨lo, hi, rfl, rfl, hlh, hin, hg, rfl, I⟩ := hrel
    by_cases hlt : lo < hi
    · obtain ⟨ad, hA, hc⟩ := HC.out ((lo + hi) / 2) (by omega)
      subst hA
      obtain ⟨y, hy⟩ : ∃ y, y = nthU l ((lo + hi) / 2) := ⟨_, rfl⟩
      rw [← hy] at hc
      have Y := Lib.hid hy
      clear hy
      by_cases hyx : y < x
      · go_wp2_with (first | (go_at_call 55; refine (cless_any _ _ _).mono ?_; rintro e w' ⟨rfl, rfl⟩) | (go_at_call 56; refine (snan_any _ _).mono ?_; rintro e w' ⟨rfl, rfl⟩))
        go_roundg (hi - ((lo + hi) / 2 + 1))
        case measure => omega
        case rel =>
          refine ⟨(lo + hi) / 2 + 1, hi, by rw [show ((lo : Int) + (hi : Int)) / 2 + 1 = (((lo + hi) / 2 + 1 : Nat) : Int) by omega], rfl, by omega, hin, Nat.le_refl _, rfl, Lib.hid ⟨fun t ht => ?_, I.out.2⟩⟩
          rcases Nat.lt_or_ge t ((lo + hi) / 2) with h | h
          · have := rise_nth HL.out h (by have := HN.out; omega)
            have := Y.out
            omega
          · rw [show t = (lo + hi) / 2 by omega, ← Y.out]
            exact hyx
      · go_wp2_with (first | (go_at_call 55; refine (cless_any _ _ _).mono ?_; rintro e w' ⟨rfl, rfl⟩) | (go_at_call 56; refine (snan_any _ _).mono ?_; rintro e w' ⟨rfl, rfl⟩))
        go_roundg ((lo + hi) / 2 - lo)
        case measure => omega
        case rel =>
          refine ⟨lo, (lo + hi) / 2, rfl, by rw [show ((lo : Int) + (hi : Int)) / 2 = (((lo + hi) / 2 : Nat) : Int) by omega], by omega, by omega, Nat.le_refl _, rfl, Lib.hid ⟨I.out.1, fun t ht htn => ?_⟩⟩
          rcases Nat.lt_or_ge ((lo + hi) / 2) t with h | h
          · have := rise_nth HL.out h (by have := HN.out; omega)
            have := Y.out
            omega
          · rw [show t = (lo + hi) / 2 by omega, ← Y.out]
            omega
    · have : hi = lo := by omega
      subst this
      have hp : placeU l x = hi := place_is HL.out (by have := HN.out; omega) I.out.1 (by rw [HN.out]; exact I.out.2)
      have HI := Lib.hid hp
      clear hp
      by_cases hn : hi < n
      · obtain ⟨ad, hA, hc⟩ := HC.out hi hn
        subst hA
        obtain ⟨y, hy⟩ : ∃ y, y = nthU l hi := ⟨_, rfl⟩
        rw [← hy] at hc
        have Y := Lib.hid hy
        clear hy
        have fin : inU l x = decide (y = x) := by
          have h1 := HP.out
          rw [HI.out, ← Y.out, decide_eq_true (show hi < l.length by rw [HN.out]; exact hn), Bool.true_and] at h1
          exact h1
        have FI := Lib.hid fin
        clear fin
        by_cases hyx : y = x
        · go_wp2_with (first | (go_at_call 55; refine (cless_any _ _ _).mono ?_; rintro e w' ⟨rfl, rfl⟩) | (go_at_call 56; refine (snan_any _ _).mono ?_; rintro e w' ⟨rfl, rfl⟩))
          go_ret2
          refine ⟨?_, rfl⟩
          rw [HI.out, FI.out]
          first | rfl | simp [*]
        · go_wp2_with (first | (go_at_call 55; refine (cless_any _ _ _).mono ?_; rintro e w' ⟨rfl, rfl⟩) | (go_at_call 56; refine (snan_any _ _).mono ?_; rintro e w' ⟨rfl, rfl⟩))
          go_ret2
          refine ⟨?_, rfl⟩
          rw [HI.out, FI.out]
          first | rfl | simp [*]
      · have fin : inU l x = false := by
          rw [HP.out, HI.out, HN.out, decide_eq_false hn]; rfl
        have FI := Lib.hid fin
        clear fin
        go_wp2_with (first | (go_at_call 55; refine (cless_any _ _ _).mono ?_; rintro e w' ⟨rfl, rfl⟩) | (go_at_call 56; refine (snan_any _ _).mono ?_; rintro e w' ⟨rfl, rfl⟩))
        go_ret2
        refine ⟨?_, rfl⟩
        rw [HI.out, FI.out]
        first | rfl | simp [*]
end Go.Proofs.Ytofbglgdmabafaa

