/-
  Texts that the main proof rests on, put together: FnValid, FnList. No statement is proved here.
-/
import Derived.Test.YtabhhccdbfjigaaJ35
import Derived.Test.YtabhhccdbfjigaaJ19
import Derived.Test.YtabhhccdbfjigaaJ2
import Derived.Lib.AppendStr
import Derived.Deep.CutRange
namespace Go.Proofs.Ytabhhccdbfjigaa
open Go.RowKit
open Go.Lib hiding intOf
set_option linter.unusedVariables false
set_option linter.unusedSimpArgs false
attribute [local go_sem ↓] Go.wp_at_zero Go.wp_at_succ

/-- What free.valid answers. -/
def fitU (size : Int) (l : List Nat) : Bool := allU l && (decide (l.length ≤ mostN size) && ascU l)
set_option maxRecDepth 100000 in
set_option maxHeartbeats 6400000 in
theorem fvalid_any (size : Int) (A : Option Addr) (m c : Nat) (l : List Nat) (w : World) (hr : Reads w w.heap.size 1 A m (ucells l)) (hm : m ≤ 1000000) :
    Calls Try.prog 75 #[.int .i64 size, .slice A m c] w fun e w' => e = .returned (.bool (fitU size l)) ∧ Below w.heap.size w w' := by
  have HR := Lib.hid hr
  have HL := Lib.hid (ulen hr)
  have HM := fun w => fmost_same size w
  obtain ⟨mo, hmo⟩ : ∃ mo, mo = mostN size := ⟨_, rfl⟩
  rw [← hmo] at HM
  have HMo := Lib.hid hmo
  have HS := Lib.hid (frises_any A m c l w hr hm)
  clear hr hmo
  go_enter Try.func75, Try.ntmps75
  go_wp2_with fail
  go_loopw [6, 9] (fun _ i wr => ∃ k : Nat, k ≤ m ∧ i = .int .i64 k ∧ Hid (∀ j, j < k → numB (nthU l j) = true) ∧ wr = w) (fun _ i _ => m - (intOf i).toNat)
  case atStart => exact ⟨0, Nat.zero_le _, rfl, Lib.hid (fun j hj => absurd hj (Nat.not_lt_zero _)), rfl⟩
  case round =>
    obtain ⟨k, hk, rfl, HU, rfl⟩ := hrel
    by_cases hlt : k < m
    · obtain ⟨ad, rfl, hab, hc0⟩ := ureads_at HR.out hlt
      obtain ⟨a, ha⟩ : ∃ a, a = nthU l k := ⟨_, rfl⟩
      rw [← ha] at hc0
      have HN := fun w => fnum_any a w
      have HA := Lib.hid ha
      have hk0 : (0 : Int) ≤ k := by omega
      have hk1 : (k : Int) < m := by omega
      clear ha hab
      rcases hn : numB a with _ | _
      · rw [hn] at HN
        have HE := Lib.hid (show fitU size l = false by
          unfold fitU
          rw [allU_no (i := k) (by rw [HL.out]; exact hlt) (by rw [← HA.out]; exact hn)]
          rfl)
        clear hn
        go_wp2_with (go_at_call 74; refine (HN _).mono ?_; rintro e w' ⟨rfl, rfl⟩)
        go_ret
        exact ⟨by rw [HE.out]; rfl, Below.refl _ _⟩
      · rw [hn] at HN
        have HU2 := Lib.hid (show ∀ j, j < k + 1 → numB (nthU l j) = true from fun j hj => by
          rcases Nat.lt_or_ge j k with h | h
          · exact HU.out j h
          · obtain rfl : j = k := by omega
            rw [← HA.out]
            exact hn)
        clear hn
        go_wp2_with (go_at_call 74; refine (HN _).mono ?_; rintro e w' ⟨rfl, rfl⟩)
        go_roundw
        case rel =>
          first
            | exact ⟨k + 1, by omega, by go_num, HU2, rfl⟩
            | exact ⟨k + 1, by omega, by go_num, HU2, trivial⟩
            | ((repeat apply Exists.intro); exact ⟨⟨k + 1, by omega, by go_num, HU2, rfl⟩, rfl⟩)
        case measure => simp [intOf]; omega
    · obtain rfl : k = m := by omega
      have hal : allU l = true := allU_at.2 (fun i hi => HU.out i (by rw [← HL.out]; exact hi))
      by_cases h2 : k ≤ mo
      · have hd1 : decide ((k : Int) ≤ (mo : Int)) = true := by simp; omega
        have hd2 : decide (k ≤ mo) = true := decide_eq_true h2
        have HE := Lib.hid (show fitU size l = ascU l by
          unfold fitU
          rw [hal, HL.out, ← HMo.out, hd2]
          rfl)
        clear hlt hal h2
        go_wp2_with (go_at_call 40; refine (HM _).mono ?_; rintro e w' ⟨rfl, rfl⟩)
        refine HS.out.mono ?_
        rintro e w1 ⟨rfl, hb⟩
        go_wp2_with fail
        go_ret
        exact ⟨by rw [HE.out]; rfl, hb⟩
      · have hd1 : decide ((k : Int) ≤ (mo : Int)) = false := by simp; omega
        have hd2 : decide (k ≤ mo) = false := decide_eq_false h2
        have HE := Lib.hid (show fitU size l = false by
          unfold fitU
          rw [hal, HL.out, ← HMo.out, hd2]
          rfl)
        clear hlt hal h2
        go_wp2_with (go_at_call 40; refine (HM _).mono ?_; rintro e w' ⟨rfl, rfl⟩)
        go_ret
        exact ⟨by rw [HE.out]; rfl, Below.refl _ _⟩
end Go.Proofs.Ytabhhccdbfjigaa
namespace Go.Proofs.Ytabhhccdbfjigaa
open Go.RowKit
open Go.Lib hiding intOf
set_option linter.unusedVariables false
set_option linter.unusedSimpArgs false
attribute [local go_sem ↓] Go.wp_at_zero Go.wp_at_succ

set_option maxRecDepth 100000 in
set_option maxHeartbeats 12800000 in
theorem flisted_any (A : Option Addr) (m c : Nat) (l : List Nat) (w : World) (hr : Reads w w.heap.size 1 A m (ucells l)) (hm : m ≤ 1000000) (hu : ∀ a, a ∈ l → a < 4294967296) :
    Calls Try.prog 77 #[.slice A m c] w fun e w' => ∃ A' c', e = .returned (.slice A' (4 * m) c') ∧ Reads w' w'.heap.size 1 A' (4 * m) (bcells (bytesU l)) ∧ Below w.heap.size w w' := by
  obtain ⟨i0, hi0, hz0, hz1, hz2⟩ := info_parts infoU8
  have HL := Lib.hid (ulen hr)
  have hl := ulen hr
  have HU := Lib.hid (fun i (hi : i < m) => hu _ (List.mem_of_getElem? (nthU_at (show i < l.length by omega))))
  have HR := Lib.hid hr
  clear hr hu hl
  go_enter Try.func77, Try.ntmps77
  go_wp2_with fail
  go_loopw [3, 5, 8] (fun b _ i wr => ∃ (k : Nat) (A' : Option Addr) (c' : Nat), k ≤ m ∧ i = .int .i64 k ∧ b = .slice A' (4 * k) c' ∧ Hid (wr.ownsRow w.heap.size 5 1 (.slice A' (4 * k) c') (4 * k) (bcells (bytesU (l.take k)))) ∧ Hid (Below w.heap.size w wr)) (fun _ _ i _ => m - (intOf i).toNat)
  case atStart => exact ⟨0, none, 0, Nat.zero_le _, rfl, rfl, Lib.hid (World.ownsRow_nil _ _ _ _), Lib.hid (Below.refl _ _)⟩
  case round =>
    obtain ⟨k, A', c', hk, rfl, rfl, HO, HB⟩ := hrel
    by_cases hlt : k < m
    · obtain ⟨ad, rfl, hab, hc0⟩ := ureads_at HR.out hlt
      replace hc0 := cell_in hc0 HB.out hab
      have hv := HU.out k hlt
      have HAT := Lib.hid (nthU_at (show k < l.length by rw [HL.out]; exact hlt))
      obtain ⟨a, ha⟩ : ∃ a, a = nthU l k := ⟨_, rfl⟩
      rw [← ha] at hc0 hv HAT
      have hwa : IntKind.u64.wrap (a : Int) = (a : Int) := u64_nat a (by omega)
      have hk0 : (0 : Int) ≤ k := by omega
      have hk1 : (k : Int) < m := by omega
      clear ha hab hv
      go_wp2_with fail
      refine (put_reads none 0 0 a 4 [] _ (reads_nil _) (by omega) (by omega) (by omega)).mono ?_
      rintro e w5 ⟨A5, c5, rfl, hr5, hb⟩
      rw [List.nil_append] at hr5
      have HB5 := Lib.hid (HB.out.trans (hb.mono HB.out.size))
      have HO5 := Lib.hid (own_below HO.out hb)
      have HR5 := Lib.hid hr5
      clear hb hr5 HO HB hc0
      go_wp2_with (at_builtin; refine wpList_append_any _ rfl (.tmp 12) (.tmp 15) _ rfl w.heap.size 5 i0 _ 1 1 Try.underlying60 hi0 hz0 hz1 hz2 rfl (by omega) _ (4 * k) _ rfl HO5.out w5.heap.size A5 4 c5 _ rfl HR5.out (bcells_one _) (by unfold maxLen; omega) (by omega) HB5.out.size ?_; intro v6 w6 hown6 hg6 _)
      have HB6 := Lib.hid (HB5.out.grown hg6 HB5.out.size (fun g h => (HO5.out.lt g h).1))
      rw [← bcells_append, ← bytesU_snoc, show l.take k ++ [a] = l.take (k + 1) by
        obtain ⟨h1, h2⟩ := List.getElem?_eq_some_iff.1 HAT.out
        rw [List.take_succ_eq_append_getElem h1, h2], show 4 * k + 4 = 4 * (k + 1) by omega] at hown6
      obtain ⟨A8, c8, rfl, _, _, _⟩ := own_form hown6
      have HO6 := Lib.hid hown6
      clear hg6 hown6 HR5 HO5 HB5
      go_roundw
      case rel =>
        first
          | exact ⟨k + 1, A8, c8, by omega, by go_num, rfl, HO6, HB6⟩
          | ((repeat apply Exists.intro); exact ⟨⟨k + 1, A8, c8, by omega, by go_num, rfl, HO6, HB6⟩, rfl⟩)
      case measure => simp [intOf]; omega
    · obtain rfl : k = m := by omega
      have ht : l.take k = l := List.take_of_length_le (by rw [HL.out]; exact Nat.le_refl _)
      rw [ht] at HO
      clear hlt ht
      go_wp2_with fail
      go_ret
      exact ⟨A', c', rfl, Reads.of_own HO.out, HB.out⟩
end Go.Proofs.Ytabhhccdbfjigaa
