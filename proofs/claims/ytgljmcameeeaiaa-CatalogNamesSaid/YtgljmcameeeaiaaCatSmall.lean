/-
  Contracts of package catalog's small functions: Name, isPage, isBucket, Size.
-/
import Derived.Test.YtgljmcameeeaiaaCatMath
import Derived.Test.YtgljmcameeeaiaaCatOps
import Derived.Deep.CutRange
namespace Go.Proofs.Ytgljmcameeeaiaa
open Go.RowKit
open Go.Lib hiding intOf
set_option linter.unusedVariables false
set_option linter.unusedSimpArgs false
attribute [local go_sem ↓] Go.wp_at_zero Go.wp_at_succ

theorem cname_any (s : ByteArray) (w : World) : Calls Try.prog 18 #[.string s] w fun e w' => e = .returned (.bool (nameB s)) ∧ w' = w := by
  by_cases h1 : 1 ≤ s.size
  · have h1' : (1 : Int) ≤ s.size := by omega
    by_cases h2 : s.size ≤ 16
    · have h2' : (s.size : Int) ≤ 16 := by omega
      go_enter Try.func18, Try.ntmps18
      go_wp2
      go_ret
      exact ⟨by simp [nameB, h1, h2], rfl⟩
    · have h2' : ¬ (s.size : Int) ≤ 16 := by omega
      go_enter Try.func18, Try.ntmps18
      go_wp2
      go_ret
      exact ⟨by simp [nameB, h1, h2], rfl⟩
  · have h1' : ¬ (1 : Int) ≤ s.size := by omega
    go_enter Try.func18, Try.ntmps18
    go_wp2
    go_ret
    exact ⟨by simp [nameB, h1], rfl⟩
theorem cnum_any (n : Nat) (w : World) : Calls Try.prog 30 #[.int .u32 n] w fun e w' => e = .returned (.bool (numB n)) ∧ w' = w := by
  by_cases h1 : 2 ≤ n
  · have h1' : (2 : Int) ≤ n := by omega
    by_cases h2 : n ≤ 2147483647
    · have h2' : (n : Int) ≤ 2147483647 := by omega
      have HE := Lib.hid (show numB n = true by simp [numB, h1, h2])
      go_enter Try.func30, Try.ntmps30
      go_wp2
      go_ret
      exact ⟨by rw [HE.out]; rfl, rfl⟩
    · have h2' : ¬ (n : Int) ≤ 2147483647 := by omega
      have HE := Lib.hid (show numB n = false by simp [numB, h1, h2])
      go_enter Try.func30, Try.ntmps30
      go_wp2
      go_ret
      exact ⟨by rw [HE.out]; rfl, rfl⟩
  · have h1' : ¬ (2 : Int) ≤ n := by omega
    have HE := Lib.hid (show numB n = false by simp [numB, h1])
    go_enter Try.func30, Try.ntmps30
    go_wp2
    go_ret
    exact ⟨by rw [HE.out]; rfl, rfl⟩
set_option maxRecDepth 100000 in
set_option maxHeartbeats 3200000 in
theorem cbk_any (b : Bk) (w : World) : Calls Try.prog 50 #[.agg #[.string b.nm, .int .u32 b.rt, .int .i64 b.ks]] w fun e w' => e = .returned (.bool (okBk b)) ∧ Below w.heap.size w w' := by
  have HN := fun w => cname_any b.nm w
  have HR := fun w => cnum_any b.rt w
  have HB := Lib.hid ((Below.refl w.heap.size w).alloc (Nat.le_refl _) (.cells #[.string b.nm, .int .u32 b.rt, .int .i64 b.ks] 33))
  rcases hnm : nameB b.nm with _ | _
  · rw [hnm] at HN
    have HE := Lib.hid (show okBk b = false by rw [okBk, hnm]; rfl)
    clear hnm
    go_enter Try.func50, Try.ntmps50
    go_wp2_with (go_at_call 18; refine (HN _).mono ?_; rintro e w' ⟨rfl, rfl⟩)
    go_ret
    exact ⟨by rw [HE.out]; rfl, HB.out⟩
  · rw [hnm] at HN
    by_cases h1 : b.rt = 0
    · have h1' : ((b.rt : Int) == 0) = true := by simp [h1]
      have HE := Lib.hid (show okBk b = (b.ks == 0) by
        rw [okBk, hnm, Bool.true_and]
        simp only [emptyB, fullB, h1]
        by_cases h2 : b.ks = 0 <;> simp [h2])
      clear hnm h1
      go_enter Try.func50, Try.ntmps50
      go_wp2_with (go_at_call 18; refine (HN _).mono ?_; rintro e w' ⟨rfl, rfl⟩)
      go_ret
      exact ⟨by rw [HE.out]; rfl, HB.out⟩
    · have h1' : ((b.rt : Int) == 0) = false := by simp; omega
      have hE : okBk b = (numB b.rt && (decide (1 ≤ b.ks) && decide (b.ks ≤ 2147483647))) := by
        rw [okBk, hnm, Bool.true_and]
        simp only [emptyB, fullB, numB]
        simp [h1]
      clear hnm h1
      rcases hnb : numB b.rt with _ | _
      · rw [hnb] at HR hE
        have HE := Lib.hid hE
        clear hE hnb
        go_enter Try.func50, Try.ntmps50
        go_wp2_with (first | (go_at_call 18; refine (HN _).mono ?_; rintro e w' ⟨rfl, rfl⟩) | (go_at_call 30; refine (HR _).mono ?_; rintro e w' ⟨rfl, rfl⟩))
        go_ret
        exact ⟨by rw [HE.out]; rfl, HB.out⟩
      · rw [hnb] at HR hE
        by_cases h2 : 1 ≤ b.ks
        · by_cases h3 : b.ks ≤ 2147483647
          · have HE := Lib.hid (show okBk b = true by rw [hE]; simp [h2, h3])
            clear hE hnb
            go_enter Try.func50, Try.ntmps50
            go_wp2_with (first | (go_at_call 18; refine (HN _).mono ?_; rintro e w' ⟨rfl, rfl⟩) | (go_at_call 30; refine (HR _).mono ?_; rintro e w' ⟨rfl, rfl⟩))
            go_ret
            exact ⟨by rw [HE.out]; rfl, HB.out⟩
          · have HE := Lib.hid (show okBk b = false by rw [hE]; simp [h2, h3])
            have h3' : decide (b.ks ≤ 2147483647) = false := decide_eq_false h3
            clear hE hnb
            go_enter Try.func50, Try.ntmps50
            go_wp2_with (first | (go_at_call 18; refine (HN _).mono ?_; rintro e w' ⟨rfl, rfl⟩) | (go_at_call 30; refine (HR _).mono ?_; rintro e w' ⟨rfl, rfl⟩))
            go_ret
            exact ⟨by rw [HE.out]; rfl, HB.out⟩
        · have HE := Lib.hid (show okBk b = false by rw [hE]; simp [h2])
          have h2' : decide (1 ≤ b.ks) = false := decide_eq_false h2
          clear hE hnb
          go_enter Try.func50, Try.ntmps50
          go_wp2_with (first | (go_at_call 18; refine (HN _).mono ?_; rintro e w' ⟨rfl, rfl⟩) | (go_at_call 30; refine (HR _).mono ?_; rintro e w' ⟨rfl, rfl⟩))
          go_ret
          exact ⟨by rw [HE.out]; rfl, HB.out⟩
set_option maxRecDepth 100000 in
set_option maxHeartbeats 3200000 in
theorem csize_big (A : Option Addr) (n c : Nat) (l : List Bk) (w : World) (hr : Reads w w.heap.size 3 A n (bkc l)) (hn : n ≤ 4398046511104) (hs : sizeB l ≤ 9007199254740992) :
    Calls Try.prog 23 #[.slice A n c] w fun e w' => e = .returned (.int .i64 (sizeB l)) ∧ Below w.heap.size w w' := by
  have hl := bk_len hr
  have HR := Lib.hid hr
  have HL := Lib.hid hl
  clear hr hl
  go_enter Try.func23, Try.ntmps23
  go_wp2_with fail
  go_loopw [3, 5, 8] (fun s p i wr => ∃ k : Nat, k ≤ n ∧ i = .int .i64 k ∧ s = .int .i64 (sizeB (l.take k)) ∧ Hid (Below w.heap.size w wr)) (fun _ _ i _ => n - (intOf i).toNat)
  case atStart => exact ⟨0, Nat.zero_le _, rfl, by simp [sizeB], Lib.hid (Below.refl _ _)⟩
  case round =>
    obtain ⟨k, hk, rfl, rfl, HB⟩ := hrel
    by_cases hlt : k < n
    · obtain ⟨ad, x, rfl, _, hp, hx, hc⟩ := bk_at HR.out hlt
      obtain ⟨hc0, hc1, hc2⟩ := hc.below HB.out hp
      have hk0 : (0 : Int) ≤ k := by omega
      have hk1 : (k : Int) < n := by omega
      have hsz := sizeB_take_succ hx
      have hle := sizeB_take_le l (k + 1)
      have HX := Lib.hid hsz
      have hxs : x.nm.size ≤ 9007199254740992 := by omega
      have hks : sizeB (l.take k) + (9 + x.nm.size) ≤ 9007199254740992 := by omega
      have HB2 := Lib.hid (HB.out.alloc HB.out.size (.cells #[.string x.nm, .int .u32 x.rt, .int .i64 x.ks] 33))
      have hadd : ((sizeB (l.take k) : Nat) : Int) + (1 + (x.nm.size : Int) + 4 + 4) = ((sizeB (l.take (k + 1)) : Nat) : Int) := by rw [hsz]; omega
      have HA := Lib.hid hadd
      clear hx hsz hle hadd hc hp
      go_wp2_with fail
      go_roundw
      case rel =>
        have hadd := HA.out
        first
          | exact ⟨k + 1, by omega, by go_num, by rw [hadd], HB2⟩
          | ((repeat apply Exists.intro); exact ⟨⟨k + 1, by omega, by go_num, by rw [hadd], HB2⟩, rfl⟩)
      case measure => simp [intOf]; omega
    · obtain rfl : k = n := by omega
      have ht : l.take k = l := List.take_of_length_le (by rw [HL.out]; exact Nat.le_refl _)
      rw [ht]
      clear hlt
      go_wp2
      go_ret
      exact ⟨rfl, HB.out⟩
theorem csize_any (A : Option Addr) (n c : Nat) (l : List Bk) (w : World) (hr : Reads w w.heap.size 3 A n (bkc l)) (hn : n ≤ 1000000) (hs : sizeB l ≤ 9007199254740992) :
    Calls Try.prog 23 #[.slice A n c] w fun e w' => e = .returned (.int .i64 (sizeB l)) ∧ Below w.heap.size w w' := csize_big A n c l w hr (by omega) hs
end Go.Proofs.Ytgljmcameeeaiaa
