/-
  Contracts of package leaf's small functions: In, isPage, isItem, Size, Find.
-/
import Derived.Test.YtgnpldlgdapehaaJ17
import Derived.Test.YtgnpldlgdapehaaJ18
import Derived.Test.YtgnpldlgdapehaaJ15
import Derived.Deep.CutRange
import Derived.Deep.DrawnRows
import Derived.WalkMore
set_option linter.unusedVariables false
set_option linter.unusedSimpArgs false
namespace Go.Proofs.Ytgnpldlgdapehaa
open Go.RowKit
open Go.Lib hiding intOf
attribute [local go_sem ↓] Go.wp_at_zero Go.wp_at_succ

theorem lnum_any (n : Nat) (w : World) : Calls Try.prog 75 #[.int .u32 n] w fun e w' => e = .returned (.bool (numB n)) ∧ w' = w := by
 by_cases h1 : 2 ≤ n
 ·have h1' : (2 : Int) ≤ n := by omega
  by_cases h2 : n ≤ 2147483647
  ·have h2' : (n : Int) ≤ 2147483647 := by omega
   have HE := Lib.hid (show numB n = true by simp [numB, h1, h2])
   go_enter Try.func75, Try.ntmps75
   go_wp2
   go_ret
   exact ⟨by rw [HE.out]; rfl, rfl⟩
  ·have h2' : ¬ (n : Int) ≤ 2147483647 := by omega
   have HE := Lib.hid (show numB n = false by simp [numB, h1, h2])
   go_enter Try.func75, Try.ntmps75
   go_wp2
   go_ret
   exact ⟨by rw [HE.out]; rfl, rfl⟩
 ·have h1' : ¬ (2 : Int) ≤ n := by omega
  have HE := Lib.hid (show numB n = false by simp [numB, h1])
  go_enter Try.func75, Try.ntmps75
  go_wp2
  go_ret
  exact ⟨by rw [HE.out]; rfl, rfl⟩
set_option maxRecDepth 100000 in
set_option maxHeartbeats 3200000 in
theorem litem_any (b : It) (w : World) : Calls Try.prog 91 #[.agg #[.string b.ky, .string b.vl, .bool b.ov, .int .i64 b.ln, .int .u32 b.hd]] w fun e w' => e = .returned (.bool (okIt b)) ∧ Below w.heap.size w w' := by
 obtain ⟨ky, vl, ov, ln, hd⟩ := b
 have HN := fun w => lnum_any hd w
 have HB := Lib.hid ((Below.refl w.heap.size w).alloc (Nat.le_refl _) (.cells #[.string ky, .string vl, .bool ov, .int .i64 ln, .int .u32 hd] 46))
 have hvz : vl.toList.isEmpty = decide (vl.size = 0) := by
  rw [Bool.eq_iff_iff, List.isEmpty_iff_length_eq_zero, ByteArray.toList_eq, size_list, decide_eq_true_eq]
 cases ov
 ·clear hvz
  have hE := okIt_in (b := ⟨ky, vl, false, ln, hd⟩) rfl
  dsimp only at hE
  rcases hk : keyF ky with _ | _
  ·have hkd : decide ((ky.size : Int) > 40) = true := by simp [keyF] at hk; simp; omega
   rw [hk] at hE
   have HE := Lib.hid hE
   clear hE hk
   go_enter Try.func91, Try.ntmps91
   go_wp2_with fail
   go_ret
   exact ⟨by rw [HE.out]; rfl, HB.out⟩
  have hkd : decide ((ky.size : Int) > 40) = false := by simp [keyF] at hk; simp; omega
  rw [hk] at hE
  by_cases h1 : vl.size ≤ 255
  rotate_left
  ·have h1' : decide ((vl.size : Int) ≤ 255) = false := by simp; omega
   rw [decide_eq_false h1] at hE
   have HE := Lib.hid hE
   clear hE hk h1
   go_enter Try.func91, Try.ntmps91
   go_wp2_with fail
   go_ret
   exact ⟨by rw [HE.out]; rfl, HB.out⟩
  have h1' : decide ((vl.size : Int) ≤ 255) = true := by simp; omega
  rw [decide_eq_true h1] at hE
  by_cases h2 : ln = 0
  rotate_left
  ·have h2' : (ln == 0) = false := by simpa using h2
   rw [decide_eq_false h2] at hE
   have HE := Lib.hid hE
   clear hE hk h1 h2
   go_enter Try.func91, Try.ntmps91
   go_wp2_with fail
   go_ret
   exact ⟨by rw [HE.out]; rfl, HB.out⟩
  have h2' : (ln == 0) = true := by simpa using h2
  rw [decide_eq_true h2] at hE
  have h3' : ((hd : Int) == 0) = decide (hd = 0) := by
   by_cases h3 : hd = 0
   ·simp [h3]
   ·simp [h3]
  have HE := Lib.hid hE
  have H3 := Lib.hid h3'
  clear hE hk h1 h2 h3'
  go_enter Try.func91, Try.ntmps91
  go_wp2_with fail
  go_ret
  exact ⟨by rw [HE.out, ← H3.out]; rfl, HB.out⟩
 ·have hE := okIt_ov (b := ⟨ky, vl, true, ln, hd⟩) rfl
  dsimp only at hE
  rcases hk : keyF ky with _ | _
  ·have hkd : decide ((ky.size : Int) > 40) = true := by simp [keyF] at hk; simp; omega
   rw [hk] at hE
   have HE := Lib.hid hE
   clear hE hk hvz
   go_enter Try.func91, Try.ntmps91
   go_wp2_with fail
   go_ret
   exact ⟨by rw [HE.out]; rfl, HB.out⟩
  have hkd : decide ((ky.size : Int) > 40) = false := by simp [keyF] at hk; simp; omega
  rw [hk] at hE
  by_cases h1 : vl.size = 0
  rotate_left
  ·rw [decide_eq_false h1] at hE hvz
   have HE := Lib.hid hE
   clear hE hk h1
   go_enter Try.func91, Try.ntmps91
   go_wp2_with fail
   go_ret
   exact ⟨by rw [HE.out]; rfl, HB.out⟩
  rw [decide_eq_true h1] at hE hvz
  have hvn : vl.toList = [] := List.isEmpty_iff.1 hvz
  clear hvz
  by_cases h2 : 1 ≤ ln
  rotate_left
  ·have h2' : decide (1 ≤ ln) = false := decide_eq_false h2
   rw [h2'] at hE
   have HE := Lib.hid hE
   clear hE hk h1 h2
   go_enter Try.func91, Try.ntmps91
   go_wp2_with fail
   go_ret
   exact ⟨by rw [HE.out]; rfl, HB.out⟩
  rw [decide_eq_true h2] at hE
  by_cases h3 : ln ≤ 4096
  rotate_left
  ·have h3' : decide (ln ≤ 4096) = false := decide_eq_false h3
   rw [h3'] at hE
   have HE := Lib.hid hE
   clear hE hk h1
   go_enter Try.func91, Try.ntmps91
   go_wp2_with fail
   go_ret
   exact ⟨by rw [HE.out]; rfl, HB.out⟩
  rw [decide_eq_true h3] at hE
  have HE := Lib.hid hE
  clear hE hk h1
  go_enter Try.func91, Try.ntmps91
  go_wp2_with (go_at_call 75; refine (HN _).mono ?_; rintro e w' ⟨rfl, rfl⟩)
  go_ret
  exact ⟨by rw [HE.out]; rfl, HB.out⟩
set_option maxRecDepth 100000 in
set_option maxHeartbeats 3200000 in
theorem lsize_big (A : Option Addr) (n c : Nat) (l : List It) (w : World) (hr : Reads w w.heap.size 5 A n (itc l)) (hn : n ≤ 2513169434916) (hx : NearI l) (hs : sizeI l ≤ 9007199254740992) :
  Calls Try.prog 48 #[.slice A n c] w fun e w' => e = .returned (.int .i64 (sizeI l)) ∧ Below w.heap.size w w' := by
 have hl := it_len hr
 have HR := Lib.hid hr
 have HL := Lib.hid hl
 have HX := Lib.hid hx
 clear hr hl hx
 go_enter Try.func48, Try.ntmps48
 go_wp2_with fail
 go_loopw [3, 5, 8] (fun s p i wr => ∃ k : Nat, k ≤ n ∧ i = .int .i64 k ∧ s = .int .i64 (sizeI (l.take k)) ∧ Hid (Below w.heap.size w wr)) (fun _ _ i _ => n - (intOf i).toNat)
 case atStart => exact ⟨0, Nat.zero_le _, rfl, by simp [sizeI], Lib.hid (Below.refl _ _)⟩
 case round =>
  obtain ⟨k, hk, rfl, rfl, HB⟩ := hrel
  by_cases hlt : k < n
  ·obtain ⟨ad, x, rfl, _, hp, hx, hc⟩ := it_at HR.out hlt
   obtain ⟨c0, c1, c2, c3, c4⟩ := hc.below HB.out hp
   have hk0 : (0 : Int) ≤ k := by omega
   have hk1 : (k : Int) < n := by omega
   have hsz := sizeI_take_succ hx
   have hle := sizeI_take_le l (k + 1)
   have hks : sizeI (l.take k) + oneI x ≤ 9007199254740992 := by omega
   have HS := Lib.hid hsz
   have HB2 := Lib.hid (HB.out.alloc HB.out.size (.cells x.cells.toArray 46))
   obtain ⟨ky, vl, ov, ln, hd⟩ := x
   dsimp only [It.cells] at HB2
   clear hx hsz hle hc hp
   cases ov
   ·have ho : oneI ⟨ky, vl, false, ln, hd⟩ = 3 + ky.size + vl.size := rfl
    have hadd : ((sizeI (l.take k) : Nat) : Int) + (2 + (ky.size : Int)) + (1 + (vl.size : Int)) = ((sizeI (l.take (k + 1)) : Nat) : Int) := by rw [HS.out, ho]; omega
    rw [ho] at hks
    have HA := Lib.hid hadd
    clear hadd ho HS
    go_wp2_with fail
    go_roundw
    case rel =>
     have hadd := HA.out
     first
      | exact ⟨k + 1, by omega, by go_num, by rw [hadd], HB2⟩
      | ((repeat apply Exists.intro); exact ⟨⟨k + 1, by omega, by go_num, by rw [hadd], HB2⟩, rfl⟩)
    case measure => simp [intOf]; omega
   ·have ho : oneI ⟨ky, vl, true, ln, hd⟩ = 10 + ky.size := rfl
    have hadd : ((sizeI (l.take k) : Nat) : Int) + (2 + (ky.size : Int)) + 8 = ((sizeI (l.take (k + 1)) : Nat) : Int) := by rw [HS.out, ho]; omega
    rw [ho] at hks
    have HA := Lib.hid hadd
    clear hadd ho HS
    go_wp2_with fail
    go_roundw
    case rel =>
     have hadd := HA.out
     first
      | exact ⟨k + 1, by omega, by go_num, by rw [hadd], HB2⟩
      | ((repeat apply Exists.intro); exact ⟨⟨k + 1, by omega, by go_num, by rw [hadd], HB2⟩, rfl⟩)
    case measure => simp [intOf]; omega
  ·obtain rfl : k = n := by omega
   have ht : l.take k = l := List.take_of_length_le (by rw [HL.out]; exact Nat.le_refl _)
   rw [ht]
   clear hlt
   go_wp2
   go_ret
   exact ⟨rfl, HB.out⟩
theorem lsize_any (A : Option Addr) (n c : Nat) (l : List It) (w : World) (hr : Reads w w.heap.size 5 A n (itc l)) (hn : n ≤ 1000000) (hx : NearI l) (hs : sizeI l ≤ 9007199254740992) :
  Calls Try.prog 48 #[.slice A n c] w fun e w' => e = .returned (.int .i64 (sizeI l)) ∧ Below w.heap.size w w' := lsize_big A n c l w hr (by omega) hx hs
end Go.Proofs.Ytgnpldlgdapehaa

