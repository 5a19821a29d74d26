/-
  Contracts of the reference of layer 8: In, One, Size, may, May, Find.
-/
import Derived.Test.YtgnpldlgdapehaaJ12
import Derived.Test.YtgnpldlgdapehaaJ9
import Derived.Test.YtgnpldlgdapehaaJ3
import Derived.Deep.CutRange
import Derived.Deep.DrawnRows
import Derived.Deep.QuietTactic
import Derived.BigQuiet
import Derived.Lib.MinMax
set_option linter.unusedVariables false
set_option linter.unusedSimpArgs false
namespace Go.Proofs.Ytgnpldlgdapehaa
open Go.RowKit
open Go.Lib hiding intOf
attribute [local go_sem ↓] Go.wp_at_zero Go.wp_at_succ

theorem rone8_any (b : It) (w : World) (hs : b.ky.size ≤ 140737488351232) (hv : b.vl.size ≤ 140737488351232) : Calls Try.prog 23 #[.agg #[.string b.ky, .string b.vl, .bool b.ov, .int .i64 b.ln, .int .u32 b.hd]] w fun e w' => e = .returned (.int .i64 (oneI b)) ∧ Below w.heap.size w w' := by
 obtain ⟨ky, vl, ov, ln, hd⟩ := b
 cases ov
 ·have HE := Lib.hid (show ((oneI ⟨ky, vl, false, ln, hd⟩ : Nat) : Int) = 3 + (ky.size : Int) + (vl.size : Int) by simp [oneI])
  dsimp only at hs hv
  go_enter Try.func23, Try.ntmps23
  go_wp2
  go_ret
  exact ⟨by rw [HE.out]; rfl, (Below.refl _ _).alloc (Nat.le_refl _) _⟩
 ·have HE := Lib.hid (show ((oneI ⟨ky, vl, true, ln, hd⟩ : Nat) : Int) = 10 + (ky.size : Int) by simp [oneI])
  dsimp only at hs hv
  go_enter Try.func23, Try.ntmps23
  go_wp2
  go_ret
  exact ⟨by rw [HE.out]; rfl, (Below.refl _ _).alloc (Nat.le_refl _) _⟩
theorem okIt_in {b : It} (h : b.ov = false) : okIt b = (keyF b.ky && (decide (b.vl.size ≤ 255) && (decide (b.ln = 0) && decide (b.hd = 0)))) := by rw [okIt, if_neg (by rw [h]; decide)]
theorem okIt_ov {b : It} (h : b.ov = true) : okIt b = (keyF b.ky && (decide (b.vl.size = 0) && (decide (1 ≤ b.ln) && (decide (b.ln ≤ 4096) && numB b.hd)))) := by rw [okIt, if_pos h]
set_option maxRecDepth 100000 in
set_option maxHeartbeats 3200000 in
theorem rmayone_any (b : It) (w : World) : Calls Try.prog 50 #[.agg #[.string b.ky, .string b.vl, .bool b.ov, .int .i64 b.ln, .int .u32 b.hd]] w fun e w' => e = .returned (.bool (okIt b)) ∧ Below w.heap.size w w' := by
 obtain ⟨ky, vl, ov, ln, hd⟩ := b
 have HK := fun w => rkey_any ky w
 have HN := fun w => rnumB_any hd w
 have HB := Lib.hid ((Below.refl w.heap.size w).alloc (Nat.le_refl _) (.cells #[.string ky, .string vl, .bool ov, .int .i64 ln, .int .u32 hd] 46))
 have hvz : vl.toList.isEmpty = decide (vl.size = 0) := by
  rw [Bool.eq_iff_iff, List.isEmpty_iff_length_eq_zero, ByteArray.toList_eq, size_list, decide_eq_true_eq]
 cases ov
 ·clear hvz
  have hE := okIt_in (b := ⟨ky, vl, false, ln, hd⟩) rfl
  dsimp only at hE
  rcases hk : keyF ky with _ | _
  ·rw [hk] at HK hE
   have HE := Lib.hid hE
   clear hE hk
   go_enter Try.func50, Try.ntmps50
   go_wp2_with (go_at_call 26; refine (HK _).mono ?_; rintro e w' ⟨rfl, rfl⟩)
   go_ret
   exact ⟨by rw [HE.out]; rfl, HB.out⟩
  rw [hk] at HK hE
  by_cases h1 : vl.size ≤ 255
  rotate_left
  ·have h1' : decide ((vl.size : Int) ≤ 255) = false := by simp; omega
   rw [decide_eq_false h1] at hE
   have HE := Lib.hid hE
   clear hE hk h1
   go_enter Try.func50, Try.ntmps50
   go_wp2_with (go_at_call 26; refine (HK _).mono ?_; rintro e w' ⟨rfl, rfl⟩)
   go_ret
   exact ⟨by rw [HE.out]; rfl, HB.out⟩
  have h1' : decide ((vl.size : Int) ≤ 255) = true := by simp; omega
  rw [decide_eq_true h1] at hE
  by_cases h2 : ln = 0
  rotate_left
  ·have h2' : (ln == 0) = false := by simpa using h2
   rw [decide_eq_false h2] at hE
   have HE := Lib.hid hE
   clear hE hk h1 h2
   go_enter Try.func50, Try.ntmps50
   go_wp2_with (go_at_call 26; refine (HK _).mono ?_; rintro e w' ⟨rfl, rfl⟩)
   go_ret
   exact ⟨by rw [HE.out]; rfl, HB.out⟩
  have h2' : (ln == 0) = true := by simpa using h2
  rw [decide_eq_true h2] at hE
  have h3' : ((hd : Int) == 0) = decide (hd = 0) := by
   by_cases h3 : hd = 0
   ·simp [h3]
   ·simp [h3]
  have HE := Lib.hid hE
  have H3 := Lib.hid h3'
  clear hE hk h1 h2 h3'
  go_enter Try.func50, Try.ntmps50
  go_wp2_with (go_at_call 26; refine (HK _).mono ?_; rintro e w' ⟨rfl, rfl⟩)
  go_ret
  exact ⟨by rw [HE.out, ← H3.out]; rfl, HB.out⟩
 ·have hE := okIt_ov (b := ⟨ky, vl, true, ln, hd⟩) rfl
  dsimp only at hE
  rcases hk : keyF ky with _ | _
  ·rw [hk] at HK hE
   have HE := Lib.hid hE
   clear hE hk hvz
   go_enter Try.func50, Try.ntmps50
   go_wp2_with (go_at_call 26; refine (HK _).mono ?_; rintro e w' ⟨rfl, rfl⟩)
   go_ret
   exact ⟨by rw [HE.out]; rfl, HB.out⟩
  rw [hk] at HK hE
  by_cases h1 : vl.size = 0
  rotate_left
  ·rw [decide_eq_false h1] at hE hvz
   have HE := Lib.hid hE
   clear hE hk h1
   go_enter Try.func50, Try.ntmps50
   go_wp2_with (go_at_call 26; refine (HK _).mono ?_; rintro e w' ⟨rfl, rfl⟩)
   go_ret
   exact ⟨by rw [HE.out]; rfl, HB.out⟩
  rw [decide_eq_true h1] at hE hvz
  have hvn : vl.toList = [] := List.isEmpty_iff.1 hvz
  clear hvz
  by_cases h2 : 1 ≤ ln
  rotate_left
  ·have h2' : decide (1 ≤ ln) = false := decide_eq_false h2
   rw [h2'] at hE
   have HE := Lib.hid hE
   clear hE hk h1 h2
   go_enter Try.func50, Try.ntmps50
   go_wp2_with (go_at_call 26; refine (HK _).mono ?_; rintro e w' ⟨rfl, rfl⟩)
   go_ret
   exact ⟨by rw [HE.out]; rfl, HB.out⟩
  rw [decide_eq_true h2] at hE
  by_cases h3 : ln ≤ 4096
  rotate_left
  ·have h3' : decide (ln ≤ 4096) = false := decide_eq_false h3
   rw [h3'] at hE
   have HE := Lib.hid hE
   clear hE hk h1
   go_enter Try.func50, Try.ntmps50
   go_wp2_with (go_at_call 26; refine (HK _).mono ?_; rintro e w' ⟨rfl, rfl⟩)
   go_ret
   exact ⟨by rw [HE.out]; rfl, HB.out⟩
  rw [decide_eq_true h3] at hE
  have HE := Lib.hid hE
  clear hE hk h1
  go_enter Try.func50, Try.ntmps50
  go_wp2_with (first | (go_at_call 26; refine (HK _).mono ?_; rintro e w' ⟨rfl, rfl⟩) | (go_at_call 56; refine (HN _).mono ?_; rintro e w' ⟨rfl, rfl⟩))
  go_ret
  exact ⟨by rw [HE.out]; rfl, HB.out⟩
end Go.Proofs.Ytgnpldlgdapehaa

