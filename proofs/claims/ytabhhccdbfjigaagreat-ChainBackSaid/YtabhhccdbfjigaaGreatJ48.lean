/-
  The walk of the statement ChainBack: from every start, at every argument, it returns true and changes no block that was there before.
-/
import Derived.Test.YtabhhccdbfjigaaGreatJ47
import Derived.Test.YtabhhccdbfjigaaGreatJ41
import Derived.Test.YtabhhccdbfjigaaGreatJ7
import Derived.Deep.CutRange
namespace Go.Proofs.YtabhhccdbfjigaaGreat
open Go.RowKit
open Go.Lib hiding intOf
set_option linter.unusedVariables false
set_option linter.unusedSimpArgs false
attribute [local go_sem ↓] Go.wp_at_zero Go.wp_at_succ

set_option maxRecDepth 100000 in
set_option maxHeartbeats 25600000 in
theorem chback_g1 (v : ByteArray) (A2 : Option Addr) (n2 c2 : Nat) (ns : List Nat) (f s : Nat) (at_ : Int) (d : Nat) (w : World) (h1 : 600 < v.size) :
    Calls Tryz.prog 4 #[.string v, .slice A2 n2 c2, .int .u32 f, .int .u32 s, .int .i64 at_, .int .u32 d] w fun e w' => e = .returned (.bool true) ∧ Below w.heap.size w w' := by
  have g1 : decide ((600 : Int) < (v.size : Int)) = true := by simp; omega
  have g1b : decide (600 < v.size) = true := by simp; omega
  obtain ⟨F, hF⟩ : ∃ F, F = 2 + f % 10 := ⟨_, rfl⟩
  obtain ⟨S, hS⟩ : ∃ S, S = 1 + s % 3 := ⟨_, rfl⟩
  have hF2 : 2 ≤ F := by omega
  have hF9 : F ≤ 11 := by omega
  have hS1 : 1 ≤ S := by omega
  have hS3 : S ≤ 3 := by omega
  have hFx := Lib.hid hF
  have hSx := Lib.hid hS
  clear hF hS
  clear h1
  have hF := hFx.out
  have hS := hSx.out
  have u1 : Int.tmod (f : Int) 10 = (f : Int) % 10 := Int.tmod_eq_emod_of_nonneg (by omega)
  have u2 : IntKind.u32.wrap ((f : Int) % 10) = (f : Int) % 10 := by rw [IntKind.wrap_u32]; omega
  have u3 : 2 + (f : Int) % 10 = (F : Int) := by omega
  have u4 : IntKind.u32.wrap (F : Int) = (F : Int) := by rw [IntKind.wrap_u32]; omega
  have u5 : Int.tmod (s : Int) 3 = (s : Int) % 3 := Int.tmod_eq_emod_of_nonneg (by omega)
  have u6 : IntKind.u32.wrap ((s : Int) % 3) = (s : Int) % 3 := by rw [IntKind.wrap_u32]; omega
  have u7 : 1 + (s : Int) % 3 = (S : Int) := by omega
  have u8 : IntKind.u32.wrap (S : Int) = (S : Int) := by rw [IntKind.wrap_u32]; omega
  clear hF hS
  have HB := Lib.hid (Below.refl w.heap.size w)
  go_enter Tryz.func4, Tryz.ntmps4
  go_wp2_with fail
  refine (lives11_any _).mono ?_
  rintro e w1 ⟨rfl, hb⟩
  replace HB := Lib.hid (HB.out.trans (hb.mono HB.out.size))
  clear hb
  go_wp2_with fail
  go_ret
  exact ⟨rfl, HB.out⟩
set_option maxRecDepth 100000 in
set_option maxHeartbeats 25600000 in
theorem chback_g2 (v : ByteArray) (A2 : Option Addr) (n2 c2 : Nat) (ns : List Nat) (f s : Nat) (at_ : Int) (d : Nat) (w : World) (h1 : ¬ 600 < v.size) (h2 : v.size = 0) :
    Calls Tryz.prog 4 #[.string v, .slice A2 n2 c2, .int .u32 f, .int .u32 s, .int .i64 at_, .int .u32 d] w fun e w' => e = .returned (.bool true) ∧ Below w.heap.size w w' := by
  have g1 : decide ((600 : Int) < (v.size : Int)) = false := by simp; omega
  have g1b : decide (600 < v.size) = false := by simp; omega
  have he : (v.toList == []) = true := by rw [List.eq_nil_of_length_eq_zero (show v.toList.length = 0 by rw [ByteArray.toList_eq, size_list]; exact h2)]; rfl
  obtain ⟨F, hF⟩ : ∃ F, F = 2 + f % 10 := ⟨_, rfl⟩
  obtain ⟨S, hS⟩ : ∃ S, S = 1 + s % 3 := ⟨_, rfl⟩
  have hF2 : 2 ≤ F := by omega
  have hF9 : F ≤ 11 := by omega
  have hS1 : 1 ≤ S := by omega
  have hS3 : S ≤ 3 := by omega
  have hFx := Lib.hid hF
  have hSx := Lib.hid hS
  clear hF hS
  clear h1 h2
  have hF := hFx.out
  have hS := hSx.out
  have u1 : Int.tmod (f : Int) 10 = (f : Int) % 10 := Int.tmod_eq_emod_of_nonneg (by omega)
  have u2 : IntKind.u32.wrap ((f : Int) % 10) = (f : Int) % 10 := by rw [IntKind.wrap_u32]; omega
  have u3 : 2 + (f : Int) % 10 = (F : Int) := by omega
  have u4 : IntKind.u32.wrap (F : Int) = (F : Int) := by rw [IntKind.wrap_u32]; omega
  have u5 : Int.tmod (s : Int) 3 = (s : Int) % 3 := Int.tmod_eq_emod_of_nonneg (by omega)
  have u6 : IntKind.u32.wrap ((s : Int) % 3) = (s : Int) % 3 := by rw [IntKind.wrap_u32]; omega
  have u7 : 1 + (s : Int) % 3 = (S : Int) := by omega
  have u8 : IntKind.u32.wrap (S : Int) = (S : Int) := by rw [IntKind.wrap_u32]; omega
  clear hF hS
  have HB := Lib.hid (Below.refl w.heap.size w)
  go_enter Tryz.func4, Tryz.ntmps4
  go_wp2_with fail
  refine (lives11_any _).mono ?_
  rintro e w1 ⟨rfl, hb⟩
  replace HB := Lib.hid (HB.out.trans (hb.mono HB.out.size))
  clear hb
  go_wp2_with fail
  go_ret
  exact ⟨rfl, HB.out⟩
set_option maxRecDepth 100000 in
set_option maxHeartbeats 25600000 in
theorem chback_g3 (v : ByteArray) (A2 : Option Addr) (n2 c2 : Nat) (ns : List Nat) (f s : Nat) (at_ : Int) (d : Nat) (w : World) (h1 : ¬ 600 < v.size) (h2 : 0 < v.size) (h3 : 60 < n2) :
    Calls Tryz.prog 4 #[.string v, .slice A2 n2 c2, .int .u32 f, .int .u32 s, .int .i64 at_, .int .u32 d] w fun e w' => e = .returned (.bool true) ∧ Below w.heap.size w w' := by
  have g1 : decide ((600 : Int) < (v.size : Int)) = false := by simp; omega
  have g1b : decide (600 < v.size) = false := by simp; omega
  have he : (v.toList == []) = false := by rw [Bool.eq_false_iff]; intro h; rw [beq_iff_eq] at h; have h9 := size_list v; rw [← ByteArray.toList_eq, h] at h9; simp at h9; omega
  have g3 : decide ((60 : Int) < (n2 : Int)) = true := by simp; omega
  have g3b : decide (60 < n2) = true := by simp; omega
  obtain ⟨F, hF⟩ : ∃ F, F = 2 + f % 10 := ⟨_, rfl⟩
  obtain ⟨S, hS⟩ : ∃ S, S = 1 + s % 3 := ⟨_, rfl⟩
  have hF2 : 2 ≤ F := by omega
  have hF9 : F ≤ 11 := by omega
  have hS1 : 1 ≤ S := by omega
  have hS3 : S ≤ 3 := by omega
  have hFx := Lib.hid hF
  have hSx := Lib.hid hS
  clear hF hS
  clear h1 h2 h3
  have hF := hFx.out
  have hS := hSx.out
  have u1 : Int.tmod (f : Int) 10 = (f : Int) % 10 := Int.tmod_eq_emod_of_nonneg (by omega)
  have u2 : IntKind.u32.wrap ((f : Int) % 10) = (f : Int) % 10 := by rw [IntKind.wrap_u32]; omega
  have u3 : 2 + (f : Int) % 10 = (F : Int) := by omega
  have u4 : IntKind.u32.wrap (F : Int) = (F : Int) := by rw [IntKind.wrap_u32]; omega
  have u5 : Int.tmod (s : Int) 3 = (s : Int) % 3 := Int.tmod_eq_emod_of_nonneg (by omega)
  have u6 : IntKind.u32.wrap ((s : Int) % 3) = (s : Int) % 3 := by rw [IntKind.wrap_u32]; omega
  have u7 : 1 + (s : Int) % 3 = (S : Int) := by omega
  have u8 : IntKind.u32.wrap (S : Int) = (S : Int) := by rw [IntKind.wrap_u32]; omega
  clear hF hS
  have HB := Lib.hid (Below.refl w.heap.size w)
  go_enter Tryz.func4, Tryz.ntmps4
  go_wp2_with fail
  refine (lives11_any _).mono ?_
  rintro e w1 ⟨rfl, hb⟩
  replace HB := Lib.hid (HB.out.trans (hb.mono HB.out.size))
  clear hb
  go_wp2_with fail
  go_ret
  exact ⟨rfl, HB.out⟩
set_option maxRecDepth 100000 in
set_option maxHeartbeats 25600000 in
theorem chback_g4 (v : ByteArray) (A2 : Option Addr) (n2 c2 : Nat) (ns : List Nat) (f s : Nat) (at_ : Int) (d : Nat) (w : World) (hr : Reads w w.heap.size 1 A2 n2 (ucells ns)) (h1 : ¬ 600 < v.size) (h2 : 0 < v.size) (h3 : ¬ 60 < n2) (hal : (allU ns && ascU ns) = false) :
    Calls Tryz.prog 4 #[.string v, .slice A2 n2 c2, .int .u32 f, .int .u32 s, .int .i64 at_, .int .u32 d] w fun e w' => e = .returned (.bool true) ∧ Below w.heap.size w w' := by
  have g1 : decide ((600 : Int) < (v.size : Int)) = false := by simp; omega
  have g1b : decide (600 < v.size) = false := by simp; omega
  have he : (v.toList == []) = false := by rw [Bool.eq_false_iff]; intro h; rw [beq_iff_eq] at h; have h9 := size_list v; rw [← ByteArray.toList_eq, h] at h9; simp at h9; omega
  have g3 : decide ((60 : Int) < (n2 : Int)) = false := by simp; omega
  have g3b : decide (60 < n2) = false := by simp; omega
  have HNu := fun (w : World) (h : Reads w w.heap.size 1 A2 n2 (ucells ns)) => rnumbers_any A2 n2 c2 ns w h (by unfold maxLen; omega)
  rw [hal] at HNu
  have HR := Lib.hid hr
  obtain ⟨F, hF⟩ : ∃ F, F = 2 + f % 10 := ⟨_, rfl⟩
  obtain ⟨S, hS⟩ : ∃ S, S = 1 + s % 3 := ⟨_, rfl⟩
  have hF2 : 2 ≤ F := by omega
  have hF9 : F ≤ 11 := by omega
  have hS1 : 1 ≤ S := by omega
  have hS3 : S ≤ 3 := by omega
  have hFx := Lib.hid hF
  have hSx := Lib.hid hS
  clear hF hS
  clear h1 h2 h3 hal hr
  have hF := hFx.out
  have hS := hSx.out
  have u1 : Int.tmod (f : Int) 10 = (f : Int) % 10 := Int.tmod_eq_emod_of_nonneg (by omega)
  have u2 : IntKind.u32.wrap ((f : Int) % 10) = (f : Int) % 10 := by rw [IntKind.wrap_u32]; omega
  have u3 : 2 + (f : Int) % 10 = (F : Int) := by omega
  have u4 : IntKind.u32.wrap (F : Int) = (F : Int) := by rw [IntKind.wrap_u32]; omega
  have u5 : Int.tmod (s : Int) 3 = (s : Int) % 3 := Int.tmod_eq_emod_of_nonneg (by omega)
  have u6 : IntKind.u32.wrap ((s : Int) % 3) = (s : Int) % 3 := by rw [IntKind.wrap_u32]; omega
  have u7 : 1 + (s : Int) % 3 = (S : Int) := by omega
  have u8 : IntKind.u32.wrap (S : Int) = (S : Int) := by rw [IntKind.wrap_u32]; omega
  clear hF hS
  have HB := Lib.hid (Below.refl w.heap.size w)
  go_enter Tryz.func4, Tryz.ntmps4
  go_wp2_with fail
  refine (lives11_any _).mono ?_
  rintro e w1 ⟨rfl, hb⟩
  replace HB := Lib.hid (HB.out.trans (hb.mono HB.out.size))
  clear hb
  go_wp2_with fail
  refine (HNu _ ((HR.out.below HB.out).more HB.out.size)).mono ?_
  rintro e w2 ⟨rfl, q2, hq⟩
  replace HB := Lib.hid (show Below w.heap.size w w2 by rw [hq]; exact below_drewN HB.out q2)
  clear hq HNu
  go_wp2_with fail
  go_ret
  exact ⟨rfl, HB.out⟩
set_option maxRecDepth 100000 in
set_option maxHeartbeats 25600000 in
theorem chback_g5 (v : ByteArray) (A2 : Option Addr) (n2 c2 : Nat) (ns : List Nat) (f s : Nat) (at_ : Int) (d : Nat) (w : World) (hr : Reads w w.heap.size 1 A2 n2 (ucells ns)) (h1 : ¬ 600 < v.size) (h2 : 0 < v.size) (h3 : ¬ 60 < n2) (hal : (allU ns && ascU ns) = true) (h5 : d = 0) :
    Calls Tryz.prog 4 #[.string v, .slice A2 n2 c2, .int .u32 f, .int .u32 s, .int .i64 at_, .int .u32 d] w fun e w' => e = .returned (.bool true) ∧ Below w.heap.size w w' := by
  have g1 : decide ((600 : Int) < (v.size : Int)) = false := by simp; omega
  have g1b : decide (600 < v.size) = false := by simp; omega
  have he : (v.toList == []) = false := by rw [Bool.eq_false_iff]; intro h; rw [beq_iff_eq] at h; have h9 := size_list v; rw [← ByteArray.toList_eq, h] at h9; simp at h9; omega
  have g3 : decide ((60 : Int) < (n2 : Int)) = false := by simp; omega
  have g3b : decide (60 < n2) = false := by simp; omega
  have hd1 : ((d : Int) == 0) = true := by simp; omega
  have hd2 : (d == 0) = true := by simp; omega
  have HNu := fun (w : World) (h : Reads w w.heap.size 1 A2 n2 (ucells ns)) => rnumbers_any A2 n2 c2 ns w h (by unfold maxLen; omega)
  rw [hal] at HNu
  have HR := Lib.hid hr
  obtain ⟨F, hF⟩ : ∃ F, F = 2 + f % 10 := ⟨_, rfl⟩
  obtain ⟨S, hS⟩ : ∃ S, S = 1 + s % 3 := ⟨_, rfl⟩
  have hF2 : 2 ≤ F := by omega
  have hF9 : F ≤ 11 := by omega
  have hS1 : 1 ≤ S := by omega
  have hS3 : S ≤ 3 := by omega
  have hFx := Lib.hid hF
  have hSx := Lib.hid hS
  clear hF hS
  clear h1 h2 h3 hal hr h5
  have hF := hFx.out
  have hS := hSx.out
  have u1 : Int.tmod (f : Int) 10 = (f : Int) % 10 := Int.tmod_eq_emod_of_nonneg (by omega)
  have u2 : IntKind.u32.wrap ((f : Int) % 10) = (f : Int) % 10 := by rw [IntKind.wrap_u32]; omega
  have u3 : 2 + (f : Int) % 10 = (F : Int) := by omega
  have u4 : IntKind.u32.wrap (F : Int) = (F : Int) := by rw [IntKind.wrap_u32]; omega
  have u5 : Int.tmod (s : Int) 3 = (s : Int) % 3 := Int.tmod_eq_emod_of_nonneg (by omega)
  have u6 : IntKind.u32.wrap ((s : Int) % 3) = (s : Int) % 3 := by rw [IntKind.wrap_u32]; omega
  have u7 : 1 + (s : Int) % 3 = (S : Int) := by omega
  have u8 : IntKind.u32.wrap (S : Int) = (S : Int) := by rw [IntKind.wrap_u32]; omega
  clear hF hS
  have HB := Lib.hid (Below.refl w.heap.size w)
  go_enter Tryz.func4, Tryz.ntmps4
  go_wp2_with fail
  refine (lives11_any _).mono ?_
  rintro e w1 ⟨rfl, hb⟩
  replace HB := Lib.hid (HB.out.trans (hb.mono HB.out.size))
  clear hb
  go_wp2_with fail
  refine (HNu _ ((HR.out.below HB.out).more HB.out.size)).mono ?_
  rintro e w2 ⟨rfl, q2, hq⟩
  replace HB := Lib.hid (show Below w.heap.size w w2 by rw [hq]; exact below_drewN HB.out q2)
  clear hq HNu
  go_wp2_with fail
  go_ret
  exact ⟨rfl, HB.out⟩
theorem rd_some (v : ByteArray) (ps : List Nat) : rdStr (some (v, ps)) = v ∧ rdPs (some (v, ps)) = ps ∧ rdErr 128 (some (v, ps)) = 0 := ⟨rfl, rfl, rfl⟩
theorem rd_none : rdStr none = ⟨#[]⟩ ∧ rdPs none = [] ∧ rdErr 128 none = 4 := ⟨rfl, rfl, rfl⟩
theorem listpost_yes {size : Int} {l m : List Nat} {w : World} {e : Ending} {w' : World} (hg : goodSize size = true) (h : ListPost size (some (l, m)) w e w') : ∃ A n c A2 n2 c2, e = .returned (.tuple #[.slice A n c, .slice A2 n2 c2, .int .i64 0]) ∧ Reads w' w'.heap.size 1 A n (ucells l) ∧ Reads w' w'.heap.size 1 A2 n2 (ucells m) ∧ Below w.heap.size w w' := by
  unfold ListPost at h
  rw [if_pos hg] at h
  obtain ⟨A, n, c, A2, n2, c2, he, h1, h2, hb⟩ := h
  exact ⟨A, n, c, A2, n2, c2, by rw [he, ldErr, if_pos hg] <;> rfl, h1, h2, hb⟩
end Go.Proofs.YtabhhccdbfjigaaGreat
