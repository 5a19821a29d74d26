/-
  Contract of the statements' lives of layer 13.
-/
import Derived.Test.YtgnpldlgdapehaaJ7
set_option linter.unusedVariables false
set_option linter.unusedSimpArgs false
namespace Go.Proofs.Ytgnpldlgdapehaa
open Go.RowKit
attribute [local go_sem ↓] Go.wp_at_zero Go.wp_at_succ

theorem blk_reads {w : World} {g : Nat} {t : TypeId} {cs : Array Value} (h : Blk w g t cs) : Reads w (g + 1) 1 (some ⟨g, 0, none⟩) cs.size cs.toList := by
 refine ⟨by simp, fun _ => ⟨_, rfl, Nat.lt_succ_self _, fun j u hu => ?_⟩⟩
 have e : (⟨g, 0, none⟩ : Addr).add j = ⟨g, j, none⟩ := by unfold Addr.add; split <;> simp_all
 rw [e, h.cell j]
 simpa using hu
theorem lives13_any (w : World) : Calls Try.prog 7 #[] w fun e w' => e = .returned (.bool true) ∧ Below w.heap.size w w' := by
 have HB := Lib.hid (Below.refl w.heap.size w)
 go_enter Try.func7, Try.ntmps7
 go_wp2_with fail
 refine (cut_any _ 3 3 [3, 3, 3] 7 _ (B := w.heap.size + 1) (by simp) (blk_reads (Blk.new w 3 #[.int .i64 3, .int .i64 3, .int .i64 3])) (by omega) (by simp) (by omega) (by omega)).mono ?_
 rintro e w1 ⟨A1, m1, c1, rfl, ho, hb⟩
 replace HB := Lib.hid ((HB.out.alloc (Nat.le_refl _) (.cells #[.int .i64 3, .int .i64 3, .int .i64 3] 3)).trans (hb.mono (by simp)))
 have HR := Lib.hid (show Reads w1 w1.heap.size 1 A1 m1 (icells [2, 3]) from Reads.of_own ho)
 obtain rfl : m1 = 2 := (iread_len HR.out).symm
 clear ho hb
 go_wp2_with fail
 refine (sameI_yes A1 2 c1 _ 2 [2, 3] _ (HR.out.alloc (Nat.le_refl _) _) (blk_reads (Blk.new w1 3 #[.int .i64 2, .int .i64 3])) (by omega)).mono ?_
 rintro e w2 ⟨rfl, q, rfl⟩
 replace HB := Lib.hid (below_drewN (HB.out.alloc HB.out.size (.cells #[.int .i64 2, .int .i64 3] 3)) q)
 obtain ⟨w3, hw3⟩ : ∃ y, y = (w1.alloc (.cells #[.int .i64 2, .int .i64 3] 3)).drewN q := ⟨_, rfl⟩
 rw [← hw3] at HB ⊢
 clear hw3 HR
 go_wp2_with fail
 refine (cut_any _ 1 1 [9] 7 _ (B := w3.heap.size + 1) (by simp) (blk_reads (Blk.new w3 3 #[.int .i64 9])) (by omega) (by simp) (by omega) (by omega)).mono ?_
 rintro e w4 ⟨A4, m4, c4, rfl, ho, hb⟩
 replace HB := Lib.hid ((HB.out.alloc HB.out.size (.cells #[.int .i64 9] 3)).trans (hb.mono (by have := HB.out.size; simp; omega)))
 have HR := Lib.hid (show Reads w4 w4.heap.size 1 A4 m4 (icells []) from Reads.of_own ho)
 obtain rfl : m4 = 0 := (iread_len HR.out).symm
 clear ho hb
 go_wp2_with fail
 go_ret
 exact ⟨rfl, HB.out⟩
end Go.Proofs.Ytgnpldlgdapehaa

