/-
  Contract of the reference's may: which metas are valid.
-/
import Derived.Test.YtfmalohaaibhiaaMetaValid
import Derived.Test.YtfmalohaaibhiaaRef4May
namespace Go.Proofs.Ytfmalohaaibhiaa
open Go.RowKit
open Go.Lib
set_option linter.unusedVariables false
set_option linter.unusedSimpArgs false
attribute [local go_sem ↓] Go.wp_at_zero Go.wp_at_succ

set_option maxHeartbeats 800000 in
theorem rmeta_0 (tx : Nat) (z : Int) (rt fr pg : Nat) (w : World)  (h0 : ¬ tx ≤ 4611686018427387904) :
    Calls Try.prog 33 #[.agg #[.int .u64 tx, .int .i64 z, .int .u32 rt, .int .u32 fr, .int .u32 pg]] w fun e w' => e = .returned (.bool false) ∧ Below w.heap.size w w' := by
  have b0 : Blk (w.alloc (.cells #[.int .u64 tx, .int .i64 z, .int .u32 rt, .int .u32 fr, .int .u32 pg] 31)) w.heap.size 31 #[.int .u64 tx, .int .i64 z, .int .u32 rt, .int .u32 fr, .int .u32 pg] := Blk.new _ _ _
  have HB := Lib.hid (show Below w.heap.size w (w.alloc (.cells #[.int .u64 tx, .int .i64 z, .int .u32 rt, .int .u32 fr, .int .u32 pg] 31)) from (Below.refl _ _).alloc (Nat.le_refl _) _)
  have c0 := b0.cell 0
  have c1 := b0.cell 1
  have c2 := b0.cell 2
  have c3 := b0.cell 3
  have c4 := b0.cell 4
  simp at c0 c1 c2 c3 c4
  clear b0
  have d0 : decide ((tx : Int) ≤ 4611686018427387904) = false := by simp; omega
  go_enter Try.func33, Try.ntmps33
  go_wp2
  go_ret
  exact ⟨rfl, HB.out⟩
set_option maxHeartbeats 800000 in
theorem rmeta_1 (tx : Nat) (z : Int) (rt fr pg : Nat) (w : World) (h0 : tx ≤ 4611686018427387904) (g : goodSize z = false) :
    Calls Try.prog 33 #[.agg #[.int .u64 tx, .int .i64 z, .int .u32 rt, .int .u32 fr, .int .u32 pg]] w fun e w' => e = .returned (.bool false) ∧ Below w.heap.size w w' := by
  have b0 : Blk (w.alloc (.cells #[.int .u64 tx, .int .i64 z, .int .u32 rt, .int .u32 fr, .int .u32 pg] 31)) w.heap.size 31 #[.int .u64 tx, .int .i64 z, .int .u32 rt, .int .u32 fr, .int .u32 pg] := Blk.new _ _ _
  have HB := Lib.hid (show Below w.heap.size w (w.alloc (.cells #[.int .u64 tx, .int .i64 z, .int .u32 rt, .int .u32 fr, .int .u32 pg] 31)) from (Below.refl _ _).alloc (Nat.le_refl _) _)
  have c0 := b0.cell 0
  have c1 := b0.cell 1
  have c2 := b0.cell 2
  have c3 := b0.cell 3
  have c4 := b0.cell 4
  simp at c0 c1 c2 c3 c4
  clear b0
  have d0 : decide ((tx : Int) ≤ 4611686018427387904) = true := by simp; omega
  go_enter Try.func33, Try.ntmps33
  go_wp2_with ((go_at_call 39; refine (rgood_is _ _ _ g).mono ?_; rintro e w' ⟨rfl, rfl⟩))
  go_ret
  exact ⟨rfl, HB.out⟩
set_option maxHeartbeats 800000 in
theorem rmeta_2 (tx : Nat) (z : Int) (rt fr pg : Nat) (w : World) (h0 : tx ≤ 4611686018427387904) (g : goodSize z = true) (h2 : ¬ 2 ≤ pg) :
    Calls Try.prog 33 #[.agg #[.int .u64 tx, .int .i64 z, .int .u32 rt, .int .u32 fr, .int .u32 pg]] w fun e w' => e = .returned (.bool false) ∧ Below w.heap.size w w' := by
  have b0 : Blk (w.alloc (.cells #[.int .u64 tx, .int .i64 z, .int .u32 rt, .int .u32 fr, .int .u32 pg] 31)) w.heap.size 31 #[.int .u64 tx, .int .i64 z, .int .u32 rt, .int .u32 fr, .int .u32 pg] := Blk.new _ _ _
  have HB := Lib.hid (show Below w.heap.size w (w.alloc (.cells #[.int .u64 tx, .int .i64 z, .int .u32 rt, .int .u32 fr, .int .u32 pg] 31)) from (Below.refl _ _).alloc (Nat.le_refl _) _)
  have c0 := b0.cell 0
  have c1 := b0.cell 1
  have c2 := b0.cell 2
  have c3 := b0.cell 3
  have c4 := b0.cell 4
  simp at c0 c1 c2 c3 c4
  clear b0
  have d0 : decide ((tx : Int) ≤ 4611686018427387904) = true := by simp; omega
  have d2 : decide ((2 : Int) ≤ (pg : Int)) = false := by simp; omega
  have d2' : decide (2 ≤ pg) = false := by simp; omega
  go_enter Try.func33, Try.ntmps33
  go_wp2_with ((go_at_call 39; refine (rgood_is _ _ _ g).mono ?_; rintro e w' ⟨rfl, rfl⟩))
  go_ret
  exact ⟨rfl, HB.out⟩
set_option maxHeartbeats 800000 in
theorem rmeta_3 (tx : Nat) (z : Int) (rt fr pg : Nat) (w : World) (h0 : tx ≤ 4611686018427387904) (g : goodSize z = true) (h2 : 2 ≤ pg) (h3 : ¬ pg ≤ 2147483647) :
    Calls Try.prog 33 #[.agg #[.int .u64 tx, .int .i64 z, .int .u32 rt, .int .u32 fr, .int .u32 pg]] w fun e w' => e = .returned (.bool false) ∧ Below w.heap.size w w' := by
  have b0 : Blk (w.alloc (.cells #[.int .u64 tx, .int .i64 z, .int .u32 rt, .int .u32 fr, .int .u32 pg] 31)) w.heap.size 31 #[.int .u64 tx, .int .i64 z, .int .u32 rt, .int .u32 fr, .int .u32 pg] := Blk.new _ _ _
  have HB := Lib.hid (show Below w.heap.size w (w.alloc (.cells #[.int .u64 tx, .int .i64 z, .int .u32 rt, .int .u32 fr, .int .u32 pg] 31)) from (Below.refl _ _).alloc (Nat.le_refl _) _)
  have c0 := b0.cell 0
  have c1 := b0.cell 1
  have c2 := b0.cell 2
  have c3 := b0.cell 3
  have c4 := b0.cell 4
  simp at c0 c1 c2 c3 c4
  clear b0
  have d0 : decide ((tx : Int) ≤ 4611686018427387904) = true := by simp; omega
  have d2 : decide ((2 : Int) ≤ (pg : Int)) = true := by simp; omega
  have d2' : decide (2 ≤ pg) = true := by simp; omega
  have d3 : decide ((pg : Int) ≤ 2147483647) = false := by simp; omega
  have d3' : decide (pg ≤ 2147483647) = false := by simp; omega
  go_enter Try.func33, Try.ntmps33
  go_wp2_with ((go_at_call 39; refine (rgood_is _ _ _ g).mono ?_; rintro e w' ⟨rfl, rfl⟩))
  go_ret
  exact ⟨rfl, HB.out⟩
set_option maxHeartbeats 800000 in
theorem rmeta_4 (tx : Nat) (z : Int) (rt fr pg : Nat) (w : World) (h0 : tx ≤ 4611686018427387904) (g : goodSize z = true) (h2 : 2 ≤ pg) (h3 : pg ≤ 2147483647) (r1 : ¬ rt < pg) :
    Calls Try.prog 33 #[.agg #[.int .u64 tx, .int .i64 z, .int .u32 rt, .int .u32 fr, .int .u32 pg]] w fun e w' => e = .returned (.bool false) ∧ Below w.heap.size w w' := by
  have b0 : Blk (w.alloc (.cells #[.int .u64 tx, .int .i64 z, .int .u32 rt, .int .u32 fr, .int .u32 pg] 31)) w.heap.size 31 #[.int .u64 tx, .int .i64 z, .int .u32 rt, .int .u32 fr, .int .u32 pg] := Blk.new _ _ _
  have HB := Lib.hid (show Below w.heap.size w (w.alloc (.cells #[.int .u64 tx, .int .i64 z, .int .u32 rt, .int .u32 fr, .int .u32 pg] 31)) from (Below.refl _ _).alloc (Nat.le_refl _) _)
  have c0 := b0.cell 0
  have c1 := b0.cell 1
  have c2 := b0.cell 2
  have c3 := b0.cell 3
  have c4 := b0.cell 4
  simp at c0 c1 c2 c3 c4
  clear b0
  have d0 : decide ((tx : Int) ≤ 4611686018427387904) = true := by simp; omega
  have d2 : decide ((2 : Int) ≤ (pg : Int)) = true := by simp; omega
  have d2' : decide (2 ≤ pg) = true := by simp; omega
  have d3 : decide ((pg : Int) ≤ 2147483647) = true := by simp; omega
  have d3' : decide (pg ≤ 2147483647) = true := by simp; omega
  have d4 : decide ((rt : Int) < (pg : Int)) = false := by simp; omega
  have d4' : decide (rt < pg) = false := by simp; omega
  go_enter Try.func33, Try.ntmps33
  go_wp2_with ((go_at_call 39; refine (rgood_is _ _ _ g).mono ?_; rintro e w' ⟨rfl, rfl⟩))
  go_ret
  exact ⟨rfl, HB.out⟩
set_option maxHeartbeats 800000 in
theorem rmeta_5 (tx : Nat) (z : Int) (rt fr pg : Nat) (w : World) (h0 : tx ≤ 4611686018427387904) (g : goodSize z = true) (h2 : 2 ≤ pg) (h3 : pg ≤ 2147483647) (r1 : rt < pg) (r2 : rt = 1) :
    Calls Try.prog 33 #[.agg #[.int .u64 tx, .int .i64 z, .int .u32 rt, .int .u32 fr, .int .u32 pg]] w fun e w' => e = .returned (.bool false) ∧ Below w.heap.size w w' := by
  have b0 : Blk (w.alloc (.cells #[.int .u64 tx, .int .i64 z, .int .u32 rt, .int .u32 fr, .int .u32 pg] 31)) w.heap.size 31 #[.int .u64 tx, .int .i64 z, .int .u32 rt, .int .u32 fr, .int .u32 pg] := Blk.new _ _ _
  have HB := Lib.hid (show Below w.heap.size w (w.alloc (.cells #[.int .u64 tx, .int .i64 z, .int .u32 rt, .int .u32 fr, .int .u32 pg] 31)) from (Below.refl _ _).alloc (Nat.le_refl _) _)
  have c0 := b0.cell 0
  have c1 := b0.cell 1
  have c2 := b0.cell 2
  have c3 := b0.cell 3
  have c4 := b0.cell 4
  simp at c0 c1 c2 c3 c4
  clear b0
  have d0 : decide ((tx : Int) ≤ 4611686018427387904) = true := by simp; omega
  have d2 : decide ((2 : Int) ≤ (pg : Int)) = true := by simp; omega
  have d2' : decide (2 ≤ pg) = true := by simp; omega
  have d3 : decide ((pg : Int) ≤ 2147483647) = true := by simp; omega
  have d3' : decide (pg ≤ 2147483647) = true := by simp; omega
  have d4 : decide ((rt : Int) < (pg : Int)) = true := by simp; omega
  have d4' : decide (rt < pg) = true := by simp; omega
  have d5 : ((rt : Int) == 1) = true := by simp; omega
  have e5 : ((rt : Int) != 1) = false := by simp; omega
  go_enter Try.func33, Try.ntmps33
  go_wp2_with ((go_at_call 39; refine (rgood_is _ _ _ g).mono ?_; rintro e w' ⟨rfl, rfl⟩))
  go_ret
  subst r2
  exact ⟨rfl, HB.out⟩
set_option maxHeartbeats 800000 in
theorem rmeta_6 (tx : Nat) (z : Int) (rt fr pg : Nat) (w : World) (h0 : tx ≤ 4611686018427387904) (g : goodSize z = true) (h2 : 2 ≤ pg) (h3 : pg ≤ 2147483647) (r1 : rt < pg) (r2 : ¬ rt = 1) (r3 : ¬ fr < pg) :
    Calls Try.prog 33 #[.agg #[.int .u64 tx, .int .i64 z, .int .u32 rt, .int .u32 fr, .int .u32 pg]] w fun e w' => e = .returned (.bool false) ∧ Below w.heap.size w w' := by
  have b0 : Blk (w.alloc (.cells #[.int .u64 tx, .int .i64 z, .int .u32 rt, .int .u32 fr, .int .u32 pg] 31)) w.heap.size 31 #[.int .u64 tx, .int .i64 z, .int .u32 rt, .int .u32 fr, .int .u32 pg] := Blk.new _ _ _
  have HB := Lib.hid (show Below w.heap.size w (w.alloc (.cells #[.int .u64 tx, .int .i64 z, .int .u32 rt, .int .u32 fr, .int .u32 pg] 31)) from (Below.refl _ _).alloc (Nat.le_refl _) _)
  have c0 := b0.cell 0
  have c1 := b0.cell 1
  have c2 := b0.cell 2
  have c3 := b0.cell 3
  have c4 := b0.cell 4
  simp at c0 c1 c2 c3 c4
  clear b0
  have d0 : decide ((tx : Int) ≤ 4611686018427387904) = true := by simp; omega
  have d2 : decide ((2 : Int) ≤ (pg : Int)) = true := by simp; omega
  have d2' : decide (2 ≤ pg) = true := by simp; omega
  have d3 : decide ((pg : Int) ≤ 2147483647) = true := by simp; omega
  have d3' : decide (pg ≤ 2147483647) = true := by simp; omega
  have d4 : decide ((rt : Int) < (pg : Int)) = true := by simp; omega
  have d4' : decide (rt < pg) = true := by simp; omega
  have d5 : ((rt : Int) == 1) = false := by simp; omega
  have e5 : ((rt : Int) != 1) = true := by simp; omega
  have d6 : decide ((fr : Int) < (pg : Int)) = false := by simp; omega
  have d6' : decide (fr < pg) = false := by simp; omega
  go_enter Try.func33, Try.ntmps33
  go_wp2_with ((go_at_call 39; refine (rgood_is _ _ _ g).mono ?_; rintro e w' ⟨rfl, rfl⟩))
  go_ret
  exact ⟨rfl, HB.out⟩
set_option maxHeartbeats 800000 in
theorem rmeta_7 (tx : Nat) (z : Int) (rt fr pg : Nat) (w : World) (h0 : tx ≤ 4611686018427387904) (g : goodSize z = true) (h2 : 2 ≤ pg) (h3 : pg ≤ 2147483647) (r1 : rt < pg) (r2 : ¬ rt = 1) (r3 : fr < pg) (r4 : fr = 1) :
    Calls Try.prog 33 #[.agg #[.int .u64 tx, .int .i64 z, .int .u32 rt, .int .u32 fr, .int .u32 pg]] w fun e w' => e = .returned (.bool false) ∧ Below w.heap.size w w' := by
  have b0 : Blk (w.alloc (.cells #[.int .u64 tx, .int .i64 z, .int .u32 rt, .int .u32 fr, .int .u32 pg] 31)) w.heap.size 31 #[.int .u64 tx, .int .i64 z, .int .u32 rt, .int .u32 fr, .int .u32 pg] := Blk.new _ _ _
  have HB := Lib.hid (show Below w.heap.size w (w.alloc (.cells #[.int .u64 tx, .int .i64 z, .int .u32 rt, .int .u32 fr, .int .u32 pg] 31)) from (Below.refl _ _).alloc (Nat.le_refl _) _)
  have c0 := b0.cell 0
  have c1 := b0.cell 1
  have c2 := b0.cell 2
  have c3 := b0.cell 3
  have c4 := b0.cell 4
  simp at c0 c1 c2 c3 c4
  clear b0
  have d0 : decide ((tx : Int) ≤ 4611686018427387904) = true := by simp; omega
  have d2 : decide ((2 : Int) ≤ (pg : Int)) = true := by simp; omega
  have d2' : decide (2 ≤ pg) = true := by simp; omega
  have d3 : decide ((pg : Int) ≤ 2147483647) = true := by simp; omega
  have d3' : decide (pg ≤ 2147483647) = true := by simp; omega
  have d4 : decide ((rt : Int) < (pg : Int)) = true := by simp; omega
  have d4' : decide (rt < pg) = true := by simp; omega
  have d5 : ((rt : Int) == 1) = false := by simp; omega
  have e5 : ((rt : Int) != 1) = true := by simp; omega
  have d6 : decide ((fr : Int) < (pg : Int)) = true := by simp; omega
  have d6' : decide (fr < pg) = true := by simp; omega
  have d7 : ((fr : Int) == 1) = true := by simp; omega
  have e7 : ((fr : Int) != 1) = false := by simp; omega
  go_enter Try.func33, Try.ntmps33
  go_wp2_with ((go_at_call 39; refine (rgood_is _ _ _ g).mono ?_; rintro e w' ⟨rfl, rfl⟩))
  go_ret
  subst r4
  exact ⟨rfl, HB.out⟩
set_option maxHeartbeats 800000 in
theorem rmeta_8 (tx : Nat) (z : Int) (rt fr pg : Nat) (w : World) (h0 : tx ≤ 4611686018427387904) (g : goodSize z = true) (h2 : 2 ≤ pg) (h3 : pg ≤ 2147483647) (r1 : rt < pg) (r2 : ¬ rt = 1) (r3 : fr < pg) (r4 : ¬ fr = 1) :
    Calls Try.prog 33 #[.agg #[.int .u64 tx, .int .i64 z, .int .u32 rt, .int .u32 fr, .int .u32 pg]] w fun e w' => e = .returned (.bool true) ∧ Below w.heap.size w w' := by
  have b0 : Blk (w.alloc (.cells #[.int .u64 tx, .int .i64 z, .int .u32 rt, .int .u32 fr, .int .u32 pg] 31)) w.heap.size 31 #[.int .u64 tx, .int .i64 z, .int .u32 rt, .int .u32 fr, .int .u32 pg] := Blk.new _ _ _
  have HB := Lib.hid (show Below w.heap.size w (w.alloc (.cells #[.int .u64 tx, .int .i64 z, .int .u32 rt, .int .u32 fr, .int .u32 pg] 31)) from (Below.refl _ _).alloc (Nat.le_refl _) _)
  have c0 := b0.cell 0
  have c1 := b0.cell 1
  have c2 := b0.cell 2
  have c3 := b0.cell 3
  have c4 := b0.cell 4
  simp at c0 c1 c2 c3 c4
  clear b0
  have d0 : decide ((tx : Int) ≤ 4611686018427387904) = true := by simp; omega
  have d2 : decide ((2 : Int) ≤ (pg : Int)) = true := by simp; omega
  have d2' : decide (2 ≤ pg) = true := by simp; omega
  have d3 : decide ((pg : Int) ≤ 2147483647) = true := by simp; omega
  have d3' : decide (pg ≤ 2147483647) = true := by simp; omega
  have d4 : decide ((rt : Int) < (pg : Int)) = true := by simp; omega
  have d4' : decide (rt < pg) = true := by simp; omega
  have d5 : ((rt : Int) == 1) = false := by simp; omega
  have e5 : ((rt : Int) != 1) = true := by simp; omega
  have d6 : decide ((fr : Int) < (pg : Int)) = true := by simp; omega
  have d6' : decide (fr < pg) = true := by simp; omega
  have d7 : ((fr : Int) == 1) = false := by simp; omega
  have e7 : ((fr : Int) != 1) = true := by simp; omega
  go_enter Try.func33, Try.ntmps33
  go_wp2_with ((go_at_call 39; refine (rgood_is _ _ _ g).mono ?_; rintro e w' ⟨rfl, rfl⟩))
  go_ret
  exact ⟨rfl, HB.out⟩
theorem rmeta_any (tx : Nat) (z : Int) (rt fr pg : Nat) (w : World) :
    Calls Try.prog 33 #[.agg #[.int .u64 tx, .int .i64 z, .int .u32 rt, .int .u32 fr, .int .u32 pg]] w fun e w' => e = .returned (.bool (mayM tx z rt fr pg)) ∧ Below w.heap.size w w' := by
  by_cases h0 : tx ≤ 4611686018427387904
  case neg => rw [show mayM tx z rt fr pg = false by simp [mayM, refM, h0]]; exact rmeta_0 tx z rt fr pg w h0
  rcases g : goodSize z with _ | _
  · rw [show mayM tx z rt fr pg = false by simp [mayM, g]]; exact rmeta_1 tx z rt fr pg w h0 g
  by_cases h2 : 2 ≤ pg
  case neg => rw [show mayM tx z rt fr pg = false by simp [mayM, refM, h2]]; exact rmeta_2 tx z rt fr pg w h0 g h2
  by_cases h3 : pg ≤ 2147483647
  case neg => rw [show mayM tx z rt fr pg = false by simp [mayM, refM, h3]]; exact rmeta_3 tx z rt fr pg w h0 g h2 h3
  by_cases r1 : rt < pg
  case neg => rw [show mayM tx z rt fr pg = false by simp [mayM, refM, r1]]; exact rmeta_4 tx z rt fr pg w h0 g h2 h3 r1
  by_cases r2 : rt = 1
  case pos => rw [show mayM tx z rt fr pg = false by simp [mayM, refM, r2]]; exact rmeta_5 tx z rt fr pg w h0 g h2 h3 r1 r2
  by_cases r3 : fr < pg
  case neg => rw [show mayM tx z rt fr pg = false by simp [mayM, refM, r3]]; exact rmeta_6 tx z rt fr pg w h0 g h2 h3 r1 r2 r3
  by_cases r4 : fr = 1
  case pos => rw [show mayM tx z rt fr pg = false by simp [mayM, refM, r4]]; exact rmeta_7 tx z rt fr pg w h0 g h2 h3 r1 r2 r3 r4
  rw [show mayM tx z rt fr pg = true by simp [mayM, refM, h0, g, h2, h3, r1, r2, r3, r4]]; exact rmeta_8 tx z rt fr pg w h0 g h2 h3 r1 r2 r3 r4
end Go.Proofs.Ytfmalohaaibhiaa
