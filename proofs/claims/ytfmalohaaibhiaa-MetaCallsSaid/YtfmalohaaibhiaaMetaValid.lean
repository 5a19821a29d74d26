/-
  Contracts of package meta's Slot, refers and valid: which metas are valid.
-/
import Derived.Test.YtfmalohaaibhiaaFrame
import Derived.Test.YtfmalohaaibhiaaFrameValid
namespace Go.Proofs.Ytfmalohaaibhiaa
open Go.RowKit
open Go.Lib
set_option linter.unusedVariables false
set_option linter.unusedSimpArgs false
attribute [local go_sem ↓] Go.wp_at_zero Go.wp_at_succ

/-- A meta of so many pages may refer to a page. -/
def refM (n pg : Nat) : Bool := decide (n < pg) && !decide (n = 1)
/-- A meta is valid. -/
def mayM (tx : Nat) (z : Int) (rt fr pg : Nat) : Bool := decide (tx ≤ 4611686018427387904) && (goodSize z && (decide (2 ≤ pg) && (decide (pg ≤ 2147483647) && (refM rt pg && refM fr pg))))
theorem refers_is (n pg : Nat) (b : Bool) (w : World) (h : refM n pg = b) :
    Calls Try.prog 43 #[.int .u32 n, .int .u32 pg] w fun e w' => e = .returned (.bool b) ∧ w' = w := by
  subst h
  by_cases h1 : n < pg
  · have q1 : decide ((n : Int) < (pg : Int)) = true := by simp; omega
    by_cases h2 : n = 1
    · have q2 : ((n : Int) == 1) = true := by simp; omega
      have q3 : ((n : Int) != 1) = false := by simp; omega
      have HG := Lib.hid (show refM n pg = false by simp [refM, h2])
      go_enter Try.func43, Try.ntmps43
      go_wp2
      go_ret
      exact ⟨by rw [HG.out]; rfl, rfl⟩
    · have q2 : ((n : Int) == 1) = false := by simp; omega
      have q3 : ((n : Int) != 1) = true := by simp; omega
      have HG := Lib.hid (show refM n pg = true by simp [refM, h1, h2])
      go_enter Try.func43, Try.ntmps43
      go_wp2
      go_ret
      exact ⟨by rw [HG.out]; rfl, rfl⟩
  · have q1 : decide ((n : Int) < (pg : Int)) = false := by simp; omega
    have HG := Lib.hid (show refM n pg = false by simp [refM, h1])
    go_enter Try.func43, Try.ntmps43
    go_wp2
    go_ret
    exact ⟨by rw [HG.out]; rfl, rfl⟩
theorem slot_is (tx sl : Nat) (w : World) (h : sl = tx % 2) :
    Calls Try.prog 17 #[.int .u64 tx] w fun e w' => e = .returned (.int .u32 sl) ∧ w' = w := by
  have h2 : IntKind.u32.wrap ((tx : Int) % 2) = (sl : Int) := by rw [IntKind.wrap_u32]; omega
  have h3 : (tx : Int) % 2 = (sl : Int) := by omega
  clear h
  go_enter Try.func17, Try.ntmps17
  go_wp2
  go_ret
  exact ⟨rfl, rfl⟩
theorem roomn_is (z : Int) (w : World) (h : goodSize z = false) : Calls Try.prog 32 #[.int .i64 z] w fun e w' => e = .returned (.int .i64 0) ∧ w' = w :=
  (room_no z w h).mono fun _ _ ⟨a, b⟩ => ⟨a, b.symm⟩

set_option maxHeartbeats 800000 in
theorem mvalid_0 (tx : Nat) (z : Int) (rt fr pg : Nat) (w : World)  (h0 : ¬ (tx ≤ 4611686018427387904)) :
    Calls Try.prog 26 #[.agg #[.int .u64 tx, .int .i64 z, .int .u32 rt, .int .u32 fr, .int .u32 pg]] w fun e w' => e = .returned (.bool false) ∧ Below w.heap.size w w' := by
  have b0 : Blk (w.alloc (.cells #[.int .u64 tx, .int .i64 z, .int .u32 rt, .int .u32 fr, .int .u32 pg] 31)) w.heap.size 31 #[.int .u64 tx, .int .i64 z, .int .u32 rt, .int .u32 fr, .int .u32 pg] := Blk.new _ _ _
  have HB := Lib.hid (show Below w.heap.size w (w.alloc (.cells #[.int .u64 tx, .int .i64 z, .int .u32 rt, .int .u32 fr, .int .u32 pg] 31)) from (Below.refl _ _).alloc (Nat.le_refl _) _)
  have c0 := b0.cell 0
  have c1 := b0.cell 1
  have c2 := b0.cell 2
  have c3 := b0.cell 3
  have c4 := b0.cell 4
  simp at c0 c1 c2 c3 c4
  clear b0
  have d0 : decide ((tx : Int) ≤ 4611686018427387904) = false := by simp; omega
  go_enter Try.func26, Try.ntmps26
  go_wp2_with fail
  go_ret
  exact ⟨rfl, HB.out⟩
set_option maxHeartbeats 800000 in
theorem mvalid_1 (tx : Nat) (z : Int) (rt fr pg : Nat) (w : World) (h0 : tx ≤ 4611686018427387904) (g : goodSize z = false) :
    Calls Try.prog 26 #[.agg #[.int .u64 tx, .int .i64 z, .int .u32 rt, .int .u32 fr, .int .u32 pg]] w fun e w' => e = .returned (.bool false) ∧ Below w.heap.size w w' := by
  have b0 : Blk (w.alloc (.cells #[.int .u64 tx, .int .i64 z, .int .u32 rt, .int .u32 fr, .int .u32 pg] 31)) w.heap.size 31 #[.int .u64 tx, .int .i64 z, .int .u32 rt, .int .u32 fr, .int .u32 pg] := Blk.new _ _ _
  have HB := Lib.hid (show Below w.heap.size w (w.alloc (.cells #[.int .u64 tx, .int .i64 z, .int .u32 rt, .int .u32 fr, .int .u32 pg] 31)) from (Below.refl _ _).alloc (Nat.le_refl _) _)
  have c0 := b0.cell 0
  have c1 := b0.cell 1
  have c2 := b0.cell 2
  have c3 := b0.cell 3
  have c4 := b0.cell 4
  simp at c0 c1 c2 c3 c4
  clear b0
  have d0 : decide ((tx : Int) ≤ 4611686018427387904) = true := by simp; omega
  go_enter Try.func26, Try.ntmps26
  go_wp2_with fail
  refine (roomn_is _ _ g).mono ?_
  rintro e w' ⟨rfl, rfl⟩
  go_wp2_with fail
  go_ret
  exact ⟨rfl, HB.out⟩
set_option maxHeartbeats 800000 in
theorem mvalid_2 (tx : Nat) (z : Int) (rt fr pg : Nat) (w : World) (h0 : tx ≤ 4611686018427387904) (g : goodSize z = true) (h2 : ¬ (2 ≤ pg)) :
    Calls Try.prog 26 #[.agg #[.int .u64 tx, .int .i64 z, .int .u32 rt, .int .u32 fr, .int .u32 pg]] w fun e w' => e = .returned (.bool false) ∧ Below w.heap.size w w' := by
  have b0 : Blk (w.alloc (.cells #[.int .u64 tx, .int .i64 z, .int .u32 rt, .int .u32 fr, .int .u32 pg] 31)) w.heap.size 31 #[.int .u64 tx, .int .i64 z, .int .u32 rt, .int .u32 fr, .int .u32 pg] := Blk.new _ _ _
  have HB := Lib.hid (show Below w.heap.size w (w.alloc (.cells #[.int .u64 tx, .int .i64 z, .int .u32 rt, .int .u32 fr, .int .u32 pg] 31)) from (Below.refl _ _).alloc (Nat.le_refl _) _)
  have c0 := b0.cell 0
  have c1 := b0.cell 1
  have c2 := b0.cell 2
  have c3 := b0.cell 3
  have c4 := b0.cell 4
  simp at c0 c1 c2 c3 c4
  clear b0
  have d0 : decide ((tx : Int) ≤ 4611686018427387904) = true := by simp; omega
  obtain ⟨n, hn, n1, n2, _⟩ := good_nat g
  have d1 : decide ((0 : Int) < z - 24) = true := by simp; omega
  have d1' : decide ((24 : Int) < z) = true := by simp; omega
  clear hn n1 n2
  have d2 : decide ((2 : Int) ≤ (pg : Int)) = false := by simp; omega
  have d2' : decide (2 ≤ pg) = false := by simp; omega
  go_enter Try.func26, Try.ntmps26
  go_wp2_with fail
  refine (room_is _ _ g).mono ?_
  rintro e w' ⟨rfl, rfl⟩
  go_wp2_with fail
  go_ret
  exact ⟨rfl, HB.out⟩
set_option maxHeartbeats 800000 in
theorem mvalid_3 (tx : Nat) (z : Int) (rt fr pg : Nat) (w : World) (h0 : tx ≤ 4611686018427387904) (g : goodSize z = true) (h2 : 2 ≤ pg) (h3 : ¬ (pg ≤ 2147483647)) :
    Calls Try.prog 26 #[.agg #[.int .u64 tx, .int .i64 z, .int .u32 rt, .int .u32 fr, .int .u32 pg]] w fun e w' => e = .returned (.bool false) ∧ Below w.heap.size w w' := by
  have b0 : Blk (w.alloc (.cells #[.int .u64 tx, .int .i64 z, .int .u32 rt, .int .u32 fr, .int .u32 pg] 31)) w.heap.size 31 #[.int .u64 tx, .int .i64 z, .int .u32 rt, .int .u32 fr, .int .u32 pg] := Blk.new _ _ _
  have HB := Lib.hid (show Below w.heap.size w (w.alloc (.cells #[.int .u64 tx, .int .i64 z, .int .u32 rt, .int .u32 fr, .int .u32 pg] 31)) from (Below.refl _ _).alloc (Nat.le_refl _) _)
  have c0 := b0.cell 0
  have c1 := b0.cell 1
  have c2 := b0.cell 2
  have c3 := b0.cell 3
  have c4 := b0.cell 4
  simp at c0 c1 c2 c3 c4
  clear b0
  have d0 : decide ((tx : Int) ≤ 4611686018427387904) = true := by simp; omega
  obtain ⟨n, hn, n1, n2, _⟩ := good_nat g
  have d1 : decide ((0 : Int) < z - 24) = true := by simp; omega
  have d1' : decide ((24 : Int) < z) = true := by simp; omega
  clear hn n1 n2
  have d2 : decide ((2 : Int) ≤ (pg : Int)) = true := by simp; omega
  have d2' : decide (2 ≤ pg) = true := by simp; omega
  have d3 : decide ((pg : Int) ≤ 2147483647) = false := by simp; omega
  have d3' : decide (pg ≤ 2147483647) = false := by simp; omega
  go_enter Try.func26, Try.ntmps26
  go_wp2_with fail
  refine (room_is _ _ g).mono ?_
  rintro e w' ⟨rfl, rfl⟩
  go_wp2_with fail
  go_ret
  exact ⟨rfl, HB.out⟩
set_option maxHeartbeats 800000 in
theorem mvalid_4 (tx : Nat) (z : Int) (rt fr pg : Nat) (w : World) (h0 : tx ≤ 4611686018427387904) (g : goodSize z = true) (h2 : 2 ≤ pg) (h3 : pg ≤ 2147483647) (r1 : refM rt pg = false) :
    Calls Try.prog 26 #[.agg #[.int .u64 tx, .int .i64 z, .int .u32 rt, .int .u32 fr, .int .u32 pg]] w fun e w' => e = .returned (.bool false) ∧ Below w.heap.size w w' := by
  have b0 : Blk (w.alloc (.cells #[.int .u64 tx, .int .i64 z, .int .u32 rt, .int .u32 fr, .int .u32 pg] 31)) w.heap.size 31 #[.int .u64 tx, .int .i64 z, .int .u32 rt, .int .u32 fr, .int .u32 pg] := Blk.new _ _ _
  have HB := Lib.hid (show Below w.heap.size w (w.alloc (.cells #[.int .u64 tx, .int .i64 z, .int .u32 rt, .int .u32 fr, .int .u32 pg] 31)) from (Below.refl _ _).alloc (Nat.le_refl _) _)
  have c0 := b0.cell 0
  have c1 := b0.cell 1
  have c2 := b0.cell 2
  have c3 := b0.cell 3
  have c4 := b0.cell 4
  simp at c0 c1 c2 c3 c4
  clear b0
  have d0 : decide ((tx : Int) ≤ 4611686018427387904) = true := by simp; omega
  obtain ⟨n, hn, n1, n2, _⟩ := good_nat g
  have d1 : decide ((0 : Int) < z - 24) = true := by simp; omega
  have d1' : decide ((24 : Int) < z) = true := by simp; omega
  clear hn n1 n2
  have d2 : decide ((2 : Int) ≤ (pg : Int)) = true := by simp; omega
  have d2' : decide (2 ≤ pg) = true := by simp; omega
  have d3 : decide ((pg : Int) ≤ 2147483647) = true := by simp; omega
  have d3' : decide (pg ≤ 2147483647) = true := by simp; omega
  go_enter Try.func26, Try.ntmps26
  go_wp2_with fail
  refine (room_is _ _ g).mono ?_
  rintro e w' ⟨rfl, rfl⟩
  go_wp2_with fail
  refine (refers_is _ _ _ _ r1).mono ?_
  rintro e w' ⟨rfl, rfl⟩
  go_wp2_with fail
  go_ret
  exact ⟨rfl, HB.out⟩
set_option maxHeartbeats 800000 in
theorem mvalid_5 (tx : Nat) (z : Int) (rt fr pg : Nat) (w : World) (h0 : tx ≤ 4611686018427387904) (g : goodSize z = true) (h2 : 2 ≤ pg) (h3 : pg ≤ 2147483647) (r1 : refM rt pg = true) (r2 : refM fr pg = false) :
    Calls Try.prog 26 #[.agg #[.int .u64 tx, .int .i64 z, .int .u32 rt, .int .u32 fr, .int .u32 pg]] w fun e w' => e = .returned (.bool false) ∧ Below w.heap.size w w' := by
  have b0 : Blk (w.alloc (.cells #[.int .u64 tx, .int .i64 z, .int .u32 rt, .int .u32 fr, .int .u32 pg] 31)) w.heap.size 31 #[.int .u64 tx, .int .i64 z, .int .u32 rt, .int .u32 fr, .int .u32 pg] := Blk.new _ _ _
  have HB := Lib.hid (show Below w.heap.size w (w.alloc (.cells #[.int .u64 tx, .int .i64 z, .int .u32 rt, .int .u32 fr, .int .u32 pg] 31)) from (Below.refl _ _).alloc (Nat.le_refl _) _)
  have c0 := b0.cell 0
  have c1 := b0.cell 1
  have c2 := b0.cell 2
  have c3 := b0.cell 3
  have c4 := b0.cell 4
  simp at c0 c1 c2 c3 c4
  clear b0
  have d0 : decide ((tx : Int) ≤ 4611686018427387904) = true := by simp; omega
  obtain ⟨n, hn, n1, n2, _⟩ := good_nat g
  have d1 : decide ((0 : Int) < z - 24) = true := by simp; omega
  have d1' : decide ((24 : Int) < z) = true := by simp; omega
  clear hn n1 n2
  have d2 : decide ((2 : Int) ≤ (pg : Int)) = true := by simp; omega
  have d2' : decide (2 ≤ pg) = true := by simp; omega
  have d3 : decide ((pg : Int) ≤ 2147483647) = true := by simp; omega
  have d3' : decide (pg ≤ 2147483647) = true := by simp; omega
  go_enter Try.func26, Try.ntmps26
  go_wp2_with fail
  refine (room_is _ _ g).mono ?_
  rintro e w' ⟨rfl, rfl⟩
  go_wp2_with fail
  refine (refers_is _ _ _ _ r1).mono ?_
  rintro e w' ⟨rfl, rfl⟩
  go_wp2_with fail
  refine (refers_is _ _ _ _ r2).mono ?_
  rintro e w' ⟨rfl, rfl⟩
  go_wp2_with fail
  go_ret
  exact ⟨rfl, HB.out⟩
set_option maxHeartbeats 800000 in
theorem mvalid_6 (tx : Nat) (z : Int) (rt fr pg : Nat) (w : World) (h0 : tx ≤ 4611686018427387904) (g : goodSize z = true) (h2 : 2 ≤ pg) (h3 : pg ≤ 2147483647) (r1 : refM rt pg = true) (r2 : refM fr pg = true) :
    Calls Try.prog 26 #[.agg #[.int .u64 tx, .int .i64 z, .int .u32 rt, .int .u32 fr, .int .u32 pg]] w fun e w' => e = .returned (.bool true) ∧ Below w.heap.size w w' := by
  have b0 : Blk (w.alloc (.cells #[.int .u64 tx, .int .i64 z, .int .u32 rt, .int .u32 fr, .int .u32 pg] 31)) w.heap.size 31 #[.int .u64 tx, .int .i64 z, .int .u32 rt, .int .u32 fr, .int .u32 pg] := Blk.new _ _ _
  have HB := Lib.hid (show Below w.heap.size w (w.alloc (.cells #[.int .u64 tx, .int .i64 z, .int .u32 rt, .int .u32 fr, .int .u32 pg] 31)) from (Below.refl _ _).alloc (Nat.le_refl _) _)
  have c0 := b0.cell 0
  have c1 := b0.cell 1
  have c2 := b0.cell 2
  have c3 := b0.cell 3
  have c4 := b0.cell 4
  simp at c0 c1 c2 c3 c4
  clear b0
  have d0 : decide ((tx : Int) ≤ 4611686018427387904) = true := by simp; omega
  obtain ⟨n, hn, n1, n2, _⟩ := good_nat g
  have d1 : decide ((0 : Int) < z - 24) = true := by simp; omega
  have d1' : decide ((24 : Int) < z) = true := by simp; omega
  clear hn n1 n2
  have d2 : decide ((2 : Int) ≤ (pg : Int)) = true := by simp; omega
  have d2' : decide (2 ≤ pg) = true := by simp; omega
  have d3 : decide ((pg : Int) ≤ 2147483647) = true := by simp; omega
  have d3' : decide (pg ≤ 2147483647) = true := by simp; omega
  go_enter Try.func26, Try.ntmps26
  go_wp2_with fail
  refine (room_is _ _ g).mono ?_
  rintro e w' ⟨rfl, rfl⟩
  go_wp2_with fail
  refine (refers_is _ _ _ _ r1).mono ?_
  rintro e w' ⟨rfl, rfl⟩
  go_wp2_with fail
  refine (refers_is _ _ _ _ r2).mono ?_
  rintro e w' ⟨rfl, rfl⟩
  go_wp2_with fail
  go_ret
  exact ⟨rfl, HB.out⟩
theorem mvalid_any (tx : Nat) (z : Int) (rt fr pg : Nat) (w : World) :
    Calls Try.prog 26 #[.agg #[.int .u64 tx, .int .i64 z, .int .u32 rt, .int .u32 fr, .int .u32 pg]] w fun e w' => e = .returned (.bool (mayM tx z rt fr pg)) ∧ Below w.heap.size w w' := by
  by_cases h0 : tx ≤ 4611686018427387904
  case neg => rw [show mayM tx z rt fr pg = false by simp [mayM, h0]]; exact mvalid_0 tx z rt fr pg w h0
  rcases g : goodSize z with _ | _
  · rw [show mayM tx z rt fr pg = false by simp [mayM, g]]; exact mvalid_1 tx z rt fr pg w h0 g
  by_cases h2 : 2 ≤ pg
  case neg => rw [show mayM tx z rt fr pg = false by simp [mayM, h2]]; exact mvalid_2 tx z rt fr pg w h0 g h2
  by_cases h3 : pg ≤ 2147483647
  case neg => rw [show mayM tx z rt fr pg = false by simp [mayM, h3]]; exact mvalid_3 tx z rt fr pg w h0 g h2 h3
  rcases r1 : refM rt pg with _ | _
  · rw [show mayM tx z rt fr pg = false by simp [mayM, r1]]; exact mvalid_4 tx z rt fr pg w h0 g h2 h3 r1
  rcases r2 : refM fr pg with _ | _
  · rw [show mayM tx z rt fr pg = false by simp [mayM, r2]]; exact mvalid_5 tx z rt fr pg w h0 g h2 h3 r1 r2
  rw [show mayM tx z rt fr pg = true by simp [mayM, h0, g, h2, h3, r1, r2]]; exact mvalid_6 tx z rt fr pg w h0 g h2 h3 r1 r2
end Go.Proofs.Ytfmalohaaibhiaa
