/-
  Contract of the reference of layer 9: Of.
-/
import Derived.Test.YtihhchncglnbiaaRef9Page
namespace Go.Proofs.Ytihhchncglnbiaa
open Go.RowKit
open Go.Lib hiding intOf
set_option linter.unusedVariables false
set_option linter.unusedSimpArgs false
attribute [local go_sem ↓] Go.wp_at_zero Go.wp_at_succ

theorem page9_neq_no (a0 a1 a2 a3 a4 : Int) (a5 : ByteArray) (w : World) : (binOp .neq 27 (.agg #[.int .i64 a0, .int .i64 a1, .int .u32 a2, .int .u32 a3, .int .u64 a4, .string a5]) (.agg #[.int .i64 a0, .int .i64 a1, .int .u32 a2, .int .u32 a3, .int .u64 a4, .string a5])).run Try.prog w = .ok (.bool false) w := by
  simp [go_sem]
theorem page9_neq_yes (a0 a1 a2 a3 a4 : Int) (a5 : ByteArray) (b0 b1 b2 b3 b4 : Int) (b5 : ByteArray) (w : World) (h : ¬ (a0 = b0 ∧ a1 = b1 ∧ a2 = b2 ∧ a3 = b3 ∧ a4 = b4 ∧ a5 = b5)) : (binOp .neq 27 (.agg #[.int .i64 a0, .int .i64 a1, .int .u32 a2, .int .u32 a3, .int .u64 a4, .string a5]) (.agg #[.int .i64 b0, .int .i64 b1, .int .u32 b2, .int .u32 b3, .int .u64 b4, .string b5])).run Try.prog w = .ok (.bool true) w := by
  have h1 : (((((a0 == b0 && a1 == b1) && a2 == b2) && a3 == b3) && a4 == b4) && a5.toList == b5.toList) = false := by
    rw [Bool.eq_false_iff]
    intro ht
    simp only [Bool.and_eq_true, beq_iff_eq] at ht
    obtain ⟨⟨⟨⟨⟨h0, h1⟩, h2⟩, h3⟩, h4⟩, h5⟩ := ht
    rw [ByteArray.toList_eq, ByteArray.toList_eq] at h5
    exact h ⟨h0, h1, h2, h3, h4, bytes_ext h5⟩
  simp [go_sem] at h1 ⊢
  exact h1
/-- What Of returns of what a page reads as. -/
def OfPost9 (o : Option ByteArray) (lk : Nat) (w : World) (e : Ending) (w' : World) : Prop :=
  match o with
  | none => e = .returned (.tuple #[.string ⟨#[]⟩, .int .u32 0, .int .i64 4]) ∧ Below w.heap.size w w'
  | some s => e = .returned (.tuple #[.string s, .int .u32 lk, .int .i64 0]) ∧ Below w.heap.size w w'
set_option maxRecDepth 100000 in
set_option maxHeartbeats 12800000 in
theorem rof9_any (kd ct : Int) (pg lk ty : Nat) (bd : ByteArray) (w : World) (hbd : bd.size ≤ 100000) :
    Calls Try.prog 16 #[.agg #[.int .i64 kd, .int .i64 ct, .int .u32 pg, .int .u32 lk, .int .u64 ty, .string bd]] w (OfPost9 (readO kd ct pg lk ty bd) lk w) := by
  obtain ⟨w0, hw0⟩ : ∃ x, x = w.alloc (.cells #[.int .i64 kd, .int .i64 ct, .int .u32 pg, .int .u32 lk, .int .u64 ty, .string bd] 27) := ⟨_, rfl⟩
  have Pp := Lib.hid (show Blk w0 w.heap.size 27 #[.int .i64 kd, .int .i64 ct, .int .u32 pg, .int .u32 lk, .int .u64 ty, .string bd] by rw [hw0]; exact Blk.new _ _ _)
  have HB := Lib.hid (show Below w.heap.size w w0 by rw [hw0]; exact (Below.refl _ _).alloc (Nat.le_refl _) _)
  obtain ⟨hzp, hi⟩ := zero_of_info infoPg
  have HI := Lib.hid hi
  clear hi
  obtain ⟨o, ho⟩ : ∃ o, o = readO kd ct pg lk ty bd := ⟨_, rfl⟩
  rw [← ho]
  have HO := Lib.hid ho
  clear ho
  by_cases h1 : ct < 0
  · have q1 : decide (ct < 0) = true := decide_eq_true h1
    obtain rfl : o = none := by rw [HO.out, readO, decide_eq_false (show ¬ 0 ≤ ct by omega)]; rfl
    go_enter Try.func16, Try.ntmps16
    go_upto_region 1 with fail
    rw [← hw0]
    clear hw0
    have p1 := Pp.out.cell 1
    have p5 := Pp.out.cell 5
    simp at p1 p5
    go_wp2_with fail
    go_ret3
    exact ⟨rfl, HB.out⟩
  obtain ⟨c, rfl⟩ := Int.eq_ofNat_of_zero_le (by omega : 0 ≤ ct)
  by_cases h2 : c ≤ bd.size
  rotate_left
  · have q2 : decide ((bd.size : Int) < (c : Int)) = true := by simp; omega
    have q3 : decide (bd.size < c) = true := by simp; omega
    obtain rfl : o = none := by rw [HO.out, readO, decide_eq_false (show ¬ (c : Int) ≤ bd.size by omega), Bool.false_and, Bool.and_false]; rfl
    go_enter Try.func16, Try.ntmps16
    go_upto_region 1 with fail
    rw [← hw0]
    clear hw0
    have p1 := Pp.out.cell 1
    have p5 := Pp.out.cell 5
    simp at p1 p5
    go_wp2_with fail
    go_ret3
    exact ⟨rfl, HB.out⟩
  have q2 : decide ((bd.size : Int) < (c : Int)) = false := by simp; omega
  have q3 : decide (bd.size < c) = false := by simp; omega
  obtain ⟨z, hz⟩ : ∃ z : Nat, z = bd.size + 24 := ⟨_, rfl⟩
  have hwz : wrap64 (z : Int) = (z : Int) := wrap64_nat z (by omega)
  have hws2 : ((bd.size : Int) + 24) = (z : Int) := by omega
  obtain ⟨s, hs⟩ : ∃ s, s = bd.extract 0 c := ⟨_, rfl⟩
  have hss : s.size = c := by rw [hs, ByteArray.size_extract]; omega
  have hO2 : o = if mayP9 z pg lk ty s && decide (kd = 5 ∧ bd = overBody z s) then some s else none := by
    rw [HO.out, readO, decide_eq_true (show (0 : Int) ≤ c by omega), decide_eq_true (show (c : Int) ≤ bd.size by omega), hz, hs]
    simp
  have HO2 := Lib.hid hO2
  have hse : bd.extract 0 c = s := hs.symm
  have HSS := Lib.hid hss
  have HPn := fun (w : World) (h : mayP9 z pg lk ty s = false) => rpage9_no z pg lk ty s w (by omega) h
  have HPy := fun (w : World) (h : mayP9 z pg lk ty s = true) => rpage9_yes z pg lk ty s w h
  rw [hss] at HPy
  have hc9 : c ≤ 100000 := by omega
  clear hO2 hz hs HO hss
  go_enter Try.func16, Try.ntmps16
  go_upto_region 1 with fail
  rw [← hw0]
  clear hw0
  have p1 := Pp.out.cell 1
  have p2 := Pp.out.cell 2
  have p3 := Pp.out.cell 3
  have p4 := Pp.out.cell 4
  have p5 := Pp.out.cell 5
  simp at p1 p2 p3 p4 p5
  rcases hy : mayP9 z pg lk ty s with _ | _
  · have HP := fun w => HPn w hy
    obtain rfl : o = none := by rw [HO2.out, hy]; rfl
    clear hy HPn HPy
    go_wp2_with fail
    refine (HP _).mono ?_
    rintro e w2 ⟨rfl, hb⟩
    replace HB := Lib.hid (HB.out.trans (hb.mono HB.out.size))
    clear hb HP
    go_wp2_with fail
    go_ret3
    exact ⟨rfl, HB.out.alloc HB.out.size _⟩
  · have HP := fun w => HPy w hy
    obtain ⟨B, hB⟩ : ∃ B, B = overBody z s := ⟨_, rfl⟩
    rw [← hB] at HP
    have HQ := Lib.hid (show o = if decide (kd = 5 ∧ bd = B) then some s else none by rw [HO2.out, hy, Bool.true_and, hB])
    clear hy HPn HPy hB HO2
    go_wp2_with fail
    refine (HP _).mono ?_
    rintro e w2 ⟨rfl, hb⟩
    replace Pp := Lib.hid (Pp.out.below hb Pp.out.lt)
    replace HB := Lib.hid (HB.out.trans (hb.mono HB.out.size))
    clear hb HP p1 p2 p3 p4 p5
    obtain ⟨w3, hw3⟩ : ∃ x, x = w2.alloc (.cells #[.int .i64 5, .int .i64 c, .int .u32 pg, .int .u32 lk, .int .u64 ty, .string B] 27) := ⟨_, rfl⟩
    have Q := Lib.hid (show Blk w3 w2.heap.size 27 #[.int .i64 5, .int .i64 c, .int .u32 pg, .int .u32 lk, .int .u64 ty, .string B] by rw [hw3]; exact Blk.new _ _ _)
    replace Pp := Lib.hid (show Blk w3 w.heap.size 27 #[.int .i64 kd, .int .i64 c, .int .u32 pg, .int .u32 lk, .int .u64 ty, .string bd] by rw [hw3]; exact Pp.out.alloc _)
    replace HB := Lib.hid (show Below w.heap.size w w3 by rw [hw3]; exact HB.out.alloc HB.out.size _)
    go_upto_region 5 with fail
    rw [← hw3]
    clear hw3 hws2 hwz
    generalize w2.heap.size = gQ at *
    have c0 := Pp.out.cell 0
    have c1 := Pp.out.cell 1
    have c2 := Pp.out.cell 2
    have c3 := Pp.out.cell 3
    have c4 := Pp.out.cell 4
    have c5 := Pp.out.cell 5
    have q0 := Q.out.cell 0
    have q1 := Q.out.cell 1
    have q2' := Q.out.cell 2
    have q3' := Q.out.cell 3
    have q4 := Q.out.cell 4
    have q5 := Q.out.cell 5
    simp at c0 c1 c2 c3 c4 c5 q0 q1 q2' q3' q4 q5
    by_cases hd : kd = 5 ∧ bd = B
    · obtain ⟨rfl, rfl⟩ := hd
      obtain rfl : o = some s := by rw [HQ.out]; simp
      have hpq := fun w => page9_neq_no 5 c pg lk ty bd w
      go_wp2_with fail
      go_quiet (fail)
      go_wp2_with fail
      go_ret3
      exact ⟨rfl, below_drewN HB.out _⟩
    · obtain rfl : o = none := by rw [HQ.out, decide_eq_false hd]; rfl
      have hpq := fun w => page9_neq_yes 5 c pg lk ty B kd c pg lk ty bd w (by intro ⟨e1, _, _, _, _, e6⟩; exact hd ⟨e1.symm, e6.symm⟩)
      clear hd
      go_wp2_with fail
      go_ret3
      exact ⟨rfl, HB.out⟩
end Go.Proofs.Ytihhchncglnbiaa
