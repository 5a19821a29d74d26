/-
  Texts that the main proof rests on, put together: Ref4Use, PgRead, BrSmall, BrValid, BrRead. No statement is proved here.
-/
import Derived.Test.YtmmjckokjmpfpaaGreatJ19
import Derived.Test.YtmmjckokjmpfpaaGreatJ18
import Derived.Test.YtmmjckokjmpfpaaGreatJ11
import Derived.Deep.RegionHeld3
import Derived.Deep.DrawnRows
import Derived.Test.YtmmjckokjmpfpaaGreatJ7
import Derived.Test.YtmmjckokjmpfpaaGreatJ9
import Derived.Deep.CutRange
import Derived.WalkMore
import Derived.Test.YtmmjckokjmpfpaaGreatJ3
import Derived.Deep.QuietTactic
import Derived.BigQuiet
import Derived.Test.YtmmjckokjmpfpaaGreatJ12
import Derived.Deep.DeepCutAuto
set_option linter.unusedVariables false
set_option linter.unusedSimpArgs false
namespace Go.Proofs.YtmmjckokjmpfpaaGreat
open Go.RowKit
open Go.Lib
attribute [local go_sem ↓] Go.wp_at_zero Go.wp_at_succ

theorem rget_right (size : Int) (n : Nat) (s : ByteArray) (w : World) (h : blockOk size n s = true) :
  Calls Tryz.prog 62 #[.int .i64 size, .int .u32 n, .string s] w fun e w' => e = .returned (.tuple #[.agg #[.int .i64 (numAt s 4 1), .int .i64 (numAt s 6 2), .int .u32 (numAt s 8 4), .int .u32 (numAt s 12 4), .int .u64 (numAt s 16 8), .string (s.extract 24 s.size)], .int .i64 0]) ∧ Below w.heap.size w w' := by
 simp only [blockOk, Bool.and_eq_true, decide_eq_true_eq] at h
 obtain ⟨h1, h2, h3, h4, h5⟩ := h
 have hg : goodSize size = true := by
  simp only [mayPg, Bool.and_eq_true] at h5
  exact h5.1
 obtain ⟨z, rfl, _, _, _⟩ := good_nat hg
 exact rget_4 z n s (numAt s 0 4) (numAt s 4 1) (numAt s 5 1) (numAt s 6 2) (numAt s 8 4) (numAt s 12 4) (numAt s 16 8) (s.extract 24 s.size) w hg (by omega) rfl rfl rfl rfl rfl rfl rfl rfl h5 h4 h3 h2.symm
theorem rget_wrong (size : Int) (n : Nat) (s : ByteArray) (w : World) (hg : goodSize size = true) (h : blockOk size n s = false) :
  Calls Tryz.prog 62 #[.int .i64 size, .int .u32 n, .string s] w fun e w' => e = .returned (.tuple #[.agg #[.int .i64 0, .int .i64 0, .int .u32 0, .int .u32 0, .int .u64 0, .string ByteArray.empty], .int .i64 4]) ∧ Below w.heap.size w w' := by
 by_cases h1 : (s.size : Int) = size
 case neg => exact rget_len size s n w hg h1
 obtain ⟨z, rfl, _, _, _⟩ := good_nat hg
 have hs : s.size = z := by omega
 rcases h5 : mayPg z (numAt s 4 1) (numAt s 6 2) (numAt s 8 4) (numAt s 12 4) (numAt s 16 8) (s.extract 24 s.size) with _ | _
 ·exact rget_0 z n s (numAt s 0 4) (numAt s 4 1) (numAt s 5 1) (numAt s 6 2) (numAt s 8 4) (numAt s 12 4) (numAt s 16 8) (s.extract 24 s.size) w hg hs rfl rfl rfl rfl rfl rfl rfl rfl h5
 by_cases h4 : numAt s 8 4 = n
 case neg => exact rget_1 z n s (numAt s 0 4) (numAt s 4 1) (numAt s 5 1) (numAt s 6 2) (numAt s 8 4) (numAt s 12 4) (numAt s 16 8) (s.extract 24 s.size) w hg hs rfl rfl rfl rfl rfl rfl rfl rfl h5 h4
 by_cases h3 : numAt s 5 1 = 1
 case neg => exact rget_2 z n s (numAt s 0 4) (numAt s 4 1) (numAt s 5 1) (numAt s 6 2) (numAt s 8 4) (numAt s 12 4) (numAt s 16 8) (s.extract 24 s.size) w hg hs rfl rfl rfl rfl rfl rfl rfl rfl h5 h4 h3
 by_cases h2 : crcM 0 (List.drop 4 s.data.toList) = numAt s 0 4
 ·rw [blockOk, h5] at h
  have h2' : leNat (List.take 4 s.data.toList) = crcM 0 (List.drop 4 s.data.toList) := h2.symm
  simp [h1, h2', h3, h4] at h
 ·exact rget_3 z n s (numAt s 0 4) (numAt s 4 1) (numAt s 5 1) (numAt s 6 2) (numAt s 8 4) (numAt s 12 4) (numAt s 16 8) (s.extract 24 s.size) w hg hs rfl rfl rfl rfl rfl rfl rfl rfl h5 h4 h3 h2

theorem rpages_yes (size : Nat) (s : ByteArray) (w : World) (h : goodSize size = true) (hs : s.size ≤ maxLen) :
  Calls Tryz.prog 91 #[.int .i64 size, .string s] w fun e w' => e = .returned (.int .i64 ((s.size / size : Nat) : Int)) ∧ w = w' := by
 have hp := good_pos h
 have h0 : ¬ (size : Int) = 0 := by omega
 have hq : wrap64 ((s.size : Int) / (size : Int)) = ((s.size / size : Nat) : Int) := by
  have h1 : s.size / size ≤ s.size := Nat.div_le_self _ _
  unfold maxLen at hs
  rw [← Int.natCast_ediv]
  generalize s.size / size = q at *
  unfold wrap64
  omega
 go_enter Tryz.func91, Tryz.ntmps91
 go_wp2_with (go_at_call 32; refine (rgood_any _ _).mono ?_; rw [h]; rintro e w' ⟨rfl, rfl⟩)
 go_ret
 exact ⟨by rw [← hq]; rfl, rfl⟩
theorem rat_yes (size n : Nat) (s : ByteArray) (w : World) (hg : goodSize size = true) (hs : s.size ≤ maxLen) (hn : n < s.size / size) :
  Calls Tryz.prog 61 #[.int .i64 size, .string s, .int .u32 n] w fun e w' => e = .returned (.tuple #[.string (s.extract (n * size) (n * size + size)), .bool true]) ∧ w = w' := by
 have hp := good_pos hg
 have HP := fun w => rpages_yes size s w hg hs
 obtain ⟨q, hq⟩ : ∃ q, q = s.size / size := ⟨_, rfl⟩
 have hb : n * size + size ≤ s.size := by
  have h1 : (n + 1) * size ≤ s.size / size * size := Nat.mul_le_mul_right _ hn
  have h2 := Nat.div_mul_le_self s.size size
  rw [Nat.add_mul, Nat.one_mul] at h1
  omega
 have hql : s.size / size ≤ s.size := Nat.div_le_self _ _
 rw [← hq] at HP hql hn
 unfold maxLen at hs
 obtain ⟨f, hf⟩ : ∃ f, f = n * size := ⟨_, rfl⟩
 rw [← hf] at hb ⊢
 have g1 : decide (q ≤ n) = false := by simp; omega
 have g2 : (0 : Int) ≤ f := by omega
 have g4 : (f : Int) ≤ ((f + size : Nat) : Int) := by omega
 have g5 : ((f + size : Nat) : Int) ≤ s.size := by omega
 have z1 : n < 18446744073709551616 := by omega
 have z2 : q < 18446744073709551616 := by omega
 have z3 : n < 9223372036854775808 := by omega
 have z4 : f < 9223372036854775808 := by omega
 have z5 : f + size < 9223372036854775808 := by omega
 have w3' := wrap64_nat n z3
 have w4 : wrap64 ((n : Int) * (size : Int)) = (f : Int) := by rw [← Int.natCast_mul, ← hf]; exact wrap64_nat f z4
 have g3 : wrap64 ((f : Int) + (size : Int)) = ((f + size : Nat) : Int) := by rw [← Int.natCast_add]; exact wrap64_nat _ z5
 clear hq hf hn hql hs hp hb z1 z2 z3 z4 z5
 go_enter Tryz.func61, Tryz.ntmps61
 go_wp2_with fail
 refine (HP _).mono ?_
 rintro e w' ⟨rfl, rfl⟩
 go_wp2_with fail
 go_ret2
 exact ⟨rfl, rfl⟩
theorem rat_no (size n : Nat) (s : ByteArray) (w : World) (hg : goodSize size = true) (hs : s.size ≤ maxLen) (hn : ¬ n < s.size / size) (hn2 : n < 4294967296) :
  Calls Tryz.prog 61 #[.int .i64 size, .string s, .int .u32 n] w fun e w' => e = .returned (.tuple #[.string ⟨#[]⟩, .bool false]) ∧ w = w' := by
 have HP := fun w => rpages_yes size s w hg hs
 obtain ⟨q, hq⟩ : ∃ q, q = s.size / size := ⟨_, rfl⟩
 have hql : s.size / size ≤ s.size := Nat.div_le_self _ _
 rw [← hq] at HP hql hn
 unfold maxLen at hs
 have g1 : decide (q ≤ n) = true := by simp; omega
 have w1 := u64_nat n (by omega)
 have w2 := u64_nat q (by omega)
 have hnn : n < 9223372036854775808 := by omega
 have w1' := wrap64_nat n hnn
 clear hnn
 clear hq hn hql hs hn2
 go_enter Tryz.func61, Tryz.ntmps61
 go_wp2_with fail
 refine (HP _).mono ?_
 rintro e w' ⟨rfl, rfl⟩
 go_wp2_with fail
 go_ret2
 exact ⟨rfl, rfl⟩
theorem rread_bad (size : Int) (s : ByteArray) (n : Nat) (w : World) (hg : goodSize size = false) :
  Calls Tryz.prog 30 #[.int .i64 size, .string s, .int .u32 n] w fun e w' => e = .returned (.tuple #[.agg #[.int .i64 0, .int .i64 0, .int .u32 0, .int .u32 0, .int .u64 0, .string ByteArray.empty], .int .i64 2]) ∧ Below w.heap.size w w' := by
 obtain ⟨hz, hi⟩ := zero_of_info infoPg
 have HI := Lib.hid hi
 clear hi
 obtain ⟨w0, hw0⟩ : ∃ w0, w0 = w.alloc (.cells #[.int .i64 0, .int .i64 0, .int .u32 0, .int .u32 0, .int .u64 0, .string ByteArray.empty] 41) := ⟨_, rfl⟩
 have R0 := Lib.hid (show Blk w0 w.heap.size 41 #[.int .i64 0, .int .i64 0, .int .u32 0, .int .u32 0, .int .u64 0, .string ByteArray.empty] by rw [hw0]; exact Blk.new _ _ _)
 have HB0 := Lib.hid (show Below w.heap.size w w0 by rw [hw0]; exact (Below.refl _ _).alloc (Nat.le_refl _) _)
 go_enter Tryz.func30, Tryz.ntmps30
 go_wp2_with fail
 rw [← hw0]
 clear hw0
 refine (rgood_is size _ _ hg).mono ?_
 rintro e w' ⟨rfl, rfl⟩
 have k0 := R0.out.cell 0
 have k1 := R0.out.cell 1
 have k2 := R0.out.cell 2
 have k3 := R0.out.cell 3
 have k4 := R0.out.cell 4
 have k5 := R0.out.cell 5
 have f0 := R0.out.frozen 0
 have f1 := R0.out.frozen 1
 have f2 := R0.out.frozen 2
 have f3 := R0.out.frozen 3
 have f4 := R0.out.frozen 4
 have f5 := R0.out.frozen 5
 simp at k0 k1 k2 k3 k4 k5
 go_wp2_with fail
 refine bodyPost_ret (read_row rfl _ _ _ w.heap.size #[.int .i64 0, .int .i64 0, .int .u32 0, .int .u32 0, .int .u64 0, .string ByteArray.empty] rfl (load_page (six_at R0.out))) rfl ⟨rfl, six_below HB0.out (Nat.le_refl _)⟩
theorem rread_none (size n : Nat) (s : ByteArray) (w : World) (hg : goodSize size = true) (hs : s.size ≤ maxLen) (hn : ¬ n < s.size / size) (hn2 : n < 4294967296) :
  Calls Tryz.prog 30 #[.int .i64 size, .string s, .int .u32 n] w fun e w' => e = .returned (.tuple #[.agg #[.int .i64 0, .int .i64 0, .int .u32 0, .int .u32 0, .int .u64 0, .string ByteArray.empty], .int .i64 5]) ∧ Below w.heap.size w w' := by
 obtain ⟨hz, hi⟩ := zero_of_info infoPg
 have HI := Lib.hid hi
 clear hi
 obtain ⟨w0, hw0⟩ : ∃ w0, w0 = w.alloc (.cells #[.int .i64 0, .int .i64 0, .int .u32 0, .int .u32 0, .int .u64 0, .string ByteArray.empty] 41) := ⟨_, rfl⟩
 have R0 := Lib.hid (show Blk w0 w.heap.size 41 #[.int .i64 0, .int .i64 0, .int .u32 0, .int .u32 0, .int .u64 0, .string ByteArray.empty] by rw [hw0]; exact Blk.new _ _ _)
 have HB0 := Lib.hid (show Below w.heap.size w w0 by rw [hw0]; exact (Below.refl _ _).alloc (Nat.le_refl _) _)
 have HA := fun w => rat_no size n s w hg hs hn hn2
 clear hs hn hn2
 go_enter Tryz.func30, Tryz.ntmps30
 go_wp2_with fail
 rw [← hw0]
 clear hw0
 refine (rgood_is size _ _ hg).mono ?_
 rintro e w' ⟨rfl, rfl⟩
 go_wp2_with fail
 refine (HA _).mono ?_
 rintro e w' ⟨rfl, rfl⟩
 have k0 := R0.out.cell 0
 have k1 := R0.out.cell 1
 have k2 := R0.out.cell 2
 have k3 := R0.out.cell 3
 have k4 := R0.out.cell 4
 have k5 := R0.out.cell 5
 have f0 := R0.out.frozen 0
 have f1 := R0.out.frozen 1
 have f2 := R0.out.frozen 2
 have f3 := R0.out.frozen 3
 have f4 := R0.out.frozen 4
 have f5 := R0.out.frozen 5
 simp at k0 k1 k2 k3 k4 k5
 go_wp2_with fail
 refine bodyPost_ret (read_row rfl _ _ _ w.heap.size #[.int .i64 0, .int .i64 0, .int .u32 0, .int .u32 0, .int .u64 0, .string ByteArray.empty] rfl (load_page (six_at R0.out))) rfl ⟨rfl, six_below HB0.out (Nat.le_refl _)⟩
theorem rread_get (size n : Nat) (s : ByteArray) (a0 a1 : Int) (a2 a3 a4 : Nat) (a5 : ByteArray) (err : Int) (w : World) (hg : goodSize size = true) (hs : s.size ≤ maxLen) (hn : n < s.size / size)
  (hget : ∀ w : World, Calls Tryz.prog 62 #[.int .i64 size, .int .u32 n, .string (s.extract (n * size) (n * size + size))] w fun e w' => e = .returned (.tuple #[.agg #[.int .i64 a0, .int .i64 a1, .int .u32 a2, .int .u32 a3, .int .u64 a4, .string a5], .int .i64 err]) ∧ Below w.heap.size w w') :
  Calls Tryz.prog 30 #[.int .i64 size, .string s, .int .u32 n] w fun e w' => e = .returned (.tuple #[.agg #[.int .i64 a0, .int .i64 a1, .int .u32 a2, .int .u32 a3, .int .u64 a4, .string a5], .int .i64 err]) ∧ Below w.heap.size w w' := by
 obtain ⟨hz, hi⟩ := zero_of_info infoPg
 have HI := Lib.hid hi
 clear hi
 obtain ⟨w0, hw0⟩ : ∃ w0, w0 = w.alloc (.cells #[.int .i64 0, .int .i64 0, .int .u32 0, .int .u32 0, .int .u64 0, .string ByteArray.empty] 41) := ⟨_, rfl⟩
 have R0 := Lib.hid (show Blk w0 w.heap.size 41 #[.int .i64 0, .int .i64 0, .int .u32 0, .int .u32 0, .int .u64 0, .string ByteArray.empty] by rw [hw0]; exact Blk.new _ _ _)
 have HB0 := Lib.hid (show Below w.heap.size w w0 by rw [hw0]; exact (Below.refl _ _).alloc (Nat.le_refl _) _)
 have HA := fun w => rat_yes size n s w hg hs hn
 obtain ⟨b, hb⟩ : ∃ b, b = s.extract (n * size) (n * size + size) := ⟨_, rfl⟩
 rw [← hb] at HA hget
 clear hb hs hn
 go_enter Tryz.func30, Tryz.ntmps30
 go_wp2_with fail
 rw [← hw0]
 clear hw0
 refine (rgood_is size _ _ hg).mono ?_
 rintro e w' ⟨rfl, rfl⟩
 go_wp2_with fail
 refine (HA _).mono ?_
 rintro e w' ⟨rfl, rfl⟩
 go_wp2_with fail
 refine (hget _).mono ?_
 rintro e w1 ⟨rfl, hb1⟩
 replace HB0 := Lib.hid (HB0.out.trans (hb1.mono HB0.out.size))
 replace R0 := Lib.hid (R0.out.below hb1 R0.out.lt)
 clear hb1
 have k0 := R0.out.cell 0
 have k1 := R0.out.cell 1
 have k2 := R0.out.cell 2
 have k3 := R0.out.cell 3
 have k4 := R0.out.cell 4
 have k5 := R0.out.cell 5
 have f0 := R0.out.frozen 0
 have f1 := R0.out.frozen 1
 have f2 := R0.out.frozen 2
 have f3 := R0.out.frozen 3
 have f4 := R0.out.frozen 4
 have f5 := R0.out.frozen 5
 simp at k0 k1 k2 k3 k4 k5
 go_wp2_with fail
 refine bodyPost_ret (read_row rfl _ _ _ w.heap.size #[.int .i64 a0, .int .i64 a1, .int .u32 a2, .int .u32 a3, .int .u64 a4, .string a5] rfl (load_page (six_at R0.out))) rfl ⟨rfl, six_below HB0.out (Nat.le_refl _)⟩

end Go.Proofs.YtmmjckokjmpfpaaGreat

namespace Go.Proofs.YtmmjckokjmpfpaaGreat
open Go.RowKit
open Go.Lib hiding intOf

def errAt (size : Int) (s : ByteArray) (n : Nat) : Int := if (readAt size s n).isSome then 0 else if goodSize size then (if n < s.size / size.toNat then 4 else 5) else 2
def pageOf (size : Int) (s : ByteArray) (n : Nat) : Pg := (readAt size s n).getD Pg.zero
theorem errAt_some {size : Int} {s : ByteArray} {n : Nat} {p : Pg} (h : readAt size s n = some p) : errAt size s n = 0 ∧ pageOf size s n = p := by unfold errAt pageOf; rw [h]; exact ⟨rfl, rfl⟩
theorem errAt_none {size : Int} {s : ByteArray} {n : Nat} (h : readAt size s n = none) : errAt size s n ≠ 0 ∧ pageOf size s n = Pg.zero := by
 unfold errAt pageOf
 rw [h]
 refine ⟨?_, rfl⟩
 simp only [Option.isSome_none, Bool.false_eq_true, if_false]
 split
 ·split <;> decide
 ·decide
set_option maxHeartbeats 1600000
theorem fread_all (size : Int) (s : ByteArray) (n : Nat) (w : World) (hs : s.size ≤ maxLen) (hn : n < 4294967296) :
  Calls Tryz.prog 98 #[.int .i64 size, .string s, .int .u32 n] w fun e w' => e = .returned (.tuple #[(pageOf size s n).agg, .int .i64 (errAt size s n)]) ∧ Below w.heap.size w w' := by
 rcases hg : goodSize size with _ | _
 ·have hr := readAt_bad (s := s) (n := n) hg
  rw [(errAt_none hr).2, show errAt size s n = 2 by unfold errAt; rw [hr, hg]; rfl]
  exact (fread_bad size s n w hg).mono fun e w' h => ⟨h.1, (by first | exact h.2 | (rw [h.2]; exact Below.refl _ _) | (rw [← h.2]; exact Below.refl _ _))⟩
 obtain ⟨q, rfl, _, _, _⟩ := good_nat hg
 have hq : (q : Int).toNat = q := by omega
 by_cases h2 : n < s.size / q
 rotate_left
 ·have hr : readAt q s n = none := by unfold readAt; rw [hq, decide_eq_false h2]; simp
  rw [(errAt_none hr).2, show errAt q s n = 5 by unfold errAt; rw [hr, hg, hq, if_neg (by simp), if_pos rfl, if_neg h2]]
  exact (fread_none q n s w hg hs h2 hn).mono fun e w' h => ⟨h.1, (by first | exact h.2 | (rw [h.2]; exact Below.refl _ _) | (rw [← h.2]; exact Below.refl _ _))⟩
 obtain ⟨B, hB⟩ : ∃ B, B = blkOf q s n := ⟨_, rfl⟩
 rcases h3 : blockOk q n B with _ | _
 ·have hr : readAt q s n = none := by unfold readAt; rw [hq, ← hB, h3]; simp
  rw [(errAt_none hr).2, show errAt q s n = 4 by unfold errAt; rw [hr, hg, hq, if_neg (by simp), if_pos rfl, if_pos h2]]
  have := fread_get q n s 0 0 0 0 0 ByteArray.empty 4 w hg hs h2 fun w => (by
   rw [show s.extract (n * q) (n * q + q) = B from hB.symm]
   exact get_wrong q n B w hg h3)
  exact this
 ·have hr : readAt q s n = some ⟨numAt B 4 1, numAt B 6 2, numAt B 8 4, numAt B 12 4, numAt B 16 8, B.extract 24 B.size⟩ := by unfold readAt; rw [hq, ← hB, h3, hg, decide_eq_true h2]; rfl
  rw [(errAt_some hr).1, (errAt_some hr).2]
  have := fread_get q n s (numAt B 4 1) (numAt B 6 2) (numAt B 8 4) (numAt B 12 4) (numAt B 16 8) (B.extract 24 B.size) 0 w hg hs h2 fun w => (by
   rw [show s.extract (n * q) (n * q + q) = B from hB.symm]
   exact get_right q n B w h3)
  exact this
theorem rread_all (size : Int) (s : ByteArray) (n : Nat) (w : World) (hs : s.size ≤ maxLen) (hn : n < 4294967296) :
  Calls Tryz.prog 30 #[.int .i64 size, .string s, .int .u32 n] w fun e w' => e = .returned (.tuple #[(pageOf size s n).agg, .int .i64 (errAt size s n)]) ∧ Below w.heap.size w w' := by
 rcases hg : goodSize size with _ | _
 ·have hr := readAt_bad (s := s) (n := n) hg
  rw [(errAt_none hr).2, show errAt size s n = 2 by unfold errAt; rw [hr, hg]; rfl]
  exact (rread_bad size s n w hg).mono fun e w' h => ⟨h.1, (by first | exact h.2 | (rw [h.2]; exact Below.refl _ _) | (rw [← h.2]; exact Below.refl _ _))⟩
 obtain ⟨q, rfl, _, _, _⟩ := good_nat hg
 have hq : (q : Int).toNat = q := by omega
 by_cases h2 : n < s.size / q
 rotate_left
 ·have hr : readAt q s n = none := by unfold readAt; rw [hq, decide_eq_false h2]; simp
  rw [(errAt_none hr).2, show errAt q s n = 5 by unfold errAt; rw [hr, hg, hq, if_neg (by simp), if_pos rfl, if_neg h2]]
  exact (rread_none q n s w hg hs h2 hn).mono fun e w' h => ⟨h.1, (by first | exact h.2 | (rw [h.2]; exact Below.refl _ _) | (rw [← h.2]; exact Below.refl _ _))⟩
 obtain ⟨B, hB⟩ : ∃ B, B = blkOf q s n := ⟨_, rfl⟩
 rcases h3 : blockOk q n B with _ | _
 ·have hr : readAt q s n = none := by unfold readAt; rw [hq, ← hB, h3]; simp
  rw [(errAt_none hr).2, show errAt q s n = 4 by unfold errAt; rw [hr, hg, hq, if_neg (by simp), if_pos rfl, if_pos h2]]
  have := rread_get q n s 0 0 0 0 0 ByteArray.empty 4 w hg hs h2 fun w => (by
   rw [show s.extract (n * q) (n * q + q) = B from hB.symm]
   exact rget_wrong q n B w hg h3)
  exact this
 ·have hr : readAt q s n = some ⟨numAt B 4 1, numAt B 6 2, numAt B 8 4, numAt B 12 4, numAt B 16 8, B.extract 24 B.size⟩ := by unfold readAt; rw [hq, ← hB, h3, hg, decide_eq_true h2]; rfl
  rw [(errAt_some hr).1, (errAt_some hr).2]
  have := rread_get q n s (numAt B 4 1) (numAt B 6 2) (numAt B 8 4) (numAt B 12 4) (numAt B 16 8) (B.extract 24 B.size) 0 w hg hs h2 fun w => (by
   rw [show s.extract (n * q) (n * q + q) = B from hB.symm]
   exact rget_right q n B w h3)
  exact this
end Go.Proofs.YtmmjckokjmpfpaaGreat

namespace Go.Proofs.YtmmjckokjmpfpaaGreat
open Go.RowKit
open Go.Lib hiding intOf
attribute [local go_sem ↓] Go.wp_at_zero Go.wp_at_succ

theorem bkey_any (s : ByteArray) (w : World) : Calls Tryz.prog 159 #[.string s] w fun e w' => e = .returned (.bool (keyF s)) ∧ w' = w := by
 by_cases h1 : s.size ≤ 40
 ·have h1' : (s.size : Int) ≤ 40 := by omega
  have HE := Lib.hid (show keyF s = true by simp [keyF, h1])
  go_enter Tryz.func159, Tryz.ntmps159
  go_wp2
  go_ret
  exact ⟨by rw [HE.out]; rfl, rfl⟩
 ·have h1' : ¬ (s.size : Int) ≤ 40 := by omega
  have HE := Lib.hid (show keyF s = false by simp [keyF, h1])
  go_enter Tryz.func159, Tryz.ntmps159
  go_wp2
  go_ret
  exact ⟨by rw [HE.out]; rfl, rfl⟩
theorem bnum_any (n : Nat) (w : World) : Calls Tryz.prog 134 #[.int .u32 n] w fun e w' => e = .returned (.bool (numB n)) ∧ w' = w := by
 by_cases h1 : 2 ≤ n
 ·have h1' : (2 : Int) ≤ n := by omega
  by_cases h2 : n ≤ 2147483647
  ·have h2' : (n : Int) ≤ 2147483647 := by omega
   have HE := Lib.hid (show numB n = true by simp [numB, h1, h2])
   go_enter Tryz.func134, Tryz.ntmps134
   go_wp2
   go_ret
   exact ⟨by rw [HE.out]; rfl, rfl⟩
  ·have h2' : ¬ (n : Int) ≤ 2147483647 := by omega
   have HE := Lib.hid (show numB n = false by simp [numB, h1, h2])
   go_enter Tryz.func134, Tryz.ntmps134
   go_wp2
   go_ret
   exact ⟨by rw [HE.out]; rfl, rfl⟩
 ·have h1' : ¬ (2 : Int) ≤ n := by omega
  have HE := Lib.hid (show numB n = false by simp [numB, h1])
  go_enter Tryz.func134, Tryz.ntmps134
  go_wp2
  go_ret
  exact ⟨by rw [HE.out]; rfl, rfl⟩
def DiesB (e : Ending) : Prop := e = .panicked [{ v := .iface 186 (.agg #[]), recovered := false }]
theorem bneed_yes (w : World) : Calls Tryz.prog 118 #[.bool true] w fun e w' => e = .returned (.tuple #[]) ∧ w' = w := by
 go_enter Tryz.func118, Tryz.ntmps118
 go_wp2
 go_end0
 exact ⟨rfl, rfl⟩
theorem bneed_no (w : World) : Calls Tryz.prog 118 #[.bool false] w fun e w' => DiesB e ∧ w' = w := by
 go_enter Tryz.func118, Tryz.ntmps118
 go_wp2
 exact ⟨rfl, rfl, rfl⟩
set_option maxRecDepth 100000 in
set_option maxHeartbeats 3200000 in
theorem bpick_any (A : Option Addr) (n c : Nat) (l : List Fk) (key : ByteArray) (w : World) (hr : Reads w w.heap.size 2 A n (fkc l)) (hn : n ≤ 1000000) :
  Calls Tryz.prog 74 #[.slice A n c, .string key] w fun e w' => e = .returned (.int .i64 (pickF l key)) ∧ Below w.heap.size w w' := by
 have HL := Lib.hid (fk_len hr)
 have HR := Lib.hid hr
 clear hr
 go_enter Tryz.func74, Tryz.ntmps74
 go_wp2_with fail
 go_step3
 go_wp2_with fail
 go_step3
 go_wp2_with fail
 go_loopw [5, 6, 7, 10] (fun s _ _ i wr => ∃ k : Nat, k ≤ n ∧ i = .int .i64 k ∧ s = .int .i64 ((k - 1 : Nat) : Int) ∧ Hid (∀ j y, j < k → l[j]? = some y → (!Op.bytesLess key.toList y.nm.toList) = true) ∧ Hid (Below w.heap.size w wr)) (fun _ _ _ i _ => n - (intOf i).toNat)
 case atStart => exact ⟨0, Nat.zero_le _, rfl, rfl, Lib.hid fun j y hj => absurd hj (by omega), Lib.hid (Below.refl _ _)⟩
 case round =>
  obtain ⟨k, hk, rfl, rfl, HF, HB⟩ := hrel
  by_cases hlt : k < n
  ·obtain ⟨ad, x, rfl, _, hp, hx, hc⟩ := fk_at HR.out hlt
   obtain ⟨hc0, hc1⟩ := hc.below HB.out hp
   have hk0 : (0 : Int) ≤ k := by omega
   have hk1 : (k : Int) < n := by omega
   have HX := Lib.hid hx
   have HB2 := Lib.hid (HB.out.alloc HB.out.size (.cells #[.string x.nm, .int .u32 x.rt] 45))
   clear hx hc hp
   rcases he : Op.bytesLess key.toList x.nm.toList with _ | _
   ·have HF' := Lib.hid (fun i y (hi : i < k + 1) (hy : l[i]? = some y) => show (!Op.bytesLess key.toList y.nm.toList) = true from by
     by_cases hjk : i < k
     ·exact HF.out i y hjk hy
     ·obtain rfl : i = k := by omega
      rw [HX.out] at hy
      injection hy with hy
      subst hy
      rw [he]; rfl)
    have hle : (!Op.bytesLess x.nm.toList key.toList && !x.nm.toList == key.toList) = false := by rw [← Bool.not_or, leq_not, he]; rfl
    go_wp2_with fail
    go_roundw
    case rel =>
     refine ⟨k + 1, by omega, by go_num, rfl, HF', HB2⟩
    case measure => simp [intOf]; omega
   ·have hN : pickN l key = k := takeWhile_at HF.out (by rw [HL.out]; omega) (fun y hy => by rw [HX.out] at hy; injection hy with hy; subst hy; rw [he]; rfl)
    have HE := Lib.hid (show pickF l key = k - 1 by rw [pickF, hN])
    have hle : (!Op.bytesLess x.nm.toList key.toList && !x.nm.toList == key.toList) = true := by rw [← Bool.not_or, leq_not, he]; rfl
    clear hN
    go_wp2_with fail
    (try rw [Exit.noGoto_ret])
    go_ret
    exact ⟨by rw [HE.out]; rfl, HB2.out⟩
  ·obtain rfl : k = n := by omega
   have hN : pickN l key = k := takeWhile_at HF.out (by rw [HL.out]; exact Nat.le_refl _) (fun y hy => by
    have := (List.getElem?_eq_some_iff.1 hy).1
    rw [HL.out] at this
    omega)
   have HE := Lib.hid (show pickF l key = k - 1 by rw [pickF, hN])
   clear hN hlt
   go_wp2_with fail
   (try rw [Exit.noGoto_ret])
   go_ret
   exact ⟨by rw [HE.out]; rfl, HB.out⟩
end Go.Proofs.YtmmjckokjmpfpaaGreat

namespace Go.Proofs.YtmmjckokjmpfpaaGreat
open Go.RowKit
open Go.Lib hiding intOf
attribute [local go_sem ↓] Go.wp_at_zero Go.wp_at_succ

set_option maxRecDepth 100000 in
set_option maxHeartbeats 12800000 in
theorem bvalid_any (A : Option Addr) (n c : Nat) (l : List Fk) (w : World) (hr : Reads w w.heap.size 2 A n (fkc l)) (hn : n ≤ 5864062014805) :
  Calls Tryz.prog 136 #[.slice A n c] w fun e w' => e = .returned (.bool (mayF l)) ∧ Below w.heap.size w w' := by
 have HL := Lib.hid (fk_len hr)
 have HR := Lib.hid hr
 clear hr
 go_enter Tryz.func136, Tryz.ntmps136
 go_wp2_with fail
 go_loopw [3, 4, 7] (fun _ _ i wr => ∃ k : Nat, k ≤ n ∧ i = .int .i64 k ∧ Hid (∀ j, j < k → okAtF l j = true) ∧ Hid (Below w.heap.size w wr)) (fun _ _ i _ => n - (intOf i).toNat)
 case atStart => exact ⟨0, Nat.zero_le _, rfl, Lib.hid fun j hj => absurd hj (by omega), Lib.hid (Below.refl _ _)⟩
 case round =>
  obtain ⟨k, hk, rfl, HF, HB⟩ := hrel
  by_cases hlt : k < n
  ·obtain ⟨ad, x, rfl, _, hp, hx, hc⟩ := fk_at HR.out hlt
   obtain ⟨c0, c1⟩ := hc.below HB.out hp
   have hk0 : (0 : Int) ≤ k := by omega
   have hk1 : (k : Int) < n := by omega
   have HX := Lib.hid hx
   have hkl : k < l.length := by rw [HL.out]; exact hlt
   have HK := fun w => bkey_any x.nm w
   have HN := fun w => bnum_any x.rt w
   obtain ⟨w1, hw1⟩ : ∃ x1, x1 = wr.alloc (.cells #[.string x.nm, .int .u32 x.rt] 45) := ⟨_, rfl⟩
   have M := Lib.hid (show Blk w1 wr.heap.size 45 #[.string x.nm, .int .u32 x.rt] by rw [hw1]; exact Blk.new _ _ _)
   replace HB := Lib.hid (show Below w.heap.size w w1 by rw [hw1]; exact HB.out.alloc HB.out.size _)
   clear hx hc hp
   go_upto_region 4 with fail
   rw [← hw1]
   clear hw1 c0 c1
   generalize wr.heap.size = gM at *
   have m0 := M.out.cell 0
   have m1 := M.out.cell 1
   simp at m0 m1
   rcases hnm : keyF x.nm with _ | _
   ·have HE := Lib.hid (show mayF l = false by rw [mayF, allOkF_no hkl (by rw [okAtF_of HX.out, okFk, hnm]; rfl)]; rfl)
    rw [hnm] at HK
    clear hkl hnm
    go_quiet ((go_at_call 159; exact Calls.quiet_of_same (HK _)))
    go_wp2_with fail
    go_ret
    exact ⟨by rw [HE.out]; rfl, below_drewN HB.out _⟩
   rw [hnm] at HK
   rcases hnb : numB x.rt with _ | _
   ·have HE := Lib.hid (show mayF l = false by rw [mayF, allOkF_no hkl (by rw [okAtF_of HX.out, okFk, hnm, hnb]; rfl)]; rfl)
    rw [hnb] at HN
    clear hkl hnm hnb
    go_quiet (first | (go_at_call 159; exact Calls.quiet_of_same (HK _)) | (go_at_call 134; exact Calls.quiet_of_same (HN _)))
    go_wp2_with fail
    go_ret
    exact ⟨by rw [HE.out]; rfl, below_drewN HB.out _⟩
   rw [hnb] at HN
   have hok : okFk x = true := by rw [okFk, hnm, hnb]; rfl
   clear hnm hnb
   by_cases hk00 : k = 0
   ·have HE := Lib.hid (show okAtF l k = true by rw [okAtF_of HX.out, hok, hk00]; rfl)
    have hk3 : decide ((k : Int) > 0) = false := by simp; omega
    have hk4 : decide (0 < k) = false := by simp; omega
    clear hk00 hok hkl
    go_quiet (first | (go_at_call 159; exact Calls.quiet_of_same (HK _)) | (go_at_call 134; exact Calls.quiet_of_same (HN _)))
    go_wp2_with fail
    have HF' := Lib.hid (fun j (hj : j < k + 1) => show okAtF l j = true from by
     by_cases hjk : j < k
     ·exact HF.out j hjk
     ·have e : j = k := by omega
      rw [e]; exact HE.out)
    have HB' := Lib.hid (below_drewN HB.out nq)
    go_roundw
    case rel =>
     first
      | exact ⟨k + 1, by omega, by go_num, HF', HB'⟩
      | ((repeat apply Exists.intro); exact ⟨⟨k + 1, by omega, by go_num, HF', HB'⟩, rfl⟩)
    case measure => simp [intOf]; omega
   obtain ⟨j, hkj⟩ : ∃ j, k = j + 1 := ⟨k - 1, by omega⟩
   obtain ⟨ad', y, had, _, hpy, hy, hcy⟩ := fk_at HR.out (show j < n by omega)
   injection had with had
   subst had
   obtain ⟨y0, _⟩ := hcy.below HB.out hpy
   have hj1 : IntKind.i64.wrap ((k : Int) - 1) = (j : Int) := by rw [IntKind.wrap_i64]; omega
   have hj2 : (k : Int) - 1 = (j : Int) := by omega
   have hj5 : IntKind.i64.wrap (j : Int) = (j : Int) := by rw [IntKind.wrap_i64]; omega
   have hj3 : (0 : Int) ≤ j := by omega
   have hj4 : (j : Int) < n := by omega
   have hk3 : decide ((k : Int) > 0) = true := by simp; omega
   have hk4 : decide (0 < k) = true := by simp; omega
   have hat : okAtF l k = Op.bytesLess y.nm.toList x.nm.toList := by rw [okAtF_of HX.out, hok, hkj]; simp [hy]
   have hle : (Op.bytesLess x.nm.toList y.nm.toList || x.nm.toList == y.nm.toList) = !Op.bytesLess y.nm.toList x.nm.toList := leq_not _ _
   rcases hless : Op.bytesLess y.nm.toList x.nm.toList with _ | _
   ·have HE := Lib.hid (show mayF l = false by rw [mayF, allOkF_no hkl (by rw [hat, hless])]; rfl)
    rw [hless] at hle
    clear hat hkl hok hy hkj hk00 hcy
    go_quiet (first | (go_at_call 159; exact Calls.quiet_of_same (HK _)) | (go_at_call 134; exact Calls.quiet_of_same (HN _)))
    go_wp2_with fail
    go_ret
    exact ⟨by rw [HE.out]; rfl, below_drewN HB.out _⟩
   ·have HE := Lib.hid (show okAtF l k = true by rw [hat, hless])
    rw [hless] at hle
    clear hat hkl hok hy hkj hk00 hcy
    go_quiet (first | (go_at_call 159; exact Calls.quiet_of_same (HK _)) | (go_at_call 134; exact Calls.quiet_of_same (HN _)))
    clear hj1 hj2 hj5
    go_wp2_with fail
    have HF' := Lib.hid (fun j (hj : j < k + 1) => show okAtF l j = true from by
     by_cases hjk : j < k
     ·exact HF.out j hjk
     ·have e : j = k := by omega
      rw [e]; exact HE.out)
    have HB' := Lib.hid (below_drewN HB.out nq)
    go_roundw
    case rel =>
     first
      | exact ⟨k + 1, by omega, by go_num, HF', HB'⟩
      | ((repeat apply Exists.intro); exact ⟨⟨k + 1, by omega, by go_num, HF', HB'⟩, rfl⟩)
    case measure => simp [intOf]; omega
  ·obtain rfl : k = n := by omega
   have ha : allOkF l = true := allOkF_yes fun j hj => HF.out j (by rw [← HL.out]; exact hj)
   have HE := Lib.hid (show mayF l = decide (0 < k) by rw [mayF, ha, HL.out]; rfl)
   clear ha hlt
   go_wp2_with fail
   go_ret
   exact ⟨by rw [HE.out]; simp, HB.out⟩
end Go.Proofs.YtmmjckokjmpfpaaGreat

namespace Go.Proofs.YtmmjckokjmpfpaaGreat
open Go.RowKit
open Go.Lib hiding intOf
attribute [local go_sem ↓] Go.wp_at_zero Go.wp_at_succ

theorem grown_below' {w w' : World} {r : Option Nat} (h : Below w.heap.size w w') : w.grownBy w' r := ⟨h.os, h.tape, h.output, h.size, fun k hk _ => h.block k hk⟩
set_option maxHeartbeats 1600000 in
theorem bnumr_tot {w : World} {g : Nat} {t : ByteArray} (h : IsRd w g t) (k : Nat) (h1 : 1 ≤ k) (h2 : k ≤ 8) :
  Calls Tryz.prog 158 #[.agg #[.pointer (some ⟨g, 0, none⟩)], .int .i64 k] w fun e w' => w.grownBy w' (some g) ∧ ((∃ (v : Nat) (t' : ByteArray), e = .returned (.int .u64 v) ∧ IsRd w' g t' ∧ v < 2 ^ (8 * k) ∧ tookN k t v 0 t') ∨ (DiesB e ∧ t.size < k)) := by
 obtain ⟨w0, hw0⟩ : ∃ x, x = w.alloc (.cells #[.pointer (some ⟨g, 0, none⟩)] 192) := ⟨_, rfl⟩
 have Bx := Lib.hid (show Blk w0 w.heap.size 192 #[.pointer (some ⟨g, 0, none⟩)] by rw [hw0]; exact Blk.new _ _ _)
 have HF := Lib.hid (show IsRd w0 g t by rw [hw0]; exact Blk.alloc h _)
 have HG := Lib.hid (show w.grownBy w0 (some g) by rw [hw0]; exact World.grownBy_alloc _ _ _)
 clear h
 go_enter Tryz.func158, Tryz.ntmps158
 go_upto_region 1 with fail
 rw [← hw0]
 clear hw0
 have b0 := Bx.out.cell 0
 simp at b0
 by_cases hk : k ≤ t.size
 ·go_wp2_with fail
  refine (number_ok' HF.out k h1 h2 hk).mono ?_
  rintro e w1 ⟨rfl, hr, hg⟩
  have HR := Lib.hid hr
  have HG1 := Lib.hid (grown_trans HG.out hg)
  have HV := Lib.hid (show leNat (t.data.toList.take k) < 2 ^ (8 * k) by
   have h3 := leNat_lt (t.data.toList.take k)
   have h4 : (t.data.toList.take k).length ≤ k := by rw [List.length_take]; omega
   exact Nat.lt_of_lt_of_le h3 (Nat.pow_le_pow_right (by omega) (by omega)))
  obtain ⟨v, hv⟩ : ∃ v, v = leNat (t.data.toList.take k) := ⟨_, rfl⟩
  rw [← hv] at HV ⊢
  have HVe := Lib.hid hv
  clear hv hr hg
  go_wp2_with (go_at_call 118; refine (bneed_yes _).mono ?_; rintro e w' ⟨rfl, rfl⟩)
  go_ret
  exact ⟨HG1.out, .inl ⟨_, _, rfl, HR.out, HV.out, .inl ⟨hk, rfl, HVe.out, rfl⟩⟩⟩
 ·go_wp2_with fail
  refine (number_more HF.out k (by omega) (by omega) (by omega)).mono ?_
  rintro e w1 ⟨rfl, rfl⟩
  go_wp2_with fail
  refine (bneed_no _).mono ?_
  rintro e w' ⟨rfl, rfl⟩
  exact ⟨rfl, HG.out, .inr ⟨rfl, by omega⟩⟩
set_option maxHeartbeats 1600000 in
theorem btext_tot {w : World} {g : Nat} {t : ByteArray} (h : IsRd w g t) (k : Nat) (hs : t.size ≤ 100000) :
  Calls Tryz.prog 157 #[.agg #[.pointer (some ⟨g, 0, none⟩)], .int .i64 k] w fun e w' => w.grownBy w' (some g) ∧ ((∃ v t' : ByteArray, e = .returned (.string v) ∧ IsRd w' g t' ∧ tookB k t v 0 t') ∨ (DiesB e ∧ t.size < k)) := by
 obtain ⟨w0, hw0⟩ : ∃ x, x = w.alloc (.cells #[.pointer (some ⟨g, 0, none⟩)] 192) := ⟨_, rfl⟩
 have Bx := Lib.hid (show Blk w0 w.heap.size 192 #[.pointer (some ⟨g, 0, none⟩)] by rw [hw0]; exact Blk.new _ _ _)
 have HF := Lib.hid (show IsRd w0 g t by rw [hw0]; exact Blk.alloc h _)
 have HG := Lib.hid (show w.grownBy w0 (some g) by rw [hw0]; exact World.grownBy_alloc _ _ _)
 clear h
 go_enter Tryz.func157, Tryz.ntmps157
 go_upto_region 1 with fail
 rw [← hw0]
 clear hw0
 have b0 := Bx.out.cell 0
 simp at b0
 by_cases hk : k ≤ t.size
 ·go_wp2_with fail
  refine (bytes_ok' HF.out k hk).mono ?_
  rintro e w1 ⟨rfl, hr, hg⟩
  have HR := Lib.hid hr
  have HG1 := Lib.hid (grown_trans HG.out hg)
  obtain ⟨v, hv⟩ : ∃ v, v = t.extract 0 k := ⟨_, rfl⟩
  have hvs : v.size ≤ 281474976710656 := by rw [hv, ByteArray.size_extract]; omega
  rw [← hv]
  have HVe := Lib.hid hv
  clear hv hr hg
  go_wp2_with (go_at_call 118; refine (bneed_yes _).mono ?_; rintro e w' ⟨rfl, rfl⟩)
  refine (sclone_any v _ hvs).mono ?_
  rintro e w2 ⟨rfl, hb⟩
  replace HR := Lib.hid (HR.out.below hb HR.out.lt)
  replace HG1 := Lib.hid (grown_trans HG1.out (grown_below' hb))
  clear hb
  go_wp2_with fail
  go_ret
  exact ⟨HG1.out, .inl ⟨_, _, rfl, HR.out, .inl ⟨hk, rfl, HVe.out, rfl⟩⟩⟩
 ·go_wp2_with fail
  refine (bytes_more HF.out k (by omega)).mono ?_
  rintro e w1 ⟨rfl, rfl⟩
  go_wp2_with fail
  refine (bneed_no _).mono ?_
  rintro e w' ⟨rfl, rfl⟩
  exact ⟨rfl, HG.out, .inr ⟨rfl, by omega⟩⟩
end Go.Proofs.YtmmjckokjmpfpaaGreat

