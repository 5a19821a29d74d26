/-
  Contract of the reference's Page of layer 7: the page of forks.
-/
import Derived.Test.YtddnfmdplkmmdaaFkParse
import Derived.Test.YtddnfmdplkmmdaaRef7Valid
import Derived.Test.YtddnfmdplkmmdaaRef4Body
import Derived.Lib.AppendStr
import Derived.Deep.CutRange
namespace Go.Proofs.Ytddnfmdplkmmdaa
open Go.RowKit
open Go.Lib hiding intOf
set_option linter.unusedVariables false
set_option linter.unusedSimpArgs false
attribute [local go_sem ↓] Go.wp_at_zero Go.wp_at_succ

set_option maxRecDepth 100000 in
set_option maxHeartbeats 6400000 in
theorem rpage7_no0 (size : Int) (n tx : Nat) (A : Option Addr) (m c : Nat) (l : List Fk) (w : World) (hr : Reads w w.heap.size 2 A m (fkc l)) (hm : m ≤ 5864062014805) (hsz : sizeF l ≤ 9007199254740992) (hg : goodSize size = false) :
    Calls Try.prog 18 #[.int .i64 size, .int .u32 n, .int .u64 tx, .slice A m c] w fun e w' => e = .returned (.tuple #[.agg #[.int .i64 0, .int .i64 0, .int .u32 0, .int .u32 0, .int .u64 0, .string ByteArray.empty], .int .i64 2]) ∧ Below w.heap.size w w' := by
  have HMay := fun (w' : World) (hb : Below w.heap.size w w') => rmay7_any A m c l w' ((hr.below hb).more hb.size) hm
  have HSz := fun (w' : World) (hb : Below w.heap.size w w') => rsize7_any A m c l w' ((hr.below hb).more hb.size) (by unfold maxLen; omega) hsz
  have HN := fun w => rnumB_any n w
  have HG : ∀ w, Calls Try.prog 34 #[.int .i64 size] w fun e w' => e = .returned (.bool (goodSize size)) ∧ w' = w := fun w => (rgood_any size w).mono fun _ _ ⟨a, b⟩ => ⟨a, b.symm⟩
  rw [hg] at HG
  obtain ⟨hzp, hi⟩ := zero_of_info infoPg
  have HI := Lib.hid hi
  clear hi hr hsz hm
  obtain ⟨w0, hw0⟩ : ∃ x, x = w.alloc (.cells #[.int .i64 0, .int .i64 0, .int .u32 0, .int .u32 0, .int .u64 0, .string ByteArray.empty] 26) := ⟨_, rfl⟩
  have R0 := Lib.hid (show Blk w0 w.heap.size 26 #[.int .i64 0, .int .i64 0, .int .u32 0, .int .u32 0, .int .u64 0, .string ByteArray.empty] by rw [hw0]; exact Blk.new _ _ _)
  have HB := Lib.hid (show Below w.heap.size w w0 by rw [hw0]; exact (Below.refl _ _).alloc (Nat.le_refl _) _)
  go_enter Try.func18, Try.ntmps18
  go_wp2_with fail
  rw [← hw0]
  clear hw0
  refine (HG _).mono ?_
  rintro e w' ⟨rfl, rfl⟩
  have k0 := R0.out.cell 0
  have k1 := R0.out.cell 1
  have k2 := R0.out.cell 2
  have k3 := R0.out.cell 3
  have k4 := R0.out.cell 4
  have k5 := R0.out.cell 5
  have f0 := R0.out.frozen 0
  have f1 := R0.out.frozen 1
  have f2 := R0.out.frozen 2
  have f3 := R0.out.frozen 3
  have f4 := R0.out.frozen 4
  have f5 := R0.out.frozen 5
  simp at k0 k1 k2 k3 k4 k5
  go_wp2_with fail
  exact bodyPost_ret (read_row rfl _ _ _ w.heap.size #[.int .i64 0, .int .i64 0, .int .u32 0, .int .u32 0, .int .u64 0, .string ByteArray.empty] rfl (load_page (six_at R0.out))) rfl ⟨rfl, six_below HB.out (Nat.le_refl _)⟩
set_option maxRecDepth 100000 in
set_option maxHeartbeats 6400000 in
theorem rpage7_no1 (size : Int) (n tx : Nat) (A : Option Addr) (m c : Nat) (l : List Fk) (w : World) (hr : Reads w w.heap.size 2 A m (fkc l)) (hm : m ≤ 5864062014805) (hsz : sizeF l ≤ 9007199254740992) (hg : goodSize size = true) (hmay : mayF l = false) :
    Calls Try.prog 18 #[.int .i64 size, .int .u32 n, .int .u64 tx, .slice A m c] w fun e w' => e = .returned (.tuple #[.agg #[.int .i64 0, .int .i64 0, .int .u32 0, .int .u32 0, .int .u64 0, .string ByteArray.empty], .int .i64 2]) ∧ Below w.heap.size w w' := by
  have HMay := fun (w' : World) (hb : Below w.heap.size w w') => rmay7_any A m c l w' ((hr.below hb).more hb.size) hm
  have HSz := fun (w' : World) (hb : Below w.heap.size w w') => rsize7_any A m c l w' ((hr.below hb).more hb.size) (by unfold maxLen; omega) hsz
  have HN := fun w => rnumB_any n w
  have HG : ∀ w, Calls Try.prog 34 #[.int .i64 size] w fun e w' => e = .returned (.bool (goodSize size)) ∧ w' = w := fun w => (rgood_any size w).mono fun _ _ ⟨a, b⟩ => ⟨a, b.symm⟩
  rw [hg] at HG
  rw [hmay] at HMay
  obtain ⟨hzp, hi⟩ := zero_of_info infoPg
  have HI := Lib.hid hi
  clear hi hr hsz hm
  obtain ⟨w0, hw0⟩ : ∃ x, x = w.alloc (.cells #[.int .i64 0, .int .i64 0, .int .u32 0, .int .u32 0, .int .u64 0, .string ByteArray.empty] 26) := ⟨_, rfl⟩
  have R0 := Lib.hid (show Blk w0 w.heap.size 26 #[.int .i64 0, .int .i64 0, .int .u32 0, .int .u32 0, .int .u64 0, .string ByteArray.empty] by rw [hw0]; exact Blk.new _ _ _)
  have HB := Lib.hid (show Below w.heap.size w w0 by rw [hw0]; exact (Below.refl _ _).alloc (Nat.le_refl _) _)
  go_enter Try.func18, Try.ntmps18
  go_wp2_with fail
  rw [← hw0]
  clear hw0
  refine (HG _).mono ?_
  rintro e w' ⟨rfl, rfl⟩
  go_wp2_with fail
  refine (HMay _ HB.out).mono ?_
  rintro e w1 ⟨rfl, hb⟩
  replace R0 := Lib.hid (R0.out.below hb R0.out.lt)
  replace HB := Lib.hid (HB.out.trans (hb.mono HB.out.size))
  clear hb
  have k0 := R0.out.cell 0
  have k1 := R0.out.cell 1
  have k2 := R0.out.cell 2
  have k3 := R0.out.cell 3
  have k4 := R0.out.cell 4
  have k5 := R0.out.cell 5
  have f0 := R0.out.frozen 0
  have f1 := R0.out.frozen 1
  have f2 := R0.out.frozen 2
  have f3 := R0.out.frozen 3
  have f4 := R0.out.frozen 4
  have f5 := R0.out.frozen 5
  simp at k0 k1 k2 k3 k4 k5
  go_wp2_with fail
  exact bodyPost_ret (read_row rfl _ _ _ w.heap.size #[.int .i64 0, .int .i64 0, .int .u32 0, .int .u32 0, .int .u64 0, .string ByteArray.empty] rfl (load_page (six_at R0.out))) rfl ⟨rfl, six_below HB.out (Nat.le_refl _)⟩
set_option maxRecDepth 100000 in
set_option maxHeartbeats 6400000 in
theorem rpage7_no2 (size : Int) (n tx : Nat) (A : Option Addr) (m c : Nat) (l : List Fk) (w : World) (hr : Reads w w.heap.size 2 A m (fkc l)) (hm : m ≤ 5864062014805) (hsz : sizeF l ≤ 9007199254740992) (hg : goodSize size = true) (hmay : mayF l = true) (hroom : ¬ (sizeF l : Int) ≤ size - 24) :
    Calls Try.prog 18 #[.int .i64 size, .int .u32 n, .int .u64 tx, .slice A m c] w fun e w' => e = .returned (.tuple #[.agg #[.int .i64 0, .int .i64 0, .int .u32 0, .int .u32 0, .int .u64 0, .string ByteArray.empty], .int .i64 2]) ∧ Below w.heap.size w w' := by
  have HMay := fun (w' : World) (hb : Below w.heap.size w w') => rmay7_any A m c l w' ((hr.below hb).more hb.size) hm
  have HSz := fun (w' : World) (hb : Below w.heap.size w w') => rsize7_any A m c l w' ((hr.below hb).more hb.size) (by unfold maxLen; omega) hsz
  have HN := fun w => rnumB_any n w
  have HG : ∀ w, Calls Try.prog 34 #[.int .i64 size] w fun e w' => e = .returned (.bool (goodSize size)) ∧ w' = w := fun w => (rgood_any size w).mono fun _ _ ⟨a, b⟩ => ⟨a, b.symm⟩
  rw [hg] at HG
  rw [hmay] at HMay
  have HM := fun w => rroom_is size w hg
  obtain ⟨z, rfl, hz1, hz2, _⟩ := good_nat hg
  obtain ⟨s, hs⟩ : ∃ s, s = sizeF l := ⟨_, rfl⟩
  rw [← hs] at HSz hroom
  clear hs
  have hd : decide ((z : Int) - 24 < (s : Int)) = true := by simp; omega
  obtain ⟨hzp, hi⟩ := zero_of_info infoPg
  have HI := Lib.hid hi
  clear hi hr hsz hm hroom
  obtain ⟨w0, hw0⟩ : ∃ x, x = w.alloc (.cells #[.int .i64 0, .int .i64 0, .int .u32 0, .int .u32 0, .int .u64 0, .string ByteArray.empty] 26) := ⟨_, rfl⟩
  have R0 := Lib.hid (show Blk w0 w.heap.size 26 #[.int .i64 0, .int .i64 0, .int .u32 0, .int .u32 0, .int .u64 0, .string ByteArray.empty] by rw [hw0]; exact Blk.new _ _ _)
  have HB := Lib.hid (show Below w.heap.size w w0 by rw [hw0]; exact (Below.refl _ _).alloc (Nat.le_refl _) _)
  go_enter Try.func18, Try.ntmps18
  go_wp2_with fail
  rw [← hw0]
  clear hw0
  refine (HG _).mono ?_
  rintro e w' ⟨rfl, rfl⟩
  go_wp2_with fail
  refine (HMay _ HB.out).mono ?_
  rintro e w1 ⟨rfl, hb⟩
  replace R0 := Lib.hid (R0.out.below hb R0.out.lt)
  replace HB := Lib.hid (HB.out.trans (hb.mono HB.out.size))
  clear hb
  go_wp2_with fail
  refine (HSz _ HB.out).mono ?_
  rintro e w2 ⟨rfl, hb⟩
  replace R0 := Lib.hid (R0.out.below hb R0.out.lt)
  replace HB := Lib.hid (HB.out.trans (hb.mono HB.out.size))
  clear hb
  go_wp2_with fail
  refine (HM _).mono ?_
  rintro e w' ⟨rfl, rfl⟩
  have k0 := R0.out.cell 0
  have k1 := R0.out.cell 1
  have k2 := R0.out.cell 2
  have k3 := R0.out.cell 3
  have k4 := R0.out.cell 4
  have k5 := R0.out.cell 5
  have f0 := R0.out.frozen 0
  have f1 := R0.out.frozen 1
  have f2 := R0.out.frozen 2
  have f3 := R0.out.frozen 3
  have f4 := R0.out.frozen 4
  have f5 := R0.out.frozen 5
  simp at k0 k1 k2 k3 k4 k5
  go_wp2_with fail
  exact bodyPost_ret (read_row rfl _ _ _ w.heap.size #[.int .i64 0, .int .i64 0, .int .u32 0, .int .u32 0, .int .u64 0, .string ByteArray.empty] rfl (load_page (six_at R0.out))) rfl ⟨rfl, six_below HB.out (Nat.le_refl _)⟩
set_option maxRecDepth 100000 in
set_option maxHeartbeats 6400000 in
theorem rpage7_no3 (size : Int) (n tx : Nat) (A : Option Addr) (m c : Nat) (l : List Fk) (w : World) (hr : Reads w w.heap.size 2 A m (fkc l)) (hm : m ≤ 5864062014805) (hsz : sizeF l ≤ 9007199254740992) (hg : goodSize size = true) (hmay : mayF l = true) (hroom : (sizeF l : Int) ≤ size - 24) (hn : numB n = false) :
    Calls Try.prog 18 #[.int .i64 size, .int .u32 n, .int .u64 tx, .slice A m c] w fun e w' => e = .returned (.tuple #[.agg #[.int .i64 0, .int .i64 0, .int .u32 0, .int .u32 0, .int .u64 0, .string ByteArray.empty], .int .i64 2]) ∧ Below w.heap.size w w' := by
  have HMay := fun (w' : World) (hb : Below w.heap.size w w') => rmay7_any A m c l w' ((hr.below hb).more hb.size) hm
  have HSz := fun (w' : World) (hb : Below w.heap.size w w') => rsize7_any A m c l w' ((hr.below hb).more hb.size) (by unfold maxLen; omega) hsz
  have HN := fun w => rnumB_any n w
  have HG : ∀ w, Calls Try.prog 34 #[.int .i64 size] w fun e w' => e = .returned (.bool (goodSize size)) ∧ w' = w := fun w => (rgood_any size w).mono fun _ _ ⟨a, b⟩ => ⟨a, b.symm⟩
  rw [hg] at HG
  rw [hmay] at HMay
  have HM := fun w => rroom_is size w hg
  obtain ⟨z, rfl, hz1, hz2, _⟩ := good_nat hg
  obtain ⟨s, hs⟩ : ∃ s, s = sizeF l := ⟨_, rfl⟩
  rw [← hs] at HSz hroom
  clear hs
  have hd : decide ((z : Int) - 24 < (s : Int)) = false := by simp; omega
  rw [hn] at HN
  obtain ⟨hzp, hi⟩ := zero_of_info infoPg
  have HI := Lib.hid hi
  clear hi hr hsz hm hroom
  obtain ⟨w0, hw0⟩ : ∃ x, x = w.alloc (.cells #[.int .i64 0, .int .i64 0, .int .u32 0, .int .u32 0, .int .u64 0, .string ByteArray.empty] 26) := ⟨_, rfl⟩
  have R0 := Lib.hid (show Blk w0 w.heap.size 26 #[.int .i64 0, .int .i64 0, .int .u32 0, .int .u32 0, .int .u64 0, .string ByteArray.empty] by rw [hw0]; exact Blk.new _ _ _)
  have HB := Lib.hid (show Below w.heap.size w w0 by rw [hw0]; exact (Below.refl _ _).alloc (Nat.le_refl _) _)
  go_enter Try.func18, Try.ntmps18
  go_wp2_with fail
  rw [← hw0]
  clear hw0
  refine (HG _).mono ?_
  rintro e w' ⟨rfl, rfl⟩
  go_wp2_with fail
  refine (HMay _ HB.out).mono ?_
  rintro e w1 ⟨rfl, hb⟩
  replace R0 := Lib.hid (R0.out.below hb R0.out.lt)
  replace HB := Lib.hid (HB.out.trans (hb.mono HB.out.size))
  clear hb
  go_wp2_with fail
  refine (HSz _ HB.out).mono ?_
  rintro e w2 ⟨rfl, hb⟩
  replace R0 := Lib.hid (R0.out.below hb R0.out.lt)
  replace HB := Lib.hid (HB.out.trans (hb.mono HB.out.size))
  clear hb
  go_wp2_with fail
  refine (HM _).mono ?_
  rintro e w' ⟨rfl, rfl⟩
  go_wp2_with fail
  refine (HN _).mono ?_
  rintro e w' ⟨rfl, rfl⟩
  have k0 := R0.out.cell 0
  have k1 := R0.out.cell 1
  have k2 := R0.out.cell 2
  have k3 := R0.out.cell 3
  have k4 := R0.out.cell 4
  have k5 := R0.out.cell 5
  have f0 := R0.out.frozen 0
  have f1 := R0.out.frozen 1
  have f2 := R0.out.frozen 2
  have f3 := R0.out.frozen 3
  have f4 := R0.out.frozen 4
  have f5 := R0.out.frozen 5
  simp at k0 k1 k2 k3 k4 k5
  go_wp2_with fail
  exact bodyPost_ret (read_row rfl _ _ _ w.heap.size #[.int .i64 0, .int .i64 0, .int .u32 0, .int .u32 0, .int .u64 0, .string ByteArray.empty] rfl (load_page (six_at R0.out))) rfl ⟨rfl, six_below HB.out (Nat.le_refl _)⟩
set_option maxRecDepth 100000 in
set_option maxHeartbeats 6400000 in
theorem rpage7_no4 (size : Int) (n tx : Nat) (A : Option Addr) (m c : Nat) (l : List Fk) (w : World) (hr : Reads w w.heap.size 2 A m (fkc l)) (hm : m ≤ 5864062014805) (hsz : sizeF l ≤ 9007199254740992) (hg : goodSize size = true) (hmay : mayF l = true) (hroom : (sizeF l : Int) ≤ size - 24) (hn : numB n = true) (htx : ¬ tx ≤ 4611686018427387904) :
    Calls Try.prog 18 #[.int .i64 size, .int .u32 n, .int .u64 tx, .slice A m c] w fun e w' => e = .returned (.tuple #[.agg #[.int .i64 0, .int .i64 0, .int .u32 0, .int .u32 0, .int .u64 0, .string ByteArray.empty], .int .i64 2]) ∧ Below w.heap.size w w' := by
  have HMay := fun (w' : World) (hb : Below w.heap.size w w') => rmay7_any A m c l w' ((hr.below hb).more hb.size) hm
  have HSz := fun (w' : World) (hb : Below w.heap.size w w') => rsize7_any A m c l w' ((hr.below hb).more hb.size) (by unfold maxLen; omega) hsz
  have HN := fun w => rnumB_any n w
  have HG : ∀ w, Calls Try.prog 34 #[.int .i64 size] w fun e w' => e = .returned (.bool (goodSize size)) ∧ w' = w := fun w => (rgood_any size w).mono fun _ _ ⟨a, b⟩ => ⟨a, b.symm⟩
  rw [hg] at HG
  rw [hmay] at HMay
  have HM := fun w => rroom_is size w hg
  obtain ⟨z, rfl, hz1, hz2, _⟩ := good_nat hg
  obtain ⟨s, hs⟩ : ∃ s, s = sizeF l := ⟨_, rfl⟩
  rw [← hs] at HSz hroom
  clear hs
  have hd : decide ((z : Int) - 24 < (s : Int)) = false := by simp; omega
  rw [hn] at HN
  have hd2 : decide ((4611686018427387904 : Int) < tx) = true := by simp; omega
  obtain ⟨hzp, hi⟩ := zero_of_info infoPg
  have HI := Lib.hid hi
  clear hi hr hsz hm hroom htx
  obtain ⟨w0, hw0⟩ : ∃ x, x = w.alloc (.cells #[.int .i64 0, .int .i64 0, .int .u32 0, .int .u32 0, .int .u64 0, .string ByteArray.empty] 26) := ⟨_, rfl⟩
  have R0 := Lib.hid (show Blk w0 w.heap.size 26 #[.int .i64 0, .int .i64 0, .int .u32 0, .int .u32 0, .int .u64 0, .string ByteArray.empty] by rw [hw0]; exact Blk.new _ _ _)
  have HB := Lib.hid (show Below w.heap.size w w0 by rw [hw0]; exact (Below.refl _ _).alloc (Nat.le_refl _) _)
  go_enter Try.func18, Try.ntmps18
  go_wp2_with fail
  rw [← hw0]
  clear hw0
  refine (HG _).mono ?_
  rintro e w' ⟨rfl, rfl⟩
  go_wp2_with fail
  refine (HMay _ HB.out).mono ?_
  rintro e w1 ⟨rfl, hb⟩
  replace R0 := Lib.hid (R0.out.below hb R0.out.lt)
  replace HB := Lib.hid (HB.out.trans (hb.mono HB.out.size))
  clear hb
  go_wp2_with fail
  refine (HSz _ HB.out).mono ?_
  rintro e w2 ⟨rfl, hb⟩
  replace R0 := Lib.hid (R0.out.below hb R0.out.lt)
  replace HB := Lib.hid (HB.out.trans (hb.mono HB.out.size))
  clear hb
  go_wp2_with fail
  refine (HM _).mono ?_
  rintro e w' ⟨rfl, rfl⟩
  go_wp2_with fail
  refine (HN _).mono ?_
  rintro e w' ⟨rfl, rfl⟩
  have k0 := R0.out.cell 0
  have k1 := R0.out.cell 1
  have k2 := R0.out.cell 2
  have k3 := R0.out.cell 3
  have k4 := R0.out.cell 4
  have k5 := R0.out.cell 5
  have f0 := R0.out.frozen 0
  have f1 := R0.out.frozen 1
  have f2 := R0.out.frozen 2
  have f3 := R0.out.frozen 3
  have f4 := R0.out.frozen 4
  have f5 := R0.out.frozen 5
  simp at k0 k1 k2 k3 k4 k5
  go_wp2_with fail
  exact bodyPost_ret (read_row rfl _ _ _ w.heap.size #[.int .i64 0, .int .i64 0, .int .u32 0, .int .u32 0, .int .u64 0, .string ByteArray.empty] rfl (load_page (six_at R0.out))) rfl ⟨rfl, six_below HB.out (Nat.le_refl _)⟩
theorem rpage7_no (size : Int) (n tx : Nat) (A : Option Addr) (m c : Nat) (l : List Fk) (w : World) (hr : Reads w w.heap.size 2 A m (fkc l)) (hm : m ≤ 5864062014805) (hsz : sizeF l ≤ 9007199254740992) (h : mayP7 size n tx l = false) :
    Calls Try.prog 18 #[.int .i64 size, .int .u32 n, .int .u64 tx, .slice A m c] w fun e w' => e = .returned (.tuple #[.agg #[.int .i64 0, .int .i64 0, .int .u32 0, .int .u32 0, .int .u64 0, .string ByteArray.empty], .int .i64 2]) ∧ Below w.heap.size w w' := by
  rcases hg : goodSize size with _ | _
  · exact rpage7_no0 size n tx A m c l w hr hm hsz hg
  rcases hmay : mayF l with _ | _
  · exact rpage7_no1 size n tx A m c l w hr hm hsz hg hmay
  by_cases hroom : (sizeF l : Int) ≤ size - 24
  · rcases hn : numB n with _ | _
    · exact rpage7_no3 size n tx A m c l w hr hm hsz hg hmay hroom hn
    · by_cases htx : tx ≤ 4611686018427387904
      · exfalso
        rw [mayP7, hg, hmay, hn] at h
        simp [hroom, htx] at h
      · exact rpage7_no4 size n tx A m c l w hr hm hsz hg hmay hroom hn htx
  · exact rpage7_no2 size n tx A m c l w hr hm hsz hg hmay hroom
set_option maxRecDepth 100000 in
set_option maxHeartbeats 12800000 in
theorem rpage7_yes (z n tx : Nat) (A : Option Addr) (m c : Nat) (l : List Fk) (w : World) (hr : Reads w w.heap.size 2 A m (fkc l)) (hm : m ≤ 5864062014805) (h : mayP7 z n tx l = true) :
    Calls Try.prog 18 #[.int .i64 z, .int .u32 n, .int .u64 tx, .slice A m c] w fun e w' => e = .returned (.tuple #[.agg #[.int .i64 3, .int .i64 m, .int .u32 n, .int .u32 0, .int .u64 tx, .string (forkBody z l)], .int .i64 0]) ∧ Below w.heap.size w w' := by
  obtain ⟨hall, hl0, hg, hroom, hnb, htx⟩ := mayP7_parts h
  have hmay : mayF l = true := by rw [mayF, hall, decide_eq_true hl0]; rfl
  have hm2 : m ≤ 1000 := by
    have h1 := five_le l
    rw [fk_len hr] at h1
    have h2 := good_pos hg
    omega
  have hnb' : numB n = true := by simp [numB, hnb]
  have HMay := fun (w' : World) (hb : Below w.heap.size w w') => rmay7_any A m c l w' ((hr.below hb).more hb.size) hm
  rw [hmay] at HMay
  have hgz := good_pos hg
  have HSz := fun (w' : World) (hb : Below w.heap.size w w') => rsize7_any A m c l w' ((hr.below hb).more hb.size) (by unfold maxLen; omega) (by omega)
  have HGd : ∀ w, Calls Try.prog 34 #[.int .i64 z] w fun e w' => e = .returned (.bool true) ∧ w' = w := fun w => by
    have h := rgood_any z w
    rw [hg] at h
    exact h.mono fun _ _ ⟨a, b⟩ => ⟨a, b.symm⟩
  have HM := fun w => rroom_is z w hg
  have HN := fun w => rnumB_any n w
  rw [hnb'] at HN
  have hd : decide ((4611686018427387904 : Int) < tx) = false := by simp; omega
  have hd2 : decide ((z : Int) - 24 < (sizeF l : Int)) = false := by simp; omega
  have HALL := Lib.hid hall
  have HL := Lib.hid (fk_len hr)
  have HR := Lib.hid hr
  have HG := Lib.hid hg
  have HRoom := Lib.hid hroom.1
  obtain ⟨i0, hi0, hz0, hz1, hz2⟩ := info_parts infoU8
  obtain ⟨hz, hi⟩ := zero_of_info infoPg
  have HI := Lib.hid hi
  clear hi hr hall hg hnb hnb' htx hroom hmay h hgz hl0
  obtain ⟨w0, hw0⟩ : ∃ x, x = w.alloc (.cells #[.int .i64 0, .int .i64 0, .int .u32 0, .int .u32 0, .int .u64 0, .string ByteArray.empty] 26) := ⟨_, rfl⟩
  have R0 := Lib.hid (show Blk w0 w.heap.size 26 #[.int .i64 0, .int .i64 0, .int .u32 0, .int .u32 0, .int .u64 0, .string ByteArray.empty] by rw [hw0]; exact Blk.new _ _ _)
  have HB := Lib.hid (show Below w.heap.size w w0 by rw [hw0]; exact (Below.refl _ _).alloc (Nat.le_refl _) _)
  go_enter Try.func18, Try.ntmps18
  go_wp2_with fail
  rw [← hw0]
  clear hw0
  refine (HGd _).mono ?_
  rintro e w' ⟨rfl, rfl⟩
  go_wp2_with fail
  refine (HMay _ HB.out).mono ?_
  rintro e w1 ⟨rfl, hb⟩
  replace R0 := Lib.hid (R0.out.below hb R0.out.lt)
  replace HB := Lib.hid (HB.out.trans (hb.mono HB.out.size))
  clear hb
  go_wp2_with fail
  refine (HSz _ HB.out).mono ?_
  rintro e w2 ⟨rfl, hb⟩
  replace R0 := Lib.hid (R0.out.below hb R0.out.lt)
  replace HB := Lib.hid (HB.out.trans (hb.mono HB.out.size))
  clear hb
  go_wp2_with fail
  refine (HM _).mono ?_
  rintro e w' ⟨rfl, rfl⟩
  go_wp2_with fail
  refine (HN _).mono ?_
  rintro e w' ⟨rfl, rfl⟩
  go_wp2_with fail
  clear HN hd hd2 HM HSz HMay HGd
  go_loopw [10, 11] (fun b i wr => ∃ (k : Nat) (A' : Option Addr) (c' : Nat), k ≤ m ∧ i = .int .i64 k ∧ b = .slice A' (sizeF (l.take k)) c' ∧ Hid (Reads wr wr.heap.size 1 A' (sizeF (l.take k)) (bcells (bytesF (l.take k)))) ∧ Hid (Blk wr w.heap.size 26 #[.int .i64 0, .int .i64 0, .int .u32 0, .int .u32 0, .int .u64 0, .string ByteArray.empty]) ∧ Hid (Below w.heap.size w wr)) (fun _ i _ => m - (intOf i).toNat)
  case atStart => exact ⟨0, none, 0, Nat.zero_le _, rfl, rfl, Lib.hid Reads.none_, R0, HB⟩
  case round =>
    clear R0 HB
    obtain ⟨k, A', c', hk, rfl, rfl, HRd, R0, HB⟩ := hrel
    by_cases hlt : k < m
    · obtain ⟨ad, x, rfl, _, hp, hx, hc⟩ := fk_at HR.out hlt
      have hk0 : (0 : Int) ≤ k := by omega
      have hk1 : (k : Int) < m := by omega
      have hok := allOkF_ok HALL.out hx
      have hnm : x.nm.size ≤ 40 := by
        simp only [okFk, keyF, Bool.and_eq_true, decide_eq_true_eq] at hok
        exact hok.1
      have hrt : x.rt ≤ 2147483647 := by
        simp only [okFk, numB, Bool.and_eq_true, decide_eq_true_eq] at hok
        exact hok.2.2
      have hrt2 : (x.rt : Int) < 18446744073709551616 := by omega
      have hsz : sizeF (l.take k) ≤ 1000000 := by
        have h1 := sizeF_take_le l k
        have h2 := HRoom.out
        have h3 := good_pos HG.out
        omega
      have HX := Lib.hid hx
      have HC := Lib.hid (show FkAt w (ad.add (k * 2)) x from hc)
      have HP := Lib.hid hp
      obtain ⟨c0, _⟩ := HC.out.below HB.out HP.out
      have HR0lt := Lib.hid R0.out.lt
      clear hx hc hp hok
      go_wp2_with fail
      refine (rput_yes A' (sizeF (l.take k)) c' x.nm.size 1 (bytesF (l.take k)) _ HRd.out (by omega) (by decide) (by decide)).mono ?_
      rintro e w2 ⟨v2, rfl, hown2, hb⟩
      have hwr := HB.out.size
      have HB2 := Lib.hid (HB.out.trans (hb.mono HB.out.size))
      replace R0 := Lib.hid (R0.out.below hb R0.out.lt)
      have hb2s := hb.size
      obtain ⟨A2, c2, rfl, _, _, _⟩ := own_form hown2
      have HO2 := Lib.hid hown2
      obtain ⟨c0, _⟩ := HC.out.below HB2.out HP.out
      clear hb hown2
      go_upto_region 9 with (at_builtin; refine Lib.wpList_append_own_string _ rfl (.tmp 54) (.tmp 59) _ _ rfl wr.heap.size 5 i0 Try.underlying51 Try.underlying9 hi0 hz0 hz1 hz2 _ (sizeF (l.take k) + 1) _ rfl HO2.out x.nm rfl (by unfold maxLen; omega) (by omega) hb2s ?_; intro v3 w3 hown3 hg3 _)
      have hbg : Below w.heap.size w2 w3 := (Below.refl _ _).grown hg3 HB2.out.size (fun g hg => Nat.le_trans hwr (HO2.out.lt g hg).1)
      have HB3 := Lib.hid (HB2.out.trans hbg)
      have hR3 : Blk w3 w.heap.size 26 #[.int .i64 0, .int .i64 0, .int .u32 0, .int .u32 0, .int .u64 0, .string ByteArray.empty] := (hg3.block _ R0.out.lt (fun he => by
        have h1 := (HO2.out.lt _ he.symm).1
        have h2 := HR0lt.out
        omega)).trans R0.out
      have hown3' : w3.ownsRow wr.heap.size 5 1 v3 (sizeF (l.take k) + 1 + x.nm.size) (bcells (bytesF (l.take k) ++ leBytes 1 x.nm.size ++ x.nm.data.toList)) := by
        rw [bcells_append]; exact hown3
      obtain ⟨A3, c3, rfl, _, _, _⟩ := own_form hown3'
      have HRd3 := Lib.hid (Reads.of_own hown3')
      have HR3 := Lib.hid hR3
      obtain ⟨_, c1⟩ := HC.out.below HB3.out HP.out
      clear hown3 hown3' hg3 hbg hR3 HO2 HB2 R0 c0 HRd
      go_wp2_with fail
      refine (rput_yes A3 (sizeF (l.take k) + 1 + x.nm.size) c3 x.rt 4 (bytesF (l.take k) ++ leBytes 1 x.nm.size ++ x.nm.data.toList) _ HRd3.out (by omega) (by decide) (by decide)).mono ?_
      rintro e w4 ⟨v4, rfl, hown4, hb⟩
      have HB4 := Lib.hid (HB3.out.trans (hb.mono HB3.out.size))
      have HR4 := Lib.hid (HR3.out.below hb HR3.out.lt)
      obtain ⟨A4, c4, rfl, _, _, _⟩ := own_form hown4
      have HRd4 := Lib.hid (Reads.of_own hown4)
      clear hown4 hb HB3 HR3 HRd3 c1
      have hse := sizeF_take_succ HX.out
      have hby : bytesF (l.take k) ++ leBytes 1 x.nm.size ++ x.nm.data.toList ++ leBytes 4 x.rt = bytesF (l.take (k + 1)) := by
        rw [bytesF_take_succ HX.out, Fk.bytes]
        simp
      rw [hby, show sizeF (l.take k) + 1 + x.nm.size + 4 = sizeF (l.take (k + 1)) by omega] at HRd4
      have HSE := Lib.hid (show sizeF (l.take k) + 1 + x.nm.size + 4 = sizeF (l.take (k + 1)) by omega)
      clear hse hby
      go_wp2_with fail
      go_roundw
      case rel =>
        first
          | exact ⟨k + 1, A4, c4, by omega, by go_num, by rw [HSE.out], HRd4, HR4, HB4⟩
          | ((repeat apply Exists.intro); exact ⟨⟨k + 1, A4, c4, by omega, by go_num, by rw [HSE.out], HRd4, HR4, HB4⟩, rfl⟩)
      case measure => simp [intOf]; omega
    · obtain rfl : k = m := by omega
      have ht : l.take k = l := List.take_of_length_le (by rw [HL.out]; exact Nat.le_refl _)
      rw [ht] at HRd
      rw [ht]
      have hgp := good_pos HG.out
      have HBd := rbody_ok z A' (sizeF l) c' (bytesF l) (forkBody z l) wr HG.out HRd.out HRoom.out rfl
      have hk9 : (k : Int) ≤ 1000000 := by omega
      clear hgp hlt ht
      go_wp2_with fail
      refine HBd.mono ?_
      rintro e w2 ⟨rfl, hb⟩
      clear HBd
      replace R0 := Lib.hid (R0.out.below hb R0.out.lt)
      replace HB := Lib.hid (HB.out.trans (hb.mono HB.out.size))
      have k0 := R0.out.cell 0
      have k1 := R0.out.cell 1
      have k2 := R0.out.cell 2
      have k3 := R0.out.cell 3
      have k4 := R0.out.cell 4
      have k5 := R0.out.cell 5
      have f0 := R0.out.frozen 0
      have f1 := R0.out.frozen 1
      have f2 := R0.out.frozen 2
      have f3 := R0.out.frozen 3
      have f4 := R0.out.frozen 4
      have f5 := R0.out.frozen 5
      simp at k0 k1 k2 k3 k4 k5
      go_wp2_with fail
      exact bodyPost_ret (read_row rfl _ _ _ w.heap.size #[.int .i64 3, .int .i64 k, .int .u32 n, .int .u32 0, .int .u64 tx, .string (forkBody z l)] rfl (load_page (six_at R0.out))) rfl ⟨rfl, six_below HB.out (Nat.le_refl _)⟩
end Go.Proofs.Ytddnfmdplkmmdaa
