/-
  Texts that the main proof rests on, put together: Ref4Body, Ref4Use, PgRead. No statement is proved here.
-/
import Derived.Test.YtabhhccdbfjigaaGreatJ15
import Derived.Test.YtabhhccdbfjigaaGreatJ11
import Derived.Test.YtabhhccdbfjigaaGreatJ7
import Derived.Deep.RegionHeld3
import Derived.Deep.DrawnRows
import Derived.Test.YtabhhccdbfjigaaGreatJ16
import Derived.Test.YtabhhccdbfjigaaGreatJ13
import Derived.Test.YtabhhccdbfjigaaGreatJ12
namespace Go.Proofs.YtabhhccdbfjigaaGreat
open Go.RowKit
open Go.Lib
set_option linter.unusedVariables false
set_option linter.unusedSimpArgs false
attribute [local go_sem ↓] Go.wp_at_zero Go.wp_at_succ

theorem rbody_bad (size : Int) (A : Option Addr) (m c : Nat) (w : World) (hg : goodSize size = false) :
    Calls Tryz.prog 86 #[.int .i64 size, .slice A m c] w fun e w' => e = .returned (.tuple #[.string ⟨#[]⟩, .int .i64 2]) ∧ w = w' := by
  go_enter Tryz.func86, Tryz.ntmps86
  go_wp2_with fail
  refine (rgood_is size _ _ hg).mono ?_
  rintro e w' ⟨rfl, rfl⟩
  go_wp2_with fail
  go_ret2
  exact ⟨rfl, rfl⟩
theorem rbody_long (size : Int) (A : Option Addr) (m c : Nat) (w : World) (hg : goodSize size = true) (hm : size - 24 < m) :
    Calls Tryz.prog 86 #[.int .i64 size, .slice A m c] w fun e w' => e = .returned (.tuple #[.string ⟨#[]⟩, .int .i64 3]) ∧ w = w' := by
  have q : decide (size - 24 < (m : Int)) = true := by simpa using hm
  go_enter Tryz.func86, Tryz.ntmps86
  go_wp2_with fail
  refine (rgood_is size _ _ hg).mono ?_
  rintro e w' ⟨rfl, rfl⟩
  go_wp2_with fail
  refine (rroom_is size _ hg).mono ?_
  rintro e w' ⟨rfl, rfl⟩
  go_wp2_with fail
  go_ret2
  exact ⟨rfl, rfl⟩

set_option maxRecDepth 100000 in
set_option maxHeartbeats 1600000 in
theorem rbody_ok (size : Nat) (A : Option Addr) (m c : Nat) (l : List UInt8) (b : ByteArray) (w : World) (hg : goodSize size = true) (hr : Reads w w.heap.size 1 A m (bcells l)) (hm : m ≤ size - 24) (hb : b = ⟨(l ++ List.replicate (size - 24 - m) 0).toArray⟩) :
    Calls Tryz.prog 86 #[.int .i64 size, .slice A m c] w fun e w' => e = .returned (.tuple #[.string b, .int .i64 0]) ∧ Below w.heap.size w w' := by
  have hp := good_pos hg
  have hl : l.length = m := by have := hr.1; rw [bcells_length] at this; omega
  obtain ⟨r, hrm⟩ : ∃ r, r = size - 24 := ⟨_, rfl⟩
  obtain ⟨k, hk⟩ : ∃ k, k = r - m := ⟨_, rfl⟩
  have hR : ∀ w : World, Calls Tryz.prog 40 #[.int .i64 size] w fun e w' => e = .returned (.int .i64 (r : Int)) ∧ w' = w := fun w => by
    have := rroom_is size w hg
    rw [show (size : Int) - 24 = (r : Int) by omega] at this
    exact this
  have q : decide (r < m) = false := by simp; omega
  have q' : decide ((r : Int) < (m : Int)) = false := by simp; omega
  have wk : wrap64 ((r : Int) - (m : Int)) = (k : Int) := by unfold wrap64; omega
  have wk2 : (r : Int) - (m : Int) = (k : Int) := by omega
  have hk9 : k < 9223372036854775808 := by omega
  obtain ⟨i0, hi0, hz0, hz1, hz2⟩ := info_parts infoU8
  have hmk := fun w => run_make_bytes (P := Tryz.prog) 57 5 Tryz.underlying57 infoU8 k (by omega) w
  obtain ⟨X, hX⟩ : ∃ X : ByteArray, X = ⟨l.toArray⟩ := ⟨_, rfl⟩
  have hcv : ∀ w', Below w.heap.size w w' → (convert 57 9 (.slice A m c)).run Tryz.prog w' = .ok (.string X) w' := fun w' h => by
    rw [hX]; exact run_string_reads w' 57 9 5 c Tryz.underlying57 Tryz.underlying5 Tryz.underlying9 (hr.below h)
  obtain ⟨Z, hZ⟩ : ∃ Z : ByteArray, Z = zb k := ⟨_, rfl⟩
  have hzb : ∀ w : World, (convert 57 9 (.slice (some ⟨w.heap.size, 0, none⟩) k k)).run Tryz.prog (w.alloc (.cells (madeCells #[.int .u8 0] k) 5)).drew = .ok (.string Z) (w.alloc (.cells (madeCells #[.int .u8 0] k) 5)).drew := fun w => by
    rw [hZ]
    have h3 := (MRow.of_made w 5 k).drew.reads
    rw [List.length_replicate] at h3
    exact run_string_reads _ 57 9 5 k Tryz.underlying57 Tryz.underlying5 Tryz.underlying9 h3
  have cat : ¬ (9223372036854775807 < X.size + Z.size) := by
    have : X.size = m := by rw [← size_list, hX]; simpa using hl
    rw [this, hZ, zb_size]; omega
  have HC := Lib.hid (show X ++ Z = b by
    rw [hb, hX, hZ, hk, hrm]
    apply bytes_ext
    rw [ByteArray.data_append, Array.toList_append, zb_list])
  have wk3 := i64_nat k hk9
  have wk4 := wrap64_nat k hk9
  clear hr hm hp hl hrm hi0 hz0 hz1 hz2 hX hZ hb hk hk9
  go_enter Tryz.func86, Tryz.ntmps86
  go_wp2_with fail
  refine (rgood_is size _ _ hg).mono ?_
  rintro e w' ⟨rfl, rfl⟩
  go_wp2_with fail
  refine (hR _).mono ?_
  rintro e w2 ⟨rfl, rfl⟩
  go_wp2_with fail
  refine wp_region_held_drew (S := fun wx => (convert 57 9 (.slice A m c)).run Tryz.prog wx = .ok (.string X) wx) (by kernel_rfl) (hcv _ (Below.refl _ _).drew) (fun hHeld => ?_)
  refine wpAnyH_takeL (i := 0) (v := ?_) rfl (by kernel_rfl) (by kernel_rfl) (by kernel_rfl) (fun _ _ _ h => h) (Or.inl ⟨by rfl, ?_⟩) (by first | trivial | assumption) ?_
  rotate_left
  · intro wz hSz; (try dsimp only at hSz); go_simp; (try with_reducible rfl)
  try simp only [Act.put, List.setIfInBounds_toArray, List.set_cons_zero, List.set_cons_succ]
  refine wpAnyH_takeL (i := 1) (v := ?_) rfl (by kernel_rfl) (by kernel_rfl) (by kernel_rfl) (fun _ _ _ h => h) (Or.inl ⟨by rfl, ?_⟩) (by first | trivial | assumption) ?_
  rotate_left
  · intro wz hSz; (try dsimp only at hSz); go_simp; (try with_reducible rfl)
  try simp only [Act.put, List.setIfInBounds_toArray, List.set_cons_zero, List.set_cons_succ]
  refine wpAnyH_takeL (i := 2) (v := ?_) rfl (by kernel_rfl) (by kernel_rfl) (by kernel_rfl) (fun _ _ _ h => h) (Or.inl ⟨by rfl, ?_⟩) (by first | trivial | assumption) ?_
  rotate_left
  · intro wz hSz; (try dsimp only at hSz); go_simp; (try with_reducible rfl)
  try simp only [Act.put, List.setIfInBounds_toArray, List.set_cons_zero, List.set_cons_succ]
  refine wpAnyH_takeL (i := 4) (v := ?_) rfl (by kernel_rfl) (by kernel_rfl) (by kernel_rfl) (fun _ _ _ h => h) (Or.inl ⟨by rfl, ?_⟩) (by first | trivial | assumption) ?_
  rotate_left
  · intro wz hSz; (try dsimp only at hSz); go_simp; (try with_reducible rfl)
  try simp only [Act.put, List.setIfInBounds_toArray, List.set_cons_zero, List.set_cons_succ]
  refine wpAnyH_takeL (i := 5) (v := ?_) rfl (by kernel_rfl) (by kernel_rfl) (by kernel_rfl) (fun _ _ _ h => h) (Or.inl ⟨by rfl, ?_⟩) (by first | trivial | assumption) ?_
  rotate_left
  · intro wz hSz; (try dsimp only at hSz); go_simp; (try with_reducible rfl)
  try simp only [Act.put, List.setIfInBounds_toArray, List.set_cons_zero, List.set_cons_succ]
  refine wpAnyH_ready (rs := [3]) (by kernel_rfl) (by simp) ?_
  refine AllReadyH.consL rfl (fun K hK => ?_) AllReadyH.nil
  go_simp
  refine (hR _).mono ?_
  rintro e wq ⟨rfl, rfl⟩
  refine hK.out _ _ (hcv _ (Below.refl _ _).drew) (fun hHeld => ?_)
  clear hK K
  try simp only [Act.put, List.setIfInBounds_toArray, List.set_cons_zero, List.set_cons_succ]
  refine wpAnyH_takeL (i := 6) (v := ?_) rfl (by kernel_rfl) (by kernel_rfl) (by kernel_rfl) (fun _ _ _ h => h) (Or.inl ⟨by rfl, ?_⟩) (by first | trivial | assumption) ?_
  rotate_left
  · intro wz hSz; (try dsimp only at hSz); go_simp; (try with_reducible rfl)
  try simp only [Act.put, List.setIfInBounds_toArray, List.set_cons_zero, List.set_cons_succ]
  refine wpAnyH_ready (rs := [7]) (by kernel_rfl) (by simp) ?_
  refine AllReadyH.consL rfl (fun K hK => ?_) AllReadyH.nil
  go_simp
  refine hK.out _ _ (hcv _ ((Below.refl _ _).alloc (Nat.le_refl _) _).drew) (fun hHeld => ?_)
  clear hK K
  try simp only [Act.put, List.setIfInBounds_toArray, List.set_cons_zero, List.set_cons_succ]
  refine wpAnyH_ready (rs := [8]) (by kernel_rfl) (by simp) ?_
  refine AllReadyH.consL rfl (fun K hK => ?_) AllReadyH.nil
  go_simp
  refine hK.out _ _ (hcv _ ((Below.refl _ _).alloc (Nat.le_refl _) _).drew) (fun hHeld => ?_)
  clear hK K
  try simp only [Act.put, List.setIfInBounds_toArray, List.set_cons_zero, List.set_cons_succ]
  refine wpAnyH_takeL (i := 9) (v := ?_) rfl (by kernel_rfl) (by kernel_rfl) (by kernel_rfl) (fun _ _ _ h => h) (Or.inl ⟨by rfl, ?_⟩) (by first | trivial | assumption) ?_
  rotate_left
  · intro wz hSz; (try dsimp only at hSz); go_simp; (try with_reducible rfl)
  try simp only [Act.put, List.setIfInBounds_toArray, List.set_cons_zero, List.set_cons_succ]
  refine wpAnyH_takeL (i := 10) (v := ?_) rfl (by kernel_rfl) (by kernel_rfl) (by kernel_rfl) (fun _ _ _ h => h) (Or.inl ⟨by rfl, ?_⟩) (by first | trivial | assumption) ?_
  rotate_left
  · intro wz hSz; (try dsimp only at hSz); go_simp; (try with_reducible rfl)
  try simp only [Act.put, List.setIfInBounds_toArray, List.set_cons_zero, List.set_cons_succ]
  refine wpAnyH_takeL (i := 11) (v := ?_) rfl (by kernel_rfl) (by kernel_rfl) (by kernel_rfl) (fun _ _ _ h => h) (Or.inl ⟨by rfl, ?_⟩) (by first | trivial | assumption) ?_
  rotate_left
  · intro wz hSz; (try dsimp only at hSz); go_simp; (try with_reducible rfl)
  try simp only [Act.put, List.setIfInBounds_toArray, List.set_cons_zero, List.set_cons_succ]
  refine wpAnyH_done (by kernel_rfl) ?_ _
  go_wp2_with fail
  go_ret2
  exact ⟨by rw [← HC.out]; rfl, ((Below.refl _ _).alloc (Nat.le_refl _) _).drew⟩
end Go.Proofs.YtabhhccdbfjigaaGreat
namespace Go.Proofs.YtabhhccdbfjigaaGreat
open Go.RowKit
open Go.Lib
set_option linter.unusedVariables false
set_option linter.unusedSimpArgs false
attribute [local go_sem ↓] Go.wp_at_zero Go.wp_at_succ

theorem rget_right (size : Int) (n : Nat) (s : ByteArray) (w : World) (h : blockOk size n s = true) :
    Calls Tryz.prog 67 #[.int .i64 size, .int .u32 n, .string s] w fun e w' => e = .returned (.tuple #[.agg #[.int .i64 (numAt s 4 1), .int .i64 (numAt s 6 2), .int .u32 (numAt s 8 4), .int .u32 (numAt s 12 4), .int .u64 (numAt s 16 8), .string (s.extract 24 s.size)], .int .i64 0]) ∧ Below w.heap.size w w' := by
  simp only [blockOk, Bool.and_eq_true, decide_eq_true_eq] at h
  obtain ⟨h1, h2, h3, h4, h5⟩ := h
  have hg : goodSize size = true := by
    simp only [mayPg, Bool.and_eq_true] at h5
    exact h5.1
  obtain ⟨z, rfl, _, _, _⟩ := good_nat hg
  exact rget_4 z n s (numAt s 0 4) (numAt s 4 1) (numAt s 5 1) (numAt s 6 2) (numAt s 8 4) (numAt s 12 4) (numAt s 16 8) (s.extract 24 s.size) w hg (by omega) rfl rfl rfl rfl rfl rfl rfl rfl h5 h4 h3 h2.symm
theorem rget_wrong (size : Int) (n : Nat) (s : ByteArray) (w : World) (hg : goodSize size = true) (h : blockOk size n s = false) :
    Calls Tryz.prog 67 #[.int .i64 size, .int .u32 n, .string s] w fun e w' => e = .returned (.tuple #[.agg #[.int .i64 0, .int .i64 0, .int .u32 0, .int .u32 0, .int .u64 0, .string ByteArray.empty], .int .i64 4]) ∧ Below w.heap.size w w' := by
  by_cases h1 : (s.size : Int) = size
  case neg => exact rget_len size s n w hg h1
  obtain ⟨z, rfl, _, _, _⟩ := good_nat hg
  have hs : s.size = z := by omega
  rcases h5 : mayPg z (numAt s 4 1) (numAt s 6 2) (numAt s 8 4) (numAt s 12 4) (numAt s 16 8) (s.extract 24 s.size) with _ | _
  · exact rget_0 z n s (numAt s 0 4) (numAt s 4 1) (numAt s 5 1) (numAt s 6 2) (numAt s 8 4) (numAt s 12 4) (numAt s 16 8) (s.extract 24 s.size) w hg hs rfl rfl rfl rfl rfl rfl rfl rfl h5
  by_cases h4 : numAt s 8 4 = n
  case neg => exact rget_1 z n s (numAt s 0 4) (numAt s 4 1) (numAt s 5 1) (numAt s 6 2) (numAt s 8 4) (numAt s 12 4) (numAt s 16 8) (s.extract 24 s.size) w hg hs rfl rfl rfl rfl rfl rfl rfl rfl h5 h4
  by_cases h3 : numAt s 5 1 = 1
  case neg => exact rget_2 z n s (numAt s 0 4) (numAt s 4 1) (numAt s 5 1) (numAt s 6 2) (numAt s 8 4) (numAt s 12 4) (numAt s 16 8) (s.extract 24 s.size) w hg hs rfl rfl rfl rfl rfl rfl rfl rfl h5 h4 h3
  by_cases h2 : crcM 0 (List.drop 4 s.data.toList) = numAt s 0 4
  · rw [blockOk, h5] at h
    have h2' : leNat (List.take 4 s.data.toList) = crcM 0 (List.drop 4 s.data.toList) := h2.symm
    simp [h1, h2', h3, h4] at h
  · exact rget_3 z n s (numAt s 0 4) (numAt s 4 1) (numAt s 5 1) (numAt s 6 2) (numAt s 8 4) (numAt s 12 4) (numAt s 16 8) (s.extract 24 s.size) w hg hs rfl rfl rfl rfl rfl rfl rfl rfl h5 h4 h3 h2

theorem rpages_yes (size : Nat) (s : ByteArray) (w : World) (h : goodSize size = true) (hs : s.size ≤ maxLen) :
    Calls Tryz.prog 90 #[.int .i64 size, .string s] w fun e w' => e = .returned (.int .i64 ((s.size / size : Nat) : Int)) ∧ w = w' := by
  have hp := good_pos h
  have h0 : ¬ (size : Int) = 0 := by omega
  have hq : wrap64 ((s.size : Int) / (size : Int)) = ((s.size / size : Nat) : Int) := by
    have h1 : s.size / size ≤ s.size := Nat.div_le_self _ _
    unfold maxLen at hs
    rw [← Int.natCast_ediv]
    generalize s.size / size = q at *
    unfold wrap64
    omega
  go_enter Tryz.func90, Tryz.ntmps90
  go_wp2_with (go_at_call 31; refine (rgood_any _ _).mono ?_; rw [h]; rintro e w' ⟨rfl, rfl⟩)
  go_ret
  exact ⟨by rw [← hq]; rfl, rfl⟩
theorem rpages_no (size : Int) (s : ByteArray) (w : World) (h : goodSize size = false) :
    Calls Tryz.prog 90 #[.int .i64 size, .string s] w fun e w' => e = .returned (.int .i64 0) ∧ w = w' := by
  go_enter Tryz.func90, Tryz.ntmps90
  go_wp2_with (go_at_call 31; refine (rgood_any _ _).mono ?_; rw [h]; rintro e w' ⟨rfl, rfl⟩)
  go_ret
  exact ⟨rfl, rfl⟩

theorem rat_yes (size n : Nat) (s : ByteArray) (w : World) (hg : goodSize size = true) (hs : s.size ≤ maxLen) (hn : n < s.size / size) :
    Calls Tryz.prog 66 #[.int .i64 size, .string s, .int .u32 n] w fun e w' => e = .returned (.tuple #[.string (s.extract (n * size) (n * size + size)), .bool true]) ∧ w = w' := by
  have hp := good_pos hg
  have HP := fun w => rpages_yes size s w hg hs
  obtain ⟨q, hq⟩ : ∃ q, q = s.size / size := ⟨_, rfl⟩
  have hb : n * size + size ≤ s.size := by
    have h1 : (n + 1) * size ≤ s.size / size * size := Nat.mul_le_mul_right _ hn
    have h2 := Nat.div_mul_le_self s.size size
    rw [Nat.add_mul, Nat.one_mul] at h1
    omega
  have hql : s.size / size ≤ s.size := Nat.div_le_self _ _
  rw [← hq] at HP hql hn
  unfold maxLen at hs
  obtain ⟨f, hf⟩ : ∃ f, f = n * size := ⟨_, rfl⟩
  rw [← hf] at hb ⊢
  have g1 : decide (q ≤ n) = false := by simp; omega
  have g2 : (0 : Int) ≤ f := by omega
  have g4 : (f : Int) ≤ ((f + size : Nat) : Int) := by omega
  have g5 : ((f + size : Nat) : Int) ≤ s.size := by omega
  have z1 : n < 18446744073709551616 := by omega
  have z2 : q < 18446744073709551616 := by omega
  have z3 : n < 9223372036854775808 := by omega
  have z4 : f < 9223372036854775808 := by omega
  have z5 : f + size < 9223372036854775808 := by omega
  have w3' := wrap64_nat n z3
  have w4 : wrap64 ((n : Int) * (size : Int)) = (f : Int) := by rw [← Int.natCast_mul, ← hf]; exact wrap64_nat f z4
  have g3 : wrap64 ((f : Int) + (size : Int)) = ((f + size : Nat) : Int) := by rw [← Int.natCast_add]; exact wrap64_nat _ z5
  clear hq hf hn hql hs hp hb z1 z2 z3 z4 z5
  go_enter Tryz.func66, Tryz.ntmps66
  go_wp2_with fail
  refine (HP _).mono ?_
  rintro e w' ⟨rfl, rfl⟩
  go_wp2_with fail
  go_ret2
  exact ⟨rfl, rfl⟩
theorem rat_no (size n : Nat) (s : ByteArray) (w : World) (hg : goodSize size = true) (hs : s.size ≤ maxLen) (hn : ¬ n < s.size / size) (hn2 : n < 4294967296) :
    Calls Tryz.prog 66 #[.int .i64 size, .string s, .int .u32 n] w fun e w' => e = .returned (.tuple #[.string ⟨#[]⟩, .bool false]) ∧ w = w' := by
  have HP := fun w => rpages_yes size s w hg hs
  obtain ⟨q, hq⟩ : ∃ q, q = s.size / size := ⟨_, rfl⟩
  have hql : s.size / size ≤ s.size := Nat.div_le_self _ _
  rw [← hq] at HP hql hn
  unfold maxLen at hs
  have g1 : decide (q ≤ n) = true := by simp; omega
  have w1 := u64_nat n (by omega)
  have w2 := u64_nat q (by omega)
  have hnn : n < 9223372036854775808 := by omega
  have w1' := wrap64_nat n hnn
  clear hnn
  clear hq hn hql hs hn2
  go_enter Tryz.func66, Tryz.ntmps66
  go_wp2_with fail
  refine (HP _).mono ?_
  rintro e w' ⟨rfl, rfl⟩
  go_wp2_with fail
  go_ret2
  exact ⟨rfl, rfl⟩
theorem rread_bad (size : Int) (s : ByteArray) (n : Nat) (w : World) (hg : goodSize size = false) :
    Calls Tryz.prog 38 #[.int .i64 size, .string s, .int .u32 n] w fun e w' => e = .returned (.tuple #[.agg #[.int .i64 0, .int .i64 0, .int .u32 0, .int .u32 0, .int .u64 0, .string ByteArray.empty], .int .i64 2]) ∧ Below w.heap.size w w' := by
  obtain ⟨hz, hi⟩ := zero_of_info infoPg
  have HI := Lib.hid hi
  clear hi
  obtain ⟨w0, hw0⟩ : ∃ w0, w0 = w.alloc (.cells #[.int .i64 0, .int .i64 0, .int .u32 0, .int .u32 0, .int .u64 0, .string ByteArray.empty] 37) := ⟨_, rfl⟩
  have R0 := Lib.hid (show Blk w0 w.heap.size 37 #[.int .i64 0, .int .i64 0, .int .u32 0, .int .u32 0, .int .u64 0, .string ByteArray.empty] by rw [hw0]; exact Blk.new _ _ _)
  have HB0 := Lib.hid (show Below w.heap.size w w0 by rw [hw0]; exact (Below.refl _ _).alloc (Nat.le_refl _) _)
  go_enter Tryz.func38, Tryz.ntmps38
  go_wp2_with fail
  rw [← hw0]
  clear hw0
  refine (rgood_is size _ _ hg).mono ?_
  rintro e w' ⟨rfl, rfl⟩
  have k0 := R0.out.cell 0
  have k1 := R0.out.cell 1
  have k2 := R0.out.cell 2
  have k3 := R0.out.cell 3
  have k4 := R0.out.cell 4
  have k5 := R0.out.cell 5
  have f0 := R0.out.frozen 0
  have f1 := R0.out.frozen 1
  have f2 := R0.out.frozen 2
  have f3 := R0.out.frozen 3
  have f4 := R0.out.frozen 4
  have f5 := R0.out.frozen 5
  simp at k0 k1 k2 k3 k4 k5
  go_wp2_with fail
  refine bodyPost_ret (read_row rfl _ _ _ w.heap.size #[.int .i64 0, .int .i64 0, .int .u32 0, .int .u32 0, .int .u64 0, .string ByteArray.empty] rfl (load_page (six_at R0.out))) rfl ⟨rfl, six_below HB0.out (Nat.le_refl _)⟩
theorem rread_none (size n : Nat) (s : ByteArray) (w : World) (hg : goodSize size = true) (hs : s.size ≤ maxLen) (hn : ¬ n < s.size / size) (hn2 : n < 4294967296) :
    Calls Tryz.prog 38 #[.int .i64 size, .string s, .int .u32 n] w fun e w' => e = .returned (.tuple #[.agg #[.int .i64 0, .int .i64 0, .int .u32 0, .int .u32 0, .int .u64 0, .string ByteArray.empty], .int .i64 5]) ∧ Below w.heap.size w w' := by
  obtain ⟨hz, hi⟩ := zero_of_info infoPg
  have HI := Lib.hid hi
  clear hi
  obtain ⟨w0, hw0⟩ : ∃ w0, w0 = w.alloc (.cells #[.int .i64 0, .int .i64 0, .int .u32 0, .int .u32 0, .int .u64 0, .string ByteArray.empty] 37) := ⟨_, rfl⟩
  have R0 := Lib.hid (show Blk w0 w.heap.size 37 #[.int .i64 0, .int .i64 0, .int .u32 0, .int .u32 0, .int .u64 0, .string ByteArray.empty] by rw [hw0]; exact Blk.new _ _ _)
  have HB0 := Lib.hid (show Below w.heap.size w w0 by rw [hw0]; exact (Below.refl _ _).alloc (Nat.le_refl _) _)
  have HA := fun w => rat_no size n s w hg hs hn hn2
  clear hs hn hn2
  go_enter Tryz.func38, Tryz.ntmps38
  go_wp2_with fail
  rw [← hw0]
  clear hw0
  refine (rgood_is size _ _ hg).mono ?_
  rintro e w' ⟨rfl, rfl⟩
  go_wp2_with fail
  refine (HA _).mono ?_
  rintro e w' ⟨rfl, rfl⟩
  have k0 := R0.out.cell 0
  have k1 := R0.out.cell 1
  have k2 := R0.out.cell 2
  have k3 := R0.out.cell 3
  have k4 := R0.out.cell 4
  have k5 := R0.out.cell 5
  have f0 := R0.out.frozen 0
  have f1 := R0.out.frozen 1
  have f2 := R0.out.frozen 2
  have f3 := R0.out.frozen 3
  have f4 := R0.out.frozen 4
  have f5 := R0.out.frozen 5
  simp at k0 k1 k2 k3 k4 k5
  go_wp2_with fail
  refine bodyPost_ret (read_row rfl _ _ _ w.heap.size #[.int .i64 0, .int .i64 0, .int .u32 0, .int .u32 0, .int .u64 0, .string ByteArray.empty] rfl (load_page (six_at R0.out))) rfl ⟨rfl, six_below HB0.out (Nat.le_refl _)⟩
theorem rread_get (size n : Nat) (s : ByteArray) (a0 a1 : Int) (a2 a3 a4 : Nat) (a5 : ByteArray) (err : Int) (w : World) (hg : goodSize size = true) (hs : s.size ≤ maxLen) (hn : n < s.size / size)
    (hget : ∀ w : World, Calls Tryz.prog 67 #[.int .i64 size, .int .u32 n, .string (s.extract (n * size) (n * size + size))] w fun e w' => e = .returned (.tuple #[.agg #[.int .i64 a0, .int .i64 a1, .int .u32 a2, .int .u32 a3, .int .u64 a4, .string a5], .int .i64 err]) ∧ Below w.heap.size w w') :
    Calls Tryz.prog 38 #[.int .i64 size, .string s, .int .u32 n] w fun e w' => e = .returned (.tuple #[.agg #[.int .i64 a0, .int .i64 a1, .int .u32 a2, .int .u32 a3, .int .u64 a4, .string a5], .int .i64 err]) ∧ Below w.heap.size w w' := by
  obtain ⟨hz, hi⟩ := zero_of_info infoPg
  have HI := Lib.hid hi
  clear hi
  obtain ⟨w0, hw0⟩ : ∃ w0, w0 = w.alloc (.cells #[.int .i64 0, .int .i64 0, .int .u32 0, .int .u32 0, .int .u64 0, .string ByteArray.empty] 37) := ⟨_, rfl⟩
  have R0 := Lib.hid (show Blk w0 w.heap.size 37 #[.int .i64 0, .int .i64 0, .int .u32 0, .int .u32 0, .int .u64 0, .string ByteArray.empty] by rw [hw0]; exact Blk.new _ _ _)
  have HB0 := Lib.hid (show Below w.heap.size w w0 by rw [hw0]; exact (Below.refl _ _).alloc (Nat.le_refl _) _)
  have HA := fun w => rat_yes size n s w hg hs hn
  obtain ⟨b, hb⟩ : ∃ b, b = s.extract (n * size) (n * size + size) := ⟨_, rfl⟩
  rw [← hb] at HA hget
  clear hb hs hn
  go_enter Tryz.func38, Tryz.ntmps38
  go_wp2_with fail
  rw [← hw0]
  clear hw0
  refine (rgood_is size _ _ hg).mono ?_
  rintro e w' ⟨rfl, rfl⟩
  go_wp2_with fail
  refine (HA _).mono ?_
  rintro e w' ⟨rfl, rfl⟩
  go_wp2_with fail
  refine (hget _).mono ?_
  rintro e w1 ⟨rfl, hb1⟩
  replace HB0 := Lib.hid (HB0.out.trans (hb1.mono HB0.out.size))
  replace R0 := Lib.hid (R0.out.below hb1 R0.out.lt)
  clear hb1
  have k0 := R0.out.cell 0
  have k1 := R0.out.cell 1
  have k2 := R0.out.cell 2
  have k3 := R0.out.cell 3
  have k4 := R0.out.cell 4
  have k5 := R0.out.cell 5
  have f0 := R0.out.frozen 0
  have f1 := R0.out.frozen 1
  have f2 := R0.out.frozen 2
  have f3 := R0.out.frozen 3
  have f4 := R0.out.frozen 4
  have f5 := R0.out.frozen 5
  simp at k0 k1 k2 k3 k4 k5
  go_wp2_with fail
  refine bodyPost_ret (read_row rfl _ _ _ w.heap.size #[.int .i64 a0, .int .i64 a1, .int .u32 a2, .int .u32 a3, .int .u64 a4, .string a5] rfl (load_page (six_at R0.out))) rfl ⟨rfl, six_below HB0.out (Nat.le_refl _)⟩

end Go.Proofs.YtabhhccdbfjigaaGreat
namespace Go.Proofs.YtabhhccdbfjigaaGreat
open Go.RowKit
open Go.Lib hiding intOf
set_option linter.unusedVariables false
set_option linter.unusedSimpArgs false

/-- The error of a reading. -/
def errAt (size : Int) (s : ByteArray) (n : Nat) : Int := if (readAt size s n).isSome then 0 else if goodSize size then (if n < s.size / size.toNat then 4 else 5) else 2
def pageOf (size : Int) (s : ByteArray) (n : Nat) : Pg := (readAt size s n).getD Pg.zero
theorem errAt_some {size : Int} {s : ByteArray} {n : Nat} {p : Pg} (h : readAt size s n = some p) : errAt size s n = 0 ∧ pageOf size s n = p := by unfold errAt pageOf; rw [h]; exact ⟨rfl, rfl⟩
theorem errAt_none {size : Int} {s : ByteArray} {n : Nat} (h : readAt size s n = none) : errAt size s n ≠ 0 ∧ pageOf size s n = Pg.zero := by
  unfold errAt pageOf
  rw [h]
  refine ⟨?_, rfl⟩
  simp only [Option.isSome_none, Bool.false_eq_true, if_false]
  split
  · split <;> decide
  · decide
set_option maxHeartbeats 1600000
theorem fread_all (size : Int) (s : ByteArray) (n : Nat) (w : World) (hs : s.size ≤ maxLen) (hn : n < 4294967296) :
    Calls Tryz.prog 56 #[.int .i64 size, .string s, .int .u32 n] w fun e w' => e = .returned (.tuple #[(pageOf size s n).agg, .int .i64 (errAt size s n)]) ∧ Below w.heap.size w w' := by
  rcases hg : goodSize size with _ | _
  · have hr := readAt_bad (s := s) (n := n) hg
    rw [(errAt_none hr).2, show errAt size s n = 2 by unfold errAt; rw [hr, hg]; rfl]
    exact (fread_bad size s n w hg).mono fun e w' h => ⟨h.1, (by first | exact h.2 | (rw [h.2]; exact Below.refl _ _) | (rw [← h.2]; exact Below.refl _ _))⟩
  obtain ⟨q, rfl, _, _, _⟩ := good_nat hg
  have hq : (q : Int).toNat = q := by omega
  by_cases h2 : n < s.size / q
  rotate_left
  · have hr : readAt q s n = none := by unfold readAt; rw [hq, decide_eq_false h2]; simp
    rw [(errAt_none hr).2, show errAt q s n = 5 by unfold errAt; rw [hr, hg, hq, if_neg (by simp), if_pos rfl, if_neg h2]]
    exact (fread_none q n s w hg hs h2 hn).mono fun e w' h => ⟨h.1, (by first | exact h.2 | (rw [h.2]; exact Below.refl _ _) | (rw [← h.2]; exact Below.refl _ _))⟩
  obtain ⟨B, hB⟩ : ∃ B, B = blkOf q s n := ⟨_, rfl⟩
  rcases h3 : blockOk q n B with _ | _
  · have hr : readAt q s n = none := by unfold readAt; rw [hq, ← hB, h3]; simp
    rw [(errAt_none hr).2, show errAt q s n = 4 by unfold errAt; rw [hr, hg, hq, if_neg (by simp), if_pos rfl, if_pos h2]]
    have := fread_get q n s 0 0 0 0 0 ByteArray.empty 4 w hg hs h2 fun w => (by
      rw [show s.extract (n * q) (n * q + q) = B from hB.symm]
      exact get_wrong q n B w hg h3)
    exact this
  · have hr : readAt q s n = some ⟨numAt B 4 1, numAt B 6 2, numAt B 8 4, numAt B 12 4, numAt B 16 8, B.extract 24 B.size⟩ := by unfold readAt; rw [hq, ← hB, h3, hg, decide_eq_true h2]; rfl
    rw [(errAt_some hr).1, (errAt_some hr).2]
    have := fread_get q n s (numAt B 4 1) (numAt B 6 2) (numAt B 8 4) (numAt B 12 4) (numAt B 16 8) (B.extract 24 B.size) 0 w hg hs h2 fun w => (by
      rw [show s.extract (n * q) (n * q + q) = B from hB.symm]
      exact get_right q n B w h3)
    exact this
theorem rread_all (size : Int) (s : ByteArray) (n : Nat) (w : World) (hs : s.size ≤ maxLen) (hn : n < 4294967296) :
    Calls Tryz.prog 38 #[.int .i64 size, .string s, .int .u32 n] w fun e w' => e = .returned (.tuple #[(pageOf size s n).agg, .int .i64 (errAt size s n)]) ∧ Below w.heap.size w w' := by
  rcases hg : goodSize size with _ | _
  · have hr := readAt_bad (s := s) (n := n) hg
    rw [(errAt_none hr).2, show errAt size s n = 2 by unfold errAt; rw [hr, hg]; rfl]
    exact (rread_bad size s n w hg).mono fun e w' h => ⟨h.1, (by first | exact h.2 | (rw [h.2]; exact Below.refl _ _) | (rw [← h.2]; exact Below.refl _ _))⟩
  obtain ⟨q, rfl, _, _, _⟩ := good_nat hg
  have hq : (q : Int).toNat = q := by omega
  by_cases h2 : n < s.size / q
  rotate_left
  · have hr : readAt q s n = none := by unfold readAt; rw [hq, decide_eq_false h2]; simp
    rw [(errAt_none hr).2, show errAt q s n = 5 by unfold errAt; rw [hr, hg, hq, if_neg (by simp), if_pos rfl, if_neg h2]]
    exact (rread_none q n s w hg hs h2 hn).mono fun e w' h => ⟨h.1, (by first | exact h.2 | (rw [h.2]; exact Below.refl _ _) | (rw [← h.2]; exact Below.refl _ _))⟩
  obtain ⟨B, hB⟩ : ∃ B, B = blkOf q s n := ⟨_, rfl⟩
  rcases h3 : blockOk q n B with _ | _
  · have hr : readAt q s n = none := by unfold readAt; rw [hq, ← hB, h3]; simp
    rw [(errAt_none hr).2, show errAt q s n = 4 by unfold errAt; rw [hr, hg, hq, if_neg (by simp), if_pos rfl, if_pos h2]]
    have := rread_get q n s 0 0 0 0 0 ByteArray.empty 4 w hg hs h2 fun w => (by
      rw [show s.extract (n * q) (n * q + q) = B from hB.symm]
      exact rget_wrong q n B w hg h3)
    exact this
  · have hr : readAt q s n = some ⟨numAt B 4 1, numAt B 6 2, numAt B 8 4, numAt B 12 4, numAt B 16 8, B.extract 24 B.size⟩ := by unfold readAt; rw [hq, ← hB, h3, hg, decide_eq_true h2]; rfl
    rw [(errAt_some hr).1, (errAt_some hr).2]
    have := rread_get q n s (numAt B 4 1) (numAt B 6 2) (numAt B 8 4) (numAt B 12 4) (numAt B 16 8) (B.extract 24 B.size) 0 w hg hs h2 fun w => (by
      rw [show s.extract (n * q) (n * q + q) = B from hB.symm]
      exact rget_right q n B w h3)
    exact this
end Go.Proofs.YtabhhccdbfjigaaGreat
