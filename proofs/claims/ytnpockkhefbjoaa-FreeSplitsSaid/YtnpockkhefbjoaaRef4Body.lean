/-
  Contracts of the reference's Body of layer 4, each with its conditions in its own statement.
-/
import Derived.Test.YtnpockkhefbjoaaRef4Put
import Derived.Test.YtnpockkhefbjoaaBytes
import Derived.Test.YtnpockkhefbjoaaOrder
import Derived.Test.YtnpockkhefbjoaaPgWords
import Derived.Deep.RegionHeld3
import Derived.Deep.DrawnRows
namespace Go.Proofs.Ytnpockkhefbjoaa
open Go.RowKit
open Go.Lib
set_option linter.unusedVariables false
set_option linter.unusedSimpArgs false
attribute [local go_sem ↓] Go.wp_at_zero Go.wp_at_succ

theorem rbody_bad (size : Int) (A : Option Addr) (m c : Nat) (w : World) (hg : goodSize size = false) :
    Calls Try.prog 34 #[.int .i64 size, .slice A m c] w fun e w' => e = .returned (.tuple #[.string ⟨#[]⟩, .int .i64 2]) ∧ w = w' := by
  go_enter Try.func34, Try.ntmps34
  go_wp2_with fail
  refine (rgood_is size _ _ hg).mono ?_
  rintro e w' ⟨rfl, rfl⟩
  go_wp2_with fail
  go_ret2
  exact ⟨rfl, rfl⟩
theorem rbody_long (size : Int) (A : Option Addr) (m c : Nat) (w : World) (hg : goodSize size = true) (hm : size - 24 < m) :
    Calls Try.prog 34 #[.int .i64 size, .slice A m c] w fun e w' => e = .returned (.tuple #[.string ⟨#[]⟩, .int .i64 3]) ∧ w = w' := by
  have q : decide (size - 24 < (m : Int)) = true := by simpa using hm
  go_enter Try.func34, Try.ntmps34
  go_wp2_with fail
  refine (rgood_is size _ _ hg).mono ?_
  rintro e w' ⟨rfl, rfl⟩
  go_wp2_with fail
  refine (rroom_is size _ hg).mono ?_
  rintro e w' ⟨rfl, rfl⟩
  go_wp2_with fail
  go_ret2
  exact ⟨rfl, rfl⟩

set_option maxRecDepth 100000 in
set_option maxHeartbeats 1600000 in
theorem rbody_ok (size : Nat) (A : Option Addr) (m c : Nat) (l : List UInt8) (b : ByteArray) (w : World) (hg : goodSize size = true) (hr : Reads w w.heap.size 1 A m (bcells l)) (hm : m ≤ size - 24) (hb : b = ⟨(l ++ List.replicate (size - 24 - m) 0).toArray⟩) :
    Calls Try.prog 34 #[.int .i64 size, .slice A m c] w fun e w' => e = .returned (.tuple #[.string b, .int .i64 0]) ∧ Below w.heap.size w w' := by
  have hp := good_pos hg
  have hl : l.length = m := by have := hr.1; rw [bcells_length] at this; omega
  obtain ⟨r, hrm⟩ : ∃ r, r = size - 24 := ⟨_, rfl⟩
  obtain ⟨k, hk⟩ : ∃ k, k = r - m := ⟨_, rfl⟩
  have hR : ∀ w : World, Calls Try.prog 19 #[.int .i64 size] w fun e w' => e = .returned (.int .i64 (r : Int)) ∧ w' = w := fun w => by
    have := rroom_is size w hg
    rw [show (size : Int) - 24 = (r : Int) by omega] at this
    exact this
  have q : decide (r < m) = false := by simp; omega
  have q' : decide ((r : Int) < (m : Int)) = false := by simp; omega
  have wk : wrap64 ((r : Int) - (m : Int)) = (k : Int) := by unfold wrap64; omega
  have wk2 : (r : Int) - (m : Int) = (k : Int) := by omega
  have hk9 : k < 9223372036854775808 := by omega
  obtain ⟨i0, hi0, hz0, hz1, hz2⟩ := info_parts infoU8
  have hmk := fun w => run_make_bytes (P := Try.prog) 39 5 Try.underlying39 infoU8 k (by omega) w
  obtain ⟨X, hX⟩ : ∃ X : ByteArray, X = ⟨l.toArray⟩ := ⟨_, rfl⟩
  have hcv : ∀ w', Below w.heap.size w w' → (convert 39 9 (.slice A m c)).run Try.prog w' = .ok (.string X) w' := fun w' h => by
    rw [hX]; exact run_string_reads w' 39 9 5 c Try.underlying39 Try.underlying5 Try.underlying9 (hr.below h)
  obtain ⟨Z, hZ⟩ : ∃ Z : ByteArray, Z = zb k := ⟨_, rfl⟩
  have hzb : ∀ w : World, (convert 39 9 (.slice (some ⟨w.heap.size, 0, none⟩) k k)).run Try.prog (w.alloc (.cells (madeCells #[.int .u8 0] k) 5)).drew = .ok (.string Z) (w.alloc (.cells (madeCells #[.int .u8 0] k) 5)).drew := fun w => by
    rw [hZ]
    have h3 := (MRow.of_made w 5 k).drew.reads
    rw [List.length_replicate] at h3
    exact run_string_reads _ 39 9 5 k Try.underlying39 Try.underlying5 Try.underlying9 h3
  have cat : ¬ (9223372036854775807 < X.size + Z.size) := by
    have : X.size = m := by rw [← size_list, hX]; simpa using hl
    rw [this, hZ, zb_size]; omega
  have HC := Lib.hid (show X ++ Z = b by
    rw [hb, hX, hZ, hk, hrm]
    apply bytes_ext
    rw [ByteArray.data_append, Array.toList_append, zb_list])
  have wk3 := i64_nat k hk9
  have wk4 := wrap64_nat k hk9
  clear hr hm hp hl hrm hi0 hz0 hz1 hz2 hX hZ hb hk hk9
  go_enter Try.func34, Try.ntmps34
  go_wp2_with fail
  refine (rgood_is size _ _ hg).mono ?_
  rintro e w' ⟨rfl, rfl⟩
  go_wp2_with fail
  refine (hR _).mono ?_
  rintro e w2 ⟨rfl, rfl⟩
  go_wp2_with fail
  refine wp_region_held_drew (S := fun wx => (convert 39 9 (.slice A m c)).run Try.prog wx = .ok (.string X) wx) (by kernel_rfl) (hcv _ (Below.refl _ _).drew) (fun hHeld => ?_)
  refine wpAnyH_takeL (i := 0) (v := ?_) rfl (by kernel_rfl) (by kernel_rfl) (by kernel_rfl) (fun _ _ _ h => h) (Or.inl ⟨by rfl, ?_⟩) (by first | trivial | assumption) ?_
  rotate_left
  · intro wz hSz; (try dsimp only at hSz); go_simp; (try with_reducible rfl)
  try simp only [Act.put, List.setIfInBounds_toArray, List.set_cons_zero, List.set_cons_succ]
  refine wpAnyH_takeL (i := 1) (v := ?_) rfl (by kernel_rfl) (by kernel_rfl) (by kernel_rfl) (fun _ _ _ h => h) (Or.inl ⟨by rfl, ?_⟩) (by first | trivial | assumption) ?_
  rotate_left
  · intro wz hSz; (try dsimp only at hSz); go_simp; (try with_reducible rfl)
  try simp only [Act.put, List.setIfInBounds_toArray, List.set_cons_zero, List.set_cons_succ]
  refine wpAnyH_takeL (i := 2) (v := ?_) rfl (by kernel_rfl) (by kernel_rfl) (by kernel_rfl) (fun _ _ _ h => h) (Or.inl ⟨by rfl, ?_⟩) (by first | trivial | assumption) ?_
  rotate_left
  · intro wz hSz; (try dsimp only at hSz); go_simp; (try with_reducible rfl)
  try simp only [Act.put, List.setIfInBounds_toArray, List.set_cons_zero, List.set_cons_succ]
  refine wpAnyH_takeL (i := 4) (v := ?_) rfl (by kernel_rfl) (by kernel_rfl) (by kernel_rfl) (fun _ _ _ h => h) (Or.inl ⟨by rfl, ?_⟩) (by first | trivial | assumption) ?_
  rotate_left
  · intro wz hSz; (try dsimp only at hSz); go_simp; (try with_reducible rfl)
  try simp only [Act.put, List.setIfInBounds_toArray, List.set_cons_zero, List.set_cons_succ]
  refine wpAnyH_takeL (i := 5) (v := ?_) rfl (by kernel_rfl) (by kernel_rfl) (by kernel_rfl) (fun _ _ _ h => h) (Or.inl ⟨by rfl, ?_⟩) (by first | trivial | assumption) ?_
  rotate_left
  · intro wz hSz; (try dsimp only at hSz); go_simp; (try with_reducible rfl)
  try simp only [Act.put, List.setIfInBounds_toArray, List.set_cons_zero, List.set_cons_succ]
  refine wpAnyH_ready (rs := [3]) (by kernel_rfl) (by simp) ?_
  refine AllReadyH.consL rfl (fun K hK => ?_) AllReadyH.nil
  go_simp
  refine (hR _).mono ?_
  rintro e wq ⟨rfl, rfl⟩
  refine hK.out _ _ (hcv _ (Below.refl _ _).drew) (fun hHeld => ?_)
  clear hK K
  try simp only [Act.put, List.setIfInBounds_toArray, List.set_cons_zero, List.set_cons_succ]
  refine wpAnyH_takeL (i := 6) (v := ?_) rfl (by kernel_rfl) (by kernel_rfl) (by kernel_rfl) (fun _ _ _ h => h) (Or.inl ⟨by rfl, ?_⟩) (by first | trivial | assumption) ?_
  rotate_left
  · intro wz hSz; (try dsimp only at hSz); go_simp; (try with_reducible rfl)
  try simp only [Act.put, List.setIfInBounds_toArray, List.set_cons_zero, List.set_cons_succ]
  refine wpAnyH_ready (rs := [7]) (by kernel_rfl) (by simp) ?_
  refine AllReadyH.consL rfl (fun K hK => ?_) AllReadyH.nil
  go_simp
  refine hK.out _ _ (hcv _ ((Below.refl _ _).alloc (Nat.le_refl _) _).drew) (fun hHeld => ?_)
  clear hK K
  try simp only [Act.put, List.setIfInBounds_toArray, List.set_cons_zero, List.set_cons_succ]
  refine wpAnyH_ready (rs := [8]) (by kernel_rfl) (by simp) ?_
  refine AllReadyH.consL rfl (fun K hK => ?_) AllReadyH.nil
  go_simp
  refine hK.out _ _ (hcv _ ((Below.refl _ _).alloc (Nat.le_refl _) _).drew) (fun hHeld => ?_)
  clear hK K
  try simp only [Act.put, List.setIfInBounds_toArray, List.set_cons_zero, List.set_cons_succ]
  refine wpAnyH_takeL (i := 9) (v := ?_) rfl (by kernel_rfl) (by kernel_rfl) (by kernel_rfl) (fun _ _ _ h => h) (Or.inl ⟨by rfl, ?_⟩) (by first | trivial | assumption) ?_
  rotate_left
  · intro wz hSz; (try dsimp only at hSz); go_simp; (try with_reducible rfl)
  try simp only [Act.put, List.setIfInBounds_toArray, List.set_cons_zero, List.set_cons_succ]
  refine wpAnyH_takeL (i := 10) (v := ?_) rfl (by kernel_rfl) (by kernel_rfl) (by kernel_rfl) (fun _ _ _ h => h) (Or.inl ⟨by rfl, ?_⟩) (by first | trivial | assumption) ?_
  rotate_left
  · intro wz hSz; (try dsimp only at hSz); go_simp; (try with_reducible rfl)
  try simp only [Act.put, List.setIfInBounds_toArray, List.set_cons_zero, List.set_cons_succ]
  refine wpAnyH_takeL (i := 11) (v := ?_) rfl (by kernel_rfl) (by kernel_rfl) (by kernel_rfl) (fun _ _ _ h => h) (Or.inl ⟨by rfl, ?_⟩) (by first | trivial | assumption) ?_
  rotate_left
  · intro wz hSz; (try dsimp only at hSz); go_simp; (try with_reducible rfl)
  try simp only [Act.put, List.setIfInBounds_toArray, List.set_cons_zero, List.set_cons_succ]
  refine wpAnyH_done (by kernel_rfl) ?_ _
  go_wp2_with fail
  go_ret2
  exact ⟨by rw [← HC.out]; rfl, ((Below.refl _ _).alloc (Nat.le_refl _) _).drew⟩
end Go.Proofs.Ytnpockkhefbjoaa
