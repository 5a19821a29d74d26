/-
  Contracts of package frame's Body, each with its conditions in its own statement.
-/
import Derived.Test.YtnpockkhefbjoaaFrameValid
import Derived.Test.YtnpockkhefbjoaaBytes
import Derived.Test.YtnpockkhefbjoaaPgWords
import Derived.Laws.CopyRow
import Derived.Laws.IdiomCopy
import Derived.Laws.ResultCell
import Derived.Deep.WholeRow
namespace Go.Proofs.Ytnpockkhefbjoaa
open Go.RowKit
open Go.Lib
set_option linter.unusedVariables false
set_option linter.unusedSimpArgs false

theorem fbody_bad (size : Int) (A : Option Addr) (m c : Nat) (w : World) (hg : goodSize size = false) :
    Calls Try.prog 24 #[.int .i64 size, .slice A m c] w fun e w' => e = .returned (.tuple #[.string ⟨#[]⟩, .int .i64 2]) ∧ w = w' := by
  go_enter Try.func24, Try.ntmps24
  go_wp2_with fail
  refine (dgood_is size _ _ hg).mono ?_
  rintro e w' ⟨rfl, rfl⟩
  go_wp2_with fail
  go_ret2
  exact ⟨rfl, rfl⟩
theorem fbody_long (size : Int) (A : Option Addr) (m c : Nat) (w : World) (hg : goodSize size = true) (hm : size - 24 < m) :
    Calls Try.prog 24 #[.int .i64 size, .slice A m c] w fun e w' => e = .returned (.tuple #[.string ⟨#[]⟩, .int .i64 3]) ∧ w = w' := by
  have q : decide (size - 24 < (m : Int)) = true := by simpa using hm
  go_enter Try.func24, Try.ntmps24
  go_wp2_with fail
  refine (dgood_is size _ _ hg).mono ?_
  rintro e w' ⟨rfl, rfl⟩
  go_wp2_with fail
  refine (room_is size _ hg).mono ?_
  rintro e w' ⟨rfl, rfl⟩
  go_wp2_with fail
  go_ret2
  exact ⟨rfl, rfl⟩
theorem fbody_ok (size : Nat) (A : Option Addr) (m c : Nat) (l : List UInt8) (w : World) (hg : goodSize size = true) (hr : Reads w w.heap.size 1 A m (bcells l)) (hm : m ≤ size - 24) :
    Calls Try.prog 24 #[.int .i64 size, .slice A m c] w fun e w' => e = .returned (.tuple #[.string ⟨(l ++ List.replicate (size - 24 - m) 0).toArray⟩, .int .i64 0]) ∧ Below w.heap.size w w' := by
  have hp := good_pos hg
  have hl : l.length = m := by have := hr.1; rw [bcells_length] at this; omega
  obtain ⟨r, hrm⟩ : ∃ r, r = size - 24 := ⟨_, rfl⟩
  have hR : ∀ w : World, Calls Try.prog 29 #[.int .i64 size] w fun e w' => e = .returned (.int .i64 (r : Int)) ∧ w' = w := fun w => by
    have := room_is size w hg
    rw [show (size : Int) - 24 = (r : Int) by omega] at this
    exact this
  have q : decide (r < m) = false := by simp; omega
  obtain ⟨i0, hi0, hz0, hz1, hz2⟩ := info_parts infoU8
  have hmk := run_make_bytes (P := Try.prog) 39 5 Try.underlying39 infoU8 r (by omega) w
  obtain ⟨w1, hw1⟩ : ∃ w1, w1 = w.alloc (.cells (madeCells #[.int .u8 0] r) 5) := ⟨_, rfl⟩
  rw [← hw1] at hmk
  have b1 : Blk w1 w.heap.size 5 (madeCells #[.int .u8 0] r) := by rw [hw1]; exact Blk.new _ _ _
  have hb1 : Below w.heap.size w w1 := by rw [hw1]; exact (Below.refl _ _).alloc (Nat.le_refl _) _
  have hr1 : Reads w1 w.heap.size 1 A m (bcells l) := hr.below hb1
  have hmc : (madeCells #[.int .u8 0] r).toList = List.replicate r (Value.int .u8 0) := toList_madeCells_one _ _
  obtain ⟨res, hres⟩ : ∃ res, res = l ++ List.replicate (r - m) (0 : UInt8) := ⟨_, rfl⟩
  rw [← hrm, ← hres]
  have hresl : res.length = r := by rw [hres, List.length_append, List.length_replicate]; omega
  obtain ⟨w2, hcp, hr2, hb2⟩ : ∃ w2, (Builtin.copy_ #[39, 39] 3 #[.slice (some ⟨w.heap.size, 0, none⟩) r r, .slice A m c]).run Try.prog w1 = .ok (.int .i64 (m : Int)) w2 ∧ Reads w2 w2.heap.size 1 (some ⟨w.heap.size, 0, none⟩) r (bcells res) ∧ Below w.heap.size w w2 := by
    rcases Nat.eq_zero_or_pos m with h0 | h0
    · subst h0
      have hl0 : l = [] := List.eq_nil_of_length_eq_zero hl
      subst hl0
      have hcp := run_copy_none (P := Try.prog) w1 39 39 3 5 (some ⟨w.heap.size, 0, none⟩) A r r 0 c Try.underlying39 (by rw [hi0]; simp [hz1]) (Nat.zero_min r)
      refine ⟨w1, hcp, ?_, hb1⟩
      rw [hres, hw1, List.nil_append, Nat.sub_zero]
      have h3 := (MRow.of_made w 5 r).reads
      rw [List.length_replicate] at h3
      exact h3
    · obtain ⟨ad, rfl, hab, hat⟩ := hr1.2 h0
      have hcp := run_copy_row (P := Try.prog) w1 39 39 3 5 w.heap.size 0 r r ad m c (madeCells #[.int .u8 0] r) 5 (bcells l) Try.underlying39 (by rw [hi0]; simp [hz1]) b1
        (by rw [bcells_length, hl]; exact (Nat.min_eq_left (by omega)).symm) hat (by rw [size_madeCells, bcells_length]; omega) (bcells_one l)
      rw [bcells_length, hl] at hcp
      refine ⟨_, hcp, ?_, below_setRow hb1 (Nat.le_refl _) _⟩
      have h3 : ((madeCells #[.int .u8 0] r).toList.take 0 ++ bcells l ++ (madeCells #[.int .u8 0] r).toList.drop (0 + m)) = bcells res := by
        rw [hmc, hres, bcells_append]
        simp [bcells]
      rw [h3]
      have hblk := setRow_heap w1 w.heap.size _ (bcells res).toArray _ _ b1
      refine ⟨by rw [bcells_length, hresl, Nat.mul_one], fun _ => ⟨_, rfl, (by have := b1.lt; rw [setRow_size]; exact this), fun j u hu => ?_⟩⟩
      have e : (⟨w.heap.size, 0, none⟩ : Addr).add j = ⟨w.heap.size, j, none⟩ := by unfold Addr.add; split <;> simp_all
      rw [e, cell_of_row _ _ j _ _ _ hblk]
      simpa using hu
  have hcv := run_string_reads w2 39 9 5 r Try.underlying39 Try.underlying5 Try.underlying9 hr2
  clear hr hm hp hl hrm hi0 hz0 hz1 hz2 b1 hb1 hr1 hmc hres hresl hr2 hw1
  go_enter Try.func24, Try.ntmps24
  go_wp2_with fail
  refine (dgood_is size _ _ hg).mono ?_
  rintro e w' ⟨rfl, rfl⟩
  go_wp2_with fail
  refine (hR _).mono ?_
  rintro e w' ⟨rfl, rfl⟩
  go_wp2_with fail
  refine (hR _).mono ?_
  rintro e w' ⟨rfl, rfl⟩
  go_wp2_with fail
  go_ret2
  exact ⟨rfl, hb2⟩
end Go.Proofs.Ytnpockkhefbjoaa
