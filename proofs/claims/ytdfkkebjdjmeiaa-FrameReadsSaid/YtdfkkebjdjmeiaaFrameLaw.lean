/-
  The example that each statement on package frame begins with.
-/
import Derived.Test.YtdfkkebjdjmeiaaFrameBody
namespace Go.Proofs.Ytdfkkebjdjmeiaa
open Go.RowKit
open Go.Lib
set_option linter.unusedVariables false
set_option linter.unusedSimpArgs false

/-- The body of the example's page: 104 times "b". -/
def bod : ByteArray := reps ⟨#[98]⟩ 104
theorem bod_size : bod.size = 104 := reps_lit_size 98 104
theorem bod_list : bod.data.toList = List.replicate 104 98 := by rw [bod, reps_list]; exact rep_one 98 104
def zb (n : Nat) : ByteArray := ⟨(List.replicate n (0 : UInt8)).toArray⟩
theorem zb_size (n : Nat) : (zb n).size = n := by rw [← size_list]; simp [zb]
theorem zb_list (n : Nat) : (zb n).data.toList = List.replicate n 0 := by simp [zb]
theorem zb_bad : ¬ leNat (List.take 4 (zb 128).data.toList) = crcM 0 (List.drop 4 (zb 128).data.toList) := by
  rw [zb_list]
  decide +kernel
theorem may_page : mayPg 128 4 3 7 9 5 bod = true := by
  simp [mayPg, bod_size, goodSize]
theorem page_any (w : World) : Calls Try.prog 8 #[] w fun e w' => e = .returned (.agg #[.int .i64 4, .int .i64 3, .int .u32 7, .int .u32 9, .int .u64 5, .string bod]) ∧ Below w.heap.size w w' := by
  obtain ⟨hz, hi⟩ := zero_of_info infoPg
  have HI := Lib.hid hi
  clear hi
  have HT : ∀ w : World, Calls Try.prog 12 #[.string ⟨#[98]⟩, .int .i64 104] w fun e w' => e = .returned (.string bod) ∧ w = w' := fun w => times_any ⟨#[98]⟩ 104 w (by decide) (by decide)
  obtain ⟨b, hb⟩ : ∃ b, b = bod := ⟨_, rfl⟩
  rw [← hb] at HT ⊢
  clear hb
  obtain ⟨w0, hw0⟩ : ∃ w0, w0 = w.alloc (.cells #[.int .i64 0, .int .i64 0, .int .u32 0, .int .u32 0, .int .u64 0, .string ByteArray.empty] 29) := ⟨_, rfl⟩
  have R0 := Lib.hid (show Blk w0 w.heap.size 29 #[.int .i64 0, .int .i64 0, .int .u32 0, .int .u32 0, .int .u64 0, .string ByteArray.empty] by rw [hw0]; exact Blk.new _ _ _)
  have HB0 := Lib.hid (show Below w.heap.size w w0 by rw [hw0]; exact (Below.refl _ _).alloc (Nat.le_refl _) _)
  go_enter Try.func8, Try.ntmps8
  go_wp2_with fail
  rw [← hw0]
  clear hw0
  refine (HT _).mono ?_
  rintro e w' ⟨rfl, rfl⟩
  have k0 := R0.out.cell 0
  have k1 := R0.out.cell 1
  have k2 := R0.out.cell 2
  have k3 := R0.out.cell 3
  have k4 := R0.out.cell 4
  have k5 := R0.out.cell 5
  have f0 := R0.out.frozen 0
  have f1 := R0.out.frozen 1
  have f2 := R0.out.frozen 2
  have f3 := R0.out.frozen 3
  have f4 := R0.out.frozen 4
  have f5 := R0.out.frozen 5
  simp at k0 k1 k2 k3 k4 k5
  go_wp2_with fail
  exact bodyPost_ret (results_cell_row rfl _ _ w.heap.size 29 #[.int .i64 4, .int .i64 3, .int .u32 7, .int .u32 9, .int .u64 5, .string b] (0, 0) _ rfl (six_at R0.out) Try.underlying29 rfl HI.out) rfl ⟨rfl, six_below HB0.out (Nat.le_refl _)⟩
/-- What 'string(make([]byte, n))' comes to. -/
theorem run_zb (w : World) (n : Nat) : (convert 34 9 (.slice (some ⟨w.heap.size, 0, none⟩) n n)).run Try.prog (w.alloc (.cells (madeCells #[.int .u8 0] n) 5)) = .ok (.string (zb n)) (w.alloc (.cells (madeCells #[.int .u8 0] n) 5)) := by
  have h3 := (MRow.of_made w 5 n).reads
  rw [List.length_replicate] at h3
  exact run_string_reads _ 34 9 5 n Try.underlying34 Try.underlying5 Try.underlying9 h3
theorem put_ex (w : World) : Calls Try.prog 7 #[.int .i64 128, .agg #[.int .i64 4, .int .i64 3, .int .u32 7, .int .u32 9, .int .u64 5, .string bod]] w fun e w' => e = .returned (.tuple #[.string (pageB 4 3 7 9 5 bod), .int .i64 0]) ∧ Below w.heap.size w w' :=
  fput_yes 128 4 3 7 9 5 bod w may_page
theorem lives_any (w : World) : Calls Try.prog 6 #[] w fun e w' => e = .returned (.bool true) ∧ Below w.heap.size w w' := by
  obtain ⟨hz, hi⟩ := zero_of_info infoPg
  have hmk : ∀ w : World, (Instr.makeSlice 34 (.int .i64 128) (.int .i64 128)).run Try.prog w = .ok (.slice (some ⟨w.heap.size, 0, none⟩) 128 128) (w.alloc (.cells (madeCells #[.int .u8 0] 128) 5)) := fun w => run_make_bytes (P := Try.prog) 34 5 Try.underlying34 infoU8 128 (by omega) w
  have hcv := run_zb w 128
  have HG : ∀ w : World, Calls Try.prog 9 #[.int .i64 128, .int .u32 0, .string (zb 128)] w fun e w' => e = .returned (.tuple #[.agg #[.int .i64 0, .int .i64 0, .int .u32 0, .int .u32 0, .int .u64 0, .string ByteArray.empty], .int .i64 4]) ∧ Below w.heap.size w w' := fun w => get_sum 128 (zb 128) 0 w (by decide) (by rw [zb_size]; rfl) zb_bad
  have HP := put_ex
  obtain ⟨z, hz0⟩ : ∃ z, z = zb 128 := ⟨_, rfl⟩
  obtain ⟨s, hs0⟩ : ∃ s, s = pageB 4 3 7 9 5 bod := ⟨_, rfl⟩
  obtain ⟨b, hb0⟩ : ∃ b, b = bod := ⟨_, rfl⟩
  have PA := page_any
  have hsz : (s.size : Int) = 128 := by rw [hs0, pageB_size, bod_size]; rfl
  rw [← hs0, ← hb0] at HP
  rw [← hb0] at PA
  rw [← hz0] at HG hcv
  have hb1 : Below w.heap.size w (w.alloc (.cells (madeCells #[.int .u8 0] 128) 5)) := (Below.refl _ _).alloc (Nat.le_refl _) _
  have hRm : ∀ w : World, Calls Try.prog 15 #[.int .i64 128] w fun e w' => e = .returned (.int .i64 104) ∧ w' = w := fun w => room_is 128 w (by decide)
  have HB := Lib.hid hb1
  clear hz0 hs0 hb0 hi hb1
  go_enter Try.func6, Try.ntmps6
  go_wp2_with fail
  refine (HG _).mono ?_
  rintro e w1 ⟨rfl, hb⟩
  replace HB := Lib.hid (HB.out.trans (hb.mono HB.out.size))
  clear hb hcv
  go_wp2_with fail
  refine (PA _).mono ?_
  rintro e w2 ⟨rfl, hb⟩
  replace HB := Lib.hid ((HB.out.alloc HB.out.size _).trans (hb.mono (HB.out.alloc HB.out.size _).size))
  clear hb
  go_wp2_with fail
  refine (HP _).mono ?_
  rintro e w3 ⟨rfl, hb⟩
  replace HB := Lib.hid (HB.out.trans (hb.mono HB.out.size))
  clear hb
  go_wp2_with fail
  refine (hRm _).mono ?_
  rintro e w' ⟨rfl, rfl⟩
  go_wp2_with fail
  go_ret
  exact ⟨rfl, HB.out⟩
end Go.Proofs.Ytdfkkebjdjmeiaa
