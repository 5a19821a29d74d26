/-
  Texts that the main proof rests on, put together: FrameBdy, FrameBody, FrameLaw. No statement is proved here.
-/
import Derived.Test.YtabhhccdbfjigaaJ6
import Derived.Test.YtabhhccdbfjigaaJ11
import Derived.Test.YtabhhccdbfjigaaJ7
import Derived.Laws.CopyRow
import Derived.Laws.IdiomCopy
import Derived.Laws.ResultCell
import Derived.Deep.WholeRow
namespace Go.Proofs.Ytabhhccdbfjigaa
open Go.RowKit
open Go.Lib
set_option linter.unusedVariables false
set_option linter.unusedSimpArgs false

theorem fbody_bad (size : Int) (A : Option Addr) (m c : Nat) (w : World) (hg : goodSize size = false) :
    Calls Try.prog 76 #[.int .i64 size, .slice A m c] w fun e w' => e = .returned (.tuple #[.string ⟨#[]⟩, .int .i64 2]) ∧ w = w' := by
  go_enter Try.func76, Try.ntmps76
  go_wp2_with fail
  refine (dgood_is size _ _ hg).mono ?_
  rintro e w' ⟨rfl, rfl⟩
  go_wp2_with fail
  go_ret2
  exact ⟨rfl, rfl⟩
theorem fbody_long (size : Int) (A : Option Addr) (m c : Nat) (w : World) (hg : goodSize size = true) (hm : size - 24 < m) :
    Calls Try.prog 76 #[.int .i64 size, .slice A m c] w fun e w' => e = .returned (.tuple #[.string ⟨#[]⟩, .int .i64 3]) ∧ w = w' := by
  have q : decide (size - 24 < (m : Int)) = true := by simpa using hm
  go_enter Try.func76, Try.ntmps76
  go_wp2_with fail
  refine (dgood_is size _ _ hg).mono ?_
  rintro e w' ⟨rfl, rfl⟩
  go_wp2_with fail
  refine (room_is size _ hg).mono ?_
  rintro e w' ⟨rfl, rfl⟩
  go_wp2_with fail
  go_ret2
  exact ⟨rfl, rfl⟩
theorem fbody_ok (size : Nat) (A : Option Addr) (m c : Nat) (l : List UInt8) (w : World) (hg : goodSize size = true) (hr : Reads w w.heap.size 1 A m (bcells l)) (hm : m ≤ size - 24) :
    Calls Try.prog 76 #[.int .i64 size, .slice A m c] w fun e w' => e = .returned (.tuple #[.string ⟨(l ++ List.replicate (size - 24 - m) 0).toArray⟩, .int .i64 0]) ∧ Below w.heap.size w w' := by
  have hp := good_pos hg
  have hl : l.length = m := by have := hr.1; rw [bcells_length] at this; omega
  obtain ⟨r, hrm⟩ : ∃ r, r = size - 24 := ⟨_, rfl⟩
  have hR : ∀ w : World, Calls Try.prog 61 #[.int .i64 size] w fun e w' => e = .returned (.int .i64 (r : Int)) ∧ w' = w := fun w => by
    have := room_is size w hg
    rw [show (size : Int) - 24 = (r : Int) by omega] at this
    exact this
  have q : decide (r < m) = false := by simp; omega
  obtain ⟨i0, hi0, hz0, hz1, hz2⟩ := info_parts infoU8
  have hmk := run_make_bytes (P := Try.prog) 60 5 Try.underlying60 infoU8 r (by omega) w
  obtain ⟨w1, hw1⟩ : ∃ w1, w1 = w.alloc (.cells (madeCells #[.int .u8 0] r) 5) := ⟨_, rfl⟩
  rw [← hw1] at hmk
  have b1 : Blk w1 w.heap.size 5 (madeCells #[.int .u8 0] r) := by rw [hw1]; exact Blk.new _ _ _
  have hb1 : Below w.heap.size w w1 := by rw [hw1]; exact (Below.refl _ _).alloc (Nat.le_refl _) _
  have hr1 : Reads w1 w.heap.size 1 A m (bcells l) := hr.below hb1
  have hmc : (madeCells #[.int .u8 0] r).toList = List.replicate r (Value.int .u8 0) := toList_madeCells_one _ _
  obtain ⟨res, hres⟩ : ∃ res, res = l ++ List.replicate (r - m) (0 : UInt8) := ⟨_, rfl⟩
  rw [← hrm, ← hres]
  have hresl : res.length = r := by rw [hres, List.length_append, List.length_replicate]; omega
  obtain ⟨w2, hcp, hr2, hb2⟩ : ∃ w2, (Builtin.copy_ #[60, 60] 3 #[.slice (some ⟨w.heap.size, 0, none⟩) r r, .slice A m c]).run Try.prog w1 = .ok (.int .i64 (m : Int)) w2 ∧ Reads w2 w2.heap.size 1 (some ⟨w.heap.size, 0, none⟩) r (bcells res) ∧ Below w.heap.size w w2 := by
    rcases Nat.eq_zero_or_pos m with h0 | h0
    · subst h0
      have hl0 : l = [] := List.eq_nil_of_length_eq_zero hl
      subst hl0
      have hcp := run_copy_none (P := Try.prog) w1 60 60 3 5 (some ⟨w.heap.size, 0, none⟩) A r r 0 c Try.underlying60 (by rw [hi0]; simp [hz1]) (Nat.zero_min r)
      refine ⟨w1, hcp, ?_, hb1⟩
      rw [hres, hw1, List.nil_append, Nat.sub_zero]
      have h3 := (MRow.of_made w 5 r).reads
      rw [List.length_replicate] at h3
      exact h3
    · obtain ⟨ad, rfl, hab, hat⟩ := hr1.2 h0
      have hcp := run_copy_row (P := Try.prog) w1 60 60 3 5 w.heap.size 0 r r ad m c (madeCells #[.int .u8 0] r) 5 (bcells l) Try.underlying60 (by rw [hi0]; simp [hz1]) b1
        (by rw [bcells_length, hl]; exact (Nat.min_eq_left (by omega)).symm) hat (by rw [size_madeCells, bcells_length]; omega) (bcells_one l)
      rw [bcells_length, hl] at hcp
      refine ⟨_, hcp, ?_, below_setRow hb1 (Nat.le_refl _) _⟩
      have h3 : ((madeCells #[.int .u8 0] r).toList.take 0 ++ bcells l ++ (madeCells #[.int .u8 0] r).toList.drop (0 + m)) = bcells res := by
        rw [hmc, hres, bcells_append]
        simp [bcells]
      rw [h3]
      have hblk := setRow_heap w1 w.heap.size _ (bcells res).toArray _ _ b1
      refine ⟨by rw [bcells_length, hresl, Nat.mul_one], fun _ => ⟨_, rfl, (by have := b1.lt; rw [setRow_size]; exact this), fun j u hu => ?_⟩⟩
      have e : (⟨w.heap.size, 0, none⟩ : Addr).add j = ⟨w.heap.size, j, none⟩ := by unfold Addr.add; split <;> simp_all
      rw [e, cell_of_row _ _ j _ _ _ hblk]
      simpa using hu
  have hcv := run_string_reads w2 60 9 5 r Try.underlying60 Try.underlying5 Try.underlying9 hr2
  clear hr hm hp hl hrm hi0 hz0 hz1 hz2 b1 hb1 hr1 hmc hres hresl hr2 hw1
  go_enter Try.func76, Try.ntmps76
  go_wp2_with fail
  refine (dgood_is size _ _ hg).mono ?_
  rintro e w' ⟨rfl, rfl⟩
  go_wp2_with fail
  refine (hR _).mono ?_
  rintro e w' ⟨rfl, rfl⟩
  go_wp2_with fail
  refine (hR _).mono ?_
  rintro e w' ⟨rfl, rfl⟩
  go_wp2_with fail
  go_ret2
  exact ⟨rfl, hb2⟩
end Go.Proofs.Ytabhhccdbfjigaa
namespace Go.Proofs.Ytabhhccdbfjigaa
open Go.RowKit
open Go.Lib
set_option linter.unusedVariables false
set_option linter.unusedSimpArgs false

theorem fread_bad (size : Int) (s : ByteArray) (n : Nat) (w : World) (hg : goodSize size = false) :
    Calls Try.prog 67 #[.int .i64 size, .string s, .int .u32 n] w fun e w' => e = .returned (.tuple #[.agg #[.int .i64 0, .int .i64 0, .int .u32 0, .int .u32 0, .int .u64 0, .string ByteArray.empty], .int .i64 2]) ∧ Below w.heap.size w w' := by
  obtain ⟨hz, hi⟩ := zero_of_info infoPg
  have HI := Lib.hid hi
  clear hi
  obtain ⟨w0, hw0⟩ : ∃ w0, w0 = w.alloc (.cells #[.int .i64 0, .int .i64 0, .int .u32 0, .int .u32 0, .int .u64 0, .string ByteArray.empty] 40) := ⟨_, rfl⟩
  have R0 := Lib.hid (show Blk w0 w.heap.size 40 #[.int .i64 0, .int .i64 0, .int .u32 0, .int .u32 0, .int .u64 0, .string ByteArray.empty] by rw [hw0]; exact Blk.new _ _ _)
  have HB0 := Lib.hid (show Below w.heap.size w w0 by rw [hw0]; exact (Below.refl _ _).alloc (Nat.le_refl _) _)
  go_enter Try.func67, Try.ntmps67
  go_wp2_with fail
  rw [← hw0]
  clear hw0
  refine (dgood_is size _ _ hg).mono ?_
  rintro e w' ⟨rfl, rfl⟩
  have k0 := R0.out.cell 0
  have k1 := R0.out.cell 1
  have k2 := R0.out.cell 2
  have k3 := R0.out.cell 3
  have k4 := R0.out.cell 4
  have k5 := R0.out.cell 5
  have f0 := R0.out.frozen 0
  have f1 := R0.out.frozen 1
  have f2 := R0.out.frozen 2
  have f3 := R0.out.frozen 3
  have f4 := R0.out.frozen 4
  have f5 := R0.out.frozen 5
  simp at k0 k1 k2 k3 k4 k5
  go_wp2_with fail
  refine bodyPost_ret (read_row rfl _ _ _ w.heap.size #[.int .i64 0, .int .i64 0, .int .u32 0, .int .u32 0, .int .u64 0, .string ByteArray.empty] rfl (load_page (six_at R0.out))) rfl ⟨rfl, six_below HB0.out (Nat.le_refl _)⟩
theorem fread_none (size n : Nat) (s : ByteArray) (w : World) (hg : goodSize size = true) (hs : s.size ≤ maxLen) (hn : ¬ n < s.size / size) (hn2 : n < 4294967296) :
    Calls Try.prog 67 #[.int .i64 size, .string s, .int .u32 n] w fun e w' => e = .returned (.tuple #[.agg #[.int .i64 0, .int .i64 0, .int .u32 0, .int .u32 0, .int .u64 0, .string ByteArray.empty], .int .i64 5]) ∧ Below w.heap.size w w' := by
  obtain ⟨hz, hi⟩ := zero_of_info infoPg
  have HI := Lib.hid hi
  clear hi
  obtain ⟨w0, hw0⟩ : ∃ w0, w0 = w.alloc (.cells #[.int .i64 0, .int .i64 0, .int .u32 0, .int .u32 0, .int .u64 0, .string ByteArray.empty] 40) := ⟨_, rfl⟩
  have R0 := Lib.hid (show Blk w0 w.heap.size 40 #[.int .i64 0, .int .i64 0, .int .u32 0, .int .u32 0, .int .u64 0, .string ByteArray.empty] by rw [hw0]; exact Blk.new _ _ _)
  have HB0 := Lib.hid (show Below w.heap.size w w0 by rw [hw0]; exact (Below.refl _ _).alloc (Nat.le_refl _) _)
  have HA := fun w => at_no size n s w hg hs hn hn2
  clear hs hn hn2
  go_enter Try.func67, Try.ntmps67
  go_wp2_with fail
  rw [← hw0]
  clear hw0
  refine (dgood_is size _ _ hg).mono ?_
  rintro e w' ⟨rfl, rfl⟩
  go_wp2_with fail
  refine (HA _).mono ?_
  rintro e w' ⟨rfl, rfl⟩
  have k0 := R0.out.cell 0
  have k1 := R0.out.cell 1
  have k2 := R0.out.cell 2
  have k3 := R0.out.cell 3
  have k4 := R0.out.cell 4
  have k5 := R0.out.cell 5
  have f0 := R0.out.frozen 0
  have f1 := R0.out.frozen 1
  have f2 := R0.out.frozen 2
  have f3 := R0.out.frozen 3
  have f4 := R0.out.frozen 4
  have f5 := R0.out.frozen 5
  simp at k0 k1 k2 k3 k4 k5
  go_wp2_with fail
  refine bodyPost_ret (read_row rfl _ _ _ w.heap.size #[.int .i64 0, .int .i64 0, .int .u32 0, .int .u32 0, .int .u64 0, .string ByteArray.empty] rfl (load_page (six_at R0.out))) rfl ⟨rfl, six_below HB0.out (Nat.le_refl _)⟩
theorem fread_get (size n : Nat) (s : ByteArray) (a0 a1 : Int) (a2 a3 a4 : Nat) (a5 : ByteArray) (err : Int) (w : World) (hg : goodSize size = true) (hs : s.size ≤ maxLen) (hn : n < s.size / size)
    (hget : ∀ w : World, Calls Try.prog 91 #[.int .i64 size, .int .u32 n, .string (s.extract (n * size) (n * size + size))] w fun e w' => e = .returned (.tuple #[.agg #[.int .i64 a0, .int .i64 a1, .int .u32 a2, .int .u32 a3, .int .u64 a4, .string a5], .int .i64 err]) ∧ Below w.heap.size w w') :
    Calls Try.prog 67 #[.int .i64 size, .string s, .int .u32 n] w fun e w' => e = .returned (.tuple #[.agg #[.int .i64 a0, .int .i64 a1, .int .u32 a2, .int .u32 a3, .int .u64 a4, .string a5], .int .i64 err]) ∧ Below w.heap.size w w' := by
  obtain ⟨hz, hi⟩ := zero_of_info infoPg
  have HI := Lib.hid hi
  clear hi
  obtain ⟨w0, hw0⟩ : ∃ w0, w0 = w.alloc (.cells #[.int .i64 0, .int .i64 0, .int .u32 0, .int .u32 0, .int .u64 0, .string ByteArray.empty] 40) := ⟨_, rfl⟩
  have R0 := Lib.hid (show Blk w0 w.heap.size 40 #[.int .i64 0, .int .i64 0, .int .u32 0, .int .u32 0, .int .u64 0, .string ByteArray.empty] by rw [hw0]; exact Blk.new _ _ _)
  have HB0 := Lib.hid (show Below w.heap.size w w0 by rw [hw0]; exact (Below.refl _ _).alloc (Nat.le_refl _) _)
  have HA := fun w => at_yes size n s w hg hs hn
  obtain ⟨b, hb⟩ : ∃ b, b = s.extract (n * size) (n * size + size) := ⟨_, rfl⟩
  rw [← hb] at HA hget
  clear hb hs hn
  go_enter Try.func67, Try.ntmps67
  go_wp2_with fail
  rw [← hw0]
  clear hw0
  refine (dgood_is size _ _ hg).mono ?_
  rintro e w' ⟨rfl, rfl⟩
  go_wp2_with fail
  refine (HA _).mono ?_
  rintro e w' ⟨rfl, rfl⟩
  go_wp2_with fail
  refine (hget _).mono ?_
  rintro e w1 ⟨rfl, hb1⟩
  replace HB0 := Lib.hid (HB0.out.trans (hb1.mono HB0.out.size))
  replace R0 := Lib.hid (R0.out.below hb1 R0.out.lt)
  clear hb1
  have k0 := R0.out.cell 0
  have k1 := R0.out.cell 1
  have k2 := R0.out.cell 2
  have k3 := R0.out.cell 3
  have k4 := R0.out.cell 4
  have k5 := R0.out.cell 5
  have f0 := R0.out.frozen 0
  have f1 := R0.out.frozen 1
  have f2 := R0.out.frozen 2
  have f3 := R0.out.frozen 3
  have f4 := R0.out.frozen 4
  have f5 := R0.out.frozen 5
  simp at k0 k1 k2 k3 k4 k5
  go_wp2_with fail
  refine bodyPost_ret (read_row rfl _ _ _ w.heap.size #[.int .i64 a0, .int .i64 a1, .int .u32 a2, .int .u32 a3, .int .u64 a4, .string a5] rfl (load_page (six_at R0.out))) rfl ⟨rfl, six_below HB0.out (Nat.le_refl _)⟩

end Go.Proofs.Ytabhhccdbfjigaa
namespace Go.Proofs.Ytabhhccdbfjigaa
open Go.RowKit
open Go.Lib
set_option linter.unusedVariables false
set_option linter.unusedSimpArgs false

/-- The body of the example's page: 104 times "b". -/
def bod : ByteArray := reps ⟨#[98]⟩ 104
theorem bod_size : bod.size = 104 := reps_lit_size 98 104
theorem bod_list : bod.data.toList = List.replicate 104 98 := by rw [bod, reps_list]; exact rep_one 98 104
theorem zb_bad : ¬ leNat (List.take 4 (zb 128).data.toList) = crcM 0 (List.drop 4 (zb 128).data.toList) := by
  rw [zb_list]
  decide +kernel
theorem may_page : mayPg 128 4 3 7 9 5 bod = true := by
  simp [mayPg, bod_size, goodSize]
/-- What 'string(make([]byte, n))' comes to. -/
theorem run_zb (w : World) (n : Nat) : (convert 60 9 (.slice (some ⟨w.heap.size, 0, none⟩) n n)).run Try.prog (w.alloc (.cells (madeCells #[.int .u8 0] n) 5)) = .ok (.string (zb n)) (w.alloc (.cells (madeCells #[.int .u8 0] n) 5)) := by
  have h3 := (MRow.of_made w 5 n).reads
  rw [List.length_replicate] at h3
  exact run_string_reads _ 60 9 5 n Try.underlying60 Try.underlying5 Try.underlying9 h3
theorem put_ex (w : World) : Calls Try.prog 27 #[.int .i64 128, .agg #[.int .i64 4, .int .i64 3, .int .u32 7, .int .u32 9, .int .u64 5, .string bod]] w fun e w' => e = .returned (.tuple #[.string (pageB 4 3 7 9 5 bod), .int .i64 0]) ∧ Below w.heap.size w w' :=
  fput_yes 128 4 3 7 9 5 bod w may_page
end Go.Proofs.Ytabhhccdbfjigaa
