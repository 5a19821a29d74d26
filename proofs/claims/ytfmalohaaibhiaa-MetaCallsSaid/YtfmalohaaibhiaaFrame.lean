/-
  Contracts of package frame's small functions (Room, valid, Pages, At, need), each with its conditions in its own statement.
-/
import Derived.Test.YtfmalohaaibhiaaOctet
import Derived.Test.YtfmalohaaibhiaaCrc
import Derived.Test.YtfmalohaaibhiaaGood
import Derived.Test.YtfmalohaaibhiaaKitLaw
import Derived.Deep.DrawnRows
namespace Go.Proofs.Ytfmalohaaibhiaa
open Go.RowKit
open Go.Lib
set_option linter.unusedVariables false
set_option linter.unusedSimpArgs false
attribute [local go_sem ↓] Go.wp_at_zero Go.wp_at_succ

theorem good_nat {size : Int} (h : goodSize size = true) : ∃ n : Nat, size = n ∧ 128 ≤ n ∧ n ≤ 4096 ∧ n % 64 = 0 := by
  simp [goodSize] at h
  exact ⟨size.toNat, by omega, by omega, by omega, by omega⟩

theorem room_yes (size : Int) (w : World) (h : goodSize size = true) :
    Calls Try.prog 32 #[.int .i64 size] w fun e w' => e = .returned (.int .i64 (size - 24)) ∧ w = w' := by
  obtain ⟨n, rfl, h1, h2, h3⟩ := good_nat h
  go_enter Try.func32, Try.ntmps32
  go_wp2_with (go_at_call 44; refine (dgood_any _ _).mono ?_; rw [h]; rintro e w' ⟨rfl, rfl⟩)
  go_ret
  exact ⟨rfl, rfl⟩
theorem room_no (size : Int) (w : World) (h : goodSize size = false) :
    Calls Try.prog 32 #[.int .i64 size] w fun e w' => e = .returned (.int .i64 0) ∧ w = w' := by
  go_enter Try.func32, Try.ntmps32
  go_wp2_with (go_at_call 44; refine (dgood_any _ _).mono ?_; rw [h]; rintro e w' ⟨rfl, rfl⟩)
  go_ret
  exact ⟨rfl, rfl⟩
theorem fpages_yes (size : Nat) (s : ByteArray) (w : World) (h : goodSize size = true) (hs : s.size ≤ maxLen) :
    Calls Try.prog 61 #[.int .i64 size, .string s] w fun e w' => e = .returned (.int .i64 ((s.size / size : Nat) : Int)) ∧ w = w' := by
  have hp := good_pos h
  have h0 : ¬ (size : Int) = 0 := by omega
  have hq : wrap64 ((s.size : Int) / (size : Int)) = ((s.size / size : Nat) : Int) := by
    have h1 : s.size / size ≤ s.size := Nat.div_le_self _ _
    unfold maxLen at hs
    rw [← Int.natCast_ediv]
    generalize s.size / size = q at *
    unfold wrap64
    omega
  go_enter Try.func61, Try.ntmps61
  go_wp2_with (go_at_call 44; refine (dgood_any _ _).mono ?_; rw [h]; rintro e w' ⟨rfl, rfl⟩)
  go_ret
  exact ⟨by rw [← hq]; rfl, rfl⟩
theorem fpages_no (size : Int) (s : ByteArray) (w : World) (h : goodSize size = false) :
    Calls Try.prog 61 #[.int .i64 size, .string s] w fun e w' => e = .returned (.int .i64 0) ∧ w = w' := by
  go_enter Try.func61, Try.ntmps61
  go_wp2_with (go_at_call 44; refine (dgood_any _ _).mono ?_; rw [h]; rintro e w' ⟨rfl, rfl⟩)
  go_ret
  exact ⟨rfl, rfl⟩

/-- The reader's block. -/
def RdB (w : World) (g : Nat) (size : Int) (s : ByteArray) : Prop := Blk w g 91 #[.int .i64 size, .string s]

theorem need_yes (size : Int) (s : ByteArray) (e : Int) (w : World) :
    Calls Try.prog 65 #[.agg #[.int .i64 size, .string s], .bool true, .int .i64 e] w fun e w' => e = .returned (.tuple #[]) ∧ Below w.heap.size w w' := by
  go_enter Try.func65, Try.ntmps65
  go_wp2
  go_end0
  exact ⟨rfl, (Below.refl _ _).alloc (Nat.le_refl _) _⟩
theorem need_no (size : Int) (s : ByteArray) (n : Int) (w : World) :
    Calls Try.prog 65 #[.agg #[.int .i64 size, .string s], .bool false, .int .i64 n] w fun e w' => e = .panicked [{ v := .iface 89 (.int .i64 n), recovered := false }] ∧ Below w.heap.size w w' := by
  go_enter Try.func65, Try.ntmps65
  go_wp2
  exact ⟨rfl, rfl, (Below.refl _ _).alloc (Nat.le_refl _) _⟩
set_option maxHeartbeats 1600000 in
theorem rnum (size : Int) (s : ByteArray) (f t : Nat) (w : World) (h1 : f < t) (h2 : t ≤ f + 8) (h3 : t ≤ s.size) (hs : s.size ≤ 1000000) :
    Calls Try.prog 66 #[.agg #[.int .i64 size, .string s], .int .i64 f, .int .i64 t] w fun e w' => e = .returned (.int .u64 (leNat (List.take (t - f) (List.drop f s.data.toList)))) ∧ Below w.heap.size w w' := by
  have q1 : (0 : Int) ≤ f := by omega
  have q2 : (f : Int) ≤ t := by omega
  have q3 : (t : Int) ≤ s.size := by omega
  have hsz : (s.extract f t).size = t - f := by rw [ByteArray.size_extract]; omega
  have hl : ((s.extract f t).data.toList).take (t - f) = (s.extract f t).data.toList := by
    rw [List.take_of_length_le]; rw [size_list, hsz]; exact Nat.le_refl _
  have hd : ((t : Int) - f) = ((t - f : Nat) : Int) := by omega
  have HSZ := Lib.hid hsz
  have HL := Lib.hid hl
  clear hsz hl
  have b0 : Blk (w.alloc (.cells #[.int .i64 size, .string s] 91)) w.heap.size 91 #[.int .i64 size, .string s] := Blk.new _ _ _
  have B0 := Lib.hid b0
  clear b0
  go_enter Try.func66, Try.ntmps66
  go_wp2_with fail
  refine (new_any' _ _).mono ?_
  rintro e w1 ⟨rfl, hr, hb1, hlt⟩
  rw [show (w.alloc (.cells #[.int .i64 size, .string s] 91)).heap.size = w.heap.size + 1 by simp] at hr hb1 hlt
  go_wp2_with fail
  refine (number_ok' hr (t - f) (by omega) (by omega) (by rw [HSZ.out]; exact Nat.le_refl _)).mono ?_
  rw [HL.out]
  rintro e w2 ⟨rfl, hr2, hg2⟩
  have c1 := (B0.out.below hb1 (Nat.lt_succ_self _)).grown hg2 (by simp)
  have k0 := c1.cell 0
  have k1 := c1.cell 1
  simp at k0 k1
  clear c1 hr2 hr
  go_wp2_with fail
  refine (need_yes _ _ _ _).mono ?_
  rintro e w3 ⟨rfl, hb3⟩
  go_wp2_with fail
  go_ret
  refine ⟨rfl, ?_⟩
  have hb0 : Below w.heap.size w (w.alloc (.cells #[.int .i64 size, .string s] 91)) := (Below.refl _ _).alloc (Nat.le_refl _) _
  have hb01 := hb0.trans (hb1.mono (Nat.le_succ _))
  have hb02 := hb01.grown hg2 hb01.size (by rintro g ⟨⟩; simp)
  exact hb02.trans (hb3.mono hb02.size)

end Go.Proofs.Ytfmalohaaibhiaa
