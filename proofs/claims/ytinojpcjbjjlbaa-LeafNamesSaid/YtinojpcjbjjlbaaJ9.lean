/-
  Texts that the main proof rests on, put together: KitLaw, Frame, FrameValid. No statement is proved here.
-/
import Derived.Test.YtinojpcjbjjlbaaJ1
import Derived.Test.YtinojpcjbjjlbaaJ4
import Derived.Test.YtinojpcjbjjlbaaJ8
import Derived.Test.YtinojpcjbjjlbaaJ5
import Derived.Test.YtinojpcjbjjlbaaJ7
import Derived.Deep.DrawnRows
namespace Go.Proofs.Ytinojpcjbjjlbaa
open Go.RowKit
open Go.Lib
set_option linter.unusedVariables false
set_option linter.unusedSimpArgs false

theorem infoInt : (Try.prog.info? 3).map (fun i => (i.zero, i.size, i.bytes)) = some (some (.int .i64 0), 1, 8) := by kernel_rfl
theorem ints_one {k : IntKind} (l : List Int) : ∀ u ∈ l.map (Value.int k), u.oneCell' = true := by
  intro u hu
  obtain ⟨b, _, rfl⟩ := List.mem_map.1 hu
  rfl
/-- A text so many times. -/
def rep (l : List UInt8) (n : Nat) : List UInt8 := (List.replicate n l).flatten
theorem rep_len (l : List UInt8) (n : Nat) : (rep l n).length = n * l.length := by simp [rep]
theorem rep_zero (l : List UInt8) : rep l 0 = [] := rfl
theorem rep_succ (l : List UInt8) (n : Nat) : rep l (n + 1) = l ++ rep l n := by simp [rep, List.replicate_succ]
theorem rep_add (l : List UInt8) (m n : Nat) : rep l (m + n) = rep l m ++ rep l n := by
  unfold rep; rw [← List.replicate_append_replicate, List.flatten_append]
theorem rep_double (l : List UInt8) : ∀ n, rep (l ++ l) n = rep l (n + n)
  | 0 => rfl
  | n + 1 => by rw [rep_succ, rep_double l n, show n + 1 + (n + 1) = (n + n) + 1 + 1 by omega, rep_succ, rep_succ, List.append_assoc]
theorem rep_one (b : UInt8) (n : Nat) : rep [b] n = List.replicate n b := by
  induction n with
  | zero => rfl
  | succ n ih => rw [rep_succ, ih]; rfl
def reps (s : ByteArray) (n : Nat) : ByteArray := ⟨(rep s.data.toList n).toArray⟩
theorem reps_list (s : ByteArray) (n : Nat) : (reps s n).data.toList = rep s.data.toList n := by simp [reps]
theorem reps_size (s : ByteArray) (n : Nat) : (reps s n).size = n * s.size := by
  rw [← size_list, reps_list, rep_len, size_list]
theorem bytes_ext {a b : ByteArray} (h : a.data.toList = b.data.toList) : a = b := by
  apply ByteArray.ext
  rw [← Array.toArray_toList (xs := a.data), h, Array.toArray_toList]
theorem mk_list (s : ByteArray) : (⟨s.data.toList.toArray⟩ : ByteArray) = s := by simp

set_option maxHeartbeats 1600000 in
theorem times_any (s : ByteArray) (n : Nat) (w : World) (hn : n ≤ 1048576) (hs : s.size ≤ 1048576) :
    Calls Try.prog 12 #[.string s, .int .i64 n] w fun e w' => e = .returned (.string (reps s n)) ∧ w = w' := by
  obtain ⟨T, hT⟩ : ∃ T, T = n * s.size := ⟨_, rfl⟩
  have hTle : T ≤ 1048576 * 1048576 := by rw [hT]; exact Nat.mul_le_mul hn hs
  have HT := Lib.hid hT
  clear hT
  go_enter Try.func12, Try.ntmps12
  go_wp2
  go_loop [0, 1, 5] (fun a k o => ∃ (a' : ByteArray) (k' : Nat) (o' : ByteArray), k' ≤ n ∧ a = .string a' ∧ k = .int .i64 k' ∧ o = .string o' ∧ Hid (o'.data.toList ++ rep a'.data.toList k' = rep s.data.toList n)) (fun _ k _ => (RowKit.intOf k).toNat)
  case atStart => exact ⟨s, n, ⟨#[]⟩, Nat.le_refl _, rfl, rfl, rfl, by show _ = _; simp⟩
  case round =>
    obtain ⟨a, k, o, hk, rfl, rfl, rfl, HI⟩ := hrel
    by_cases h0 : 0 < k
    · have hlen : o.size + k * a.size = T := by
        have := congrArg List.length HI.out
        rw [List.length_append, rep_len, rep_len, size_list, size_list, size_list, ← HT.out] at this
        exact this
      have ha : a.size ≤ k * a.size := Nat.le_mul_of_pos_left _ h0
      have ho1 : o.size ≤ 1099511627776 := by omega
      have ha1 : a.size ≤ 1099511627776 := by omega
      have hc1 : ¬ (9223372036854775807 < o.size + a.size) := by omega
      have hc2 : ¬ (9223372036854775807 < a.size + a.size) := by omega
      have HL := Lib.hid hlen
      clear hlen ha
      by_cases hodd : k % 2 = 1
      · have e1 : (k : Int) % 2 = 1 := by omega
        go_wp2
        go_round
        case rel =>
          refine ⟨a ++ a, k / 2, o ++ a, by omega, rfl, by rw [Int.natCast_ediv]; rfl, rfl, ?_⟩
          show _ = _
          have h2 : k = (k / 2 + k / 2) + 1 := by omega
          rw [← HI.out, ByteArray.data_append, ByteArray.data_append, Array.toList_append, Array.toList_append, rep_double, List.append_assoc, ← rep_succ, ← h2]
        case measure => simp [RowKit.intOf]; omega
      · have e1 : (k : Int) % 2 = 0 := by omega
        go_wp2
        go_round
        case rel =>
          refine ⟨a ++ a, k / 2, o, by omega, rfl, by rw [Int.natCast_ediv]; rfl, rfl, ?_⟩
          show _ = _
          have h2 : k = k / 2 + k / 2 := by omega
          rw [← HI.out, ByteArray.data_append, Array.toList_append, rep_double, ← h2]
        case measure => simp [RowKit.intOf]; omega
    · obtain rfl : k = 0 := by omega
      go_wp2
      go_ret
      refine ⟨?_, rfl⟩
      have h1 := HI.out
      rw [rep_zero, List.append_nil] at h1
      have : reps s n = o := bytes_ext (by rw [reps_list, h1])
      rw [this]; rfl

theorem reps_lit_size (b : UInt8) (n : Nat) : (reps ⟨#[b]⟩ n).size = n := by rw [reps_size]; show n * 1 = n; omega
end Go.Proofs.Ytinojpcjbjjlbaa
namespace Go.Proofs.Ytinojpcjbjjlbaa
open Go.RowKit
open Go.Lib
set_option linter.unusedVariables false
set_option linter.unusedSimpArgs false
attribute [local go_sem ↓] Go.wp_at_zero Go.wp_at_succ

theorem good_nat {size : Int} (h : goodSize size = true) : ∃ n : Nat, size = n ∧ 128 ≤ n ∧ n ≤ 4096 ∧ n % 64 = 0 := by
  simp [goodSize] at h
  exact ⟨size.toNat, by omega, by omega, by omega, by omega⟩

theorem room_yes (size : Int) (w : World) (h : goodSize size = true) :
    Calls Try.prog 24 #[.int .i64 size] w fun e w' => e = .returned (.int .i64 (size - 24)) ∧ w = w' := by
  obtain ⟨n, rfl, h1, h2, h3⟩ := good_nat h
  go_enter Try.func24, Try.ntmps24
  go_wp2_with (go_at_call 45; refine (dgood_any _ _).mono ?_; rw [h]; rintro e w' ⟨rfl, rfl⟩)
  go_ret
  exact ⟨rfl, rfl⟩
theorem room_no (size : Int) (w : World) (h : goodSize size = false) :
    Calls Try.prog 24 #[.int .i64 size] w fun e w' => e = .returned (.int .i64 0) ∧ w = w' := by
  go_enter Try.func24, Try.ntmps24
  go_wp2_with (go_at_call 45; refine (dgood_any _ _).mono ?_; rw [h]; rintro e w' ⟨rfl, rfl⟩)
  go_ret
  exact ⟨rfl, rfl⟩
end Go.Proofs.Ytinojpcjbjjlbaa
namespace Go.Proofs.Ytinojpcjbjjlbaa
open Go.RowKit
open Go.Lib
set_option linter.unusedVariables false
set_option linter.unusedSimpArgs false
attribute [local go_sem ↓] Go.wp_at_zero Go.wp_at_succ

/-- A page is valid for a page size. -/
def mayPg (size kd ct : Int) (pg lk tx : Nat) (bd : ByteArray) : Bool := goodSize size && (decide (1 ≤ kd) && (decide (kd ≤ 6) && (decide (0 ≤ ct) && (decide (ct ≤ 65535) && (decide (pg ≤ 2147483647) && (decide (lk ≤ 2147483647) && (decide (tx ≤ 4611686018427387904) && decide ((bd.size : Int) = size - 24))))))))
theorem dgood_is (n : Int) (b : Bool) (w : World) (h : goodSize n = b) : Calls Try.prog 45 #[.int .i64 n] w fun e w' => e = .returned (.bool b) ∧ w' = w :=
  (dgood_any n w).mono fun _ _ ⟨a, b⟩ => ⟨by rw [← h]; exact a, b.symm⟩
theorem room_is (n : Int) (w : World) (h : goodSize n = true) : Calls Try.prog 24 #[.int .i64 n] w fun e w' => e = .returned (.int .i64 (n - 24)) ∧ w' = w :=
  (room_yes n w h).mono fun _ _ ⟨a, b⟩ => ⟨a, b.symm⟩
end Go.Proofs.Ytinojpcjbjjlbaa
