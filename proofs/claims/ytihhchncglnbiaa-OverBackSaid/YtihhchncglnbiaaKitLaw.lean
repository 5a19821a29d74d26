/-
  Contracts of what the statements call of the kit's own: Times and Pick.
-/
import Derived.Test.YtihhchncglnbiaaWords
import Derived.Test.YtihhchncglnbiaaPlain
import Derived.Test.YtihhchncglnbiaaDevPlain
namespace Go.Proofs.Ytihhchncglnbiaa
open Go.RowKit
open Go.Lib
set_option linter.unusedVariables false
set_option linter.unusedSimpArgs false

theorem pick_any (x : Int) (m : Nat) (w : World) (h0 : 1 ≤ m) (hm : m ≤ 1000000) :
    Calls Try.prog 20 #[.int .i64 x, .int .i64 m] w fun e w' => e = .returned (.int .i64 (x % m)) ∧ w = w' := by
  have h1 : ¬ (m : Int) < 1 := by omega
  have h3 : (m : Int) ≠ 0 := by omega
  by_cases ht : x.tmod m < 0
  · obtain ⟨he, hlo⟩ := tmod_lt0 x m h0 ht
    have HE := Lib.hid he
    clear he
    go_enter Try.func20, Try.ntmps20
    go_wp2
    go_ret
    refine ⟨?_, rfl⟩
    rw [← HE.out]; rfl
  · have he := tmod_ge0 x m h0 (by omega)
    have HE := Lib.hid he
    clear he
    go_enter Try.func20, Try.ntmps20
    go_wp2
    go_ret
    refine ⟨?_, rfl⟩
    rw [← HE.out]; rfl

theorem infoInt : (Try.prog.info? 3).map (fun i => (i.zero, i.size, i.bytes)) = some (some (.int .i64 0), 1, 8) := by kernel_rfl
theorem ints_one {k : IntKind} (l : List Int) : ∀ u ∈ l.map (Value.int k), u.oneCell' = true := by
  intro u hu
  obtain ⟨b, _, rfl⟩ := List.mem_map.1 hu
  rfl
/-- A text so many times. -/
def rep (l : List UInt8) (n : Nat) : List UInt8 := (List.replicate n l).flatten
theorem rep_len (l : List UInt8) (n : Nat) : (rep l n).length = n * l.length := by simp [rep]
theorem rep_zero (l : List UInt8) : rep l 0 = [] := rfl
theorem rep_succ (l : List UInt8) (n : Nat) : rep l (n + 1) = l ++ rep l n := by simp [rep, List.replicate_succ]
theorem rep_add (l : List UInt8) (m n : Nat) : rep l (m + n) = rep l m ++ rep l n := by
  unfold rep; rw [← List.replicate_append_replicate, List.flatten_append]
theorem rep_double (l : List UInt8) : ∀ n, rep (l ++ l) n = rep l (n + n)
  | 0 => rfl
  | n + 1 => by rw [rep_succ, rep_double l n, show n + 1 + (n + 1) = (n + n) + 1 + 1 by omega, rep_succ, rep_succ, List.append_assoc]
theorem rep_one (b : UInt8) (n : Nat) : rep [b] n = List.replicate n b := by
  induction n with
  | zero => rfl
  | succ n ih => rw [rep_succ, ih]; rfl
def reps (s : ByteArray) (n : Nat) : ByteArray := ⟨(rep s.data.toList n).toArray⟩
theorem reps_list (s : ByteArray) (n : Nat) : (reps s n).data.toList = rep s.data.toList n := by simp [reps]
theorem reps_size (s : ByteArray) (n : Nat) : (reps s n).size = n * s.size := by
  rw [← size_list, reps_list, rep_len, size_list]
theorem bytes_ext {a b : ByteArray} (h : a.data.toList = b.data.toList) : a = b := by
  apply ByteArray.ext
  rw [← Array.toArray_toList (xs := a.data), h, Array.toArray_toList]
theorem mk_list (s : ByteArray) : (⟨s.data.toList.toArray⟩ : ByteArray) = s := by simp

set_option maxHeartbeats 1600000 in
theorem times_any (s : ByteArray) (n : Nat) (w : World) (hn : n ≤ 1048576) (hs : s.size ≤ 1048576) :
    Calls Try.prog 9 #[.string s, .int .i64 n] w fun e w' => e = .returned (.string (reps s n)) ∧ w = w' := by
  obtain ⟨T, hT⟩ : ∃ T, T = n * s.size := ⟨_, rfl⟩
  have hTle : T ≤ 1048576 * 1048576 := by rw [hT]; exact Nat.mul_le_mul hn hs
  have HT := Lib.hid hT
  clear hT
  go_enter Try.func9, Try.ntmps9
  go_wp2
  go_loop [0, 1, 5] (fun a k o => ∃ (a' : ByteArray) (k' : Nat) (o' : ByteArray), k' ≤ n ∧ a = .string a' ∧ k = .int .i64 k' ∧ o = .string o' ∧ Hid (o'.data.toList ++ rep a'.data.toList k' = rep s.data.toList n)) (fun _ k _ => (RowKit.intOf k).toNat)
  case atStart => exact ⟨s, n, ⟨#[]⟩, Nat.le_refl _, rfl, rfl, rfl, by show _ = _; simp⟩
  case round =>
    obtain ⟨a, k, o, hk, rfl, rfl, rfl, HI⟩ := hrel
    by_cases h0 : 0 < k
    · have hlen : o.size + k * a.size = T := by
        have := congrArg List.length HI.out
        rw [List.length_append, rep_len, rep_len, size_list, size_list, size_list, ← HT.out] at this
        exact this
      have ha : a.size ≤ k * a.size := Nat.le_mul_of_pos_left _ h0
      have ho1 : o.size ≤ 1099511627776 := by omega
      have ha1 : a.size ≤ 1099511627776 := by omega
      have hc1 : ¬ (9223372036854775807 < o.size + a.size) := by omega
      have hc2 : ¬ (9223372036854775807 < a.size + a.size) := by omega
      have HL := Lib.hid hlen
      clear hlen ha
      by_cases hodd : k % 2 = 1
      · have e1 : (k : Int) % 2 = 1 := by omega
        go_wp2
        go_round
        case rel =>
          refine ⟨a ++ a, k / 2, o ++ a, by omega, rfl, by rw [Int.natCast_ediv]; rfl, rfl, ?_⟩
          show _ = _
          have h2 : k = (k / 2 + k / 2) + 1 := by omega
          rw [← HI.out, ByteArray.data_append, ByteArray.data_append, Array.toList_append, Array.toList_append, rep_double, List.append_assoc, ← rep_succ, ← h2]
        case measure => simp [RowKit.intOf]; omega
      · have e1 : (k : Int) % 2 = 0 := by omega
        go_wp2
        go_round
        case rel =>
          refine ⟨a ++ a, k / 2, o, by omega, rfl, by rw [Int.natCast_ediv]; rfl, rfl, ?_⟩
          show _ = _
          have h2 : k = k / 2 + k / 2 := by omega
          rw [← HI.out, ByteArray.data_append, Array.toList_append, rep_double, ← h2]
        case measure => simp [RowKit.intOf]; omega
    · obtain rfl : k = 0 := by omega
      go_wp2
      go_ret
      refine ⟨?_, rfl⟩
      have h1 := HI.out
      rw [rep_zero, List.append_nil] at h1
      have : reps s n = o := bytes_ext (by rw [reps_list, h1])
      rw [this]; rfl

theorem reps_lit_size (b : UInt8) (n : Nat) : (reps ⟨#[b]⟩ n).size = n := by rw [reps_size]; show n * 1 = n; omega
end Go.Proofs.Ytihhchncglnbiaa
