/-
  Contracts of what the statements on package device call besides it: careenagekit.Times, Pick and Own, and the example that each begins with.
-/
import Derived.Test.YtmkejkmgpigmhaaDevNew
import Derived.Test.YtmkejkmgpigmhaaPlain
namespace Go.Proofs.Ytmkejkmgpigmhaa
open Go.RowKit
open Go.Lib hiding intOf
set_option linter.unusedVariables false
set_option linter.unusedSimpArgs false

theorem pick_any (x : Int) (m : Nat) (w : World) (h0 : 1 ≤ m) (hm : m ≤ 1000000) :
    Calls Try.prog 31 #[.int .i64 x, .int .i64 m] w fun e w' => e = .returned (.int .i64 (x % m)) ∧ w = w' := by
  have h1 : ¬ (m : Int) < 1 := by omega
  have h3 : (m : Int) ≠ 0 := by omega
  by_cases ht : x.tmod m < 0
  · obtain ⟨he, hlo⟩ := tmod_lt0 x m h0 ht
    have HE := Lib.hid he
    clear he
    go_enter Try.func31, Try.ntmps31
    go_wp2
    go_ret
    refine ⟨?_, rfl⟩
    rw [← HE.out]; rfl
  · have he := tmod_ge0 x m h0 (by omega)
    have HE := Lib.hid he
    clear he
    go_enter Try.func31, Try.ntmps31
    go_wp2
    go_ret
    refine ⟨?_, rfl⟩
    rw [← HE.out]; rfl

theorem infoInt : (Try.prog.info? 3).map (fun i => (i.zero, i.size, i.bytes)) = some (some (.int .i64 0), 1, 8) := by kernel_rfl
theorem ints_one {k : IntKind} (l : List Int) : ∀ u ∈ l.map (Value.int k), u.oneCell' = true := by
  intro u hu
  obtain ⟨b, _, rfl⟩ := List.mem_map.1 hu
  rfl
/-- A text so many times. -/
def rep (l : List UInt8) (n : Nat) : List UInt8 := (List.replicate n l).flatten
theorem rep_len (l : List UInt8) (n : Nat) : (rep l n).length = n * l.length := by simp [rep]
theorem rep_zero (l : List UInt8) : rep l 0 = [] := rfl
theorem rep_succ (l : List UInt8) (n : Nat) : rep l (n + 1) = l ++ rep l n := by simp [rep, List.replicate_succ]
theorem rep_add (l : List UInt8) (m n : Nat) : rep l (m + n) = rep l m ++ rep l n := by
  unfold rep; rw [← List.replicate_append_replicate, List.flatten_append]
theorem rep_double (l : List UInt8) : ∀ n, rep (l ++ l) n = rep l (n + n)
  | 0 => rfl
  | n + 1 => by rw [rep_succ, rep_double l n, show n + 1 + (n + 1) = (n + n) + 1 + 1 by omega, rep_succ, rep_succ, List.append_assoc]
theorem rep_one (b : UInt8) (n : Nat) : rep [b] n = List.replicate n b := by
  induction n with
  | zero => rfl
  | succ n ih => rw [rep_succ, ih]; rfl
def reps (s : ByteArray) (n : Nat) : ByteArray := ⟨(rep s.data.toList n).toArray⟩
theorem reps_list (s : ByteArray) (n : Nat) : (reps s n).data.toList = rep s.data.toList n := by simp [reps]
theorem reps_size (s : ByteArray) (n : Nat) : (reps s n).size = n * s.size := by
  rw [← size_list, reps_list, rep_len, size_list]
theorem bytes_ext {a b : ByteArray} (h : a.data.toList = b.data.toList) : a = b := by
  apply ByteArray.ext
  rw [← Array.toArray_toList (xs := a.data), h, Array.toArray_toList]
theorem mk_list (s : ByteArray) : (⟨s.data.toList.toArray⟩ : ByteArray) = s := by simp

set_option maxHeartbeats 1600000 in
theorem times_any (s : ByteArray) (n : Nat) (w : World) (hn : n ≤ 1048576) (hs : s.size ≤ 1048576) :
    Calls Try.prog 10 #[.string s, .int .i64 n] w fun e w' => e = .returned (.string (reps s n)) ∧ w = w' := by
  obtain ⟨T, hT⟩ : ∃ T, T = n * s.size := ⟨_, rfl⟩
  have hTle : T ≤ 1048576 * 1048576 := by rw [hT]; exact Nat.mul_le_mul hn hs
  have HT := Lib.hid hT
  clear hT
  go_enter Try.func10, Try.ntmps10
  go_wp2
  go_loop [0, 1, 5] (fun a k o => ∃ (a' : ByteArray) (k' : Nat) (o' : ByteArray), k' ≤ n ∧ a = .string a' ∧ k = .int .i64 k' ∧ o = .string o' ∧ Hid (o'.data.toList ++ rep a'.data.toList k' = rep s.data.toList n)) (fun _ k _ => (RowKit.intOf k).toNat)
  case atStart => exact ⟨s, n, ⟨#[]⟩, Nat.le_refl _, rfl, rfl, rfl, by show _ = _; simp⟩
  case round =>
    obtain ⟨a, k, o, hk, rfl, rfl, rfl, HI⟩ := hrel
    by_cases h0 : 0 < k
    · have hlen : o.size + k * a.size = T := by
        have := congrArg List.length HI.out
        rw [List.length_append, rep_len, rep_len, size_list, size_list, size_list, ← HT.out] at this
        exact this
      have ha : a.size ≤ k * a.size := Nat.le_mul_of_pos_left _ h0
      have ho1 : o.size ≤ 1099511627776 := by omega
      have ha1 : a.size ≤ 1099511627776 := by omega
      have hc1 : ¬ (9223372036854775807 < o.size + a.size) := by omega
      have hc2 : ¬ (9223372036854775807 < a.size + a.size) := by omega
      have HL := Lib.hid hlen
      clear hlen ha
      by_cases hodd : k % 2 = 1
      · have e1 : (k : Int) % 2 = 1 := by omega
        go_wp2
        go_round
        case rel =>
          refine ⟨a ++ a, k / 2, o ++ a, by omega, rfl, by rw [Int.natCast_ediv]; rfl, rfl, ?_⟩
          show _ = _
          have h2 : k = (k / 2 + k / 2) + 1 := by omega
          rw [← HI.out, ByteArray.data_append, ByteArray.data_append, Array.toList_append, Array.toList_append, rep_double, List.append_assoc, ← rep_succ, ← h2]
        case measure => simp [RowKit.intOf]; omega
      · have e1 : (k : Int) % 2 = 0 := by omega
        go_wp2
        go_round
        case rel =>
          refine ⟨a ++ a, k / 2, o, by omega, rfl, by rw [Int.natCast_ediv]; rfl, rfl, ?_⟩
          show _ = _
          have h2 : k = k / 2 + k / 2 := by omega
          rw [← HI.out, ByteArray.data_append, Array.toList_append, rep_double, ← h2]
        case measure => simp [RowKit.intOf]; omega
    · obtain rfl : k = 0 := by omega
      go_wp2
      go_ret
      refine ⟨?_, rfl⟩
      have h1 := HI.out
      rw [rep_zero, List.append_nil] at h1
      have : reps s n = o := bytes_ext (by rw [reps_list, h1])
      rw [this]; rfl

theorem own_any {w : World} {A : Option Addr} {n : Nat} {l : List Int} (c : Nat) (hr : Reads w w.heap.size 1 A n (l.map (Value.int .i64))) (hn : n ≤ 17592186044416) :
    Calls Try.prog 32 #[.slice A n c] w fun e w' => ∃ A' c', e = .returned (.slice A' n c') ∧ w'.ownsRow w.heap.size 3 1 (.slice A' n c') n (l.map (Value.int .i64)) ∧ Below w.heap.size w w' := by
  obtain ⟨i0, hi0, hz0, hz1, hz2⟩ := info_parts infoInt
  go_enter Try.func32, Try.ntmps32
  go_wp2_with (at_builtin; refine wpList_append_any _ rfl (.tmp 3) (.tmp 4) _ rfl w.heap.size 3 i0 _ 1 8 Try.underlying38 hi0 hz0 hz1 hz2 rfl (by omega) _ 0 [] rfl (World.ownsRow_made w #[] 0 (Nat.le_refl _) (Nat.zero_le _) rfl) (w.heap.size + 1) A n c (l.map (Value.int .i64)) rfl ((hr.alloc (Nat.le_refl _) _).more (by omega)) (ints_one _) (by unfold maxLen; omega) (by omega) (by simp) ?_; intro v2 w2 hown2 hg2 hat2)
  go_ret
  have hown3 : w2.ownsRow w.heap.size 3 1 v2 n (l.map (Value.int .i64)) := by simpa using hown2
  obtain ⟨A', c', rfl, _⟩ := own_form hown3
  exact ⟨A', c', rfl, hown3, ((Below.refl _ _).alloc (Nat.le_refl _) _).grown hg2 (by simp) (by rintro k ⟨⟩; exact Nat.le_refl _)⟩

/-- The device of the example. -/
def dev0 (s : ByteArray) : DevS := ⟨128, 9, s.data.toList, s.data.toList, [], -1, 0⟩
theorem reps_lit_size (b : UInt8) (n : Nat) : (reps ⟨#[b]⟩ n).size = n := by rw [reps_size]; show n * 1 = n; omega
theorem lives_any (w : World) : Calls Try.prog 9 #[] w fun e w' => e = .returned (.bool true) ∧ Below w.heap.size w w' := by
  obtain ⟨x, hx⟩ : ∃ x, x = reps ⟨#[120]⟩ 300 := ⟨_, rfl⟩
  obtain ⟨y, hy⟩ : ∃ y, y = reps ⟨#[121]⟩ 128 := ⟨_, rfl⟩
  have hxs : x.size = 300 := by rw [hx, reps_lit_size]
  have hys : y.size = 128 := by rw [hy, reps_lit_size]
  have t1 := times_any ⟨#[120]⟩ 300 w (by decide) (by decide)
  rw [← hx] at t1
  have hn := dnew_ok 128 9 x w (by decide) (by decide) (by decide) (by rw [hxs]; decide)
  have HX := Lib.hid hx
  have HY := Lib.hid hy
  have HXS := Lib.hid hxs
  have HYS := Lib.hid hys
  clear hx hy hxs hys
  go_enter Try.func9, Try.ntmps9
  go_wp2_with fail
  refine t1.mono ?_
  rintro e w' ⟨rfl, rfl⟩
  go_wp2_with fail
  refine hn.mono ?_
  rintro e w1 ⟨g, rfl, hd, hb1⟩
  go_wp2_with fail
  refine (dpages_any hd).mono ?_
  rw [show (x.data.toList.length / 128) = 2 by rw [size_list, HXS.out]]
  rintro e w' ⟨rfl, rfl⟩
  go_wp2_with fail
  have t2 := times_any ⟨#[121]⟩ 128 w1 (by decide) (by decide)
  rw [← HY.out] at t2
  refine t2.mono ?_
  rintro e w' ⟨rfl, rfl⟩
  go_wp2_with fail
  refine dwrite_go hd 4 y HYS.out (by show 4 < 9; omega) (fun h => absurd (show (-1 : Int) = 0 from h) (by decide)) ?_ (by show -9223372036854775808 ≤ (-1 : Int); decide) (by show (-1 : Int) ≤ 9223372036854775807; decide) (by show 0 ≤ 4294967296; omega)
  intro _ w2 hd2 hk2
  go_wp2_with fail
  refine (dpages_any hd2).mono ?_
  rw [show (bWrite 128 4 y.data.toList x.data.toList).length / 128 = 5 by rw [bWrite_len _ _ _ _ (by rw [size_list, HYS.out]), size_list, HXS.out]; rfl]
  rintro e w' ⟨rfl, rfl⟩
  go_wp2_with fail
  go_ret
  exact ⟨rfl, hb1.trans (hk2.below (fun k hk => hk.1) hb1.size)⟩
end Go.Proofs.Ytmkejkmgpigmhaa
