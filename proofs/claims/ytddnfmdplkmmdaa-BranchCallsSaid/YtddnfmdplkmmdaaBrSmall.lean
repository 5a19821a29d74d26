/-
  Contracts of package branch's small functions: Key, isPage, need, Size, Pick.
-/
import Derived.Test.YtddnfmdplkmmdaaFkMath
import Derived.Deep.CutRange
import Derived.WalkMore
namespace Go.Proofs.Ytddnfmdplkmmdaa
open Go.RowKit
open Go.Lib hiding intOf
set_option linter.unusedVariables false
set_option linter.unusedSimpArgs false
attribute [local go_sem ↓] Go.wp_at_zero Go.wp_at_succ

theorem bkey_any (s : ByteArray) (w : World) : Calls Try.prog 16 #[.string s] w fun e w' => e = .returned (.bool (keyF s)) ∧ w' = w := by
  by_cases h1 : s.size ≤ 40
  · have h1' : (s.size : Int) ≤ 40 := by omega
    have HE := Lib.hid (show keyF s = true by simp [keyF, h1])
    go_enter Try.func16, Try.ntmps16
    go_wp2
    go_ret
    exact ⟨by rw [HE.out]; rfl, rfl⟩
  · have h1' : ¬ (s.size : Int) ≤ 40 := by omega
    have HE := Lib.hid (show keyF s = false by simp [keyF, h1])
    go_enter Try.func16, Try.ntmps16
    go_wp2
    go_ret
    exact ⟨by rw [HE.out]; rfl, rfl⟩
theorem bnum_any (n : Nat) (w : World) : Calls Try.prog 26 #[.int .u32 n] w fun e w' => e = .returned (.bool (numB n)) ∧ w' = w := by
  by_cases h1 : 2 ≤ n
  · have h1' : (2 : Int) ≤ n := by omega
    by_cases h2 : n ≤ 2147483647
    · have h2' : (n : Int) ≤ 2147483647 := by omega
      have HE := Lib.hid (show numB n = true by simp [numB, h1, h2])
      go_enter Try.func26, Try.ntmps26
      go_wp2
      go_ret
      exact ⟨by rw [HE.out]; rfl, rfl⟩
    · have h2' : ¬ (n : Int) ≤ 2147483647 := by omega
      have HE := Lib.hid (show numB n = false by simp [numB, h1, h2])
      go_enter Try.func26, Try.ntmps26
      go_wp2
      go_ret
      exact ⟨by rw [HE.out]; rfl, rfl⟩
  · have h1' : ¬ (2 : Int) ≤ n := by omega
    have HE := Lib.hid (show numB n = false by simp [numB, h1])
    go_enter Try.func26, Try.ntmps26
    go_wp2
    go_ret
    exact ⟨by rw [HE.out]; rfl, rfl⟩
/-- What a reader of forks panics with. -/
def DiesB (e : Ending) : Prop := e = .panicked [{ v := .iface 54 (.agg #[]), recovered := false }]
theorem bneed_yes (w : World) : Calls Try.prog 30 #[.bool true] w fun e w' => e = .returned (.tuple #[]) ∧ w' = w := by
  go_enter Try.func30, Try.ntmps30
  go_wp2
  go_end0
  exact ⟨rfl, rfl⟩
theorem bneed_no (w : World) : Calls Try.prog 30 #[.bool false] w fun e w' => DiesB e ∧ w' = w := by
  go_enter Try.func30, Try.ntmps30
  go_wp2
  exact ⟨rfl, rfl, rfl⟩
set_option maxRecDepth 100000 in
set_option maxHeartbeats 3200000 in
theorem bsize_big (A : Option Addr) (n c : Nat) (l : List Fk) (w : World) (hr : Reads w w.heap.size 2 A n (fkc l)) (hn : n ≤ 5864062014805) (hs : sizeF l ≤ 9007199254740992) :
    Calls Try.prog 14 #[.slice A n c] w fun e w' => e = .returned (.int .i64 (sizeF l)) ∧ Below w.heap.size w w' := by
  have hl := fk_len hr
  have HR := Lib.hid hr
  have HL := Lib.hid hl
  clear hr hl
  go_enter Try.func14, Try.ntmps14
  go_wp2_with fail
  go_loopw [3, 5, 8] (fun s p i wr => ∃ k : Nat, k ≤ n ∧ i = .int .i64 k ∧ s = .int .i64 (sizeF (l.take k)) ∧ Hid (Below w.heap.size w wr)) (fun _ _ i _ => n - (intOf i).toNat)
  case atStart => exact ⟨0, Nat.zero_le _, rfl, by simp [sizeF], Lib.hid (Below.refl _ _)⟩
  case round =>
    obtain ⟨k, hk, rfl, rfl, HB⟩ := hrel
    by_cases hlt : k < n
    · obtain ⟨ad, x, rfl, _, hp, hx, hc⟩ := fk_at HR.out hlt
      obtain ⟨hc0, hc1⟩ := hc.below HB.out hp
      have hk0 : (0 : Int) ≤ k := by omega
      have hk1 : (k : Int) < n := by omega
      have hsz := sizeF_take_succ hx
      have hle := sizeF_take_le l (k + 1)
      have HX := Lib.hid hsz
      have hxs : x.nm.size ≤ 9007199254740992 := by omega
      have hks : sizeF (l.take k) + (5 + x.nm.size) ≤ 9007199254740992 := by omega
      have HB2 := Lib.hid (HB.out.alloc HB.out.size (.cells #[.string x.nm, .int .u32 x.rt] 35))
      have hadd : ((sizeF (l.take k) : Nat) : Int) + (1 + (x.nm.size : Int) + 4) = ((sizeF (l.take (k + 1)) : Nat) : Int) := by rw [hsz]; omega
      have HA := Lib.hid hadd
      clear hx hsz hle hadd hc hp
      go_wp2_with fail
      go_roundw
      case rel =>
        have hadd := HA.out
        first
          | exact ⟨k + 1, by omega, by go_num, by rw [hadd], HB2⟩
          | ((repeat apply Exists.intro); exact ⟨⟨k + 1, by omega, by go_num, by rw [hadd], HB2⟩, rfl⟩)
      case measure => simp [intOf]; omega
    · obtain rfl : k = n := by omega
      have ht : l.take k = l := List.take_of_length_le (by rw [HL.out]; exact Nat.le_refl _)
      rw [ht]
      clear hlt
      go_wp2
      go_ret
      exact ⟨rfl, HB.out⟩
theorem bsize_any (A : Option Addr) (n c : Nat) (l : List Fk) (w : World) (hr : Reads w w.heap.size 2 A n (fkc l)) (hn : n ≤ 1000000) (hs : sizeF l ≤ 9007199254740992) :
    Calls Try.prog 14 #[.slice A n c] w fun e w' => e = .returned (.int .i64 (sizeF l)) ∧ Below w.heap.size w w' := bsize_big A n c l w hr (by omega) hs
set_option maxRecDepth 100000 in
set_option maxHeartbeats 3200000 in
theorem bpick_any (A : Option Addr) (n c : Nat) (l : List Fk) (key : ByteArray) (w : World) (hr : Reads w w.heap.size 2 A n (fkc l)) (hn : n ≤ 1000000) :
    Calls Try.prog 15 #[.slice A n c, .string key] w fun e w' => e = .returned (.int .i64 (pickF l key)) ∧ Below w.heap.size w w' := by
  have HL := Lib.hid (fk_len hr)
  have HR := Lib.hid hr
  clear hr
  go_enter Try.func15, Try.ntmps15
  go_wp2_with fail
  go_step3
  go_wp2_with fail
  go_step3
  go_wp2_with fail
  go_loopw [5, 6, 7, 10] (fun s _ _ i wr => ∃ k : Nat, k ≤ n ∧ i = .int .i64 k ∧ s = .int .i64 ((k - 1 : Nat) : Int) ∧ Hid (∀ j y, j < k → l[j]? = some y → (!Op.bytesLess key.toList y.nm.toList) = true) ∧ Hid (Below w.heap.size w wr)) (fun _ _ _ i _ => n - (intOf i).toNat)
  case atStart => exact ⟨0, Nat.zero_le _, rfl, rfl, Lib.hid fun j y hj => absurd hj (by omega), Lib.hid (Below.refl _ _)⟩
  case round =>
    obtain ⟨k, hk, rfl, rfl, HF, HB⟩ := hrel
    by_cases hlt : k < n
    · obtain ⟨ad, x, rfl, _, hp, hx, hc⟩ := fk_at HR.out hlt
      obtain ⟨hc0, hc1⟩ := hc.below HB.out hp
      have hk0 : (0 : Int) ≤ k := by omega
      have hk1 : (k : Int) < n := by omega
      have HX := Lib.hid hx
      have HB2 := Lib.hid (HB.out.alloc HB.out.size (.cells #[.string x.nm, .int .u32 x.rt] 35))
      clear hx hc hp
      rcases he : Op.bytesLess key.toList x.nm.toList with _ | _
      · have HF' := Lib.hid (fun i y (hi : i < k + 1) (hy : l[i]? = some y) => show (!Op.bytesLess key.toList y.nm.toList) = true from by
          by_cases hjk : i < k
          · exact HF.out i y hjk hy
          · obtain rfl : i = k := by omega
            rw [HX.out] at hy
            injection hy with hy
            subst hy
            rw [he]; rfl)
        have hle : (!Op.bytesLess x.nm.toList key.toList && !x.nm.toList == key.toList) = false := by rw [← Bool.not_or, leq_not, he]; rfl
        go_wp2_with fail
        go_roundw
        case rel =>
          refine ⟨k + 1, by omega, by go_num, rfl, HF', HB2⟩
        case measure => simp [intOf]; omega
      · have hN : pickN l key = k := takeWhile_at HF.out (by rw [HL.out]; omega) (fun y hy => by rw [HX.out] at hy; injection hy with hy; subst hy; rw [he]; rfl)
        have HE := Lib.hid (show pickF l key = k - 1 by rw [pickF, hN])
        have hle : (!Op.bytesLess x.nm.toList key.toList && !x.nm.toList == key.toList) = true := by rw [← Bool.not_or, leq_not, he]; rfl
        clear hN
        go_wp2_with fail
        (try rw [Exit.noGoto_ret])
        go_ret
        exact ⟨by rw [HE.out]; rfl, HB2.out⟩
    · obtain rfl : k = n := by omega
      have hN : pickN l key = k := takeWhile_at HF.out (by rw [HL.out]; exact Nat.le_refl _) (fun y hy => by
        have := (List.getElem?_eq_some_iff.1 hy).1
        rw [HL.out] at this
        omega)
      have HE := Lib.hid (show pickF l key = k - 1 by rw [pickF, hN])
      clear hN hlt
      go_wp2_with fail
      (try rw [Exit.noGoto_ret])
      go_ret
      exact ⟨by rw [HE.out]; rfl, HB.out⟩
end Go.Proofs.Ytddnfmdplkmmdaa
