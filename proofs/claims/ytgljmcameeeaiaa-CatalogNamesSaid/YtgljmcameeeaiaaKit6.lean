/-
  Contracts over buckets of the kit's Same and of the statements' light of layer 6.
-/
import Derived.Test.YtgljmcameeeaiaaBk
import Derived.Deep.DrawnRows
import Derived.Lib.Hide
import Derived.Lib.MinMax
namespace Go.Proofs.Ytgljmcameeeaiaa
open Go.RowKit
open Go.Lib hiding intOf
set_option linter.unusedVariables false
set_option linter.unusedSimpArgs false
attribute [local go_sem ↓] Go.wp_at_zero Go.wp_at_succ

theorem bk_noteq (a : ByteArray) (b c : Int) (w : World) : (binOp .neq 33 (.agg #[.string a, .int .u32 b, .int .i64 c]) (.agg #[.string a, .int .u32 b, .int .i64 c])).run Try.prog w = .ok (.bool false) w := by
  simp [go_sem]
set_option maxRecDepth 100000 in
set_option maxHeartbeats 3200000 in
theorem same6_yes (A : Option Addr) (n c : Nat) (A' : Option Addr) (c' : Nat) (l : List Bk) (w : World) {B B' : Nat} (hr : Reads w B 3 A n (bkc l)) (hr' : Reads w B' 3 A' n (bkc l)) (hn : n ≤ maxLen) :
    Calls Try.prog 15 #[.slice A n c, .slice A' n c'] w fun e w' => e = .returned (.bool true) ∧ ∃ q, w' = w.drewN q := by
  have HR := Lib.hid hr
  have HR' := Lib.hid hr'
  unfold maxLen at hn
  clear hr hr'
  go_enter Try.func15, Try.ntmps15
  go_wp2_with fail
  go_loopw [5] (fun i wr => ∃ k : Nat, k ≤ n ∧ i = .int .i64 k ∧ ∃ q, wr = w.drewN q) (fun i _ => n - (intOf i).toNat)
  case atStart => exact ⟨0, Nat.zero_le _, rfl, 0, rfl⟩
  case round =>
    obtain ⟨k, hk, rfl, q, hq⟩ := hrel
    by_cases hlt : k < n
    · obtain ⟨ad, x, rfl, _, _, hx, hc⟩ := bk_at HR.out hlt
      obtain ⟨ad', x', rfl, _, _, hx', hc'⟩ := bk_at HR'.out hlt
      rw [hx] at hx'
      injection hx' with hx'
      subst hx'
      have hc : BkAt wr (ad.add (k * 3)) x := by rw [hq]; exact hc
      have hc' : BkAt wr (ad'.add (k * 3)) x := by rw [hq]; exact hc'
      obtain ⟨c0, c1, c2⟩ := hc
      obtain ⟨d0, d1, d2⟩ := hc'
      have hk0 : (0 : Int) ≤ k := by omega
      have hk1 : (k : Int) < n := by omega
      have HQ := Lib.hid hq
      have he := fun w => bk_noteq x.nm x.rt x.ks w
      clear hq hx
      go_wp2_with fail
      go_quiet (fail)
      go_wp2_with fail
      go_roundw
      case rel =>
        have hqq : ∃ q', wr.drewN nq = w.drewN q' := ⟨q + nq, by rw [HQ.out, World.drewN_drewN]⟩
        first
          | exact ⟨k + 1, by omega, by go_num, hqq⟩
          | ((repeat apply Exists.intro); exact ⟨⟨k + 1, by omega, by go_num, hqq⟩, rfl⟩)
      case measure => simp [intOf]; omega
    · obtain rfl : k = n := by omega
      clear hlt hk
      have HQ := Lib.hid hq
      clear hq
      go_wp2_with fail
      go_ret
      exact ⟨rfl, q, HQ.out⟩
/-- The bytes of names, none counted above 1000. -/
def minSum : List Bk → Nat
  | [] => 0
  | b :: l => min b.nm.size 1000 + minSum l
theorem minSum_snoc (l : List Bk) (b : Bk) : minSum (l ++ [b]) = minSum l + min b.nm.size 1000 := by
  induction l with
  | nil => simp [minSum]
  | cons c l ih => simp only [List.cons_append, minSum, ih]; omega
theorem minSum_take_succ {l : List Bk} {k : Nat} {x : Bk} (h : l[k]? = some x) : minSum (l.take (k + 1)) = minSum (l.take k) + min x.nm.size 1000 := by
  obtain ⟨hk, rfl⟩ := List.getElem?_eq_some_iff.1 h
  rw [List.take_succ_eq_append_getElem hk, minSum_snoc]
theorem minSum_take_le (l : List Bk) : ∀ k, minSum (l.take k) ≤ k * 1000 := by
  intro k
  induction l generalizing k with
  | nil => simp [minSum]
  | cons c l ih => cases k with
    | zero => simp [minSum]
    | succ k => simp only [List.take_succ_cons, minSum]; have := ih k; omega
theorem minSum_mem {l : List Bk} {b : Bk} (h : b ∈ l) : min b.nm.size 1000 ≤ minSum l := by
  induction l with
  | nil => cases h
  | cons c l ih =>
    simp only [minSum]
    rcases List.mem_cons.1 h with rfl | h
    · omega
    · have := ih h; omega
/-- Buckets are gone through. -/
def lightB (l : List Bk) : Bool := decide (l.length ≤ 60) && decide (minSum l ≤ 1000)
set_option maxRecDepth 100000 in
set_option maxHeartbeats 3200000 in
theorem light6_any (A : Option Addr) (n c : Nat) (l : List Bk) (w : World) {B : Nat} (hr : Reads w B 3 A n (bkc l)) (hn : n ≤ 4503599627370496) :
    Calls Try.prog 19 #[.slice A n c] w fun e w' => e = .returned (.bool (lightB l)) ∧ w' = w := by
  have HR := Lib.hid hr
  have HL := Lib.hid (bk_len hr)
  clear hr
  go_enter Try.func19, Try.ntmps19
  go_wp2_with fail
  go_loop [3, 4] (fun s i => ∃ k : Nat, k ≤ n ∧ i = .int .i64 k ∧ s = .int .i64 (minSum (l.take k))) (fun _ i => n - (intOf i).toNat)
  case atStart => exact ⟨0, Nat.zero_le _, rfl, by simp [minSum]⟩
  case round =>
    obtain ⟨k, hk, rfl, rfl⟩ := hrel
    by_cases hlt : k < n
    · obtain ⟨ad, x, rfl, _, _, hx, hc0, _, _⟩ := bk_at HR.out hlt
      have hk0 : (0 : Int) ≤ k := by omega
      have hk1 : (k : Int) < n := by omega
      have hs := minSum_take_succ hx
      have hle := minSum_take_le l k
      have HS := Lib.hid hs
      clear hx hs
      have hb : minSum (l.take k) ≤ 4503599627370496000 := by omega
      clear hle
      go_wp2_with fail
      go_round
      case rel => exact ⟨k + 1, by omega, by go_num, by rw [HS.out]; congr 1; omega⟩
      case measure => simp [intOf]; omega
    · obtain rfl : k = n := by omega
      have ht : l.take k = l := List.take_of_length_le (by rw [HL.out]; exact Nat.le_refl _)
      rw [ht]
      clear hlt hk ht
      by_cases h1 : k ≤ 60
      · have h1' : (k : Int) ≤ 60 := by omega
        by_cases h2 : minSum l ≤ 1000
        · have h2' : (minSum l : Int) ≤ 1000 := by omega
          have e : lightB l = true := by simp [lightB, HL.out, h1, h2]
          have HE := Lib.hid e
          clear e
          go_wp2_with fail
          go_ret
          exact ⟨by rw [HE.out]; rfl, rfl⟩
        · have h2' : ¬ (minSum l : Int) ≤ 1000 := by omega
          have e : lightB l = false := by simp [lightB, h2]
          have HE := Lib.hid e
          clear e
          go_wp2_with fail
          go_ret
          exact ⟨by rw [HE.out]; rfl, rfl⟩
      · have h1' : ¬ (k : Int) ≤ 60 := by omega
        have e : lightB l = false := by simp [lightB, HL.out, h1]
        have HE := Lib.hid e
        clear e
        go_wp2_with fail
        go_ret
        exact ⟨by rw [HE.out]; rfl, rfl⟩
end Go.Proofs.Ytgljmcameeeaiaa
