/-
  Contracts over forks of the kit's Same and of the statements' light of layer 7.
-/
import Derived.Test.YtddnfmdplkmmdaaFk
import Derived.Deep.DrawnRows
import Derived.Lib.Hide
import Derived.Lib.MinMax
namespace Go.Proofs.Ytddnfmdplkmmdaa
open Go.RowKit
open Go.Lib hiding intOf
set_option linter.unusedVariables false
set_option linter.unusedSimpArgs false
attribute [local go_sem ↓] Go.wp_at_zero Go.wp_at_succ

theorem fk_noteq (a : ByteArray) (b : Int) (w : World) : (binOp .neq 35 (.agg #[.string a, .int .u32 b]) (.agg #[.string a, .int .u32 b])).run Try.prog w = .ok (.bool false) w := by
  simp [go_sem]
set_option maxRecDepth 300000 in
set_option maxHeartbeats 3200000 in
theorem same7_yes (A : Option Addr) (n c : Nat) (A' : Option Addr) (c' : Nat) (l : List Fk) (w : World) {B B' : Nat} (hr : Reads w B 2 A n (fkc l)) (hr' : Reads w B' 2 A' n (fkc l)) (hn : n ≤ maxLen) :
    Calls Try.prog 13 #[.slice A n c, .slice A' n c'] w fun e w' => e = .returned (.bool true) ∧ ∃ q, w' = w.drewN q := by
  have HR := Lib.hid hr
  have HR' := Lib.hid hr'
  unfold maxLen at hn
  clear hr hr'
  go_enter Try.func13, Try.ntmps13
  go_wp2_with fail
  go_loopw [5] (fun i wr => ∃ k : Nat, k ≤ n ∧ i = .int .i64 k ∧ ∃ q, wr = w.drewN q) (fun i _ => n - (intOf i).toNat)
  case atStart => exact ⟨0, Nat.zero_le _, rfl, 0, rfl⟩
  case round =>
    obtain ⟨k, hk, rfl, q, hq⟩ := hrel
    by_cases hlt : k < n
    · obtain ⟨ad, x, rfl, _, _, hx, hc⟩ := fk_at HR.out hlt
      obtain ⟨ad', x', rfl, _, _, hx', hc'⟩ := fk_at HR'.out hlt
      rw [hx] at hx'
      injection hx' with hx'
      subst hx'
      have hc : FkAt wr (ad.add (k * 2)) x := by rw [hq]; exact hc
      have hc' : FkAt wr (ad'.add (k * 2)) x := by rw [hq]; exact hc'
      obtain ⟨c0, c1⟩ := hc
      obtain ⟨d0, d1⟩ := hc'
      have hk0 : (0 : Int) ≤ k := by omega
      have hk1 : (k : Int) < n := by omega
      have HQ := Lib.hid hq
      have he := fun w => fk_noteq x.nm x.rt w
      clear hq hx
      go_wp2_with fail
      go_quiet (fail)
      go_wp2_with fail
      go_roundw
      case rel =>
        have hqq : ∃ q', wr.drewN nq = w.drewN q' := ⟨q + nq, by rw [HQ.out, World.drewN_drewN]⟩
        first
          | exact ⟨k + 1, by omega, by go_num, hqq⟩
          | ((repeat apply Exists.intro); exact ⟨⟨k + 1, by omega, by go_num, hqq⟩, rfl⟩)
      case measure => simp [intOf]; omega
    · obtain rfl : k = n := by omega
      clear hlt hk
      have HQ := Lib.hid hq
      clear hq
      go_wp2_with fail
      go_ret
      exact ⟨rfl, q, HQ.out⟩
/-- The bytes of names, none counted above 3000. -/
def minSumF : List Fk → Nat
  | [] => 0
  | b :: l => min b.nm.size 3000 + minSumF l
theorem minSumF_snoc (l : List Fk) (b : Fk) : minSumF (l ++ [b]) = minSumF l + min b.nm.size 3000 := by
  induction l with
  | nil => simp [minSumF]
  | cons c l ih => simp only [List.cons_append, minSumF, ih]; omega
theorem minSumF_take_succ {l : List Fk} {k : Nat} {x : Fk} (h : l[k]? = some x) : minSumF (l.take (k + 1)) = minSumF (l.take k) + min x.nm.size 3000 := by
  obtain ⟨hk, rfl⟩ := List.getElem?_eq_some_iff.1 h
  rw [List.take_succ_eq_append_getElem hk, minSumF_snoc]
theorem minSumF_take_le (l : List Fk) : ∀ k, minSumF (l.take k) ≤ k * 3000 := by
  intro k
  induction l generalizing k with
  | nil => simp [minSumF]
  | cons c l ih => cases k with
    | zero => simp [minSumF]
    | succ k => simp only [List.take_succ_cons, minSumF]; have := ih k; omega
theorem minSumF_mem {l : List Fk} {b : Fk} (h : b ∈ l) : min b.nm.size 3000 ≤ minSumF l := by
  induction l with
  | nil => cases h
  | cons c l ih =>
    simp only [minSumF]
    rcases List.mem_cons.1 h with rfl | h
    · omega
    · have := ih h; omega
/-- Forks are gone through. -/
def lightF (l : List Fk) : Bool := decide (l.length ≤ 100) && decide (minSumF l ≤ 3000)
set_option maxRecDepth 300000 in
set_option maxHeartbeats 3200000 in
theorem light7_any (A : Option Addr) (n c : Nat) (l : List Fk) (w : World) {B : Nat} (hr : Reads w B 2 A n (fkc l)) (hn : n ≤ 300000000000000) :
    Calls Try.prog 17 #[.slice A n c] w fun e w' => e = .returned (.bool (lightF l)) ∧ w' = w := by
  have HR := Lib.hid hr
  have HL := Lib.hid (fk_len hr)
  clear hr
  go_enter Try.func17, Try.ntmps17
  go_wp2_with fail
  go_loop [3, 4] (fun s i => ∃ k : Nat, k ≤ n ∧ i = .int .i64 k ∧ s = .int .i64 (minSumF (l.take k))) (fun _ i => n - (intOf i).toNat)
  case atStart => exact ⟨0, Nat.zero_le _, rfl, by simp [minSumF]⟩
  case round =>
    obtain ⟨k, hk, rfl, rfl⟩ := hrel
    by_cases hlt : k < n
    · obtain ⟨ad, x, rfl, _, _, hx, hc0, _⟩ := fk_at HR.out hlt
      have hk0 : (0 : Int) ≤ k := by omega
      have hk1 : (k : Int) < n := by omega
      have hs := minSumF_take_succ hx
      have hle := minSumF_take_le l k
      have HS := Lib.hid hs
      clear hx hs
      have hb : minSumF (l.take k) ≤ 900000000000000000 := by omega
      clear hle
      go_wp2_with fail
      go_round
      case rel => exact ⟨k + 1, by omega, by go_num, by rw [HS.out]; congr 1; omega⟩
      case measure => simp [intOf]; omega
    · obtain rfl : k = n := by omega
      have ht : l.take k = l := List.take_of_length_le (by rw [HL.out]; exact Nat.le_refl _)
      rw [ht]
      clear hlt hk ht
      by_cases h1 : k ≤ 100
      · have h1' : (k : Int) ≤ 100 := by omega
        by_cases h2 : minSumF l ≤ 3000
        · have h2' : (minSumF l : Int) ≤ 3000 := by omega
          have e : lightF l = true := by simp [lightF, HL.out, h1, h2]
          have HE := Lib.hid e
          clear e
          go_wp2_with fail
          go_ret
          exact ⟨by rw [HE.out]; rfl, rfl⟩
        · have h2' : ¬ (minSumF l : Int) ≤ 3000 := by omega
          have e : lightF l = false := by simp [lightF, h2]
          have HE := Lib.hid e
          clear e
          go_wp2_with fail
          go_ret
          exact ⟨by rw [HE.out]; rfl, rfl⟩
      · have h1' : ¬ (k : Int) ≤ 100 := by omega
        have e : lightF l = false := by simp [lightF, HL.out, h1]
        have HE := Lib.hid e
        clear e
        go_wp2_with fail
        go_ret
        exact ⟨by rw [HE.out]; rfl, rfl⟩
end Go.Proofs.Ytddnfmdplkmmdaa
