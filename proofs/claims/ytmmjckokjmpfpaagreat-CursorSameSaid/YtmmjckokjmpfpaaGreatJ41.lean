/-
  Contracts over pairs of the kit's Same and LightPairs. No statement is proved here.
-/
import Derived.Test.YtmmjckokjmpfpaaGreatJ40
import Derived.Deep.DrawnRows
import Derived.Lib.Hide
import Derived.Lib.MinMax
set_option linter.unusedVariables false
set_option linter.unusedSimpArgs false
namespace Go.Proofs.YtmmjckokjmpfpaaGreat
open Go.RowKit
open Go.Lib hiding intOf
attribute [local go_sem ↓] Go.wp_at_zero Go.wp_at_succ

theorem pr_noteq (a : ByteArray) (b : ByteArray) (w : World) : (binOp .neq 55 (.agg #[.string a, .string b]) (.agg #[.string a, .string b])).run Tryz.prog w = .ok (.bool false) w := by
 simp [go_sem]
set_option maxRecDepth 300000 in
set_option maxHeartbeats 3200000 in
theorem same12_yes (A : Option Addr) (n c : Nat) (A' : Option Addr) (c' : Nat) (l : List Pr) (w : World) {B B' : Nat} (hr : Reads w B 2 A n (prc l)) (hr' : Reads w B' 2 A' n (prc l)) (hn : n ≤ maxLen) :
  Calls Tryz.prog 24 #[.slice A n c, .slice A' n c'] w fun e w' => e = .returned (.bool true) ∧ ∃ q, w' = w.drewN q := by
 have HR := Lib.hid hr
 have HR' := Lib.hid hr'
 unfold maxLen at hn
 clear hr hr'
 go_enter Tryz.func24, Tryz.ntmps24
 go_wp2_with fail
 go_loopw [5] (fun i wr => ∃ k : Nat, k ≤ n ∧ i = .int .i64 k ∧ ∃ q, wr = w.drewN q) (fun i _ => n - (intOf i).toNat)
 case atStart => exact ⟨0, Nat.zero_le _, rfl, 0, rfl⟩
 case round =>
  obtain ⟨k, hk, rfl, q, hq⟩ := hrel
  by_cases hlt : k < n
  ·obtain ⟨ad, x, rfl, _, _, hx, hc⟩ := pr_at HR.out hlt
   obtain ⟨ad', x', rfl, _, _, hx', hc'⟩ := pr_at HR'.out hlt
   rw [hx] at hx'
   injection hx' with hx'
   subst hx'
   have hc : PrAt wr (ad.add (k * 2)) x := by rw [hq]; exact hc
   have hc' : PrAt wr (ad'.add (k * 2)) x := by rw [hq]; exact hc'
   obtain ⟨c0, c1⟩ := hc
   obtain ⟨d0, d1⟩ := hc'
   have hk0 : (0 : Int) ≤ k := by omega
   have hk1 : (k : Int) < n := by omega
   have HQ := Lib.hid hq
   have he := fun w => pr_noteq x.ky x.vl w
   clear hq hx
   go_wp2_with fail
   go_quiet (fail)
   go_wp2_with fail
   go_roundw
   case rel =>
    have hqq : ∃ q', wr.drewN nq = w.drewN q' := ⟨q + nq, by rw [HQ.out, World.drewN_drewN]⟩
    first
     | exact ⟨k + 1, by omega, by go_num, hqq⟩
     | ((repeat apply Exists.intro); exact ⟨⟨k + 1, by omega, by go_num, hqq⟩, rfl⟩)
   case measure => simp [intOf]; omega
  ·obtain rfl : k = n := by omega
   clear hlt hk
   have HQ := Lib.hid hq
   clear hq
   go_wp2_with fail
   go_ret
   exact ⟨rfl, q, HQ.out⟩
def sumP : List Pr → Nat
 | [] => 0
 | b :: l => b.ky.size + b.vl.size + sumP l
theorem sumP_snoc (l : List Pr) (b : Pr) : sumP (l ++ [b]) = sumP l + (b.ky.size + b.vl.size) := by
 induction l with
 | nil => simp [sumP]
 | cons c l ih => simp only [List.cons_append, sumP, ih]; omega
theorem sumP_take_succ {l : List Pr} {k : Nat} {x : Pr} (h : l[k]? = some x) : sumP (l.take (k + 1)) = sumP (l.take k) + (x.ky.size + x.vl.size) := by
 obtain ⟨hk, rfl⟩ := List.getElem?_eq_some_iff.1 h
 rw [List.take_succ_eq_append_getElem hk, sumP_snoc]
theorem sumP_take_le (l : List Pr) : ∀ k, sumP (l.take k) ≤ sumP l := by
 intro k
 induction l generalizing k with
 | nil => simp [sumP]
 | cons c l ih => cases k with
  | zero => simp [sumP]
  | succ k => simp only [List.take_succ_cons, sumP]; have := ih k; omega
def lightP (l : List Pr) : Bool := decide (l.length ≤ 60) && decide (sumP l ≤ 2500)
def NearP (l : List Pr) : Prop := ∀ b, b ∈ l → b.ky.size ≤ 140737488351232 ∧ b.vl.size ≤ 140737488351232
set_option maxRecDepth 300000 in
set_option maxHeartbeats 3200000 in
theorem lightP_any (A : Option Addr) (n c : Nat) (l : List Pr) (w : World) {B : Nat} (hr : Reads w B 2 A n (prc l)) (hn : n ≤ 300000000000000) (hx : NearP l) :
  Calls Tryz.prog 28 #[.slice A n c, .int .i64 60, .int .i64 2500] w fun e w' => e = .returned (.bool (lightP l)) ∧ ∃ q, w' = w.drewN q := by
 have HR := Lib.hid hr
 have HL := Lib.hid (pr_len hr)
 have HX := Lib.hid hx
 clear hr hx
 by_cases h100 : n ≤ 60
 rotate_left
 ·have h1' : ¬ (n : Int) ≤ 60 := by omega
  have HE := Lib.hid (show lightP l = false by simp [lightP, HL.out, h100])
  clear h100
  go_enter Tryz.func28, Tryz.ntmps28
  go_wp2_with fail
  go_ret
  exact ⟨by rw [HE.out]; rfl, 0, rfl⟩
 have h1' : (n : Int) ≤ 60 := by omega
 go_enter Tryz.func28, Tryz.ntmps28
 go_wp2_with fail
 go_loopw [7, 8] (fun s i wr => ∃ k : Nat, k ≤ n ∧ i = .int .i64 k ∧ s = .int .i64 (sumP (l.take k)) ∧ sumP (l.take k) ≤ 2500 ∧ ∃ q, wr = w.drewN q) (fun _ i _ => n - (intOf i).toNat)
 case atStart => exact ⟨0, Nat.zero_le _, rfl, by simp [sumP], by simp [sumP], 0, rfl⟩
 case round =>
  obtain ⟨k, hk, rfl, rfl, hs4, q, hq⟩ := hrel
  by_cases hlt : k < n
  ·obtain ⟨ad, x, rfl, _, _, hx, hc⟩ := pr_at HR.out hlt
   have hc : PrAt wr (ad.add (k * 2)) x := by rw [hq]; exact hc
   obtain ⟨c0, c1⟩ := hc
   have hk0 : (0 : Int) ≤ k := by omega
   have hk1 : (k : Int) < n := by omega
   have hxx := HX.out x (List.mem_of_getElem? hx)
   have hs := sumP_take_succ hx
   have HQ := Lib.hid hq
   have hz1 : x.ky.size ≤ 140737488351232 := hxx.1
   have hz2 : x.vl.size ≤ 140737488351232 := hxx.2
   by_cases hov : sumP (l.take (k + 1)) ≤ 2500
   ·have hle : ((sumP (l.take k) : Nat) : Int) + (x.ky.size : Int) + (x.vl.size : Int) ≤ 2500 := by omega
    have HS := Lib.hid hs
    have HO := Lib.hid hov
    clear hs hx hq hxx hov
    go_wp2_with fail
    go_quiet (fail)
    go_wp2_with fail
    go_roundw
    case rel =>
     have hqq : ∃ q', wr.drewN nq = w.drewN q' := ⟨q + nq, by rw [HQ.out, World.drewN_drewN]⟩
     have hse : ((sumP (l.take k) : Nat) : Int) + (x.ky.size : Int) + (x.vl.size : Int) = ((sumP (l.take (k + 1)) : Nat) : Int) := by rw [HS.out]; omega
     first
      | exact ⟨k + 1, by omega, by go_num, by rw [← hse], HO.out, hqq⟩
      | ((repeat apply Exists.intro); exact ⟨⟨k + 1, by omega, by go_num, by rw [← hse], HO.out, hqq⟩, rfl⟩)
    case measure => simp [intOf]; omega
   ·have hle : ¬ ((sumP (l.take k) : Nat) : Int) + (x.ky.size : Int) + (x.vl.size : Int) ≤ 2500 := by omega
    have HE := Lib.hid (show lightP l = false by
     have := sumP_take_le l (k + 1)
     have h4 : ¬ sumP l ≤ 2500 := by omega
     simp [lightP, h4])
    clear hs hx hq hxx hov
    go_wp2_with fail
    go_quiet (fail)
    go_wp2_with fail
    go_ret
    exact ⟨by rw [HE.out]; rfl, q + nq, by rw [HQ.out, World.drewN_drewN]⟩
  ·obtain rfl : k = n := by omega
   have ht : l.take k = l := List.take_of_length_le (by rw [HL.out]; exact Nat.le_refl _)
   rw [ht] at hs4
   have HE := Lib.hid (show lightP l = true by simp [lightP, HL.out, h100, hs4])
   have HQ := Lib.hid hq
   rw [ht]
   clear hlt hk ht hq
   go_wp2_with fail
   go_ret
   exact ⟨by rw [HE.out]; rfl, q, HQ.out⟩
end Go.Proofs.YtmmjckokjmpfpaaGreat

