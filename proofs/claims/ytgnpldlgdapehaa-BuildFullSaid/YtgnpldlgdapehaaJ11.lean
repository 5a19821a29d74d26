/-
  Contracts over items of the kit's Same and LightItems and of the statements' light of layer 8.
-/
import Derived.Test.YtgnpldlgdapehaaJ2
import Derived.Deep.DrawnRows
import Derived.Deep.QuietTactic
import Derived.BigQuiet
import Derived.Lib.Hide
import Derived.Lib.MinMax
set_option linter.unusedVariables false
set_option linter.unusedSimpArgs false
namespace Go.Proofs.Ytgnpldlgdapehaa
open Go.RowKit
open Go.Lib hiding intOf
attribute [local go_sem ↓] Go.wp_at_zero Go.wp_at_succ

theorem it_noteq (a b : ByteArray) (o : Bool) (c d : Int) (w : World) : (binOp .neq 46 (.agg #[.string a, .string b, .bool o, .int .i64 c, .int .u32 d]) (.agg #[.string a, .string b, .bool o, .int .i64 c, .int .u32 d])).run Try.prog w = .ok (.bool false) w := by
 simp [go_sem]
set_option maxRecDepth 300000 in
set_option maxHeartbeats 3200000 in
theorem same8_yes (A : Option Addr) (n c : Nat) (A' : Option Addr) (c' : Nat) (l : List It) (w : World) {B B' : Nat} (hr : Reads w B 5 A n (itc l)) (hr' : Reads w B' 5 A' n (itc l)) (hn : n ≤ maxLen) :
  Calls Try.prog 19 #[.slice A n c, .slice A' n c'] w fun e w' => e = .returned (.bool true) ∧ ∃ q, w' = w.drewN q := by
 have HR := Lib.hid hr
 have HR' := Lib.hid hr'
 unfold maxLen at hn
 clear hr hr'
 go_enter Try.func19, Try.ntmps19
 go_wp2_with fail
 go_loopw [5] (fun i wr => ∃ k : Nat, k ≤ n ∧ i = .int .i64 k ∧ ∃ q, wr = w.drewN q) (fun i _ => n - (intOf i).toNat)
 case atStart => exact ⟨0, Nat.zero_le _, rfl, 0, rfl⟩
 case round =>
  obtain ⟨k, hk, rfl, q, hq⟩ := hrel
  by_cases hlt : k < n
  ·obtain ⟨ad, x, rfl, _, _, hx, hc⟩ := it_at HR.out hlt
   obtain ⟨ad', x', rfl, _, _, hx', hc'⟩ := it_at HR'.out hlt
   rw [hx] at hx'
   injection hx' with hx'
   subst hx'
   have hc : ItAt wr (ad.add (k * 5)) x := by rw [hq]; exact hc
   have hc' : ItAt wr (ad'.add (k * 5)) x := by rw [hq]; exact hc'
   obtain ⟨c0, c1, c2, c3, c4⟩ := hc
   obtain ⟨d0, d1, d2, d3, d4⟩ := hc'
   have hk0 : (0 : Int) ≤ k := by omega
   have hk1 : (k : Int) < n := by omega
   have HQ := Lib.hid hq
   have he := fun w => it_noteq x.ky x.vl x.ov x.ln x.hd w
   clear hq hx
   go_wp2_with fail
   go_quiet (fail)
   go_wp2_with fail
   go_roundw
   case rel =>
    have hqq : ∃ q', wr.drewN nq = w.drewN q' := ⟨q + nq, by rw [HQ.out, World.drewN_drewN]⟩
    first
     | exact ⟨k + 1, by omega, by go_num, hqq⟩
     | ((repeat apply Exists.intro); exact ⟨⟨k + 1, by omega, by go_num, hqq⟩, rfl⟩)
   case measure => simp [intOf]; omega
  ·obtain rfl : k = n := by omega
   clear hlt hk
   have HQ := Lib.hid hq
   clear hq
   go_wp2_with fail
   go_ret
   exact ⟨rfl, q, HQ.out⟩
def sumI : List It → Nat
 | [] => 0
 | b :: l => b.ky.size + b.vl.size + sumI l
theorem sumI_snoc (l : List It) (b : It) : sumI (l ++ [b]) = sumI l + (b.ky.size + b.vl.size) := by
 induction l with
 | nil => simp [sumI]
 | cons c l ih => simp only [List.cons_append, sumI, ih]; omega
theorem sumI_take_succ {l : List It} {k : Nat} {x : It} (h : l[k]? = some x) : sumI (l.take (k + 1)) = sumI (l.take k) + (x.ky.size + x.vl.size) := by
 obtain ⟨hk, rfl⟩ := List.getElem?_eq_some_iff.1 h
 rw [List.take_succ_eq_append_getElem hk, sumI_snoc]
theorem sumI_take_le (l : List It) : ∀ k, sumI (l.take k) ≤ sumI l := by
 intro k
 induction l generalizing k with
 | nil => simp [sumI]
 | cons c l ih => cases k with
  | zero => simp [sumI]
  | succ k => simp only [List.take_succ_cons, sumI]; have := ih k; omega
def lightI (l : List It) : Bool := decide (l.length ≤ 100) && decide (sumI l ≤ 4000)
def NearI (l : List It) : Prop := ∀ b, b ∈ l → b.ky.size ≤ 140737488351232 ∧ b.vl.size ≤ 140737488351232
set_option maxRecDepth 300000 in
set_option maxHeartbeats 3200000 in
theorem lightI_any (A : Option Addr) (n c : Nat) (l : List It) (w : World) {B : Nat} (hr : Reads w B 5 A n (itc l)) (hn : n ≤ 300000000000000) (hx : NearI l) :
  Calls Try.prog 8 #[.slice A n c, .int .i64 100, .int .i64 4000] w fun e w' => e = .returned (.bool (lightI l)) ∧ ∃ q, w' = w.drewN q := by
 have HR := Lib.hid hr
 have HL := Lib.hid (it_len hr)
 have HX := Lib.hid hx
 clear hr hx
 by_cases h100 : n ≤ 100
 rotate_left
 ·have h1' : ¬ (n : Int) ≤ 100 := by omega
  have HE := Lib.hid (show lightI l = false by simp [lightI, HL.out, h100])
  clear h100
  go_enter Try.func8, Try.ntmps8
  go_wp2_with fail
  go_ret
  exact ⟨by rw [HE.out]; rfl, 0, rfl⟩
 have h1' : (n : Int) ≤ 100 := by omega
 go_enter Try.func8, Try.ntmps8
 go_wp2_with fail
 go_loopw [7, 8] (fun s i wr => ∃ k : Nat, k ≤ n ∧ i = .int .i64 k ∧ s = .int .i64 (sumI (l.take k)) ∧ sumI (l.take k) ≤ 4000 ∧ ∃ q, wr = w.drewN q) (fun _ i _ => n - (intOf i).toNat)
 case atStart => exact ⟨0, Nat.zero_le _, rfl, by simp [sumI], by simp [sumI], 0, rfl⟩
 case round =>
  obtain ⟨k, hk, rfl, rfl, hs4, q, hq⟩ := hrel
  by_cases hlt : k < n
  ·obtain ⟨ad, x, rfl, _, _, hx, hc⟩ := it_at HR.out hlt
   have hc : ItAt wr (ad.add (k * 5)) x := by rw [hq]; exact hc
   obtain ⟨c0, c1, _⟩ := hc
   have hk0 : (0 : Int) ≤ k := by omega
   have hk1 : (k : Int) < n := by omega
   have hxx := HX.out x (List.mem_of_getElem? hx)
   have hs := sumI_take_succ hx
   have HQ := Lib.hid hq
   have hz1 : x.ky.size ≤ 140737488351232 := hxx.1
   have hz2 : x.vl.size ≤ 140737488351232 := hxx.2
   by_cases hov : sumI (l.take (k + 1)) ≤ 4000
   ·have hle : ((sumI (l.take k) : Nat) : Int) + (x.ky.size : Int) + (x.vl.size : Int) ≤ 4000 := by omega
    have HS := Lib.hid hs
    have HO := Lib.hid hov
    clear hs hx hq hxx hov
    go_wp2_with fail
    go_quiet (fail)
    go_wp2_with fail
    go_roundw
    case rel =>
     have hqq : ∃ q', wr.drewN nq = w.drewN q' := ⟨q + nq, by rw [HQ.out, World.drewN_drewN]⟩
     have hse : ((sumI (l.take k) : Nat) : Int) + (x.ky.size : Int) + (x.vl.size : Int) = ((sumI (l.take (k + 1)) : Nat) : Int) := by rw [HS.out]; omega
     first
      | exact ⟨k + 1, by omega, by go_num, by rw [← hse], HO.out, hqq⟩
      | ((repeat apply Exists.intro); exact ⟨⟨k + 1, by omega, by go_num, by rw [← hse], HO.out, hqq⟩, rfl⟩)
    case measure => simp [intOf]; omega
   ·have hle : ¬ ((sumI (l.take k) : Nat) : Int) + (x.ky.size : Int) + (x.vl.size : Int) ≤ 4000 := by omega
    have HE := Lib.hid (show lightI l = false by
     have := sumI_take_le l (k + 1)
     have h4 : ¬ sumI l ≤ 4000 := by omega
     simp [lightI, h4])
    clear hs hx hq hxx hov
    go_wp2_with fail
    go_quiet (fail)
    go_wp2_with fail
    go_ret
    exact ⟨by rw [HE.out]; rfl, q + nq, by rw [HQ.out, World.drewN_drewN]⟩
  ·obtain rfl : k = n := by omega
   have ht : l.take k = l := List.take_of_length_le (by rw [HL.out]; exact Nat.le_refl _)
   rw [ht] at hs4
   have HE := Lib.hid (show lightI l = true by simp [lightI, HL.out, h100, hs4])
   have HQ := Lib.hid hq
   rw [ht]
   clear hlt hk ht hq
   go_wp2_with fail
   go_ret
   exact ⟨by rw [HE.out]; rfl, q, HQ.out⟩
end Go.Proofs.Ytgnpldlgdapehaa

