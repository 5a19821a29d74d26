/-
  Contracts over forks of the kit's Same and of the statements' light of layer 7.
-/
import Derived.Test.YtgnpldlgdapehaaJ3
import Derived.Deep.DrawnRows
import Derived.Lib.Hide
import Derived.Lib.MinMax
set_option linter.unusedVariables false
set_option linter.unusedSimpArgs false
namespace Go.Proofs.Ytgnpldlgdapehaa
open Go.RowKit
open Go.Lib hiding intOf
attribute [local go_sem ↓] Go.wp_at_zero Go.wp_at_succ

theorem fk_noteq (a : ByteArray) (b : Int) (w : World) : (binOp .neq 29 (.agg #[.string a, .int .u32 b]) (.agg #[.string a, .int .u32 b])).run Try.prog w = .ok (.bool false) w := by
 simp [go_sem]
set_option maxRecDepth 300000 in
set_option maxHeartbeats 3200000 in
theorem same7_yes (A : Option Addr) (n c : Nat) (A' : Option Addr) (c' : Nat) (l : List Fk) (w : World) {B B' : Nat} (hr : Reads w B 2 A n (fkc l)) (hr' : Reads w B' 2 A' n (fkc l)) (hn : n ≤ maxLen) :
  Calls Try.prog 20 #[.slice A n c, .slice A' n c'] w fun e w' => e = .returned (.bool true) ∧ ∃ q, w' = w.drewN q := by
 have HR := Lib.hid hr
 have HR' := Lib.hid hr'
 unfold maxLen at hn
 clear hr hr'
 go_enter Try.func20, Try.ntmps20
 go_wp2_with fail
 go_loopw [5] (fun i wr => ∃ k : Nat, k ≤ n ∧ i = .int .i64 k ∧ ∃ q, wr = w.drewN q) (fun i _ => n - (intOf i).toNat)
 case atStart => exact ⟨0, Nat.zero_le _, rfl, 0, rfl⟩
 case round =>
  obtain ⟨k, hk, rfl, q, hq⟩ := hrel
  by_cases hlt : k < n
  ·obtain ⟨ad, x, rfl, _, _, hx, hc⟩ := fk_at HR.out hlt
   obtain ⟨ad', x', rfl, _, _, hx', hc'⟩ := fk_at HR'.out hlt
   rw [hx] at hx'
   injection hx' with hx'
   subst hx'
   have hc : FkAt wr (ad.add (k * 2)) x := by rw [hq]; exact hc
   have hc' : FkAt wr (ad'.add (k * 2)) x := by rw [hq]; exact hc'
   obtain ⟨c0, c1⟩ := hc
   obtain ⟨d0, d1⟩ := hc'
   have hk0 : (0 : Int) ≤ k := by omega
   have hk1 : (k : Int) < n := by omega
   have HQ := Lib.hid hq
   have he := fun w => fk_noteq x.nm x.rt w
   clear hq hx
   go_wp2_with fail
   go_quiet (fail)
   go_wp2_with fail
   go_roundw
   case rel =>
    have hqq : ∃ q', wr.drewN nq = w.drewN q' := ⟨q + nq, by rw [HQ.out, World.drewN_drewN]⟩
    first
     | exact ⟨k + 1, by omega, by go_num, hqq⟩
     | ((repeat apply Exists.intro); exact ⟨⟨k + 1, by omega, by go_num, hqq⟩, rfl⟩)
   case measure => simp [intOf]; omega
  ·obtain rfl : k = n := by omega
   clear hlt hk
   have HQ := Lib.hid hq
   clear hq
   go_wp2_with fail
   go_ret
   exact ⟨rfl, q, HQ.out⟩
end Go.Proofs.Ytgnpldlgdapehaa

