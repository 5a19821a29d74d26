/-
  Contracts over lists of ints: the kit's Own and Same; parts of slices of ints.
-/
import Derived.Test.YtgnpldlgdapehaaJ3
import Derived.Test.YtgnpldlgdapehaaJ6
import Derived.Deep.DrawnRows
import Derived.Lib.SliceRun
set_option linter.unusedVariables false
set_option linter.unusedSimpArgs false
namespace Go.Proofs.Ytgnpldlgdapehaa
open Go.RowKit
attribute [local go_sem ↓] Go.wp_at_zero Go.wp_at_succ

theorem icells_of (l : List Nat) : ncells l = icells (l.map fun (n : Nat) => (n : Int)) := by simp [ncells, icells]
theorem iread_len {w : World} {B n : Nat} {A : Option Addr} {l : List Int} (h : Reads w B 1 A n (icells l)) : l.length = n := by
 have := h.1
 rw [icells_len] at this
 omega
theorem iread_at {w : World} {B n k : Nat} {A : Option Addr} {l : List Int} (h : Reads w B 1 A n (icells l)) (hk : k < n) : ∃ ad x, A = some ad ∧ ad.block < B ∧ l[k]? = some x ∧ w.cell? (ad.add k) = some (.int .i64 x) := by
 obtain ⟨ad, u, ha, hb, hx, hc⟩ := h.at_ hk
 unfold icells at hx
 rw [List.getElem?_map, Option.map_eq_some_iff] at hx
 obtain ⟨x, hx, rfl⟩ := hx
 exact ⟨ad, x, ha, hb, hx, hc⟩
theorem i64_noteq (a : Int) (w : World) : (binOp .neq 3 (.int .i64 a) (.int .i64 a)).run Try.prog w = .ok (.bool false) w := by
 simp [go_sem]
set_option maxRecDepth 300000 in
set_option maxHeartbeats 3200000 in
theorem sameI_yes (A : Option Addr) (n c : Nat) (A' : Option Addr) (c' : Nat) (l : List Int) (w : World) {B B' : Nat} (hr : Reads w B 1 A n (icells l)) (hr' : Reads w B' 1 A' n (icells l)) (hn : n ≤ 1000000) :
  Calls Try.prog 15 #[.slice A n c, .slice A' n c'] w fun e w' => e = .returned (.bool true) ∧ ∃ q, w' = w.drewN q := by
 have HR := Lib.hid hr
 have HR' := Lib.hid hr'
 clear hr hr'
 go_enter Try.func15, Try.ntmps15
 go_wp2_with fail
 go_loopw [5] (fun i wr => ∃ k : Nat, k ≤ n ∧ i = .int .i64 k ∧ ∃ q, wr = w.drewN q) (fun i _ => n - (RowKit.intOf i).toNat)
 case atStart => exact ⟨0, Nat.zero_le _, rfl, 0, rfl⟩
 case round =>
  obtain ⟨k, hk, rfl, q, hq⟩ := hrel
  by_cases hlt : k < n
  ·obtain ⟨ad, x, rfl, _, hx, hc⟩ := iread_at HR.out hlt
   obtain ⟨ad', x', rfl, _, hx', hc'⟩ := iread_at HR'.out hlt
   rw [hx] at hx'
   injection hx' with hx'
   subst hx'
   have hc : wr.cell? (ad.add k) = some (.int .i64 x) := by rw [hq]; exact hc
   have hc' : wr.cell? (ad'.add k) = some (.int .i64 x) := by rw [hq]; exact hc'
   have hk0 : (0 : Int) ≤ k := by omega
   have hk1 : (k : Int) < n := by omega
   have HQ := Lib.hid hq
   have he := fun w => i64_noteq x w
   clear hq hx
   go_wp2_with fail
   go_quiet (fail)
   go_wp2_with fail
   go_roundw
   case rel =>
    have hqq : ∃ q', wr.drewN nq = w.drewN q' := ⟨q + nq, by rw [HQ.out, World.drewN_drewN]⟩
    first
     | exact ⟨k + 1, by omega, by go_num, hqq⟩
     | ((repeat apply Exists.intro); exact ⟨⟨k + 1, by omega, by go_num, hqq⟩, rfl⟩)
   case measure => simp [RowKit.intOf]; omega
  ·obtain rfl : k = n := by omega
   clear hlt hk
   have HQ := Lib.hid hq
   clear hq
   go_wp2_with fail
   go_ret
   exact ⟨rfl, q, HQ.out⟩
end Go.Proofs.Ytgnpldlgdapehaa

