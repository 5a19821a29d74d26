/-
  Contracts over lists of ints: the kit's Own and Same; parts of slices of ints.
-/
import Derived.Test.YtgnpldlgdapehaaJ4
import Derived.Test.YtgnpldlgdapehaaJ6
import Derived.Deep.DrawnRows
import Derived.Lib.SliceRun
set_option linter.unusedVariables false
set_option linter.unusedSimpArgs false
namespace Go.Proofs.Ytgnpldlgdapehaa
open Go.RowKit
attribute [local go_sem ↓] Go.wp_at_zero Go.wp_at_succ

theorem icells_one (l : List Int) : ∀ u ∈ icells l, u.oneCell' = true := by
 intro u hu
 obtain ⟨x, _, rfl⟩ := List.mem_map.1 hu
 rfl
theorem icells_of (l : List Nat) : ncells l = icells (l.map fun (n : Nat) => (n : Int)) := by simp [ncells, icells]
theorem iread_len {w : World} {B n : Nat} {A : Option Addr} {l : List Int} (h : Reads w B 1 A n (icells l)) : l.length = n := by
 have := h.1
 rw [icells_len] at this
 omega
theorem iread_at {w : World} {B n k : Nat} {A : Option Addr} {l : List Int} (h : Reads w B 1 A n (icells l)) (hk : k < n) : ∃ ad x, A = some ad ∧ ad.block < B ∧ l[k]? = some x ∧ w.cell? (ad.add k) = some (.int .i64 x) := by
 obtain ⟨ad, u, ha, hb, hx, hc⟩ := h.at_ hk
 unfold icells at hx
 rw [List.getElem?_map, Option.map_eq_some_iff] at hx
 obtain ⟨x, hx, rfl⟩ := hx
 exact ⟨ad, x, ha, hb, hx, hc⟩
theorem own13_any (A : Option Addr) (n c : Nat) (l : List Int) (w : World) {B : Nat} (hB : B ≤ w.heap.size) (hr : Reads w B 1 A n (icells l)) (hn : n ≤ 1000000) :
  Calls Try.prog 17 #[.slice A n c] w fun e w' => ∃ A' c', e = .returned (.slice A' n c') ∧ w'.ownsRow w.heap.size 3 1 (.slice A' n c') n (icells l) ∧ n ≤ c' ∧ Below w.heap.size w w' := by
 obtain ⟨i0, hi0, hz0, hz1, hz2⟩ := info_parts infoI13
 go_enter Try.func17, Try.ntmps17
 go_wp2_with (at_builtin; refine wpList_append_any _ rfl (.tmp 3) (.tmp 4) _ rfl w.heap.size 3 i0 _ 1 8 Try.underlying22 hi0 hz0 hz1 hz2 rfl (by omega) _ 0 [] rfl (World.ownsRow_made w #[] 0 (Nat.le_refl _) (Nat.zero_le _) rfl) (w.heap.size + 1) A n c (icells l) rfl ((hr.alloc hB _).more (by omega)) (icells_one _) (by unfold maxLen; omega) (by omega) (by simp) ?_; intro v2 w2 hown2 hg2 hat2)
 go_ret
 have hown3 : w2.ownsRow w.heap.size 3 1 v2 n (icells l) := by simpa using hown2
 obtain ⟨A', c', rfl, hc, _⟩ := own_form hown3
 exact ⟨A', c', rfl, hown3, hc, ((Below.refl _ _).alloc (Nat.le_refl _) _).grown hg2 (by simp) (by rintro k ⟨⟩; exact Nat.le_refl _)⟩
theorem i64_noteq (a : Int) (w : World) : (binOp .neq 3 (.int .i64 a) (.int .i64 a)).run Try.prog w = .ok (.bool false) w := by
 simp [go_sem]
set_option maxRecDepth 300000 in
set_option maxHeartbeats 3200000 in
theorem sameI_yes (A : Option Addr) (n c : Nat) (A' : Option Addr) (c' : Nat) (l : List Int) (w : World) {B B' : Nat} (hr : Reads w B 1 A n (icells l)) (hr' : Reads w B' 1 A' n (icells l)) (hn : n ≤ 1000000) :
  Calls Try.prog 15 #[.slice A n c, .slice A' n c'] w fun e w' => e = .returned (.bool true) ∧ ∃ q, w' = w.drewN q := by
 have HR := Lib.hid hr
 have HR' := Lib.hid hr'
 clear hr hr'
 go_enter Try.func15, Try.ntmps15
 go_wp2_with fail
 go_loopw [5] (fun i wr => ∃ k : Nat, k ≤ n ∧ i = .int .i64 k ∧ ∃ q, wr = w.drewN q) (fun i _ => n - (RowKit.intOf i).toNat)
 case atStart => exact ⟨0, Nat.zero_le _, rfl, 0, rfl⟩
 case round =>
  obtain ⟨k, hk, rfl, q, hq⟩ := hrel
  by_cases hlt : k < n
  ·obtain ⟨ad, x, rfl, _, hx, hc⟩ := iread_at HR.out hlt
   obtain ⟨ad', x', rfl, _, hx', hc'⟩ := iread_at HR'.out hlt
   rw [hx] at hx'
   injection hx' with hx'
   subst hx'
   have hc : wr.cell? (ad.add k) = some (.int .i64 x) := by rw [hq]; exact hc
   have hc' : wr.cell? (ad'.add k) = some (.int .i64 x) := by rw [hq]; exact hc'
   have hk0 : (0 : Int) ≤ k := by omega
   have hk1 : (k : Int) < n := by omega
   have HQ := Lib.hid hq
   have he := fun w => i64_noteq x w
   clear hq hx
   go_wp2_with fail
   go_quiet (fail)
   go_wp2_with fail
   go_roundw
   case rel =>
    have hqq : ∃ q', wr.drewN nq = w.drewN q' := ⟨q + nq, by rw [HQ.out, World.drewN_drewN]⟩
    first
     | exact ⟨k + 1, by omega, by go_num, hqq⟩
     | ((repeat apply Exists.intro); exact ⟨⟨k + 1, by omega, by go_num, hqq⟩, rfl⟩)
   case measure => simp [RowKit.intOf]; omega
  ·obtain rfl : k = n := by omega
   clear hlt hk
   have HQ := Lib.hid hq
   clear hq
   go_wp2_with fail
   go_ret
   exact ⟨rfl, q, HQ.out⟩
end Go.Proofs.Ytgnpldlgdapehaa

