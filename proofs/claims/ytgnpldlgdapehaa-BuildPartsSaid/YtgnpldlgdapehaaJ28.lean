/-
  Contracts of package branch's small functions: Key, isPage, need, Size, Pick.
-/
import Derived.Test.YtgnpldlgdapehaaJ12
import Derived.Deep.CutRange
import Derived.WalkMore
set_option linter.unusedVariables false
set_option linter.unusedSimpArgs false
namespace Go.Proofs.Ytgnpldlgdapehaa
open Go.RowKit
open Go.Lib hiding intOf
attribute [local go_sem ↓] Go.wp_at_zero Go.wp_at_succ

theorem bkey_any (s : ByteArray) (w : World) : Calls Try.prog 57 #[.string s] w fun e w' => e = .returned (.bool (keyF s)) ∧ w' = w := by
 by_cases h1 : s.size ≤ 40
 ·have h1' : (s.size : Int) ≤ 40 := by omega
  have HE := Lib.hid (show keyF s = true by simp [keyF, h1])
  go_enter Try.func57, Try.ntmps57
  go_wp2
  go_ret
  exact ⟨by rw [HE.out]; rfl, rfl⟩
 ·have h1' : ¬ (s.size : Int) ≤ 40 := by omega
  have HE := Lib.hid (show keyF s = false by simp [keyF, h1])
  go_enter Try.func57, Try.ntmps57
  go_wp2
  go_ret
  exact ⟨by rw [HE.out]; rfl, rfl⟩
theorem bnum_any (n : Nat) (w : World) : Calls Try.prog 84 #[.int .u32 n] w fun e w' => e = .returned (.bool (numB n)) ∧ w' = w := by
 by_cases h1 : 2 ≤ n
 ·have h1' : (2 : Int) ≤ n := by omega
  by_cases h2 : n ≤ 2147483647
  ·have h2' : (n : Int) ≤ 2147483647 := by omega
   have HE := Lib.hid (show numB n = true by simp [numB, h1, h2])
   go_enter Try.func84, Try.ntmps84
   go_wp2
   go_ret
   exact ⟨by rw [HE.out]; rfl, rfl⟩
  ·have h2' : ¬ (n : Int) ≤ 2147483647 := by omega
   have HE := Lib.hid (show numB n = false by simp [numB, h1, h2])
   go_enter Try.func84, Try.ntmps84
   go_wp2
   go_ret
   exact ⟨by rw [HE.out]; rfl, rfl⟩
 ·have h1' : ¬ (2 : Int) ≤ n := by omega
  have HE := Lib.hid (show numB n = false by simp [numB, h1])
  go_enter Try.func84, Try.ntmps84
  go_wp2
  go_ret
  exact ⟨by rw [HE.out]; rfl, rfl⟩
set_option maxRecDepth 100000 in
set_option maxHeartbeats 3200000 in
theorem bsize_big (A : Option Addr) (n c : Nat) (l : List Fk) (w : World) (hr : Reads w w.heap.size 2 A n (fkc l)) (hn : n ≤ 5864062014805) (hs : sizeF l ≤ 9007199254740992) :
  Calls Try.prog 54 #[.slice A n c] w fun e w' => e = .returned (.int .i64 (sizeF l)) ∧ Below w.heap.size w w' := by
 have hl := fk_len hr
 have HR := Lib.hid hr
 have HL := Lib.hid hl
 clear hr hl
 go_enter Try.func54, Try.ntmps54
 go_wp2_with fail
 go_loopw [3, 5, 8] (fun s p i wr => ∃ k : Nat, k ≤ n ∧ i = .int .i64 k ∧ s = .int .i64 (sizeF (l.take k)) ∧ Hid (Below w.heap.size w wr)) (fun _ _ i _ => n - (intOf i).toNat)
 case atStart => exact ⟨0, Nat.zero_le _, rfl, by simp [sizeF], Lib.hid (Below.refl _ _)⟩
 case round =>
  obtain ⟨k, hk, rfl, rfl, HB⟩ := hrel
  by_cases hlt : k < n
  ·obtain ⟨ad, x, rfl, _, hp, hx, hc⟩ := fk_at HR.out hlt
   obtain ⟨hc0, hc1⟩ := hc.below HB.out hp
   have hk0 : (0 : Int) ≤ k := by omega
   have hk1 : (k : Int) < n := by omega
   have hsz := sizeF_take_succ hx
   have hle := sizeF_take_le l (k + 1)
   have HX := Lib.hid hsz
   have hxs : x.nm.size ≤ 9007199254740992 := by omega
   have hks : sizeF (l.take k) + (5 + x.nm.size) ≤ 9007199254740992 := by omega
   have HB2 := Lib.hid (HB.out.alloc HB.out.size (.cells #[.string x.nm, .int .u32 x.rt] 29))
   have hadd : ((sizeF (l.take k) : Nat) : Int) + (1 + (x.nm.size : Int) + 4) = ((sizeF (l.take (k + 1)) : Nat) : Int) := by rw [hsz]; omega
   have HA := Lib.hid hadd
   clear hx hsz hle hadd hc hp
   go_wp2_with fail
   go_roundw
   case rel =>
    have hadd := HA.out
    first
     | exact ⟨k + 1, by omega, by go_num, by rw [hadd], HB2⟩
     | ((repeat apply Exists.intro); exact ⟨⟨k + 1, by omega, by go_num, by rw [hadd], HB2⟩, rfl⟩)
   case measure => simp [intOf]; omega
  ·obtain rfl : k = n := by omega
   have ht : l.take k = l := List.take_of_length_le (by rw [HL.out]; exact Nat.le_refl _)
   rw [ht]
   clear hlt
   go_wp2
   go_ret
   exact ⟨rfl, HB.out⟩
theorem bsize_any (A : Option Addr) (n c : Nat) (l : List Fk) (w : World) (hr : Reads w w.heap.size 2 A n (fkc l)) (hn : n ≤ 1000000) (hs : sizeF l ≤ 9007199254740992) :
  Calls Try.prog 54 #[.slice A n c] w fun e w' => e = .returned (.int .i64 (sizeF l)) ∧ Below w.heap.size w w' := bsize_big A n c l w hr (by omega) hs
end Go.Proofs.Ytgnpldlgdapehaa

