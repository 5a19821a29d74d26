/-
  Contracts of the reference of layer 8: In, One, Size, may, May, Find.
-/
import Derived.Test.YtgnpldlgdapehaaJ15
import Derived.Test.YtgnpldlgdapehaaJ11
import Derived.Test.YtgnpldlgdapehaaJ2
import Derived.Deep.CutRange
import Derived.Deep.DrawnRows
import Derived.Deep.QuietTactic
import Derived.BigQuiet
import Derived.Lib.MinMax
set_option linter.unusedVariables false
set_option linter.unusedSimpArgs false
namespace Go.Proofs.Ytgnpldlgdapehaa
open Go.RowKit
open Go.Lib hiding intOf
attribute [local go_sem ↓] Go.wp_at_zero Go.wp_at_succ

theorem rone8_any (b : It) (w : World) (hs : b.ky.size ≤ 140737488351232) (hv : b.vl.size ≤ 140737488351232) : Calls Try.prog 23 #[.agg #[.string b.ky, .string b.vl, .bool b.ov, .int .i64 b.ln, .int .u32 b.hd]] w fun e w' => e = .returned (.int .i64 (oneI b)) ∧ Below w.heap.size w w' := by
 obtain ⟨ky, vl, ov, ln, hd⟩ := b
 cases ov
 ·have HE := Lib.hid (show ((oneI ⟨ky, vl, false, ln, hd⟩ : Nat) : Int) = 3 + (ky.size : Int) + (vl.size : Int) by simp [oneI])
  dsimp only at hs hv
  go_enter Try.func23, Try.ntmps23
  go_wp2
  go_ret
  exact ⟨by rw [HE.out]; rfl, (Below.refl _ _).alloc (Nat.le_refl _) _⟩
 ·have HE := Lib.hid (show ((oneI ⟨ky, vl, true, ln, hd⟩ : Nat) : Int) = 10 + (ky.size : Int) by simp [oneI])
  dsimp only at hs hv
  go_enter Try.func23, Try.ntmps23
  go_wp2
  go_ret
  exact ⟨by rw [HE.out]; rfl, (Below.refl _ _).alloc (Nat.le_refl _) _⟩
set_option maxRecDepth 100000 in
set_option maxHeartbeats 3200000 in
theorem rsize8_any (A : Option Addr) (n c : Nat) (l : List It) (w : World) (hr : Reads w w.heap.size 5 A n (itc l)) (hn : n ≤ maxLen) (hx : NearI l) (hs : sizeI l ≤ 9007199254740992) :
  Calls Try.prog 22 #[.slice A n c] w fun e w' => e = .returned (.int .i64 (sizeI l)) ∧ Below w.heap.size w w' := by
 have hl := it_len hr
 have HR := Lib.hid hr
 have HL := Lib.hid hl
 have HX := Lib.hid hx
 unfold maxLen at hn
 clear hr hl hx
 go_enter Try.func22, Try.ntmps22
 go_wp2_with fail
 go_loopw [3, 4] (fun s i wr => ∃ k : Nat, k ≤ n ∧ i = .int .i64 k ∧ s = .int .i64 (sizeI (l.take k)) ∧ Hid (Below w.heap.size w wr)) (fun _ i _ => n - (intOf i).toNat)
 case atStart => exact ⟨0, Nat.zero_le _, rfl, by simp [sizeI], Lib.hid (Below.refl _ _)⟩
 case round =>
  obtain ⟨k, hk, rfl, rfl, HB⟩ := hrel
  by_cases hlt : k < n
  ·obtain ⟨ad, x, rfl, _, hp, hx, hc⟩ := it_at HR.out hlt
   obtain ⟨hc0, hc1, hc2, hc3, hc4⟩ := hc.below HB.out hp
   have hk0 : (0 : Int) ≤ k := by omega
   have hk1 : (k : Int) < n := by omega
   have hsz := sizeI_take_succ hx
   have hle := sizeI_take_le l (k + 1)
   have hxx := HX.out x (List.mem_of_getElem? hx)
   have HS := Lib.hid hsz
   have hks : sizeI (l.take k) + oneI x ≤ 9007199254740992 := by omega
   have HO := fun w => rone8_any x w hxx.1 hxx.2
   clear hx hsz hle hxx
   go_wp2_with fail
   refine (HO _).mono ?_
   rintro e w1 ⟨rfl, hb⟩
   replace HB := Lib.hid (HB.out.trans (hb.mono HB.out.size))
   clear hb hc hc0 hc1 hc2 hc3 hc4 HO
   have hadd : ((sizeI (l.take k) : Nat) : Int) + ((oneI x : Nat) : Int) = ((sizeI (l.take (k + 1)) : Nat) : Int) := by rw [HS.out]; omega
   go_wp2
   go_roundw
   case rel =>
    first
     | exact ⟨k + 1, by omega, by go_num, by first | rfl | (rw [← hadd]; go_num), HB⟩
     | ((repeat apply Exists.intro); exact ⟨⟨k + 1, by omega, by go_num, by first | rfl | (rw [← hadd]; go_num), HB⟩, rfl⟩)
   case measure => simp [intOf]; omega
  ·obtain rfl : k = n := by omega
   have ht : l.take k = l := List.take_of_length_le (by rw [HL.out]; exact Nat.le_refl _)
   rw [ht]
   clear hlt
   go_wp2
   go_ret
   exact ⟨rfl, HB.out⟩
theorem okIt_in {b : It} (h : b.ov = false) : okIt b = (keyF b.ky && (decide (b.vl.size ≤ 255) && (decide (b.ln = 0) && decide (b.hd = 0)))) := by rw [okIt, if_neg (by rw [h]; decide)]
theorem okIt_ov {b : It} (h : b.ov = true) : okIt b = (keyF b.ky && (decide (b.vl.size = 0) && (decide (1 ≤ b.ln) && (decide (b.ln ≤ 4096) && numB b.hd)))) := by rw [okIt, if_pos h]
end Go.Proofs.Ytgnpldlgdapehaa

