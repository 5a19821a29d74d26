/-
  Texts that the main proof rests on, put together: LeSmall, LeValid. No statement is proved here.
-/
import Derived.Test.YtmmjckokjmpfpaaGreatJ12
import Derived.Test.YtmmjckokjmpfpaaGreatJ19
import Derived.Test.YtmmjckokjmpfpaaGreatJ11
import Derived.Deep.CutRange
import Derived.Deep.DrawnRows
import Derived.WalkMore
import Derived.Test.YtmmjckokjmpfpaaGreatJ5
import Derived.Deep.RegionHeld3
set_option linter.unusedVariables false
set_option linter.unusedSimpArgs false
namespace Go.Proofs.YtmmjckokjmpfpaaGreat
open Go.RowKit
open Go.Lib hiding intOf
attribute [local go_sem ↓] Go.wp_at_zero Go.wp_at_succ

theorem lnum_any (n : Nat) (w : World) : Calls Tryz.prog 146 #[.int .u32 n] w fun e w' => e = .returned (.bool (numB n)) ∧ w' = w := by
 by_cases h1 : 2 ≤ n
 ·have h1' : (2 : Int) ≤ n := by omega
  by_cases h2 : n ≤ 2147483647
  ·have h2' : (n : Int) ≤ 2147483647 := by omega
   have HE := Lib.hid (show numB n = true by simp [numB, h1, h2])
   go_enter Tryz.func146, Tryz.ntmps146
   go_wp2
   go_ret
   exact ⟨by rw [HE.out]; rfl, rfl⟩
  ·have h2' : ¬ (n : Int) ≤ 2147483647 := by omega
   have HE := Lib.hid (show numB n = false by simp [numB, h1, h2])
   go_enter Tryz.func146, Tryz.ntmps146
   go_wp2
   go_ret
   exact ⟨by rw [HE.out]; rfl, rfl⟩
 ·have h1' : ¬ (2 : Int) ≤ n := by omega
  have HE := Lib.hid (show numB n = false by simp [numB, h1])
  go_enter Tryz.func146, Tryz.ntmps146
  go_wp2
  go_ret
  exact ⟨by rw [HE.out]; rfl, rfl⟩
set_option maxRecDepth 100000 in
set_option maxHeartbeats 3200000 in
theorem litem_any (b : It) (w : World) : Calls Tryz.prog 164 #[.agg #[.string b.ky, .string b.vl, .bool b.ov, .int .i64 b.ln, .int .u32 b.hd]] w fun e w' => e = .returned (.bool (okIt b)) ∧ Below w.heap.size w w' := by
 obtain ⟨ky, vl, ov, ln, hd⟩ := b
 have HN := fun w => lnum_any hd w
 have HB := Lib.hid ((Below.refl w.heap.size w).alloc (Nat.le_refl _) (.cells #[.string ky, .string vl, .bool ov, .int .i64 ln, .int .u32 hd] 76))
 have hvz : vl.toList.isEmpty = decide (vl.size = 0) := by
  rw [Bool.eq_iff_iff, List.isEmpty_iff_length_eq_zero, ByteArray.toList_eq, size_list, decide_eq_true_eq]
 cases ov
 ·clear hvz
  have hE := okIt_in (b := ⟨ky, vl, false, ln, hd⟩) rfl
  dsimp only at hE
  rcases hk : keyF ky with _ | _
  ·have hkd : decide ((ky.size : Int) > 40) = true := by simp [keyF] at hk; simp; omega
   rw [hk] at hE
   have HE := Lib.hid hE
   clear hE hk
   go_enter Tryz.func164, Tryz.ntmps164
   go_wp2_with fail
   go_ret
   exact ⟨by rw [HE.out]; rfl, HB.out⟩
  have hkd : decide ((ky.size : Int) > 40) = false := by simp [keyF] at hk; simp; omega
  rw [hk] at hE
  by_cases h1 : vl.size ≤ 255
  rotate_left
  ·have h1' : decide ((vl.size : Int) ≤ 255) = false := by simp; omega
   rw [decide_eq_false h1] at hE
   have HE := Lib.hid hE
   clear hE hk h1
   go_enter Tryz.func164, Tryz.ntmps164
   go_wp2_with fail
   go_ret
   exact ⟨by rw [HE.out]; rfl, HB.out⟩
  have h1' : decide ((vl.size : Int) ≤ 255) = true := by simp; omega
  rw [decide_eq_true h1] at hE
  by_cases h2 : ln = 0
  rotate_left
  ·have h2' : (ln == 0) = false := by simpa using h2
   rw [decide_eq_false h2] at hE
   have HE := Lib.hid hE
   clear hE hk h1 h2
   go_enter Tryz.func164, Tryz.ntmps164
   go_wp2_with fail
   go_ret
   exact ⟨by rw [HE.out]; rfl, HB.out⟩
  have h2' : (ln == 0) = true := by simpa using h2
  rw [decide_eq_true h2] at hE
  have h3' : ((hd : Int) == 0) = decide (hd = 0) := by
   by_cases h3 : hd = 0
   ·simp [h3]
   ·simp [h3]
  have HE := Lib.hid hE
  have H3 := Lib.hid h3'
  clear hE hk h1 h2 h3'
  go_enter Tryz.func164, Tryz.ntmps164
  go_wp2_with fail
  go_ret
  exact ⟨by rw [HE.out, ← H3.out]; rfl, HB.out⟩
 ·have hE := okIt_ov (b := ⟨ky, vl, true, ln, hd⟩) rfl
  dsimp only at hE
  rcases hk : keyF ky with _ | _
  ·have hkd : decide ((ky.size : Int) > 40) = true := by simp [keyF] at hk; simp; omega
   rw [hk] at hE
   have HE := Lib.hid hE
   clear hE hk hvz
   go_enter Tryz.func164, Tryz.ntmps164
   go_wp2_with fail
   go_ret
   exact ⟨by rw [HE.out]; rfl, HB.out⟩
  have hkd : decide ((ky.size : Int) > 40) = false := by simp [keyF] at hk; simp; omega
  rw [hk] at hE
  by_cases h1 : vl.size = 0
  rotate_left
  ·rw [decide_eq_false h1] at hE hvz
   have HE := Lib.hid hE
   clear hE hk h1
   go_enter Tryz.func164, Tryz.ntmps164
   go_wp2_with fail
   go_ret
   exact ⟨by rw [HE.out]; rfl, HB.out⟩
  rw [decide_eq_true h1] at hE hvz
  have hvn : vl.toList = [] := List.isEmpty_iff.1 hvz
  clear hvz
  by_cases h2 : 1 ≤ ln
  rotate_left
  ·have h2' : decide (1 ≤ ln) = false := decide_eq_false h2
   rw [h2'] at hE
   have HE := Lib.hid hE
   clear hE hk h1 h2
   go_enter Tryz.func164, Tryz.ntmps164
   go_wp2_with fail
   go_ret
   exact ⟨by rw [HE.out]; rfl, HB.out⟩
  rw [decide_eq_true h2] at hE
  by_cases h3 : ln ≤ 4096
  rotate_left
  ·have h3' : decide (ln ≤ 4096) = false := decide_eq_false h3
   rw [h3'] at hE
   have HE := Lib.hid hE
   clear hE hk h1
   go_enter Tryz.func164, Tryz.ntmps164
   go_wp2_with fail
   go_ret
   exact ⟨by rw [HE.out]; rfl, HB.out⟩
  rw [decide_eq_true h3] at hE
  have HE := Lib.hid hE
  clear hE hk h1
  go_enter Tryz.func164, Tryz.ntmps164
  go_wp2_with (go_at_call 146; refine (HN _).mono ?_; rintro e w' ⟨rfl, rfl⟩)
  go_ret
  exact ⟨by rw [HE.out]; rfl, HB.out⟩
set_option maxRecDepth 100000 in
set_option maxHeartbeats 3200000 in
theorem lsize_big (A : Option Addr) (n c : Nat) (l : List It) (w : World) (hr : Reads w w.heap.size 5 A n (itc l)) (hn : n ≤ 2513169434916) (hx : NearI l) (hs : sizeI l ≤ 9007199254740992) :
  Calls Tryz.prog 145 #[.slice A n c] w fun e w' => e = .returned (.int .i64 (sizeI l)) ∧ Below w.heap.size w w' := by
 have hl := it_len hr
 have HR := Lib.hid hr
 have HL := Lib.hid hl
 have HX := Lib.hid hx
 clear hr hl hx
 go_enter Tryz.func145, Tryz.ntmps145
 go_wp2_with fail
 go_loopw [3, 5, 8] (fun s p i wr => ∃ k : Nat, k ≤ n ∧ i = .int .i64 k ∧ s = .int .i64 (sizeI (l.take k)) ∧ Hid (Below w.heap.size w wr)) (fun _ _ i _ => n - (intOf i).toNat)
 case atStart => exact ⟨0, Nat.zero_le _, rfl, by simp [sizeI], Lib.hid (Below.refl _ _)⟩
 case round =>
  obtain ⟨k, hk, rfl, rfl, HB⟩ := hrel
  by_cases hlt : k < n
  ·obtain ⟨ad, x, rfl, _, hp, hx, hc⟩ := it_at HR.out hlt
   obtain ⟨c0, c1, c2, c3, c4⟩ := hc.below HB.out hp
   have hk0 : (0 : Int) ≤ k := by omega
   have hk1 : (k : Int) < n := by omega
   have hsz := sizeI_take_succ hx
   have hle := sizeI_take_le l (k + 1)
   have hks : sizeI (l.take k) + oneI x ≤ 9007199254740992 := by omega
   have HS := Lib.hid hsz
   have HB2 := Lib.hid (HB.out.alloc HB.out.size (.cells x.cells.toArray 76))
   obtain ⟨ky, vl, ov, ln, hd⟩ := x
   dsimp only [It.cells] at HB2
   clear hx hsz hle hc hp
   cases ov
   ·have ho : oneI ⟨ky, vl, false, ln, hd⟩ = 3 + ky.size + vl.size := rfl
    have hadd : ((sizeI (l.take k) : Nat) : Int) + (2 + (ky.size : Int)) + (1 + (vl.size : Int)) = ((sizeI (l.take (k + 1)) : Nat) : Int) := by rw [HS.out, ho]; omega
    rw [ho] at hks
    have HA := Lib.hid hadd
    clear hadd ho HS
    go_wp2_with fail
    go_roundw
    case rel =>
     have hadd := HA.out
     first
      | exact ⟨k + 1, by omega, by go_num, by rw [hadd], HB2⟩
      | ((repeat apply Exists.intro); exact ⟨⟨k + 1, by omega, by go_num, by rw [hadd], HB2⟩, rfl⟩)
    case measure => simp [intOf]; omega
   ·have ho : oneI ⟨ky, vl, true, ln, hd⟩ = 10 + ky.size := rfl
    have hadd : ((sizeI (l.take k) : Nat) : Int) + (2 + (ky.size : Int)) + 8 = ((sizeI (l.take (k + 1)) : Nat) : Int) := by rw [HS.out, ho]; omega
    rw [ho] at hks
    have HA := Lib.hid hadd
    clear hadd ho HS
    go_wp2_with fail
    go_roundw
    case rel =>
     have hadd := HA.out
     first
      | exact ⟨k + 1, by omega, by go_num, by rw [hadd], HB2⟩
      | ((repeat apply Exists.intro); exact ⟨⟨k + 1, by omega, by go_num, by rw [hadd], HB2⟩, rfl⟩)
    case measure => simp [intOf]; omega
  ·obtain rfl : k = n := by omega
   have ht : l.take k = l := List.take_of_length_le (by rw [HL.out]; exact Nat.le_refl _)
   rw [ht]
   clear hlt
   go_wp2
   go_ret
   exact ⟨rfl, HB.out⟩
def foundL (n k : Nat) : Int := if k < n then (k : Int) else -1
set_option maxRecDepth 100000 in
set_option maxHeartbeats 3200000 in
theorem lidx_any (p : It → Bool) (g : Nat) (lb : Array Value) (eg : ∀ args w, (callFunc g args).run Tryz.prog w = .ok (.enter g args) w) (A : Option Addr) (n c : Nat) (l : List It) (w : World)
  (hr : Reads w w.heap.size 5 A n (itc l)) (hn : n ≤ maxLen)
  (hp : ∀ (W : World) (x : It), Below w.heap.size w W → Calls Tryz.prog g (#[.agg #[.string x.ky, .string x.vl, .bool x.ov, .int .i64 x.ln, .int .u32 x.hd]] ++ lb) W fun e w' => e = .returned (.bool (p x)) ∧ Below w.heap.size w w') :
  Calls Tryz.prog 75 #[.slice A n c, .func (.func g) #[] lb] w fun e w' => e = .returned (.int .i64 (foundL n (l.takeWhile fun x => !p x).length)) ∧ Below w.heap.size w w' := by
 have hl := it_len hr
 have HR := Lib.hid hr
 have HL := Lib.hid hl
 have HP := Lib.hid hp
 unfold maxLen at hn
 clear hr hl hp
 go_enter Tryz.func75, Tryz.ntmps75
 go_wp2_with fail
 go_loopw [5, 8] (fun s i wr => ∃ k : Nat, k ≤ n ∧ i = .int .i64 k ∧ Hid (Below w.heap.size w wr) ∧ Hid (∀ j y, j < k → l[j]? = some y → (!p y) = true)) (fun _ i _ => n - (intOf i).toNat)
 case atStart => exact ⟨0, Nat.zero_le _, rfl, Lib.hid (Below.refl _ _), Lib.hid fun j y hj => absurd hj (by omega)⟩
 case round =>
  obtain ⟨k, hk, rfl, HB, HF⟩ := hrel
  by_cases hlt : k < n
  ·obtain ⟨ad, x, rfl, _, hp, hx, hc⟩ := it_at HR.out hlt
   obtain ⟨hc0, hc1, hc2, hc3, hc4⟩ := hc.below HB.out hp
   have hk0 : (0 : Int) ≤ k := by omega
   have hk1 : (k : Int) < n := by omega
   have HX := Lib.hid hx
   have hcall := HP.out wr x HB.out
   clear hx hc hp
   rcases he : p x with _ | _
   ·rw [he] at hcall
    go_wp2_with fail
    refine hcall.mono ?_
    rintro e w' ⟨rfl, hb'⟩
    go_wp2_with fail
    go_roundw
    case rel =>
     have hrel2 : ∀ j y, j < k + 1 → l[j]? = some y → (!p y) = true := fun j y hj hy => by
      by_cases hjk : j < k
      ·exact HF.out j y hjk hy
      ·obtain rfl : j = k := by omega
       rw [HX.out] at hy
       injection hy with hy
       subst hy
       rw [he]; rfl
     first
      | exact ⟨k + 1, by omega, by go_num, Lib.hid hb', Lib.hid hrel2⟩
      | ((repeat apply Exists.intro); exact ⟨⟨k + 1, by omega, by go_num, Lib.hid hb', Lib.hid hrel2⟩, rfl⟩)
    case measure => simp [intOf]; omega
   ·have HN := Lib.hid (show (l.takeWhile fun x => !p x).length = k from takeWhile_at (p := fun x => !p x) HF.out (by rw [HL.out]; omega) (fun y hy => by rw [HX.out] at hy; injection hy with hy; subst hy; rw [he]; rfl))
    rw [he] at hcall
    go_wp2_with fail
    refine hcall.mono ?_
    rintro e w' ⟨rfl, hb'⟩
    go_wp2_with fail
    go_ret
    refine ⟨?_, hb'⟩
    rw [HN.out]
    simp [foundL, hlt]
  ·obtain rfl : k = n := by omega
   have HN := Lib.hid (show (l.takeWhile fun x => !p x).length = k from takeWhile_at (p := fun x => !p x) HF.out (by rw [HL.out]; exact Nat.le_refl _) (fun y hy => by
    have := (List.getElem?_eq_some_iff.1 hy).1
    rw [HL.out] at this
    omega))
   clear hlt
   go_wp2
   go_ret
   refine ⟨?_, HB.out⟩
   rw [HN.out]
   simp [foundL]
theorem lge_clo (nm : ByteArray) (b : Nat) (x : It) (w : World) (hb : b < w.heap.size) (hc : w.cell? ⟨b, 0, none⟩ = some (.string nm)) :
  Calls Tryz.prog 76 #[.agg #[.string x.ky, .string x.vl, .bool x.ov, .int .i64 x.ln, .int .u32 x.hd], .pointer (some ⟨b, 0, none⟩)] w fun e w' => e = .returned (.bool (!Op.bytesLess x.ky.toList nm.toList)) ∧ Below w.heap.size w w' := by
 have hne : ¬ b = w.heap.size := by omega
 go_enter Tryz.func76, Tryz.ntmps76
 go_wp2_with fail
 go_ret
 exact ⟨rfl, (Below.refl _ _).alloc (Nat.le_refl _) _⟩
theorem foundL_eq (n k : Nat) : foundL n k = if k < n then (k : Int) else -1 := rfl
set_option maxRecDepth 100000 in
set_option maxHeartbeats 3200000 in
theorem lfind_any (A : Option Addr) (n c : Nat) (l : List It) (key : ByteArray) (w : World) (hr : Reads w w.heap.size 5 A n (itc l)) (hn : n ≤ 1000000) :
  Calls Tryz.prog 40 #[.slice A n c, .string key] w fun e w' => e = .returned (.tuple #[.int .i64 (findN l key), .bool (findB l key)]) ∧ Below w.heap.size w w' := by
 have hmf : ∀ (fn : Fn) (first cap : Array Value) (w : World), (Instr.makeFunc fn first cap).run Tryz.prog w = .ok (.func fn first cap) w := fun _ _ _ _ => rfl
 have HL := Lib.hid (it_len hr)
 obtain ⟨w0, hw0⟩ : ∃ x, x = w.alloc (.cells #[.string key] 9) := ⟨_, rfl⟩
 have HB0 := Lib.hid (show Below w.heap.size w w0 by rw [hw0]; exact (Below.refl _ _).alloc (Nat.le_refl _) _)
 have hlt0 : w.heap.size < w0.heap.size := by rw [hw0]; simp
 have N0 := Lib.hid (show w0.cell? ⟨w.heap.size, 0, none⟩ = some (.string key) by rw [hw0]; simp)
 have HR := Lib.hid ((hr.below HB0.out).more (Nat.le_of_lt hlt0))
 have eg1 : ∀ args w, (callFunc 76 args).run Tryz.prog w = .ok (.enter 76 args) w := fun _ _ => by first | rfl | kernel_rfl
 have C1 := lidx_any (fun b => !Op.bytesLess b.ky.toList key.toList) 76 #[.pointer (some ⟨w.heap.size, 0, none⟩)] eg1 A n c l w0 HR.out (by unfold maxLen; omega) (fun W x hb =>
  (lge_clo key w.heap.size x W (Nat.lt_of_lt_of_le hlt0 hb.size) ((hb.cell (p := ⟨w.heap.size, 0, none⟩) hlt0).trans N0.out)).mono fun e w' ⟨h1, h2⟩ => ⟨h1, hb.trans (h2.mono hb.size)⟩)
 have hk : (l.takeWhile fun x : It => !!Op.bytesLess x.ky.toList key.toList).length = findN l key := by simp only [Bool.not_not]; rfl
 rw [hk] at C1
 have hle : findN l key ≤ n := by rw [← HL.out]; exact findN_le l key
 obtain ⟨k, hkn⟩ : ∃ k, k = findN l key := ⟨_, rfl⟩
 have HK := Lib.hid (show findB l key = match l[k]? with | none => false | some b => b.ky.toList == key.toList by rw [hkn]; rfl)
 rw [← hkn] at C1 hle ⊢
 clear hk hkn hr
 by_cases h1 : k < n
 ·obtain ⟨ad, x, rfl, _, hp, hx, hc⟩ := it_at HR.out h1
  have HE := Lib.hid (show findB l key = (x.ky.toList == key.toList) by rw [HK.out, hx])
  rw [foundL_eq, if_pos h1] at C1
  have HC := Lib.hid hc
  have hk0 : (0 : Int) ≤ k := by omega
  have hk1 : (k : Int) < n := by omega
  clear hx hc hle
  go_enter Tryz.func40, Tryz.ntmps40
  go_wp2_with fail
  rw [← hw0]
  clear hw0
  refine C1.mono ?_
  rintro e w1 ⟨rfl, hb1⟩
  obtain ⟨c0, _⟩ := HC.out.below hb1 hp
  have n0 := (hb1.cell (p := ⟨w.heap.size, 0, none⟩) hlt0).trans N0.out
  have HB1 := Lib.hid (HB0.out.trans (hb1.mono HB0.out.size))
  clear hb1 C1 hp
  go_wp2_with fail
  go_quiet (fail)
  go_wp2_with fail
  go_ret2
  rw [HE.out]
  exact ⟨rfl, below_drewN HB1.out _⟩
 ·have hnone : l[k]? = none := List.getElem?_eq_none (by rw [HL.out]; omega)
  have HE := Lib.hid (show findB l key = false by rw [HK.out, hnone])
  rw [foundL_eq, if_neg h1] at C1
  obtain rfl : k = n := by omega
  clear hnone hle
  go_enter Tryz.func40, Tryz.ntmps40
  go_wp2_with fail
  rw [← hw0]
  refine C1.mono ?_
  rintro e w1 ⟨rfl, hb1⟩
  go_wp2_with fail
  go_ret2
  rw [HE.out]
  exact ⟨rfl, HB0.out.trans (hb1.mono HB0.out.size)⟩
end Go.Proofs.YtmmjckokjmpfpaaGreat

namespace Go.Proofs.YtmmjckokjmpfpaaGreat
open Go.RowKit
open Go.Lib hiding intOf
attribute [local go_sem ↓] Go.wp_at_zero Go.wp_at_succ

set_option maxRecDepth 100000 in
set_option maxHeartbeats 12800000 in
theorem lvalid_any (A : Option Addr) (n c : Nat) (l : List It) (w : World) (hr : Reads w w.heap.size 5 A n (itc l)) (hn : n ≤ 2513169434916) :
  Calls Tryz.prog 144 #[.slice A n c] w fun e w' => e = .returned (.bool (mayI l)) ∧ Below w.heap.size w w' := by
 have HL := Lib.hid (it_len hr)
 have HR := Lib.hid hr
 clear hr
 go_enter Tryz.func144, Tryz.ntmps144
 go_wp2_with fail
 go_loopw [3, 6] (fun _ i wr => ∃ k : Nat, k ≤ n ∧ i = .int .i64 k ∧ Hid (∀ j, j < k → okAtI l j = true) ∧ Hid (Below w.heap.size w wr)) (fun _ i _ => n - (intOf i).toNat)
 case atStart => exact ⟨0, Nat.zero_le _, rfl, Lib.hid fun j hj => absurd hj (by omega), Lib.hid (Below.refl _ _)⟩
 case round =>
  obtain ⟨k, hk, rfl, HF, HB⟩ := hrel
  by_cases hlt : k < n
  ·obtain ⟨ad, x, rfl, _, hp, hx, hc⟩ := it_at HR.out hlt
   have HP := Lib.hid hp
   have hk0 : (0 : Int) ≤ k := by omega
   have hk1 : (k : Int) < n := by omega
   have HX := Lib.hid hx
   have hkl : k < l.length := by rw [HL.out]; exact hlt
   have HM := fun w => litem_any x w
   have HC := Lib.hid (show ItAt wr.drew (ad.add (k * 5)) x from ItAt.below (w' := wr) hc HB.out hp)
   have HBd := Lib.hid HB.out.drew
   go_upto_region 4 with fail
   clear hx hp
   rcases hok : okIt x with _ | _
   ·have HE := Lib.hid (show mayI l = false by rw [mayI, allOkI_no hkl (by rw [okAtI_of HX.out, hok]; rfl)]; rfl)
    rw [hok] at HM
    clear hkl hok hc
    refine wp_region_held_drew (S := (fun w' => w'.cell? (ad.add (k * 5)) = some (.string x.ky) ∧ w'.cell? ⟨(ad.add (k * 5)).block, (ad.add (k * 5)).off + 1, none⟩ = some (.string x.vl) ∧ w'.cell? ⟨(ad.add (k * 5)).block, (ad.add (k * 5)).off + 2, none⟩ = some (.bool x.ov) ∧ w'.cell? ⟨(ad.add (k * 5)).block, (ad.add (k * 5)).off + 3, none⟩ = some (.int .i64 x.ln) ∧ w'.cell? ⟨(ad.add (k * 5)).block, (ad.add (k * 5)).off + 4, none⟩ = some (.int .u32 x.hd))) (by kernel_rfl) (HC.out) (fun hHeld => ?_)
    refine tkA (i := 0) ?_
    try simp only [tkP]
    refine tkA (i := 1) ?_
    try simp only [tkP]
    refine tkA (i := 2) ?_
    try simp only [tkP]
    refine tkA (i := 3) ?_
    try simp only [tkP]
    refine wpAnyH_ready (rs := [4]) (by kernel_rfl) (by simp) ?_
    refine tkC (fun K hK => ?_)
    go_simp
    refine (HM _).mono ?_
    rintro e w2 ⟨rfl, hb⟩
    replace HC := Lib.hid (HC.out.below hb (Nat.lt_of_lt_of_le HP.out HBd.out.size))
    replace HBd := Lib.hid (HBd.out.trans (hb.mono HBd.out.size))
    clear hb
    refine hK.out _ _ (HC.out) (fun hHeld => ?_)
    clear hK K
    try simp only [tkP]
    refine tkA (i := 5) ?_
    try simp only [tkP]
    refine tkA (i := 6) ?_
    try simp only [tkP]
    refine tkU (i := 7) ?_
    try simp only [tkP]
    refine tkU (i := 8) ?_
    try simp only [tkP]
    refine tkU (i := 9) ?_
    try simp only [tkP]
    refine tkU (i := 10) ?_
    try simp only [tkP]
    refine tkU (i := 11) ?_
    try simp only [tkP]
    refine tkU (i := 12) ?_
    try simp only [tkP]
    refine tkU (i := 13) ?_
    try simp only [tkP]
    refine tkU (i := 14) ?_
    try simp only [tkP]
    refine tkU (i := 15) ?_
    try simp only [tkP]
    refine tkU (i := 16) ?_
    try simp only [tkP]
    refine tkU (i := 17) ?_
    try simp only [tkP]
    refine tkU (i := 18) ?_
    try simp only [tkP]
    refine tkU (i := 19) ?_
    try simp only [tkP]
    refine tkU (i := 20) ?_
    try simp only [tkP]
    refine tkU (i := 21) ?_
    try simp only [tkP]
    refine tkU (i := 22) ?_
    try simp only [tkP]
    refine tkA (i := 23) ?_
    try simp only [tkP]
    refine wpAnyH_done (by kernel_rfl) ?_ _
    go_wp2_with fail
    go_ret
    exact ⟨by rw [HE.out]; rfl, HBd.out⟩
   rw [hok] at HM
   by_cases hk00 : k = 0
   ·have HE := Lib.hid (show okAtI l k = true by rw [okAtI_of HX.out, hok, hk00]; rfl)
    have hk3 : decide ((k : Int) > 0) = false := by simp; omega
    have hk4 : decide (0 < k) = false := by simp; omega
    clear hk00 hok hkl hc
    refine wp_region_held_drew (S := (fun w' => w'.cell? (ad.add (k * 5)) = some (.string x.ky) ∧ w'.cell? ⟨(ad.add (k * 5)).block, (ad.add (k * 5)).off + 1, none⟩ = some (.string x.vl) ∧ w'.cell? ⟨(ad.add (k * 5)).block, (ad.add (k * 5)).off + 2, none⟩ = some (.bool x.ov) ∧ w'.cell? ⟨(ad.add (k * 5)).block, (ad.add (k * 5)).off + 3, none⟩ = some (.int .i64 x.ln) ∧ w'.cell? ⟨(ad.add (k * 5)).block, (ad.add (k * 5)).off + 4, none⟩ = some (.int .u32 x.hd))) (by kernel_rfl) (HC.out) (fun hHeld => ?_)
    refine tkA (i := 0) ?_
    try simp only [tkP]
    refine tkA (i := 1) ?_
    try simp only [tkP]
    refine tkA (i := 2) ?_
    try simp only [tkP]
    refine tkA (i := 3) ?_
    try simp only [tkP]
    refine wpAnyH_ready (rs := [4]) (by kernel_rfl) (by simp) ?_
    refine tkC (fun K hK => ?_)
    go_simp
    refine (HM _).mono ?_
    rintro e w2 ⟨rfl, hb⟩
    replace HC := Lib.hid (HC.out.below hb (Nat.lt_of_lt_of_le HP.out HBd.out.size))
    replace HBd := Lib.hid (HBd.out.trans (hb.mono HBd.out.size))
    clear hb
    refine hK.out _ _ (HC.out) (fun hHeld => ?_)
    clear hK K
    try simp only [tkP]
    refine tkA (i := 5) ?_
    try simp only [tkP]
    refine tkA (i := 6) ?_
    try simp only [tkP]
    refine tkA (i := 7) ?_
    try simp only [tkP]
    refine tkA (i := 8) ?_
    try simp only [tkP]
    refine tkA (i := 9) ?_
    try simp only [tkP]
    refine tkU (i := 10) ?_
    try simp only [tkP]
    refine tkU (i := 11) ?_
    try simp only [tkP]
    refine tkU (i := 12) ?_
    try simp only [tkP]
    refine tkU (i := 13) ?_
    try simp only [tkP]
    refine tkU (i := 14) ?_
    try simp only [tkP]
    refine tkU (i := 15) ?_
    try simp only [tkP]
    refine tkU (i := 16) ?_
    try simp only [tkP]
    refine tkU (i := 17) ?_
    try simp only [tkP]
    refine tkU (i := 18) ?_
    try simp only [tkP]
    refine tkU (i := 19) ?_
    try simp only [tkP]
    refine tkU (i := 20) ?_
    try simp only [tkP]
    refine tkU (i := 21) ?_
    try simp only [tkP]
    refine tkA (i := 22) ?_
    try simp only [tkP]
    refine tkA (i := 23) ?_
    try simp only [tkP]
    refine wpAnyH_done (by kernel_rfl) ?_ _
    have HF' := Lib.hid (fun j (hj : j < k + 1) => show okAtI l j = true from by
     by_cases hjk : j < k
     ·exact HF.out j hjk
     ·have e : j = k := by omega
      rw [e]; exact HE.out)
    go_wp2_with fail
    go_roundw
    case rel =>
     first
      | exact ⟨k + 1, by omega, by go_num, HF', HBd⟩
      | ((repeat apply Exists.intro); exact ⟨⟨k + 1, by omega, by go_num, HF', HBd⟩, rfl⟩)
    case measure => simp [intOf]; omega
   obtain ⟨j, hkj⟩ : ∃ j, k = j + 1 := ⟨k - 1, by omega⟩
   obtain ⟨ad', y, had, _, hpy, hy, hcy⟩ := it_at HR.out (show j < n by omega)
   injection had with had
   subst had
   have HPY := Lib.hid hpy
   have HY := Lib.hid (show wr.drew.cell? (ad.add (j * 5)) = some (.string y.ky) from (ItAt.below (w' := wr) hcy HB.out hpy).1)
   have hj1 : IntKind.i64.wrap ((k : Int) - 1) = (j : Int) := by rw [IntKind.wrap_i64]; omega
   have hj2 : (k : Int) - 1 = (j : Int) := by omega
   have hj5 : IntKind.i64.wrap (j : Int) = (j : Int) := by rw [IntKind.wrap_i64]; omega
   have hj3 : (0 : Int) ≤ j := by omega
   have hj4 : (j : Int) < n := by omega
   have hk3 : decide ((k : Int) > 0) = true := by simp; omega
   have hk4 : decide (0 < k) = true := by simp; omega
   have hle : (Op.bytesLess x.ky.toList y.ky.toList || x.ky.toList == y.ky.toList) = !Op.bytesLess y.ky.toList x.ky.toList := leq_not _ _
   have hat : okAtI l k = Op.bytesLess y.ky.toList x.ky.toList := by rw [okAtI_of HX.out, hok, hkj]; simp [hy]
   rcases hless : Op.bytesLess y.ky.toList x.ky.toList with _ | _
   ·have HE := Lib.hid (show mayI l = false by rw [mayI, allOkI_no hkl (by rw [hat, hless])]; rfl)
    rw [hless] at hle
    clear hat hkl hok hy hkj hk00 hcy hpy hc
    refine wp_region_held_drew (S := (fun w' => (w'.cell? (ad.add (k * 5)) = some (.string x.ky) ∧ w'.cell? ⟨(ad.add (k * 5)).block, (ad.add (k * 5)).off + 1, none⟩ = some (.string x.vl) ∧ w'.cell? ⟨(ad.add (k * 5)).block, (ad.add (k * 5)).off + 2, none⟩ = some (.bool x.ov) ∧ w'.cell? ⟨(ad.add (k * 5)).block, (ad.add (k * 5)).off + 3, none⟩ = some (.int .i64 x.ln) ∧ w'.cell? ⟨(ad.add (k * 5)).block, (ad.add (k * 5)).off + 4, none⟩ = some (.int .u32 x.hd)) ∧ w'.cell? (ad.add (j * 5)) = some (.string y.ky))) (by kernel_rfl) (⟨HC.out, HY.out⟩) (fun hHeld => ?_)
    refine tkA (i := 0) ?_
    try simp only [tkP]
    refine tkA (i := 1) ?_
    try simp only [tkP]
    refine tkA (i := 2) ?_
    try simp only [tkP]
    refine tkA (i := 3) ?_
    try simp only [tkP]
    refine wpAnyH_ready (rs := [4]) (by kernel_rfl) (by simp) ?_
    refine tkC (fun K hK => ?_)
    go_simp
    refine (HM _).mono ?_
    rintro e w2 ⟨rfl, hb⟩
    replace HC := Lib.hid (HC.out.below hb (Nat.lt_of_lt_of_le HP.out HBd.out.size))
    replace HY := Lib.hid ((hb.cell (p := ad.add (j * 5)) (Nat.lt_of_lt_of_le HPY.out HBd.out.size)).trans HY.out)
    replace HBd := Lib.hid (HBd.out.trans (hb.mono HBd.out.size))
    clear hb
    refine hK.out _ _ (⟨HC.out, HY.out⟩) (fun hHeld => ?_)
    clear hK K
    try simp only [tkP]
    refine tkA (i := 5) ?_
    try simp only [tkP]
    refine tkA (i := 6) ?_
    try simp only [tkP]
    refine tkA (i := 7) ?_
    try simp only [tkP]
    refine tkA (i := 8) ?_
    try simp only [tkP]
    refine tkA (i := 9) ?_
    try simp only [tkP]
    refine tkA (i := 10) ?_
    try simp only [tkP]
    refine tkA (i := 11) ?_
    try simp only [tkP]
    refine tkA (i := 12) ?_
    try simp only [tkP]
    refine tkA (i := 13) ?_
    try simp only [tkP]
    refine tkA (i := 14) ?_
    try simp only [tkP]
    refine tkA (i := 15) ?_
    try simp only [tkP]
    refine tkA (i := 16) ?_
    try simp only [tkP]
    refine tkA (i := 17) ?_
    try simp only [tkP]
    refine tkA (i := 18) ?_
    try simp only [tkP]
    refine tkA (i := 19) ?_
    try simp only [tkP]
    refine tkA (i := 20) ?_
    try simp only [tkP]
    refine tkA (i := 21) ?_
    try simp only [tkP]
    refine tkA (i := 22) ?_
    try simp only [tkP]
    refine tkA (i := 23) ?_
    try simp only [tkP]
    refine wpAnyH_done (by kernel_rfl) ?_ _
    go_wp2_with fail
    go_ret
    exact ⟨by rw [HE.out]; rfl, HBd.out⟩
   ·have HE := Lib.hid (show okAtI l k = true by rw [hat, hless])
    rw [hless] at hle
    clear hat hkl hok hy hkj hk00 hcy hpy hc
    refine wp_region_held_drew (S := (fun w' => (w'.cell? (ad.add (k * 5)) = some (.string x.ky) ∧ w'.cell? ⟨(ad.add (k * 5)).block, (ad.add (k * 5)).off + 1, none⟩ = some (.string x.vl) ∧ w'.cell? ⟨(ad.add (k * 5)).block, (ad.add (k * 5)).off + 2, none⟩ = some (.bool x.ov) ∧ w'.cell? ⟨(ad.add (k * 5)).block, (ad.add (k * 5)).off + 3, none⟩ = some (.int .i64 x.ln) ∧ w'.cell? ⟨(ad.add (k * 5)).block, (ad.add (k * 5)).off + 4, none⟩ = some (.int .u32 x.hd)) ∧ w'.cell? (ad.add (j * 5)) = some (.string y.ky))) (by kernel_rfl) (⟨HC.out, HY.out⟩) (fun hHeld => ?_)
    refine tkA (i := 0) ?_
    try simp only [tkP]
    refine tkA (i := 1) ?_
    try simp only [tkP]
    refine tkA (i := 2) ?_
    try simp only [tkP]
    refine tkA (i := 3) ?_
    try simp only [tkP]
    refine wpAnyH_ready (rs := [4]) (by kernel_rfl) (by simp) ?_
    refine tkC (fun K hK => ?_)
    go_simp
    refine (HM _).mono ?_
    rintro e w2 ⟨rfl, hb⟩
    replace HC := Lib.hid (HC.out.below hb (Nat.lt_of_lt_of_le HP.out HBd.out.size))
    replace HY := Lib.hid ((hb.cell (p := ad.add (j * 5)) (Nat.lt_of_lt_of_le HPY.out HBd.out.size)).trans HY.out)
    replace HBd := Lib.hid (HBd.out.trans (hb.mono HBd.out.size))
    clear hb
    refine hK.out _ _ (⟨HC.out, HY.out⟩) (fun hHeld => ?_)
    clear hK K
    try simp only [tkP]
    refine tkA (i := 5) ?_
    try simp only [tkP]
    refine tkA (i := 6) ?_
    try simp only [tkP]
    refine tkA (i := 7) ?_
    try simp only [tkP]
    refine tkA (i := 8) ?_
    try simp only [tkP]
    refine tkA (i := 9) ?_
    try simp only [tkP]
    refine tkA (i := 10) ?_
    try simp only [tkP]
    refine tkA (i := 11) ?_
    try simp only [tkP]
    refine tkA (i := 12) ?_
    try simp only [tkP]
    refine tkA (i := 13) ?_
    try simp only [tkP]
    refine tkA (i := 14) ?_
    try simp only [tkP]
    refine tkA (i := 15) ?_
    try simp only [tkP]
    refine tkA (i := 16) ?_
    try simp only [tkP]
    refine tkA (i := 17) ?_
    try simp only [tkP]
    refine tkA (i := 18) ?_
    try simp only [tkP]
    refine tkA (i := 19) ?_
    try simp only [tkP]
    refine tkA (i := 20) ?_
    try simp only [tkP]
    refine tkA (i := 21) ?_
    try simp only [tkP]
    refine tkA (i := 22) ?_
    try simp only [tkP]
    refine tkA (i := 23) ?_
    try simp only [tkP]
    refine wpAnyH_done (by kernel_rfl) ?_ _
    clear hj1 hj2 hj5
    have HF' := Lib.hid (fun j (hj : j < k + 1) => show okAtI l j = true from by
     by_cases hjk : j < k
     ·exact HF.out j hjk
     ·have e : j = k := by omega
      rw [e]; exact HE.out)
    go_wp2_with fail
    go_roundw
    case rel =>
     first
      | exact ⟨k + 1, by omega, by go_num, HF', HBd⟩
      | ((repeat apply Exists.intro); exact ⟨⟨k + 1, by omega, by go_num, HF', HBd⟩, rfl⟩)
    case measure => simp [intOf]; omega
  ·obtain rfl : k = n := by omega
   have ha : allOkI l = true := allOkI_yes fun j hj => HF.out j (by rw [← HL.out]; exact hj)
   have HE := Lib.hid (show mayI l = decide (0 < k) by rw [mayI, ha, HL.out]; rfl)
   clear ha hlt
   go_wp2_with fail
   go_ret
   exact ⟨by rw [HE.out]; rfl, HB.out⟩
end Go.Proofs.YtmmjckokjmpfpaaGreat

