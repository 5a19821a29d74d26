/-
  Contract of leaf.valid: are items valid. (Written by wip/tools/gen_levalid.py.)
-/
import Derived.Test.YtgnpldlgdapehaaJ19
import Derived.Test.YtgnpldlgdapehaaJ2
import Derived.Deep.CutRange
import Derived.Deep.RegionHeld3
set_option linter.unusedVariables false
set_option linter.unusedSimpArgs false
namespace Go.Proofs.Ytgnpldlgdapehaa
open Go.RowKit
open Go.Lib hiding intOf
attribute [local go_sem ↓] Go.wp_at_zero Go.wp_at_succ

set_option maxRecDepth 100000 in
set_option maxHeartbeats 12800000 in
theorem lvalid_any (A : Option Addr) (n c : Nat) (l : List It) (w : World) (hr : Reads w w.heap.size 5 A n (itc l)) (hn : n ≤ 2513169434916) :
  Calls Try.prog 74 #[.slice A n c] w fun e w' => e = .returned (.bool (mayI l)) ∧ Below w.heap.size w w' := by
 have HL := Lib.hid (it_len hr)
 have HR := Lib.hid hr
 clear hr
 go_enter Try.func74, Try.ntmps74
 go_wp2_with fail
 go_loopw [3, 6] (fun _ i wr => ∃ k : Nat, k ≤ n ∧ i = .int .i64 k ∧ Hid (∀ j, j < k → okAtI l j = true) ∧ Hid (Below w.heap.size w wr)) (fun _ i _ => n - (intOf i).toNat)
 case atStart => exact ⟨0, Nat.zero_le _, rfl, Lib.hid fun j hj => absurd hj (by omega), Lib.hid (Below.refl _ _)⟩
 case round =>
  obtain ⟨k, hk, rfl, HF, HB⟩ := hrel
  by_cases hlt : k < n
  ·obtain ⟨ad, x, rfl, _, hp, hx, hc⟩ := it_at HR.out hlt
   have HP := Lib.hid hp
   have hk0 : (0 : Int) ≤ k := by omega
   have hk1 : (k : Int) < n := by omega
   have HX := Lib.hid hx
   have hkl : k < l.length := by rw [HL.out]; exact hlt
   have HM := fun w => litem_any x w
   have HC := Lib.hid (show ItAt wr.drew (ad.add (k * 5)) x from ItAt.below (w' := wr) hc HB.out hp)
   have HBd := Lib.hid HB.out.drew
   go_upto_region 4 with fail
   clear hx hp
   rcases hok : okIt x with _ | _
   ·have HE := Lib.hid (show mayI l = false by rw [mayI, allOkI_no hkl (by rw [okAtI_of HX.out, hok]; rfl)]; rfl)
    rw [hok] at HM
    clear hkl hok hc
    refine wp_region_held_drew (S := (fun w' => w'.cell? (ad.add (k * 5)) = some (.string x.ky) ∧ w'.cell? ⟨(ad.add (k * 5)).block, (ad.add (k * 5)).off + 1, none⟩ = some (.string x.vl) ∧ w'.cell? ⟨(ad.add (k * 5)).block, (ad.add (k * 5)).off + 2, none⟩ = some (.bool x.ov) ∧ w'.cell? ⟨(ad.add (k * 5)).block, (ad.add (k * 5)).off + 3, none⟩ = some (.int .i64 x.ln) ∧ w'.cell? ⟨(ad.add (k * 5)).block, (ad.add (k * 5)).off + 4, none⟩ = some (.int .u32 x.hd))) (by kernel_rfl) (HC.out) (fun hHeld => ?_)
    refine tkA (i := 0) ?_
    try simp only [tkP]
    refine tkA (i := 1) ?_
    try simp only [tkP]
    refine tkA (i := 2) ?_
    try simp only [tkP]
    refine tkA (i := 3) ?_
    try simp only [tkP]
    refine wpAnyH_ready (rs := [4]) (by kernel_rfl) (by simp) ?_
    refine tkC (fun K hK => ?_)
    go_simp
    refine (HM _).mono ?_
    rintro e w2 ⟨rfl, hb⟩
    replace HC := Lib.hid (HC.out.below hb (Nat.lt_of_lt_of_le HP.out HBd.out.size))
    replace HBd := Lib.hid (HBd.out.trans (hb.mono HBd.out.size))
    clear hb
    refine hK.out _ _ (HC.out) (fun hHeld => ?_)
    clear hK K
    try simp only [tkP]
    refine tkA (i := 5) ?_
    try simp only [tkP]
    refine tkA (i := 6) ?_
    try simp only [tkP]
    refine tkU (i := 7) ?_
    try simp only [tkP]
    refine tkU (i := 8) ?_
    try simp only [tkP]
    refine tkU (i := 9) ?_
    try simp only [tkP]
    refine tkU (i := 10) ?_
    try simp only [tkP]
    refine tkU (i := 11) ?_
    try simp only [tkP]
    refine tkU (i := 12) ?_
    try simp only [tkP]
    refine tkU (i := 13) ?_
    try simp only [tkP]
    refine tkU (i := 14) ?_
    try simp only [tkP]
    refine tkU (i := 15) ?_
    try simp only [tkP]
    refine tkU (i := 16) ?_
    try simp only [tkP]
    refine tkU (i := 17) ?_
    try simp only [tkP]
    refine tkU (i := 18) ?_
    try simp only [tkP]
    refine tkU (i := 19) ?_
    try simp only [tkP]
    refine tkU (i := 20) ?_
    try simp only [tkP]
    refine tkU (i := 21) ?_
    try simp only [tkP]
    refine tkU (i := 22) ?_
    try simp only [tkP]
    refine tkA (i := 23) ?_
    try simp only [tkP]
    refine wpAnyH_done (by kernel_rfl) ?_ _
    go_wp2_with fail
    go_ret
    exact ⟨by rw [HE.out]; rfl, HBd.out⟩
   rw [hok] at HM
   by_cases hk00 : k = 0
   ·have HE := Lib.hid (show okAtI l k = true by rw [okAtI_of HX.out, hok, hk00]; rfl)
    have hk3 : decide ((k : Int) > 0) = false := by simp; omega
    have hk4 : decide (0 < k) = false := by simp; omega
    clear hk00 hok hkl hc
    refine wp_region_held_drew (S := (fun w' => w'.cell? (ad.add (k * 5)) = some (.string x.ky) ∧ w'.cell? ⟨(ad.add (k * 5)).block, (ad.add (k * 5)).off + 1, none⟩ = some (.string x.vl) ∧ w'.cell? ⟨(ad.add (k * 5)).block, (ad.add (k * 5)).off + 2, none⟩ = some (.bool x.ov) ∧ w'.cell? ⟨(ad.add (k * 5)).block, (ad.add (k * 5)).off + 3, none⟩ = some (.int .i64 x.ln) ∧ w'.cell? ⟨(ad.add (k * 5)).block, (ad.add (k * 5)).off + 4, none⟩ = some (.int .u32 x.hd))) (by kernel_rfl) (HC.out) (fun hHeld => ?_)
    refine tkA (i := 0) ?_
    try simp only [tkP]
    refine tkA (i := 1) ?_
    try simp only [tkP]
    refine tkA (i := 2) ?_
    try simp only [tkP]
    refine tkA (i := 3) ?_
    try simp only [tkP]
    refine wpAnyH_ready (rs := [4]) (by kernel_rfl) (by simp) ?_
    refine tkC (fun K hK => ?_)
    go_simp
    refine (HM _).mono ?_
    rintro e w2 ⟨rfl, hb⟩
    replace HC := Lib.hid (HC.out.below hb (Nat.lt_of_lt_of_le HP.out HBd.out.size))
    replace HBd := Lib.hid (HBd.out.trans (hb.mono HBd.out.size))
    clear hb
    refine hK.out _ _ (HC.out) (fun hHeld => ?_)
    clear hK K
    try simp only [tkP]
    refine tkA (i := 5) ?_
    try simp only [tkP]
    refine tkA (i := 6) ?_
    try simp only [tkP]
    refine tkA (i := 7) ?_
    try simp only [tkP]
    refine tkA (i := 8) ?_
    try simp only [tkP]
    refine tkA (i := 9) ?_
    try simp only [tkP]
    refine tkU (i := 10) ?_
    try simp only [tkP]
    refine tkU (i := 11) ?_
    try simp only [tkP]
    refine tkU (i := 12) ?_
    try simp only [tkP]
    refine tkU (i := 13) ?_
    try simp only [tkP]
    refine tkU (i := 14) ?_
    try simp only [tkP]
    refine tkU (i := 15) ?_
    try simp only [tkP]
    refine tkU (i := 16) ?_
    try simp only [tkP]
    refine tkU (i := 17) ?_
    try simp only [tkP]
    refine tkU (i := 18) ?_
    try simp only [tkP]
    refine tkU (i := 19) ?_
    try simp only [tkP]
    refine tkU (i := 20) ?_
    try simp only [tkP]
    refine tkU (i := 21) ?_
    try simp only [tkP]
    refine tkA (i := 22) ?_
    try simp only [tkP]
    refine tkA (i := 23) ?_
    try simp only [tkP]
    refine wpAnyH_done (by kernel_rfl) ?_ _
    have HF' := Lib.hid (fun j (hj : j < k + 1) => show okAtI l j = true from by
     by_cases hjk : j < k
     ·exact HF.out j hjk
     ·have e : j = k := by omega
      rw [e]; exact HE.out)
    go_wp2_with fail
    go_roundw
    case rel =>
     first
      | exact ⟨k + 1, by omega, by go_num, HF', HBd⟩
      | ((repeat apply Exists.intro); exact ⟨⟨k + 1, by omega, by go_num, HF', HBd⟩, rfl⟩)
    case measure => simp [intOf]; omega
   obtain ⟨j, hkj⟩ : ∃ j, k = j + 1 := ⟨k - 1, by omega⟩
   obtain ⟨ad', y, had, _, hpy, hy, hcy⟩ := it_at HR.out (show j < n by omega)
   injection had with had
   subst had
   have HPY := Lib.hid hpy
   have HY := Lib.hid (show wr.drew.cell? (ad.add (j * 5)) = some (.string y.ky) from (ItAt.below (w' := wr) hcy HB.out hpy).1)
   have hj1 : IntKind.i64.wrap ((k : Int) - 1) = (j : Int) := by rw [IntKind.wrap_i64]; omega
   have hj2 : (k : Int) - 1 = (j : Int) := by omega
   have hj5 : IntKind.i64.wrap (j : Int) = (j : Int) := by rw [IntKind.wrap_i64]; omega
   have hj3 : (0 : Int) ≤ j := by omega
   have hj4 : (j : Int) < n := by omega
   have hk3 : decide ((k : Int) > 0) = true := by simp; omega
   have hk4 : decide (0 < k) = true := by simp; omega
   have hle : (Op.bytesLess x.ky.toList y.ky.toList || x.ky.toList == y.ky.toList) = !Op.bytesLess y.ky.toList x.ky.toList := leq_not _ _
   have hat : okAtI l k = Op.bytesLess y.ky.toList x.ky.toList := by rw [okAtI_of HX.out, hok, hkj]; simp [hy]
   rcases hless : Op.bytesLess y.ky.toList x.ky.toList with _ | _
   ·have HE := Lib.hid (show mayI l = false by rw [mayI, allOkI_no hkl (by rw [hat, hless])]; rfl)
    rw [hless] at hle
    clear hat hkl hok hy hkj hk00 hcy hpy hc
    refine wp_region_held_drew (S := (fun w' => (w'.cell? (ad.add (k * 5)) = some (.string x.ky) ∧ w'.cell? ⟨(ad.add (k * 5)).block, (ad.add (k * 5)).off + 1, none⟩ = some (.string x.vl) ∧ w'.cell? ⟨(ad.add (k * 5)).block, (ad.add (k * 5)).off + 2, none⟩ = some (.bool x.ov) ∧ w'.cell? ⟨(ad.add (k * 5)).block, (ad.add (k * 5)).off + 3, none⟩ = some (.int .i64 x.ln) ∧ w'.cell? ⟨(ad.add (k * 5)).block, (ad.add (k * 5)).off + 4, none⟩ = some (.int .u32 x.hd)) ∧ w'.cell? (ad.add (j * 5)) = some (.string y.ky))) (by kernel_rfl) (⟨HC.out, HY.out⟩) (fun hHeld => ?_)
    refine tkA (i := 0) ?_
    try simp only [tkP]
    refine tkA (i := 1) ?_
    try simp only [tkP]
    refine tkA (i := 2) ?_
    try simp only [tkP]
    refine tkA (i := 3) ?_
    try simp only [tkP]
    refine wpAnyH_ready (rs := [4]) (by kernel_rfl) (by simp) ?_
    refine tkC (fun K hK => ?_)
    go_simp
    refine (HM _).mono ?_
    rintro e w2 ⟨rfl, hb⟩
    replace HC := Lib.hid (HC.out.below hb (Nat.lt_of_lt_of_le HP.out HBd.out.size))
    replace HY := Lib.hid ((hb.cell (p := ad.add (j * 5)) (Nat.lt_of_lt_of_le HPY.out HBd.out.size)).trans HY.out)
    replace HBd := Lib.hid (HBd.out.trans (hb.mono HBd.out.size))
    clear hb
    refine hK.out _ _ (⟨HC.out, HY.out⟩) (fun hHeld => ?_)
    clear hK K
    try simp only [tkP]
    refine tkA (i := 5) ?_
    try simp only [tkP]
    refine tkA (i := 6) ?_
    try simp only [tkP]
    refine tkA (i := 7) ?_
    try simp only [tkP]
    refine tkA (i := 8) ?_
    try simp only [tkP]
    refine tkA (i := 9) ?_
    try simp only [tkP]
    refine tkA (i := 10) ?_
    try simp only [tkP]
    refine tkA (i := 11) ?_
    try simp only [tkP]
    refine tkA (i := 12) ?_
    try simp only [tkP]
    refine tkA (i := 13) ?_
    try simp only [tkP]
    refine tkA (i := 14) ?_
    try simp only [tkP]
    refine tkA (i := 15) ?_
    try simp only [tkP]
    refine tkA (i := 16) ?_
    try simp only [tkP]
    refine tkA (i := 17) ?_
    try simp only [tkP]
    refine tkA (i := 18) ?_
    try simp only [tkP]
    refine tkA (i := 19) ?_
    try simp only [tkP]
    refine tkA (i := 20) ?_
    try simp only [tkP]
    refine tkA (i := 21) ?_
    try simp only [tkP]
    refine tkA (i := 22) ?_
    try simp only [tkP]
    refine tkA (i := 23) ?_
    try simp only [tkP]
    refine wpAnyH_done (by kernel_rfl) ?_ _
    go_wp2_with fail
    go_ret
    exact ⟨by rw [HE.out]; rfl, HBd.out⟩
   ·have HE := Lib.hid (show okAtI l k = true by rw [hat, hless])
    rw [hless] at hle
    clear hat hkl hok hy hkj hk00 hcy hpy hc
    refine wp_region_held_drew (S := (fun w' => (w'.cell? (ad.add (k * 5)) = some (.string x.ky) ∧ w'.cell? ⟨(ad.add (k * 5)).block, (ad.add (k * 5)).off + 1, none⟩ = some (.string x.vl) ∧ w'.cell? ⟨(ad.add (k * 5)).block, (ad.add (k * 5)).off + 2, none⟩ = some (.bool x.ov) ∧ w'.cell? ⟨(ad.add (k * 5)).block, (ad.add (k * 5)).off + 3, none⟩ = some (.int .i64 x.ln) ∧ w'.cell? ⟨(ad.add (k * 5)).block, (ad.add (k * 5)).off + 4, none⟩ = some (.int .u32 x.hd)) ∧ w'.cell? (ad.add (j * 5)) = some (.string y.ky))) (by kernel_rfl) (⟨HC.out, HY.out⟩) (fun hHeld => ?_)
    refine tkA (i := 0) ?_
    try simp only [tkP]
    refine tkA (i := 1) ?_
    try simp only [tkP]
    refine tkA (i := 2) ?_
    try simp only [tkP]
    refine tkA (i := 3) ?_
    try simp only [tkP]
    refine wpAnyH_ready (rs := [4]) (by kernel_rfl) (by simp) ?_
    refine tkC (fun K hK => ?_)
    go_simp
    refine (HM _).mono ?_
    rintro e w2 ⟨rfl, hb⟩
    replace HC := Lib.hid (HC.out.below hb (Nat.lt_of_lt_of_le HP.out HBd.out.size))
    replace HY := Lib.hid ((hb.cell (p := ad.add (j * 5)) (Nat.lt_of_lt_of_le HPY.out HBd.out.size)).trans HY.out)
    replace HBd := Lib.hid (HBd.out.trans (hb.mono HBd.out.size))
    clear hb
    refine hK.out _ _ (⟨HC.out, HY.out⟩) (fun hHeld => ?_)
    clear hK K
    try simp only [tkP]
    refine tkA (i := 5) ?_
    try simp only [tkP]
    refine tkA (i := 6) ?_
    try simp only [tkP]
    refine tkA (i := 7) ?_
    try simp only [tkP]
    refine tkA (i := 8) ?_
    try simp only [tkP]
    refine tkA (i := 9) ?_
    try simp only [tkP]
    refine tkA (i := 10) ?_
    try simp only [tkP]
    refine tkA (i := 11) ?_
    try simp only [tkP]
    refine tkA (i := 12) ?_
    try simp only [tkP]
    refine tkA (i := 13) ?_
    try simp only [tkP]
    refine tkA (i := 14) ?_
    try simp only [tkP]
    refine tkA (i := 15) ?_
    try simp only [tkP]
    refine tkA (i := 16) ?_
    try simp only [tkP]
    refine tkA (i := 17) ?_
    try simp only [tkP]
    refine tkA (i := 18) ?_
    try simp only [tkP]
    refine tkA (i := 19) ?_
    try simp only [tkP]
    refine tkA (i := 20) ?_
    try simp only [tkP]
    refine tkA (i := 21) ?_
    try simp only [tkP]
    refine tkA (i := 22) ?_
    try simp only [tkP]
    refine tkA (i := 23) ?_
    try simp only [tkP]
    refine wpAnyH_done (by kernel_rfl) ?_ _
    clear hj1 hj2 hj5
    have HF' := Lib.hid (fun j (hj : j < k + 1) => show okAtI l j = true from by
     by_cases hjk : j < k
     ·exact HF.out j hjk
     ·have e : j = k := by omega
      rw [e]; exact HE.out)
    go_wp2_with fail
    go_roundw
    case rel =>
     first
      | exact ⟨k + 1, by omega, by go_num, HF', HBd⟩
      | ((repeat apply Exists.intro); exact ⟨⟨k + 1, by omega, by go_num, HF', HBd⟩, rfl⟩)
    case measure => simp [intOf]; omega
  ·obtain rfl : k = n := by omega
   have ha : allOkI l = true := allOkI_yes fun j hj => HF.out j (by rw [← HL.out]; exact hj)
   have HE := Lib.hid (show mayI l = decide (0 < k) by rw [mayI, ha, HL.out]; rfl)
   clear ha hlt
   go_wp2_with fail
   go_ret
   exact ⟨by rw [HE.out]; rfl, HB.out⟩
end Go.Proofs.Ytgnpldlgdapehaa

