/-
  The walk of the statement BuildFull: from every start, at every argument, it returns true and changes no block that was there before. (Written by wip/tools/gen_bufull.py.)
-/
import Derived.Test.YtgnpldlgdapehaaJ30
import Derived.Test.YtgnpldlgdapehaaJ31
import Derived.Test.YtgnpldlgdapehaaJ15
import Derived.Test.YtgnpldlgdapehaaJ11
import Derived.Test.YtgnpldlgdapehaaJ6
import Derived.Test.YtgnpldlgdapehaaJ2
import Derived.Test.YtgnpldlgdapehaaJ32
set_option linter.unusedVariables false
set_option linter.unusedSimpArgs false
namespace Go.Proofs.Ytgnpldlgdapehaa
open Go.RowKit

theorem nodesI_cases (size : Int) (l : List It) : (∃ x, nodesI size l = (x, []) ∧ (x = 2 ∨ x = 3)) ∨ ∃ (rr : Nat) (P : List (List It)), size = 24 + (rr : Int) ∧ 1 ≤ rr ∧ 24 + rr ≤ 4096 ∧ goodSize size = true ∧ nodesI size l = (0, P) ∧ Greedy sizeI rr P ∧ P.flatten = l := by
 rcases hg : goodSize size && mayI l with _ | _
 ·exact .inl ⟨2, by unfold nodesI; rw [hg]; rfl, .inl rfl⟩
 ·by_cases hc : cutP (fun x : It => ((sizeI [x] : Nat) : Int)) (size - 24) l = []
  ·exact .inl ⟨3, by unfold nodesI; rw [hg, if_pos rfl, if_pos hc], .inr rfl⟩
  ·simp only [Bool.and_eq_true] at hg
   obtain ⟨z, rfl, h1, h2, h3⟩ := good_nat hg.1
   have e1 : ((z : Int) - 24) = ((z - 24 : Nat) : Int) := by omega
   rw [e1] at hc
   obtain ⟨f1, f2⟩ := cutPI_fine hc
   obtain ⟨g1, g2⟩ := cutPI_greedy f2
   refine .inr ⟨z - 24, _, by omega, by omega, by omega, hg.1, ?_, g1, g2⟩
   unfold nodesI
   rw [hg.1, hg.2, e1, if_pos (show (true && true) = true from rfl), if_neg hc]
theorem i64_sum2 (a b : Nat) (h : a + b ≤ 1000000) : IntKind.i64.wrap ((a : Int) + (b : Int)) = (a : Int) + (b : Int) := by rw [IntKind.wrap_i64]; omega
theorem wrap64_sum2 (a b : Nat) (h : a + b ≤ 1000000) : wrap64 ((a : Int) + (b : Int)) = (a : Int) + (b : Int) := by unfold wrap64; omega
theorem needN_one {size : Int} (h : goodSize size = true) : needN size 1 = 1 := by
 unfold needN
 rw [h]
 simp
theorem sizeI_one (x : It) : sizeI [x] = oneI x := by simp [sizeI]
theorem szI_light {l : List It} (h : lightI l = true) : sizeI l ≤ 5000 := by
 have h1 : ∀ m : List It, sizeI m ≤ sumI m + 10 * m.length := by
  intro m
  induction m with
  | nil => simp [sizeI]
  | cons b m ih =>
   simp only [sizeI, sumI, List.length_cons]
   have : oneI b ≤ b.ky.size + b.vl.size + 10 := by unfold oneI; split <;> omega
   omega
 have := h1 l
 simp [lightI] at h
 omega
set_option maxRecDepth 100000 in
set_option maxHeartbeats 25600000 in
theorem bufull_main (size : Int) (A : Option Addr) (n c : Nat) (l : List It) (As : Option Addr) (ns cs : Nat) (zs : List Int) (w : World)
  (hs : Reads w w.heap.size 1 As ns (icells zs)) (hl : Reads w w.heap.size 5 A n (itc l)) (hnc : n ≤ c) (hlx : NearI l) (h100 : ns ≤ 100) (hlt : lightI l = true) :
  Calls Try.prog 4 #[.int .i64 size, .slice A n c, .slice As ns cs] w fun e w' => e = .returned (.bool true) ∧ Below w.heap.size w w' := by
 have HS := Lib.hid hs
 have HL := Lib.hid hl
 have HX := Lib.hid hlx
 have HLt := Lib.hid hlt
 have hn : n ≤ 100 := by have := it_len hl; simp [lightI] at hlt; omega
 have HLn := Lib.hid (it_len hl)
 have HSi := Lib.hid (Nat.le_trans (szI_light hlt) (show 5000 ≤ 9007199254740992 by decide))
 have g1 : decide ((100 : Int) < (ns : Int)) = false := by simp; omega
 have g2 : decide (100 < ns) = false := by simp; omega
 have g5 : ¬ (100 : Int) < (ns : Int) := by omega
 have HB := Lib.hid (Below.refl w.heap.size w)
 clear hs hl hlx hlt
 go_enter Try.func4, Try.ntmps4
 go_wp2_with fail
 refine (lives13_any _).mono ?_
 rintro e w1 ⟨rfl, hb⟩
 replace HB := Lib.hid (HB.out.trans (hb.mono HB.out.size))
 replace HS := Lib.hid ((HS.out.below hb).more hb.size)
 replace HL := Lib.hid ((HL.out.below hb).more hb.size)
 clear hb
 go_wp2_with fail
 refine (lightI_any A n c l _ HL.out (by omega) HX.out).mono ?_
 rintro e w2 ⟨rfl, q, rfl⟩
 rw [HLt.out]
 replace HB := Lib.hid (below_drewN HB.out q)
 replace HS := Lib.hid (HS.out.drewN q)
 replace HL := Lib.hid (HL.out.drewN q)
 obtain ⟨w3, hw3⟩ : ∃ y, y = w1.drewN q := ⟨_, rfl⟩
 have hz3 : w3.heap.size = w1.heap.size := by rw [hw3]; rfl
 rw [← hz3] at HS HL
 rw [← hw3] at HS HL HB ⊢
 clear hw3 hz3
 go_wp2_with fail
 clear g1 g2 g5
 refine (faceI_any size A n c l _ HL.out (by omega) hnc HX.out HSi.out).mono ?_
 rintro e w4 ⟨A4, n4, c4, v4, rfl, hr4, hn4, hb⟩
 have HR4 := Lib.hid hr4
 replace HB := Lib.hid (HB.out.trans (hb.mono HB.out.size))
 replace HS := Lib.hid ((HS.out.below hb).more hb.size)
 replace HL := Lib.hid ((HL.out.below hb).more hb.size)
 clear hr4 hb
 rcases nodesI_cases size l with ⟨x, hx, hx23⟩ | ⟨rr, PI, hsz, hr1, hr9, hgood, hx, hgr, hfl⟩
 ·rw [hx] at hn4 ⊢
  obtain rfl : n4 = 0 := (hn4.len HR4.out).symm
  have x1 : ¬ x = 0 := by omega
  have x2 : (x != 0) = true := by simp; omega
  have x3 : (x == 0) = false := by simp; omega
  clear hx
  go_wp2_with fail
  go_ret
  exact ⟨rfl, HB.out⟩
 ·rw [hx] at hn4 ⊢
  have H4n := Lib.hid (hn4.len HR4.out)
  have HN4 := Lib.hid hn4
  have HGr := Lib.hid hgr
  have HFl := Lib.hid hfl
  have HGd := Lib.hid hgood
  have h4le : n4 ≤ 100 := by
   have h1 := hgr.count
   rw [hfl] at h1
   have h2 : PI.length = n4 := H4n.out
   have h3 := HLn.out
   omega
  have HRm : ∀ w : World, Calls Try.prog 21 #[.int .i64 size] w fun e w' => e = .returned (.int .i64 (rr : Int)) ∧ w = w' := fun w => (rroom_yes size w hgood).mono (by rintro e w' ⟨rfl, rfl⟩; exact ⟨by rw [show size - 24 = (rr : Int) by omega], rfl⟩)
  clear hx hn4 hgr hfl hgood hsz
  go_wp2_with fail
  refine (HRm _).mono ?_
  rintro e wq ⟨rfl, rfl⟩
  clear HRm
  go_wp2_with fail
  go_loopw [10] (fun vi wr => ∃ i : Nat, i ≤ n4 ∧ vi = .int .i64 i ∧ Hid (Below w4.heap.size w4 wr)) (fun vi _ => n4 - (RowKit.intOf vi).toNat)
  case atStart => exact ⟨0, Nat.zero_le _, rfl, Lib.hid (Below.refl _ _)⟩
  case round =>
   obtain ⟨i, hi, rfl, HBr⟩ := hrel
   have hS1 := HBr.out.size
   by_cases hlt : i < n4
   ·obtain ⟨ad, A5, c5, p, rfl, hab, hp, hc, hrp, hpc⟩ := (HN4.out.below HBr.out).at_ (HR4.out.below HBr.out) hlt
    have hpm : p ∈ PI := List.mem_of_getElem? hp
    have hfit := HGr.out.fits p hpm
    have hne := HGr.out.ne p hpm
    have hpl := HLn.out
    have hsub : p.Sublist l := by rw [← HFl.out]; exact List.sublist_flatten_of_mem hpm
    have hple : p.length ≤ 100 := by have := hsub.length_le; omega
    have hnear : NearI p := fun b hb => HX.out b (hsub.subset hb)
    have HSz := Lib.hid (fun wy (hy : Below wr.heap.size wr wy) => rsize8_any A5 p.length c5 p wy ((hrp.below hy).more hy.size) (by unfold maxLen; omega) hnear (by omega))
    have hp0 : 0 < p.length := List.length_pos_iff.2 hne
    obtain ⟨sp, hsp⟩ : ∃ sp, sp = sizeI p := ⟨_, rfl⟩
    have HSp := Lib.hid hsp
    rw [← hsp] at HSz hfit
    obtain ⟨pl, hpl2⟩ : ∃ y, y = p.length := ⟨_, rfl⟩
    rw [← hpl2] at hp0 hc HSz hple hpc
    have HC := Lib.hid hc
    have HAb := Lib.hid hab
    have u1 : ((pl : Int) == 0) = false := by simp; omega
    have u2 : (pl == 0) = false := by simp; omega
    have u3 : decide ((rr : Int) < (sp : Int)) = false := by simp; omega
    have u4 : decide (rr < sp) = false := by simp; omega
    have e1 : (0 : Int) ≤ i := by omega
    have e2 : (i : Int) < n4 := by omega
    have h7 : i + 1 ≤ 1000000 := by omega
    have s3 : ((i : Int) + 1).toNat = i + 1 := by omega
    clear hne hsub hnear hrp hpm hpl2
    by_cases hnx : i + 1 < n4
    ·obtain ⟨ad', A6, c6, p2, hA, _, hp2, hc2, hrp2, hpc2⟩ := (HN4.out.below HBr.out).at_ (HR4.out.below HBr.out) hnx
     injection hA with hA
     subst hA
     have hpm2 : p2 ∈ PI := List.mem_of_getElem? hp2
     have hsub2 : p2.Sublist l := by rw [← HFl.out]; exact List.sublist_flatten_of_mem hpm2
     have hfit2 := HGr.out.fits p2 hpm2
     have hp20 : 0 < p2.length := List.length_pos_iff.2 (HGr.out.ne p2 hpm2)
     have hp2le : p2.length ≤ 100 := by have := hsub2.length_le; omega
     obtain ⟨ad6, x, rfl, hab6, _, hx, hix⟩ := it_at hrp2 hp20
     have hbig := HGr.out.next hp hp2 hx
     have hxm : x ∈ p2 := List.mem_of_getElem? hx
     have hxs := sizeI_mem hxm
     have hxn := HX.out x (hsub2.subset hxm)
     have HOne := Lib.hid (fun wy => rone8_any x wy hxn.1 hxn.2)
     obtain ⟨ox, hox⟩ : ∃ ox, ox = oneI x := ⟨_, rfl⟩
     rw [← hox] at HOne hbig hxs
     rw [← hsp] at hbig
     obtain ⟨pl2, hpl3⟩ : ∃ y, y = p2.length := ⟨_, rfl⟩
     rw [← hpl3] at hp20 hc2 hp2le hpc2
     obtain ⟨xky, xvl, xov, xln, xhd⟩ := x
     obtain ⟨hk0, hk1, hk2, hk3, hk4⟩ := hix
     have HC2 := Lib.hid hc2
     have HIx := Lib.hid (And.intro hk0 (And.intro hk1 (And.intro hk2 (And.intro hk3 hk4))))
     have HAb6 := Lib.hid hab6
     have v1 : ((pl2 : Int) == 0) = false := by simp; omega
     have v2 : (pl2 == 0) = false := by simp; omega
     have v3 : decide ((sp : Int) + (ox : Int) ≤ (rr : Int)) = false := by simp; omega
     have v4 : decide (sp + ox ≤ rr) = false := by simp; omega
     have v5 : (i : Int) + 1 < n4 := by omega
     have v6 : decide ((i : Int) + 1 < (n4 : Int)) = true := by simp; omega
     have v7 : decide (i + 1 < n4) = true := by simp; omega
     have v8 : (0 : Int) ≤ (i : Int) + 1 := by omega
     have v9 : (0 : Int) < (pl2 : Int) := by omega
     have h8 : sp + ox ≤ 1000000 := by omega
     clear hpm2 hsub2 hx hxm hxn hp2 hox hsp hk0 hk1 hk2 hk3 hk4 hc2 hab6 hpl3
     have HKx := Lib.hid (fun wy (hy : Below wr.heap.size wr wy) => show (wy.cell? ad6 = some (.string xky) ∧ wy.cell? ⟨ad6.block, ad6.off + 1, none⟩ = some (.string xvl) ∧ wy.cell? ⟨ad6.block, ad6.off + 2, none⟩ = some (.bool xov) ∧ wy.cell? ⟨ad6.block, ad6.off + 3, none⟩ = some (.int .i64 xln) ∧ wy.cell? ⟨ad6.block, ad6.off + 4, none⟩ = some (.int .u32 xhd)) from by
      obtain ⟨k0, k1, k2, k3, k4⟩ := HIx.out
      exact ⟨(hy.cell (p := ad6) HAb6.out).trans k0, (hy.cell (p := ⟨ad6.block, ad6.off + 1, none⟩) HAb6.out).trans k1, (hy.cell (p := ⟨ad6.block, ad6.off + 2, none⟩) HAb6.out).trans k2, (hy.cell (p := ⟨ad6.block, ad6.off + 3, none⟩) HAb6.out).trans k3, (hy.cell (p := ⟨ad6.block, ad6.off + 4, none⟩) HAb6.out).trans k4⟩)
     have HBx := Lib.hid (Below.refl wr.heap.size wr).drew
     have s1 : IntKind.i64.wrap ((i : Int) + 1) = (i : Int) + 1 := i64_sum2 i 1 h7
     have s2 : wrap64 ((i : Int) + 1) = (i : Int) + 1 := wrap64_sum2 i 1 h7
     have t1 := i64_sum2 sp ox h8
     have t2 := wrap64_sum2 sp ox h8
     have hkx := HKx.out _ (Below.refl wr.heap.size wr)
     go_upto_region 12 with fail
     refine wp_region_held_drew (S := (fun w' => w'.cell? (ad.add i) = some (.slice A5 pl c5) ∧ w'.cell? ⟨ad.block, ad.off + (i + 1), none⟩ = some (.slice (some ad6) pl2 c6) ∧ (w'.cell? ad6 = some (.string xky) ∧ w'.cell? ⟨ad6.block, ad6.off + 1, none⟩ = some (.string xvl) ∧ w'.cell? ⟨ad6.block, ad6.off + 2, none⟩ = some (.bool xov) ∧ w'.cell? ⟨ad6.block, ad6.off + 3, none⟩ = some (.int .i64 xln) ∧ w'.cell? ⟨ad6.block, ad6.off + 4, none⟩ = some (.int .u32 xhd)))) (by kernel_rfl) (show _ ∧ _ ∧ _ from ⟨(HBx.out.cell (p := ad.add i) (by rw [block_add]; exact Nat.lt_of_lt_of_le HAb.out hS1)).trans HC.out, (HBx.out.cell (p := ad.add (i + 1)) (by rw [block_add]; exact Nat.lt_of_lt_of_le HAb.out hS1)).trans HC2.out, HKx.out _ HBx.out⟩) (fun _ => ?_)
     refine tkA (i := 0) ?_
     try simp only [tkP]
     refine tkA (i := 1) ?_
     try simp only [tkP]
     refine tkA (i := 2) ?_
     try simp only [tkP]
     refine tkA (i := 3) ?_
     try simp only [tkP]
     refine tkA (i := 4) ?_
     try simp only [tkP]
     refine tkA (i := 5) ?_
     try simp only [tkP]
     refine tkA (i := 6) ?_
     try simp only [tkP]
     refine tkA (i := 7) ?_
     try simp only [tkP]
     refine tkA (i := 8) ?_
     try simp only [tkP]
     refine tkA (i := 9) ?_
     try simp only [tkP]
     refine tkA (i := 10) ?_
     try simp only [tkP]
     refine tkA (i := 12) ?_
     try simp only [tkP]
     refine wpAnyH_ready (rs := [11]) (by kernel_rfl) (by simp) ?_
     refine tkC (fun K hK => ?_)
     go_simp
     refine (HSz.out _ HBx.out).mono ?_
     rintro e9 wz ⟨rfl, hb⟩
     replace HBx := Lib.hid (HBx.out.trans (hb.mono HBx.out.size))
     clear hb
     refine hK.out _ _ (show _ ∧ _ ∧ _ from ⟨(HBx.out.cell (p := ad.add i) (by rw [block_add]; exact Nat.lt_of_lt_of_le HAb.out hS1)).trans HC.out, (HBx.out.cell (p := ad.add (i + 1)) (by rw [block_add]; exact Nat.lt_of_lt_of_le HAb.out hS1)).trans HC2.out, HKx.out _ HBx.out⟩) (fun hHeld => ?_)
     clear hK K
     try simp only [tkP]
     refine tkA (i := 13) ?_
     try simp only [tkP]
     refine tkA (i := 14) ?_
     try simp only [tkP]
     refine tkA (i := 15) ?_
     try simp only [tkP]
     refine tkA (i := 16) ?_
     try simp only [tkP]
     refine tkA (i := 17) ?_
     try simp only [tkP]
     refine tkA (i := 18) ?_
     try simp only [tkP]
     refine tkA (i := 19) ?_
     try simp only [tkP]
     refine tkA (i := 20) ?_
     try simp only [tkP]
     refine tkA (i := 21) ?_
     try simp only [tkP]
     refine tkA (i := 22) ?_
     try simp only [tkP]
     refine tkA (i := 23) ?_
     try simp only [tkP]
     refine tkA (i := 24) ?_
     try simp only [tkP]
     refine tkA (i := 25) ?_
     try simp only [tkP]
     refine tkA (i := 26) ?_
     try simp only [tkP]
     refine tkA (i := 27) ?_
     try simp only [tkP]
     refine tkA (i := 28) ?_
     try simp only [tkP]
     refine tkA (i := 29) ?_
     try simp only [tkP]
     refine tkA (i := 30) ?_
     try simp only [tkP]
     refine tkA (i := 31) ?_
     try simp only [tkP]
     refine tkA (i := 32) ?_
     try simp only [tkP]
     refine tkA (i := 33) ?_
     try simp only [tkP]
     refine tkA (i := 35) ?_
     try simp only [tkP]
     refine tkA (i := 36) ?_
     try simp only [tkP]
     refine tkA (i := 37) ?_
     try simp only [tkP]
     refine tkA (i := 38) ?_
     try simp only [tkP]
     refine tkA (i := 39) ?_
     try simp only [tkP]
     refine tkA (i := 40) ?_
     try simp only [tkP]
     refine tkA (i := 41) ?_
     try simp only [tkP]
     refine tkA (i := 44) ?_
     try simp only [tkP]
     refine wpAnyH_ready (rs := [34]) (by kernel_rfl) (by simp) ?_
     refine tkC (fun K hK => ?_)
     go_simp
     refine (HSz.out _ HBx.out).mono ?_
     rintro e9 wz ⟨rfl, hb⟩
     replace HBx := Lib.hid (HBx.out.trans (hb.mono HBx.out.size))
     clear hb
     refine hK.out _ _ (show _ ∧ _ ∧ _ from ⟨(HBx.out.cell (p := ad.add i) (by rw [block_add]; exact Nat.lt_of_lt_of_le HAb.out hS1)).trans HC.out, (HBx.out.cell (p := ad.add (i + 1)) (by rw [block_add]; exact Nat.lt_of_lt_of_le HAb.out hS1)).trans HC2.out, HKx.out _ HBx.out⟩) (fun hHeld => ?_)
     clear hK K
     try simp only [tkP]
     refine wpAnyH_ready (rs := [42]) (by kernel_rfl) (by simp) ?_
     refine tkC (fun K hK => ?_)
     go_simp
     refine (HOne.out _).mono ?_
     rintro e9 wz ⟨rfl, hb⟩
     replace HBx := Lib.hid (HBx.out.trans (hb.mono HBx.out.size))
     clear hb
     refine hK.out _ _ (show _ ∧ _ ∧ _ from ⟨(HBx.out.cell (p := ad.add i) (by rw [block_add]; exact Nat.lt_of_lt_of_le HAb.out hS1)).trans HC.out, (HBx.out.cell (p := ad.add (i + 1)) (by rw [block_add]; exact Nat.lt_of_lt_of_le HAb.out hS1)).trans HC2.out, HKx.out _ HBx.out⟩) (fun hHeld => ?_)
     clear hK K
     try simp only [tkP]
     refine tkA (i := 43) ?_
     try simp only [tkP]
     refine tkA (i := 45) ?_
     try simp only [tkP]
     refine tkA (i := 46) ?_
     try simp only [tkP]
     refine tkA (i := 47) ?_
     try simp only [tkP]
     refine tkA (i := 48) ?_
     try simp only [tkP]
     refine wpAnyH_done (by kernel_rfl) ?_ _
     have HBf := Lib.hid (HBr.out.trans (HBx.out.mono hS1))
     clear HBx HSz HOne HKx hkx hHeld s1 s2 t1 t2
     go_wp2_with fail
     go_roundw
     case rel =>
      first
       | exact ⟨i + 1, by omega, by go_num, HBf⟩
       | ((repeat apply Exists.intro); exact ⟨⟨i + 1, by omega, by go_num, HBf⟩, rfl⟩)
     case measure => simp [RowKit.intOf]; omega
    ·have v5 : ¬ (i : Int) + 1 < n4 := by omega
     have v6 : decide ((i : Int) + 1 < (n4 : Int)) = false := by simp; omega
     have v7 : decide (i + 1 < n4) = false := by simp; omega
     clear hsp
     have HBx := Lib.hid (Below.refl wr.heap.size wr).drew
     have s1 : IntKind.i64.wrap ((i : Int) + 1) = (i : Int) + 1 := i64_sum2 i 1 h7
     have s2 : wrap64 ((i : Int) + 1) = (i : Int) + 1 := wrap64_sum2 i 1 h7
     go_upto_region 12 with fail
     refine wp_region_held_drew (S := (fun w' => w'.cell? (ad.add i) = some (.slice A5 pl c5) ∧ True)) (by kernel_rfl) (show _ ∧ _ from ⟨(HBx.out.cell (p := ad.add i) (by rw [block_add]; exact Nat.lt_of_lt_of_le HAb.out hS1)).trans HC.out, trivial⟩) (fun _ => ?_)
     refine tkA (i := 0) ?_
     try simp only [tkP]
     refine tkA (i := 1) ?_
     try simp only [tkP]
     refine tkA (i := 2) ?_
     try simp only [tkP]
     refine tkA (i := 3) ?_
     try simp only [tkP]
     refine tkA (i := 4) ?_
     try simp only [tkP]
     refine tkA (i := 5) ?_
     try simp only [tkP]
     refine tkA (i := 6) ?_
     try simp only [tkP]
     refine tkA (i := 7) ?_
     try simp only [tkP]
     refine tkA (i := 8) ?_
     try simp only [tkP]
     refine tkA (i := 9) ?_
     try simp only [tkP]
     refine tkA (i := 10) ?_
     try simp only [tkP]
     refine tkA (i := 12) ?_
     try simp only [tkP]
     refine wpAnyH_ready (rs := [11]) (by kernel_rfl) (by simp) ?_
     refine tkC (fun K hK => ?_)
     go_simp
     refine (HSz.out _ HBx.out).mono ?_
     rintro e9 wz ⟨rfl, hb⟩
     replace HBx := Lib.hid (HBx.out.trans (hb.mono HBx.out.size))
     clear hb
     refine hK.out _ _ (show _ ∧ _ from ⟨(HBx.out.cell (p := ad.add i) (by rw [block_add]; exact Nat.lt_of_lt_of_le HAb.out hS1)).trans HC.out, trivial⟩) (fun hHeld => ?_)
     clear hK K
     try simp only [tkP]
     refine tkA (i := 13) ?_
     try simp only [tkP]
     refine tkA (i := 14) ?_
     try simp only [tkP]
     refine tkA (i := 15) ?_
     try simp only [tkP]
     refine tkA (i := 16) ?_
     try simp only [tkP]
     refine tkA (i := 17) ?_
     try simp only [tkP]
     refine tkA (i := 18) ?_
     try simp only [tkP]
     refine tkA (i := 19) ?_
     try simp only [tkP]
     refine tkA (i := 20) ?_
     try simp only [tkP]
     refine tkA (i := 21) ?_
     try simp only [tkP]
     refine wpAnyH_takeL (i := 22) (v := undef) rfl (by kernel_rfl) (by kernel_rfl) (by kernel_rfl) (fun _ _ _ h => h) (Or.inr ⟨by rfl, by rfl⟩) (by first | exact hHeld | assumption | trivial) ?_
     try simp only [tkP]
     refine wpAnyH_takeL (i := 23) (v := undef) rfl (by kernel_rfl) (by kernel_rfl) (by kernel_rfl) (fun _ _ _ h => h) (Or.inr ⟨by rfl, by rfl⟩) (by first | exact hHeld | assumption | trivial) ?_
     try simp only [tkP]
     refine wpAnyH_takeL (i := 24) (v := undef) rfl (by kernel_rfl) (by kernel_rfl) (by kernel_rfl) (fun _ _ _ h => h) (Or.inr ⟨by rfl, by rfl⟩) (by first | exact hHeld | assumption | trivial) ?_
     try simp only [tkP]
     refine wpAnyH_takeL (i := 25) (v := undef) rfl (by kernel_rfl) (by kernel_rfl) (by kernel_rfl) (fun _ _ _ h => h) (Or.inr ⟨by rfl, by rfl⟩) (by first | exact hHeld | assumption | trivial) ?_
     try simp only [tkP]
     refine wpAnyH_takeL (i := 26) (v := undef) rfl (by kernel_rfl) (by kernel_rfl) (by kernel_rfl) (fun _ _ _ h => h) (Or.inr ⟨by rfl, by rfl⟩) (by first | exact hHeld | assumption | trivial) ?_
     try simp only [tkP]
     refine wpAnyH_takeL (i := 27) (v := undef) rfl (by kernel_rfl) (by kernel_rfl) (by kernel_rfl) (fun _ _ _ h => h) (Or.inr ⟨by rfl, by rfl⟩) (by first | exact hHeld | assumption | trivial) ?_
     try simp only [tkP]
     refine wpAnyH_takeL (i := 28) (v := undef) rfl (by kernel_rfl) (by kernel_rfl) (by kernel_rfl) (fun _ _ _ h => h) (Or.inr ⟨by rfl, by rfl⟩) (by first | exact hHeld | assumption | trivial) ?_
     try simp only [tkP]
     refine wpAnyH_takeL (i := 29) (v := undef) rfl (by kernel_rfl) (by kernel_rfl) (by kernel_rfl) (fun _ _ _ h => h) (Or.inr ⟨by rfl, by rfl⟩) (by first | exact hHeld | assumption | trivial) ?_
     try simp only [tkP]
     refine wpAnyH_takeL (i := 30) (v := undef) rfl (by kernel_rfl) (by kernel_rfl) (by kernel_rfl) (fun _ _ _ h => h) (Or.inr ⟨by rfl, by rfl⟩) (by first | exact hHeld | assumption | trivial) ?_
     try simp only [tkP]
     refine wpAnyH_takeL (i := 31) (v := undef) rfl (by kernel_rfl) (by kernel_rfl) (by kernel_rfl) (fun _ _ _ h => h) (Or.inr ⟨by rfl, by rfl⟩) (by first | exact hHeld | assumption | trivial) ?_
     try simp only [tkP]
     refine wpAnyH_takeL (i := 32) (v := undef) rfl (by kernel_rfl) (by kernel_rfl) (by kernel_rfl) (fun _ _ _ h => h) (Or.inr ⟨by rfl, by rfl⟩) (by first | exact hHeld | assumption | trivial) ?_
     try simp only [tkP]
     refine wpAnyH_takeL (i := 33) (v := undef) rfl (by kernel_rfl) (by kernel_rfl) (by kernel_rfl) (fun _ _ _ h => h) (Or.inr ⟨by rfl, by rfl⟩) (by first | exact hHeld | assumption | trivial) ?_
     try simp only [tkP]
     refine wpAnyH_takeL (i := 34) (v := undef) rfl (by kernel_rfl) (by kernel_rfl) (by kernel_rfl) (fun _ _ _ h => h) (Or.inr ⟨by rfl, by rfl⟩) (by first | exact hHeld | assumption | trivial) ?_
     try simp only [tkP]
     refine wpAnyH_takeL (i := 35) (v := undef) rfl (by kernel_rfl) (by kernel_rfl) (by kernel_rfl) (fun _ _ _ h => h) (Or.inr ⟨by rfl, by rfl⟩) (by first | exact hHeld | assumption | trivial) ?_
     try simp only [tkP]
     refine wpAnyH_takeL (i := 36) (v := undef) rfl (by kernel_rfl) (by kernel_rfl) (by kernel_rfl) (fun _ _ _ h => h) (Or.inr ⟨by rfl, by rfl⟩) (by first | exact hHeld | assumption | trivial) ?_
     try simp only [tkP]
     refine wpAnyH_takeL (i := 37) (v := undef) rfl (by kernel_rfl) (by kernel_rfl) (by kernel_rfl) (fun _ _ _ h => h) (Or.inr ⟨by rfl, by rfl⟩) (by first | exact hHeld | assumption | trivial) ?_
     try simp only [tkP]
     refine wpAnyH_takeL (i := 38) (v := undef) rfl (by kernel_rfl) (by kernel_rfl) (by kernel_rfl) (fun _ _ _ h => h) (Or.inr ⟨by rfl, by rfl⟩) (by first | exact hHeld | assumption | trivial) ?_
     try simp only [tkP]
     refine wpAnyH_takeL (i := 39) (v := undef) rfl (by kernel_rfl) (by kernel_rfl) (by kernel_rfl) (fun _ _ _ h => h) (Or.inr ⟨by rfl, by rfl⟩) (by first | exact hHeld | assumption | trivial) ?_
     try simp only [tkP]
     refine wpAnyH_takeL (i := 40) (v := undef) rfl (by kernel_rfl) (by kernel_rfl) (by kernel_rfl) (fun _ _ _ h => h) (Or.inr ⟨by rfl, by rfl⟩) (by first | exact hHeld | assumption | trivial) ?_
     try simp only [tkP]
     refine wpAnyH_takeL (i := 41) (v := undef) rfl (by kernel_rfl) (by kernel_rfl) (by kernel_rfl) (fun _ _ _ h => h) (Or.inr ⟨by rfl, by rfl⟩) (by first | exact hHeld | assumption | trivial) ?_
     try simp only [tkP]
     refine wpAnyH_takeL (i := 42) (v := undef) rfl (by kernel_rfl) (by kernel_rfl) (by kernel_rfl) (fun _ _ _ h => h) (Or.inr ⟨by rfl, by rfl⟩) (by first | exact hHeld | assumption | trivial) ?_
     try simp only [tkP]
     refine wpAnyH_takeL (i := 43) (v := undef) rfl (by kernel_rfl) (by kernel_rfl) (by kernel_rfl) (fun _ _ _ h => h) (Or.inr ⟨by rfl, by rfl⟩) (by first | exact hHeld | assumption | trivial) ?_
     try simp only [tkP]
     refine wpAnyH_takeL (i := 44) (v := undef) rfl (by kernel_rfl) (by kernel_rfl) (by kernel_rfl) (fun _ _ _ h => h) (Or.inr ⟨by rfl, by rfl⟩) (by first | exact hHeld | assumption | trivial) ?_
     try simp only [tkP]
     refine wpAnyH_takeL (i := 45) (v := undef) rfl (by kernel_rfl) (by kernel_rfl) (by kernel_rfl) (fun _ _ _ h => h) (Or.inr ⟨by rfl, by rfl⟩) (by first | exact hHeld | assumption | trivial) ?_
     try simp only [tkP]
     refine wpAnyH_takeL (i := 46) (v := undef) rfl (by kernel_rfl) (by kernel_rfl) (by kernel_rfl) (fun _ _ _ h => h) (Or.inr ⟨by rfl, by rfl⟩) (by first | exact hHeld | assumption | trivial) ?_
     try simp only [tkP]
     refine tkA (i := 47) ?_
     try simp only [tkP]
     refine tkA (i := 48) ?_
     try simp only [tkP]
     refine wpAnyH_done (by kernel_rfl) ?_ _
     have HBf := Lib.hid (HBr.out.trans (HBx.out.mono hS1))
     clear HBx HSz hHeld s1 s2
     go_wp2_with fail
     go_roundw
     case rel =>
      first
       | exact ⟨i + 1, by omega, by go_num, HBf⟩
       | ((repeat apply Exists.intro); exact ⟨⟨i + 1, by omega, by go_num, HBf⟩, rfl⟩)
     case measure => simp [RowKit.intOf]; omega
   ·obtain rfl : i = n4 := by omega
    have e2 : ¬ (i : Int) < i := by omega
    clear hlt hi
    replace HR4 := Lib.hid ((HR4.out.below HBr.out).more hS1)
    replace HN4 := Lib.hid (HN4.out.below HBr.out)
    replace HS := Lib.hid ((HS.out.below HBr.out).more hS1)
    replace HL := Lib.hid ((HL.out.below HBr.out).more hS1)
    replace HB := Lib.hid (HB.out.trans (HBr.out.mono HB.out.size))
    have HI9 := Lib.hid (show i ≤ 1000000 ∧ PI.flatten.length ≤ 1000000 by
     have h1 := HLn.out
     rw [HFl.out]
     omega)
    clear HBr hS1
    go_wp2_with fail
    refine (flatI_any A4 i c4 v4 PI _ HR4.out HN4.out HI9.out.1 HI9.out.2).mono ?_
    rintro e w5 ⟨A7, n7, c7, A8, n8, c8, rfl, hr7, hr8, hc7, hb⟩
    rw [HFl.out] at hr7
    obtain rfl : n7 = n := by have := it_len hr7; have := HLn.out; omega
    have HR7 := Lib.hid hr7
    replace HS := Lib.hid ((HS.out.below hb).more hb.size)
    replace HL := Lib.hid ((HL.out.below hb).more hb.size)
    replace HB := Lib.hid (HB.out.trans (hb.mono HB.out.size))
    clear hr7 hr8 hb HR4 HN4 HI9
    go_wp2_with fail
    go_loopw [13, 14, 15] (fun vn va vi wr => ∃ t a : Nat, vn = .int .i64 t ∧ va = .int .i64 a ∧ vi = .int .i64 t ∧ t ≤ a ∧ a ≤ n7 ∧ Hid (a ≤ ahead PI t) ∧ Hid (Below w5.heap.size w5 wr)) (fun _ va _ _ => n7 - (RowKit.intOf va).toNat)
    case atStart => exact ⟨0, 0, rfl, rfl, rfl, Nat.le_refl _, Nat.zero_le _, Lib.hid (Nat.zero_le _), Lib.hid (Below.refl _ _)⟩
    case round =>
     obtain ⟨t, a, rfl, rfl, rfl, hta, han, HAh, HBr⟩ := hrel
     have hS1 := HBr.out.size
     by_cases hlt : a < n7
     ·have e2 : (a : Int) < n7 := by omega
      by_cases htn : t < ns
      ·obtain ⟨adS, z, rfl, _, _, hcz⟩ := iread_at (HS.out.below HBr.out) htn
       obtain ⟨d, hd⟩ : ∃ d, d = n7 - a := ⟨_, rfl⟩
       have d1 : (n7 : Int) - (a : Int) = (d : Int) := by omega
       have hpk := fun W => pick_any z d W (by omega) (by omega)
       obtain ⟨kk, hkk, hkd⟩ : ∃ kk : Nat, z % (d : Int) = (kk : Int) ∧ kk < d := ⟨(z % (d : Int)).toNat, by have := Int.emod_nonneg z (show (d : Int) ≠ 0 by omega); omega, by have := Int.emod_nonneg z (show (d : Int) ≠ 0 by omega); have := Int.emod_lt_of_pos z (show (0 : Int) < (d : Int) by omega); omega⟩
       rw [hkk] at hpk
       obtain ⟨K, hK⟩ : ∃ K, K = 1 + kk := ⟨_, rfl⟩
       have d2 : (1 : Int) + (kk : Int) = (K : Int) := by omega
       have d3 : (t : Int) < ns := by omega
       have d4 : (0 : Int) ≤ (t : Int) := by omega
       have hK9 : a + K ≤ n7 ∧ 1 ≤ K := by omega
       obtain ⟨hK8, hK7⟩ := hK9
       clear hkk hd hK
       go_wp2_with fail
       refine (hpk _).mono ?_
       rintro e wq ⟨rfl, rfl⟩
       clear hpk
       go_wp2_with fail
       go_loopw [16] (fun vk wr' => ∃ k : Nat, 1 ≤ k ∧ a + k ≤ n7 ∧ vk = .int .i64 k ∧ Hid (Below w5.heap.size w5 wr')) (fun vk _ => (RowKit.intOf vk).toNat)
       case atStart => exact ⟨K, by omega, by omega, by first | rfl | go_num, HBr⟩
       case round =>
        obtain ⟨k, hk1, hak, rfl, HBq⟩ := hrel
        by_cases hk2 : k = 1
        ·subst hk2
         have HNx := Lib.hid (show a + 1 ≤ ahead PI (t + 1) from ahead_step HGr.out HFl.out HAh.out (.inl rfl) (by have := HLn.out; omega))
         go_wp2_with fail
         go_roundw
         case rel =>
          first
           | exact ⟨t + 1, a + 1, by go_num, by go_num, by go_num, by omega, by omega, HNx, HBq⟩
           | ((repeat apply Exists.intro); exact ⟨⟨t + 1, a + 1, by go_num, by go_num, by go_num, by omega, by omega, HNx, HBq⟩, rfl⟩)
         case measure => simp [RowKit.intOf]; omega
        ·have f1 : (1 : Int) < (k : Int) := by omega
         have f2 : decide ((1 : Int) < (k : Int)) = true := by simp; omega
         have f3 : decide (1 < k) = true := by simp; omega
         obtain ⟨b, hb⟩ : ∃ b, b = a + k := ⟨_, rfl⟩
         have f4 : (a : Int) + (k : Int) = (b : Int) := by omega
         obtain ⟨X, hX, hmid⟩ := midI A n7 c a b (a : Int) (b : Int) rfl rfl (by omega) (by omega)
         have hkb : b - a = k := by omega
         rw [hkb] at hmid
         have hrx : Reads wr w5.heap.size 5 X k (itc ((l.drop a).take k)) := by
          have h1 := it_drop (HL.out.below HBq.out) (show a ≤ n7 by omega) hnc
          rw [← hX] at h1
          exact it_take h1 (by omega)
         have hsub : ((l.drop a).take k).Sublist l := (List.take_sublist _ _).trans (List.drop_sublist _ _)
         have hsle := sizeI_sub hsub
         have hsi := HSi.out
         have HSz := Lib.hid (rsize8_any X k (c - a) ((l.drop a).take k) wr (hrx.more HBq.out.size) (by unfold maxLen; omega) (fun y hy => HX.out y (hsub.subset hy)) (by omega))
         obtain ⟨sq, hsq⟩ : ∃ sq, sq = sizeI ((l.drop a).take k) := ⟨_, rfl⟩
         rw [← hsq] at HSz
         have HSq := Lib.hid hsq
         have HHb := Lib.hid hb
         clear hX hrx hsub hsle hsi hsq hb hkb
         go_wp2_with fail
         refine HSz.out.mono ?_
         rintro e wz ⟨rfl, hb⟩
         have HBq2 := Lib.hid (HBq.out.trans (hb.mono HBq.out.size))
         clear hb HSz hmid
         by_cases hbg : rr < sq
         ·have f5 : (rr : Int) < (sq : Int) := by omega
          go_wp2_with fail
          go_roundw
          case rel =>
           first
            | exact ⟨k - 1, by omega, by omega, by (first | go_num | (congr 1; omega)), HBq2⟩
            | ((repeat apply Exists.intro); exact ⟨⟨k - 1, by omega, by omega, by (first | go_num | (congr 1; omega)), HBq2⟩, rfl⟩)
          case measure => simp [RowKit.intOf]; omega
         ·have f5 : ¬ (rr : Int) < (sq : Int) := by omega
          have HNx := Lib.hid (show b ≤ ahead PI (t + 1) by rw [HHb.out]; exact ahead_step HGr.out HFl.out HAh.out (.inr (by rw [← HSq.out]; omega)) (by have := HLn.out; omega))
          go_wp2_with fail
          go_roundw
          case rel =>
           have hb := HHb.out
           first
            | exact ⟨t + 1, b, by go_num, by go_num, by go_num, by omega, by omega, HNx, HBq2⟩
            | ((repeat apply Exists.intro); exact ⟨⟨t + 1, b, by go_num, by go_num, by go_num, by omega, by omega, HNx, HBq2⟩, rfl⟩)
          case measure =>
           have hb := HHb.out
           simp [RowKit.intOf]; omega
      ·have d3 : ¬ (t : Int) < ns := by omega
       go_wp2_with fail
       go_loopw [16] (fun vk wr' => ∃ k : Nat, 1 ≤ k ∧ a + k ≤ n7 ∧ vk = .int .i64 k ∧ Hid (Below w5.heap.size w5 wr')) (fun vk _ => (RowKit.intOf vk).toNat)
       case atStart => exact ⟨1, by omega, by omega, by first | rfl | go_num, HBr⟩
       case round =>
        obtain ⟨k, hk1, hak, rfl, HBq⟩ := hrel
        by_cases hk2 : k = 1
        ·subst hk2
         have HNx := Lib.hid (show a + 1 ≤ ahead PI (t + 1) from ahead_step HGr.out HFl.out HAh.out (.inl rfl) (by have := HLn.out; omega))
         go_wp2_with fail
         go_roundw
         case rel =>
          first
           | exact ⟨t + 1, a + 1, by go_num, by go_num, by go_num, by omega, by omega, HNx, HBq⟩
           | ((repeat apply Exists.intro); exact ⟨⟨t + 1, a + 1, by go_num, by go_num, by go_num, by omega, by omega, HNx, HBq⟩, rfl⟩)
         case measure => simp [RowKit.intOf]; omega
        ·have f1 : (1 : Int) < (k : Int) := by omega
         have f2 : decide ((1 : Int) < (k : Int)) = true := by simp; omega
         have f3 : decide (1 < k) = true := by simp; omega
         obtain ⟨b, hb⟩ : ∃ b, b = a + k := ⟨_, rfl⟩
         have f4 : (a : Int) + (k : Int) = (b : Int) := by omega
         obtain ⟨X, hX, hmid⟩ := midI A n7 c a b (a : Int) (b : Int) rfl rfl (by omega) (by omega)
         have hkb : b - a = k := by omega
         rw [hkb] at hmid
         have hrx : Reads wr w5.heap.size 5 X k (itc ((l.drop a).take k)) := by
          have h1 := it_drop (HL.out.below HBq.out) (show a ≤ n7 by omega) hnc
          rw [← hX] at h1
          exact it_take h1 (by omega)
         have hsub : ((l.drop a).take k).Sublist l := (List.take_sublist _ _).trans (List.drop_sublist _ _)
         have hsle := sizeI_sub hsub
         have hsi := HSi.out
         have HSz := Lib.hid (rsize8_any X k (c - a) ((l.drop a).take k) wr (hrx.more HBq.out.size) (by unfold maxLen; omega) (fun y hy => HX.out y (hsub.subset hy)) (by omega))
         obtain ⟨sq, hsq⟩ : ∃ sq, sq = sizeI ((l.drop a).take k) := ⟨_, rfl⟩
         rw [← hsq] at HSz
         have HSq := Lib.hid hsq
         have HHb := Lib.hid hb
         clear hX hrx hsub hsle hsi hsq hb hkb
         go_wp2_with fail
         refine HSz.out.mono ?_
         rintro e wz ⟨rfl, hb⟩
         have HBq2 := Lib.hid (HBq.out.trans (hb.mono HBq.out.size))
         clear hb HSz hmid
         by_cases hbg : rr < sq
         ·have f5 : (rr : Int) < (sq : Int) := by omega
          go_wp2_with fail
          go_roundw
          case rel =>
           first
            | exact ⟨k - 1, by omega, by omega, by (first | go_num | (congr 1; omega)), HBq2⟩
            | ((repeat apply Exists.intro); exact ⟨⟨k - 1, by omega, by omega, by (first | go_num | (congr 1; omega)), HBq2⟩, rfl⟩)
          case measure => simp [RowKit.intOf]; omega
         ·have f5 : ¬ (rr : Int) < (sq : Int) := by omega
          have HNx := Lib.hid (show b ≤ ahead PI (t + 1) by rw [HHb.out]; exact ahead_step HGr.out HFl.out HAh.out (.inr (by rw [← HSq.out]; omega)) (by have := HLn.out; omega))
          go_wp2_with fail
          go_roundw
          case rel =>
           have hb := HHb.out
           first
            | exact ⟨t + 1, b, by go_num, by go_num, by go_num, by omega, by omega, HNx, HBq2⟩
            | ((repeat apply Exists.intro); exact ⟨⟨t + 1, b, by go_num, by go_num, by go_num, by omega, by omega, HNx, HBq2⟩, rfl⟩)
          case measure =>
           have hb := HHb.out
           simp [RowKit.intOf]; omega
     ·obtain rfl : a = n7 := by omega
      have e2 : ¬ (a : Int) < a := by omega
      have hend : i ≤ t := by
       rw [← H4n.out]
       exact ahead_end HGr.out HFl.out (by rw [HLn.out]; exact HAh.out)
      have h1 : decide ((i : Int) ≤ (t : Int)) = true := by simp; omega
      have h2 : decide (i ≤ t) = true := by simp; omega
      have h3 : (i : Int) ≤ (t : Int) := by omega
      clear hlt
      replace HB := Lib.hid (HB.out.trans (HBr.out.mono HB.out.size))
      have HL2 := Lib.hid (HL.out.below HBr.out)
      have HR72 := Lib.hid (HR7.out.below HBr.out)
      have HSm := Lib.hid (same8_yes A7 a c7 A c l wr HR72.out HL2.out (by unfold maxLen; omega))
      have HNd := Lib.hid (fun W => (rneed9_any size 1 W (by decide)))
      rw [needN_one HGd.out] at HNd
      have HKy := Lib.hid (fun W => rkey_any ⟨#[]⟩ W)
      rw [show keyF ⟨#[]⟩ = true by decide] at HKy
      go_wp2_with fail
      refine HSm.out.mono ?_
      rintro e wz ⟨rfl, q1, rfl⟩
      clear HSm
      go_wp2_with fail
      refine (HNd.out _).mono ?_
      rintro e wy ⟨rfl, rfl⟩
      go_wp2_with fail
      refine (HKy.out _).mono ?_
      rintro e wy ⟨rfl, rfl⟩
      go_wp2_with fail
      go_ret
      exact ⟨rfl, below_drewN HB.out _⟩
set_option maxRecDepth 100000 in
theorem bufull_walk (size : Int) (A : Option Addr) (n c : Nat) (l : List It) (As : Option Addr) (ns cs : Nat) (zs : List Int) (w : World)
  (_hz : (Lit.int .i64 size).wf = true) (hl : Its w w.heap.size A n c l) (hs : IsRow .i64 w As ns cs zs) :
  Calls Try.prog 4 #[.int .i64 size, .slice A n c, .slice As ns cs] w fun e w' => e = .returned (.bool true) ∧ Below w.heap.size w w' := by
 obtain ⟨g1, _, _, g4, g5⟩ := hs.reads
 rcases h2 : lightI l with _ | _
 ·have HB := Lib.hid (Below.refl w.heap.size w)
  have HL := Lib.hid hl.1
  have HX := Lib.hid hl.near
  have HN := Lib.hid hl.2.2.2.1
  have HLt := Lib.hid h2
  clear g1 g4 g5 hl hs h2
  go_enter Try.func4, Try.ntmps4
  go_wp2_with fail
  refine (lives13_any _).mono ?_
  rintro e w1 ⟨rfl, hb⟩
  replace HB := Lib.hid (HB.out.trans (hb.mono HB.out.size))
  replace HL := Lib.hid (HL.out.below hb)
  clear hb
  go_wp2_with fail
  refine (lightI_any A n c l _ HL.out (Nat.le_trans HN.out (by decide)) HX.out).mono ?_
  rintro e w2 ⟨rfl, q, rfl⟩
  rw [HLt.out]
  replace HB := Lib.hid (below_drewN HB.out q)
  go_wp2_with fail
  go_ret
  exact ⟨rfl, HB.out⟩
 ·by_cases h1 : ns ≤ 100
  ·exact bufull_main size A n c l As ns cs (zs.take ns) w g1 hl.1 hl.2.1 hl.near h1 h2
  ·have HB := Lib.hid (Below.refl w.heap.size w)
   have HL := Lib.hid hl.1
   have HX := Lib.hid hl.near
   have HN := Lib.hid hl.2.2.2.1
   have HLt := Lib.hid h2
   have q1 : decide ((100 : Int) < (ns : Int)) = true := by simp; omega
   have q5 : (100 : Int) < (ns : Int) := by omega
   clear g1 g4 g5 hl hs h2
   go_enter Try.func4, Try.ntmps4
   go_wp2_with fail
   refine (lives13_any _).mono ?_
   rintro e w1 ⟨rfl, hb⟩
   replace HB := Lib.hid (HB.out.trans (hb.mono HB.out.size))
   replace HL := Lib.hid (HL.out.below hb)
   clear hb
   go_wp2_with fail
   refine (lightI_any A n c l _ HL.out (Nat.le_trans HN.out (by decide)) HX.out).mono ?_
   rintro e w2 ⟨rfl, q, rfl⟩
   rw [HLt.out]
   replace HB := Lib.hid (below_drewN HB.out q)
   go_wp2_with fail
   go_ret
   exact ⟨rfl, HB.out⟩
end Go.Proofs.Ytgnpldlgdapehaa

