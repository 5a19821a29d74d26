/-
  The walk of the statement CursorSame: from every start, at every argument, it returns true and changes no block that was there before. (Written by wip/tools/gen_cusame.py.)
-/
import Derived.Test.YtmmjckokjmpfpaaGreatJ43
import Derived.Deep.CutRange
import Derived.Test.YtmmjckokjmpfpaaGreatJ36
import Derived.Test.YtmmjckokjmpfpaaGreatJ2
import Derived.Test.YtmmjckokjmpfpaaGreatJ12
set_option linter.unusedVariables false
set_option linter.unusedSimpArgs false
namespace Go.Proofs.YtmmjckokjmpfpaaGreat
open Go.RowKit
open Go.Lib hiding intOf
attribute [local go_sem ↓] Go.wp_at_zero Go.wp_at_succ

theorem readAt_same {im M : ByteArray} {c e n : Nat} (hl : im.size = c * 128) (hs : M.size = c * 128 + e) (hn : n < c) (hb : blkOf 128 M n = blkOf 128 im n) : readAt 128 M n = readAt 128 im n := by
 unfold readAt
 rw [show (128 : Int).toNat = 128 from rfl, hb, hs, hl, show (c * 128 + e) / 128 = c + e / 128 by omega, Nat.mul_div_cancel _ (by decide), decide_eq_true (show n < c + e / 128 by omega), decide_eq_true hn]
set_option maxRecDepth 10000 in
theorem readAt_more {im a rest : ByteArray} {c : Nat} (hl : im.size = c * 128) (ha : a.size = 256) (hc : 2 ≤ c) (n : Nat) (h2 : 2 ≤ n) (hn : n < c) :
  readAt 128 (a ++ im.extract 256 im.size ++ rest) n = readAt 128 im n := by
 refine readAt_same hl (e := rest.size) (by rw [ByteArray.size_append, ByteArray.size_append, ByteArray.size_extract, ha]; omega) hn ?_
 have h1 : n * 128 + 128 ≤ c * 128 := by omega
 have hal : a.data.toList.length = 256 := by rw [size_list, ha]
 have hil : im.data.toList.length = c * 128 := by rw [size_list, hl]
 have hz : im.size = im.data.toList.length := (size_list im).symm
 apply bytes_ext
 rw [blkOf_list, blkOf_list]
 unfold pieceL
 rw [ByteArray.data_append, Array.toList_append, ByteArray.data_append, Array.toList_append, ext_list11, hz]
 generalize im.data.toList = I at *
 generalize a.data.toList = X at *
 rw [List.append_assoc, List.drop_append, List.drop_of_length_le (l := X) (by omega), List.nil_append, hal]
 rw [List.take_of_length_le (l := I.drop 256) (by rw [List.length_drop]; exact Nat.le_refl _), List.drop_append_of_le_length (by rw [List.length_drop]; omega), List.take_append_of_le_length (by rw [List.length_drop, List.length_drop]; omega), List.drop_drop]
 congr 2
 omega
theorem size_cut {im : ByteArray} {r k : Nat} (hk : k < 128) (h : r * 128 + 128 ≤ im.size) : readAt 128 (im.extract 0 (r * 128 + k)) r = none := by
 have hs : (im.extract 0 (r * 128 + k)).size = r * 128 + k := by rw [ByteArray.size_extract]; omega
 unfold readAt
 rw [hs, show (128 : Int).toNat = 128 from rfl, decide_eq_false (show ¬ r < (r * 128 + k) / 128 by omega)]
 simp
set_option maxRecDepth 100000 in
set_option maxHeartbeats 25600000 in
theorem cusame_walk (A : Option Addr) (n c : Nat) (l : List Pr) (key rest : ByteArray) (w : World) (hl : Prs w w.heap.size A n c l) (_hk : key.size ≤ maxLen) (_hr : rest.size ≤ maxLen) :
  Calls Tryz.prog 8 #[.slice A n c, .string key, .string rest] w fun e w' => e = .returned (.bool true) ∧ Below w.heap.size w w' := by
 have HR := Lib.hid hl.1
 have HX := Lib.hid hl.near
 have HN := Lib.hid hl.2.2.2.1
 have HLn := Lib.hid (pr_len hl.1)
 clear hl
 clear _hk _hr
 have HB := Lib.hid (Below.refl w.heap.size w)
 rcases hlp : lightP l with _ | _
 ·skip
  go_enter Tryz.func8, Tryz.ntmps8
  go_wp2_with fail
  refine (lives12_any _).mono ?_
  rintro e w1 ⟨rfl, hb⟩
  replace HB := Lib.hid (HB.out.trans (hb.mono HB.out.size))
  replace HR := Lib.hid (HR.out.below hb)
  have HS1 := Lib.hid hb.size
  clear hb
  go_wp2_with fail
  refine (lightP_any A n c l _ HR.out (Nat.le_trans HN.out (by decide)) HX.out).mono ?_
  rintro e w2 ⟨rfl, q, rfl⟩
  replace HB := Lib.hid (below_drewN HB.out q)
  rw [hlp]
  go_wp2_with fail
  go_ret
  exact ⟨rfl, HB.out⟩
 have HLp := Lib.hid hlp
 obtain ⟨h60, hsm⟩ := lightP_parts hlp
 have HF := Lib.hid (FewP.of_sort h60 hsm)
 have H60 := Lib.hid h60
 clear hlp h60 hsm
 by_cases hk : 100 < key.size
 ·have g1key : decide ((100 : Int) < (key.size : Int)) = true := by simp; omega
  have g2key : decide (100 < key.size) = true := by simp; omega
  clear hk
  go_enter Tryz.func8, Tryz.ntmps8
  go_wp2_with fail
  refine (lives12_any _).mono ?_
  rintro e w1 ⟨rfl, hb⟩
  replace HB := Lib.hid (HB.out.trans (hb.mono HB.out.size))
  replace HR := Lib.hid (HR.out.below hb)
  have HS1 := Lib.hid hb.size
  clear hb
  go_wp2_with fail
  refine (lightP_any A n c l _ HR.out (Nat.le_trans HN.out (by decide)) HX.out).mono ?_
  rintro e w2 ⟨rfl, q, rfl⟩
  replace HB := Lib.hid (below_drewN HB.out q)
  rw [HLp.out]
  go_wp2_with fail
  go_ret
  exact ⟨rfl, HB.out⟩
 have g1key : decide ((100 : Int) < (key.size : Int)) = false := by simp; omega
 have g2key : decide (100 < key.size) = false := by simp; omega
 have HSkey := Lib.hid (show key.size ≤ 100 by omega)
 clear hk
 by_cases hk : 600 < rest.size
 ·have g1rest : decide ((600 : Int) < (rest.size : Int)) = true := by simp; omega
  have g2rest : decide (600 < rest.size) = true := by simp; omega
  clear hk
  go_enter Tryz.func8, Tryz.ntmps8
  go_wp2_with fail
  refine (lives12_any _).mono ?_
  rintro e w1 ⟨rfl, hb⟩
  replace HB := Lib.hid (HB.out.trans (hb.mono HB.out.size))
  replace HR := Lib.hid (HR.out.below hb)
  have HS1 := Lib.hid hb.size
  clear hb
  go_wp2_with fail
  refine (lightP_any A n c l _ HR.out (Nat.le_trans HN.out (by decide)) HX.out).mono ?_
  rintro e w2 ⟨rfl, q, rfl⟩
  replace HB := Lib.hid (below_drewN HB.out q)
  rw [HLp.out]
  go_wp2_with fail
  go_ret
  exact ⟨rfl, HB.out⟩
 have g1rest : decide ((600 : Int) < (rest.size : Int)) = false := by simp; omega
 have g2rest : decide (600 < rest.size) = false := by simp; omega
 have HSrest := Lib.hid (show rest.size ≤ 600 by omega)
 clear hk
 go_enter Tryz.func8, Tryz.ntmps8
 go_wp2_with fail
 refine (lives12_any _).mono ?_
 rintro e w1 ⟨rfl, hb⟩
 replace HB := Lib.hid (HB.out.trans (hb.mono HB.out.size))
 replace HR := Lib.hid (HR.out.below hb)
 have HS1 := Lib.hid hb.size
 clear hb
 go_wp2_with fail
 refine (lightP_any A n c l _ HR.out (Nat.le_trans HN.out (by decide)) HX.out).mono ?_
 rintro e w2 ⟨rfl, q, rfl⟩
 replace HB := Lib.hid (below_drewN HB.out q)
 replace HR := Lib.hid (show Reads (w1.drewN q) (w1.drewN q).heap.size 2 A n (prc l) from (HR.out.drewN q).more HS1.out)
 clear HS1
 rw [HLp.out]
 go_wp2_with fail
 refine (sorted_any A n c l _ HR.out (by have := HLn.out; have := H60.out; omega)).mono ?_
 rintro e w3 ⟨A3, n3, c3, rfl, hown, hb⟩
 obtain ⟨_, _, hv, hnc, hcm, _⟩ := own_form hown
 cases hv
 replace HB := Lib.hid (HB.out.trans (hb.mono HB.out.size))
 have HR3 := Lib.hid (Reads.of_own hown)
 clear hb hown HR HLp HX HN HLn H60
 obtain ⟨L, hL⟩ : ∃ x, x = sortP l := ⟨_, rfl⟩
 rw [← hL] at HF HR3
 clear hL
 have hLn := pr_len HR3.out
 have h60 := HF.out.few
 have HLn := Lib.hid hLn
 have hn3 : n3 ≤ 60 := by omega
 clear hLn h60
 go_wp2_with fail
 refine (laid2_any A3 n3 c3 L _ HR3.out HF.out).mono ?_
 rintro e w4 ⟨hb, ⟨hok, rfl⟩ | ⟨hok, rfl⟩⟩
 ·replace HB := Lib.hid (HB.out.trans (hb.mono HB.out.size))
  clear hb
  go_wp2_with fail
  go_ret
  exact ⟨rfl, HB.out⟩
 replace HB := Lib.hid (HB.out.trans (hb.mono HB.out.size))
 replace HR3 := Lib.hid ((HR3.out.below hb).more hb.size)
 clear hb
 by_cases hnil : L = []
 ·rw [show rootY L = 0 by rw [hnil]; rfl]
  clear hnil
  go_wp2_with fail
  go_ret
  exact ⟨rfl, HB.out⟩
 obtain ⟨_, d, ns, hst⟩ := stands HF.out hnil hok
 obtain ⟨im, him⟩ : ∃ x, x = imY L := ⟨_, rfl⟩
 obtain ⟨r, hr⟩ : ∃ x, x = rootY L := ⟨_, rfl⟩
 rw [← him, ← hr] at hst ⊢
 clear him hr hok hnil
 have HST := Lib.hid hst
 obtain ⟨hr2, hrn⟩ := hst.root
 have hrz : ((r : Int) == 0) = false := by simp; omega
 have hims := hst.size
 have hnl := hst.len
 have hi4 : im.size ≤ 400000 := by omega
 have hr9 : r < 4294967296 := by omega
 clear hst
 have HRt := Lib.hid hrn
 have hfit : r * 128 + 128 ≤ im.size := by omega
 have hcut : ∀ k, k < 128 → readAt 128 (im.extract 0 (r * 128 + k)) r = none := fun k hk => size_cut hk hfit
 obtain ⟨Z, hZ⟩ : ∃ x, x = reps ⟨#[122]⟩ 256 := ⟨_, rfl⟩
 have hZs : Z.size = 256 := by rw [hZ, reps_size]; rfl
 have HTm0 := fun w => times_any ⟨#[122]⟩ 256 w (by decide) (by decide)
 rw [← hZ] at HTm0
 have HTm : ∀ w : World, Calls Tryz.prog 35 #[.string ⟨#[122]⟩, .int .i64 256] w fun e w' => e = .returned (.string Z) ∧ w' = w := fun w => (HTm0 w).mono fun _ _ ⟨a, b⟩ => ⟨a, b.symm⟩
 clear hZ HTm0
 have him2 : (256 : Int) ≤ (im.size : Int) := by omega
 obtain ⟨E, hE⟩ : ∃ x, x = im.extract 256 im.size := ⟨_, rfl⟩
 have hEs : E.size ≤ 400000 := by rw [hE, ByteArray.size_extract]; omega
 have hrd := readAt_more (rest := rest) hims hZs (by omega)
 rw [← hE] at hrd
 obtain ⟨e1, e2, e3⟩ := HST.out.other (s := Z ++ E ++ rest) (fun x hx => by have := (HST.out.mem x).1 hx; exact hrd x (by omega) (by omega))
 obtain ⟨more, hmore⟩ : ∃ x, x = Z ++ E ++ rest := ⟨_, rfl⟩
 have hms : more.size ≤ 400000 := by
  have h1 := HSrest.out
  have h2 : E.size + 256 = im.size := by rw [hE, ByteArray.size_extract]; omega
  rw [hmore, ByteArray.size_append, ByteArray.size_append, hZs]
  omega
 obtain ⟨Y, hY⟩ : ∃ x, x = Z ++ E := ⟨_, rfl⟩
 have hc1 : ¬ (9223372036854775807 < Z.size + E.size) := by omega
 have hc2 : ¬ (9223372036854775807 < Y.size + rest.size) := by have := HSrest.out; rw [hY, ByteArray.size_append]; omega
 rw [← hmore] at e1 e2 e3
 rw [← hY] at hmore
 have hN := treeS_len (l := L) (im := more) (r := r) (by rw [e1]; exact HF.out.few)
 have hA0 := fun w => lall0_any 128 more r ⟨#[]⟩ w hms hr9 hN.1
 rw [e1, e2] at hA0
 have hG1 := fun w => cget_any 128 im r key w hi4 hr9
 have hG2 := fun w => cget_any 128 more r key w hms hr9
 rw [e3 key] at hG2
 obtain ⟨gv, hgv⟩ : ∃ y, y = getV 128 im r key := ⟨_, rfl⟩
 rw [← hgv] at hG1 hG2
 clear hgv
 obtain ⟨v1, v2⟩ := gv
 have hP1 := fun w => cpages_any 128 more r w hms hr9
 have hP2 := fun w => cpages_any 128 im r w hi4 hr9
 rw [e1, e2] at hP1
 rw [HST.out.trav, HST.out.te] at hP2
 obtain ⟨rz, hrz1⟩ : ∃ x, x = r * 128 := ⟨_, rfl⟩
 obtain ⟨ry, hry⟩ : ∃ x, x = rz + 127 := ⟨_, rfl⟩
 obtain ⟨C1, hC1⟩ : ∃ x, x = im.extract 0 rz := ⟨_, rfl⟩
 obtain ⟨C2, hC2⟩ : ∃ x, x = im.extract 0 ry := ⟨_, rfl⟩
 have hn1 : readAt 128 C1 r = none := by rw [hC1, hrz1]; have := hcut 0 (by decide); rwa [Nat.add_zero] at this
 have hn2 : readAt 128 C2 r = none := by rw [hC2, hry, hrz1]; exact hcut 127 (by decide)
 have hC1s : C1.size ≤ 400000 := by rw [hC1, ByteArray.size_extract]; omega
 have hC2s : C2.size ≤ 400000 := by rw [hC2, ByteArray.size_extract]; omega
 have hP3 := fun w => cpages_any 128 C1 r w hC1s hr9
 rw [(root_none (by omega) hn1 key).1] at hP3
 have hG3 := fun w => cget_any 128 C2 r key w hC2s hr9
 rw [(root_none (by omega) hn2 key).2.2] at hG3
 dsimp only at hG1 hG2 hP1 hP2 hG3
 have HA0 := Lib.hid hA0
 have HG1 := Lib.hid hG1
 have HG2 := Lib.hid hG2
 have HG3 := Lib.hid hG3
 have HP1 := Lib.hid hP1
 have HP2 := Lib.hid hP2
 have HP3 := Lib.hid hP3
 have x1 := hE.symm
 have x2 := hY.symm
 have x3 := hmore.symm
 have x4 := hC1.symm
 have x5 := hC2.symm
 have i1 : (128 : Int) * (r : Int) = (rz : Int) := by omega
 have i2 : (rz : Int) + 127 = (ry : Int) := by omega
 have i3 : (rz : Int) ≤ (im.size : Int) := by omega
 have i4 : (ry : Int) ≤ (im.size : Int) := by omega
 have i5 : (0 : Int) ≤ (rz : Int) := by omega
 have i6 : (0 : Int) ≤ (ry : Int) := by omega
 have b1 : r ≤ 400000 := by omega
 have b2 : rz ≤ 400000 := by omega
 have b3 : ry ≤ 400000 := by omega
 have HLe := Lib.hid (show ns.length ≤ maxLen by unfold maxLen; omega)
 have HMn := Lib.hid (show n3 ≤ maxLen by unfold maxLen; omega)
 clear hcut hfit hN hA0 hG1 hG2 hG3 hP1 hP2 hP3 e1 e2 e3 hrd hE hY hmore hC1 hC2 hn1 hn2 hC1s hC2s hms hi4 hims hnl hZs hEs hrz1 hry hr2 hrn
 have hI64 := fun (n : Nat) (h : n ≤ 400000) => i64_nat n (by omega)
 have hW64 := fun (n : Nat) (h : n ≤ 400000) => wrap64_nat n (by omega)
 have j1 := hI64 r b1
 have j2 := hW64 r b1
 have j3 := hI64 rz b2
 have j4 := hW64 rz b2
 have j5 := hI64 ry b3
 have j6 := hW64 ry b3
 clear b1 b2 b3 hI64 hW64
 go_upto_region 9 with fail
 go_quiet ((go_at_call 35; exact Calls.quiet_of_same (HTm _)))
 go_wp2_with fail
 refine (HA0.out _).mono ?_
 rintro e w5 ⟨A5, n5, c5, rfl, h5, hb⟩
 obtain rfl : n5 = n3 := by have := pr_len h5; have := HLn.out; omega
 have HR5 := Lib.hid h5
 replace HB := Lib.hid ((below_drewN HB.out nq).trans (hb.mono (by exact HB.out.size)))
 replace HR3 := Lib.hid (((HR3.out.drewN nq).below hb).more hb.size)
 clear hb h5 HA0
 go_wp2_with fail
 refine (HG1.out _).mono ?_
 rintro e w6 ⟨rfl, hb⟩
 replace HB := Lib.hid (HB.out.trans (hb.mono HB.out.size))
 replace HR3 := Lib.hid ((HR3.out.below hb).more hb.size)
 replace HR5 := Lib.hid ((HR5.out.below hb).more hb.size)
 clear hb HG1
 go_wp2_with fail
 refine (HG2.out _).mono ?_
 rintro e w7 ⟨rfl, hb⟩
 replace HB := Lib.hid (HB.out.trans (hb.mono HB.out.size))
 replace HR3 := Lib.hid ((HR3.out.below hb).more hb.size)
 replace HR5 := Lib.hid ((HR5.out.below hb).more hb.size)
 clear hb HG2
 go_wp2_with fail
 refine (HP1.out _).mono ?_
 rintro e w8 ⟨A8, n8, c8, rfl, h8, hb⟩
 have HR8 := Lib.hid (show Reads w8 w8.heap.size 1 A8 n8 (ucells ns) from h8)
 replace HB := Lib.hid (HB.out.trans (hb.mono HB.out.size))
 replace HR3 := Lib.hid ((HR3.out.below hb).more hb.size)
 replace HR5 := Lib.hid ((HR5.out.below hb).more hb.size)
 clear hb h8 HP1
 go_wp2_with fail
 refine (HP2.out _).mono ?_
 rintro e w9 ⟨A9, n9, c9, rfl, h9, hb⟩
 have HR9 := Lib.hid (show Reads w9 w9.heap.size 1 A9 n9 (ucells ns) from h9)
 replace HB := Lib.hid (HB.out.trans (hb.mono HB.out.size))
 replace HR3 := Lib.hid ((HR3.out.below hb).more hb.size)
 replace HR5 := Lib.hid ((HR5.out.below hb).more hb.size)
 replace HR8 := Lib.hid ((HR8.out.below hb).more hb.size)
 have hn8 : n8 = ns.length := by have := ulen HR8.out; omega
 have hn9 : n9 = ns.length := by have := ulen HR9.out; omega
 subst hn8 hn9
 clear hb h9 HP2
 go_wp2_with fail
 refine (same12_yes A5 n5 c5 A3 c3 L _ HR5.out HR3.out HMn.out).mono ?_
 rintro e w10 ⟨rfl, q10, rfl⟩
 replace HB := Lib.hid (below_drewN HB.out q10)
 replace HR8 := Lib.hid (HR8.out.drewN q10)
 replace HR9 := Lib.hid (HR9.out.drewN q10)
 clear HR3 HR5
 go_wp2_with fail
 refine (sameU_yes A8 ns.length c8 A9 c9 ns _ HR8.out HR9.out HLe.out).mono ?_
 rintro e w11 ⟨rfl, q11, hq⟩
 replace HB := Lib.hid (show Below w.heap.size w w11 by rw [hq]; exact below_drewN HB.out q11)
 clear hq
 clear HR8 HR9
 go_wp2_with fail
 refine (HP3.out _).mono ?_
 rintro e w12 ⟨A12, n12, c12, rfl, _, hb⟩
 replace HB := Lib.hid (HB.out.trans (hb.mono HB.out.size))
 clear hb HP3
 go_wp2_with fail
 refine (HG3.out _).mono ?_
 rintro e w13 ⟨rfl, hb⟩
 replace HB := Lib.hid (HB.out.trans (hb.mono HB.out.size))
 clear hb HG3
 go_wp2_with fail
 go_ret
 exact ⟨rfl, HB.out⟩
end Go.Proofs.YtmmjckokjmpfpaaGreat

