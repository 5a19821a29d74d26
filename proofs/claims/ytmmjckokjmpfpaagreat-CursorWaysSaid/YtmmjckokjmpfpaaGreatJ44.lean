/-
  The walk of the statement CursorWays: from every start, at every argument, it returns true and changes no block that was there before. (Written by wip/tools/gen_cuways.py.)
-/
import Derived.Test.YtmmjckokjmpfpaaGreatJ43
import Derived.Deep.CutRange
import Derived.Maps.OwnSet
import Derived.Maps.OwnOps
set_option linter.unusedVariables false
set_option linter.unusedSimpArgs false
namespace Go.Proofs.YtmmjckokjmpfpaaGreat
open Go.RowKit
open Go.Lib hiding intOf
attribute [local go_sem ↓] Go.wp_at_zero Go.wp_at_succ

theorem run_min_strs {P : Program} (w : World) (ts : Array TypeId) (t : TypeId) (x y z : ByteArray) (h : z = if (Op.bytesLess x.toList y.toList || x.toList == y.toList) then x else y) :
  (Builtin.min_ ts t #[.string x, .string y]).run P w = .ok (.string z) w := by
 subst h
 simp [Builtin.min_, Builtin.min2, Op.stringOp, asBool]
theorem run_max_strs {P : Program} (w : World) (ts : Array TypeId) (t : TypeId) (x y z : ByteArray) (h : z = if Op.bytesLess x.toList y.toList then y else x) :
  (Builtin.max_ ts t #[.string x, .string y]).run P w = .ok (.string z) w := by
 subst h
 rcases hb : Op.bytesLess x.toList y.toList with _ | _ <;> simp [Builtin.max_, Builtin.max2, Op.stringOp, asBool, hb]
theorem lo_hi (a b : ByteArray) : ∃ lo hi : ByteArray, lo = (if (Op.bytesLess a.toList b.toList || a.toList == b.toList) then a else b) ∧ hi = (if Op.bytesLess a.toList b.toList then b else a) ∧ Op.bytesLess hi.toList lo.toList = false := by
 refine ⟨_, _, rfl, rfl, ?_⟩
 rcases h1 : Op.bytesLess a.toList b.toList with _ | _
 ·rcases h2 : (a.toList == b.toList) with _ | _
  ·simpa using h1
  ·simpa using lessB_self a
 ·have h2 : Op.bytesLess b.toList a.toList = false := by
   rcases h2 : Op.bytesLess b.toList a.toList with _ | _
   ·rfl
   ·exact (lessB_irrefl (lessB_trans (show lessB a b from h1) (show lessB b a from h2))).elim
  simpa using h2
def AtP (ns : List Nat) (k : Nat) (D : DataW Unit) : Prop := Maps.IsMap D ∧ ∀ j x, j < k → ns[j]? = some x → D.atKey (.int .u32 (x : Int)) (.lit (.int .i64 0)) = .lit (.int .i64 ((j : Int) + 1))
theorem AtP.next {ns : List Nat} (hn : ns.Nodup) {k x : Nat} {D : DataW Unit} (h : AtP ns k D) (hx : ns[k]? = some x) : AtP ns (k + 1) (D.put (.int .u32 (x : Int)) (.lit (.int .i64 ((k : Int) + 1)))) := by
 refine ⟨h.1.put _ _, fun j y hj hy => ?_⟩
 by_cases hjk : j = k
 ·subst hjk
  rw [hx] at hy
  injection hy with hy
  subst hy
  exact Maps.atKey_put_same h.1 (by simp [WideAt.IsKeyLit]) _ _
 ·have hne : y ≠ x := by
   rintro rfl
   obtain ⟨h1, h2⟩ := List.getElem?_eq_some_iff.1 hx
   obtain ⟨h3, h4⟩ := List.getElem?_eq_some_iff.1 hy
   exact hjk ((List.getElem?_inj h3 hn).1 (hy.trans hx.symm))
  rw [Maps.atKey_put_other (by
   intro he
   injection he with _ he
   omega)]
  exact h.2 j y (by omega) hy
set_option maxRecDepth 100000 in
set_option maxHeartbeats 25600000 in
theorem cuways_walk (A : Option Addr) (n c : Nat) (l : List Pr) (a b : ByteArray) (w : World) (hl : Prs w w.heap.size A n c l) (_ha : a.size ≤ maxLen) (_hb : b.size ≤ maxLen) :
  Calls Tryz.prog 9 #[.slice A n c, .string a, .string b] w fun e w' => e = .returned (.bool true) ∧ Below w.heap.size w w' := by
 have HR := Lib.hid hl.1
 have HX := Lib.hid hl.near
 have HN := Lib.hid hl.2.2.2.1
 have HLn := Lib.hid (pr_len hl.1)
 clear hl
 clear _ha _hb
 have HB := Lib.hid (Below.refl w.heap.size w)
 rcases hlp : lightP l with _ | _
 ·skip
  go_enter Tryz.func9, Tryz.ntmps9
  go_wp2_with fail
  refine (lives12_any _).mono ?_
  rintro e w1 ⟨rfl, hb⟩
  replace HB := Lib.hid (HB.out.trans (hb.mono HB.out.size))
  replace HR := Lib.hid (HR.out.below hb)
  have HS1 := Lib.hid hb.size
  clear hb
  go_wp2_with fail
  refine (lightP_any A n c l _ HR.out (Nat.le_trans HN.out (by decide)) HX.out).mono ?_
  rintro e w2 ⟨rfl, q, rfl⟩
  replace HB := Lib.hid (below_drewN HB.out q)
  rw [hlp]
  go_wp2_with fail
  go_ret
  exact ⟨rfl, HB.out⟩
 have HLp := Lib.hid hlp
 obtain ⟨h60, hsm⟩ := lightP_parts hlp
 have HF := Lib.hid (FewP.of_sort h60 hsm)
 have H60 := Lib.hid h60
 clear hlp h60 hsm
 by_cases hk : 100 < a.size
 ·have g1a : decide ((100 : Int) < (a.size : Int)) = true := by simp; omega
  have g2a : decide (100 < a.size) = true := by simp; omega
  clear hk
  go_enter Tryz.func9, Tryz.ntmps9
  go_wp2_with fail
  refine (lives12_any _).mono ?_
  rintro e w1 ⟨rfl, hb⟩
  replace HB := Lib.hid (HB.out.trans (hb.mono HB.out.size))
  replace HR := Lib.hid (HR.out.below hb)
  have HS1 := Lib.hid hb.size
  clear hb
  go_wp2_with fail
  refine (lightP_any A n c l _ HR.out (Nat.le_trans HN.out (by decide)) HX.out).mono ?_
  rintro e w2 ⟨rfl, q, rfl⟩
  replace HB := Lib.hid (below_drewN HB.out q)
  rw [HLp.out]
  go_wp2_with fail
  go_ret
  exact ⟨rfl, HB.out⟩
 have g1a : decide ((100 : Int) < (a.size : Int)) = false := by simp; omega
 have g2a : decide (100 < a.size) = false := by simp; omega
 have HSa := Lib.hid (show a.size ≤ 100 by omega)
 clear hk
 by_cases hk : 100 < b.size
 ·have g1b : decide ((100 : Int) < (b.size : Int)) = true := by simp; omega
  have g2b : decide (100 < b.size) = true := by simp; omega
  clear hk
  go_enter Tryz.func9, Tryz.ntmps9
  go_wp2_with fail
  refine (lives12_any _).mono ?_
  rintro e w1 ⟨rfl, hb⟩
  replace HB := Lib.hid (HB.out.trans (hb.mono HB.out.size))
  replace HR := Lib.hid (HR.out.below hb)
  have HS1 := Lib.hid hb.size
  clear hb
  go_wp2_with fail
  refine (lightP_any A n c l _ HR.out (Nat.le_trans HN.out (by decide)) HX.out).mono ?_
  rintro e w2 ⟨rfl, q, rfl⟩
  replace HB := Lib.hid (below_drewN HB.out q)
  rw [HLp.out]
  go_wp2_with fail
  go_ret
  exact ⟨rfl, HB.out⟩
 have g1b : decide ((100 : Int) < (b.size : Int)) = false := by simp; omega
 have g2b : decide (100 < b.size) = false := by simp; omega
 have HSb := Lib.hid (show b.size ≤ 100 by omega)
 clear hk
 go_enter Tryz.func9, Tryz.ntmps9
 go_wp2_with fail
 refine (lives12_any _).mono ?_
 rintro e w1 ⟨rfl, hb⟩
 replace HB := Lib.hid (HB.out.trans (hb.mono HB.out.size))
 replace HR := Lib.hid (HR.out.below hb)
 have HS1 := Lib.hid hb.size
 clear hb
 go_wp2_with fail
 refine (lightP_any A n c l _ HR.out (Nat.le_trans HN.out (by decide)) HX.out).mono ?_
 rintro e w2 ⟨rfl, q, rfl⟩
 replace HB := Lib.hid (below_drewN HB.out q)
 replace HR := Lib.hid (show Reads (w1.drewN q) (w1.drewN q).heap.size 2 A n (prc l) from (HR.out.drewN q).more HS1.out)
 clear HS1
 rw [HLp.out]
 go_wp2_with fail
 refine (sorted_any A n c l _ HR.out (by have := HLn.out; have := H60.out; omega)).mono ?_
 rintro e w3 ⟨A3, n3, c3, rfl, hown, hb⟩
 obtain ⟨_, _, hv, hnc, hcm, _⟩ := own_form hown
 cases hv
 replace HB := Lib.hid (HB.out.trans (hb.mono HB.out.size))
 have HR3 := Lib.hid (Reads.of_own hown)
 clear hb hown HR HLp HX HN HLn H60
 obtain ⟨L, hL⟩ : ∃ x, x = sortP l := ⟨_, rfl⟩
 rw [← hL] at HF HR3
 clear hL
 have hLn := pr_len HR3.out
 have h60 := HF.out.few
 have HLn := Lib.hid hLn
 have hn3 : n3 ≤ 60 := by omega
 clear hLn h60
 go_wp2_with fail
 refine (laid2_any A3 n3 c3 L _ HR3.out HF.out).mono ?_
 rintro e w4 ⟨hb, ⟨hok, rfl⟩ | ⟨hok, rfl⟩⟩
 ·replace HB := Lib.hid (HB.out.trans (hb.mono HB.out.size))
  clear hb
  go_wp2_with fail
  go_ret
  exact ⟨rfl, HB.out⟩
 replace HB := Lib.hid (HB.out.trans (hb.mono HB.out.size))
 replace HR3 := Lib.hid ((HR3.out.below hb).more hb.size)
 clear hb
 by_cases hnil : L = []
 ·rw [show rootY L = 0 by rw [hnil]; rfl]
  clear hnil
  go_wp2_with fail
  go_ret
  exact ⟨rfl, HB.out⟩
 obtain ⟨_, d, ns, hst⟩ := stands HF.out hnil hok
 obtain ⟨im, him⟩ : ∃ x, x = imY L := ⟨_, rfl⟩
 obtain ⟨r, hr⟩ : ∃ x, x = rootY L := ⟨_, rfl⟩
 rw [← him, ← hr] at hst ⊢
 clear him hr hok hnil
 have HST := Lib.hid hst
 obtain ⟨hr2, hrn⟩ := hst.root
 have hrz : ((r : Int) == 0) = false := by simp; omega
 have hims := hst.size
 have hnl := hst.len
 have hi4 : im.size ≤ 400000 := by omega
 have hr9 : r < 4294967296 := by omega
 clear hst
 obtain ⟨lo, hi, hlo, hhi, hle⟩ := lo_hi a b
 obtain ⟨k1, k2, hPar⟩ := HST.out.ways hle
 have hX := HST.out.way lo
 have hY := HST.out.way hi
 have hmin := fun w => run_min_strs (P := Tryz.prog) w #[9, 9] 9 a b lo hlo
 have hmax := fun w => run_max_strs (P := Tryz.prog) w #[9, 9] 9 a b hi hhi
 obtain ⟨X, hXe⟩ : ∃ x, x = pathL 128 im r lo := ⟨_, rfl⟩
 obtain ⟨Y, hYe⟩ : ∃ x, x = pathL 128 im r hi := ⟨_, rfl⟩
 have HC1 := fun w => cpath_any 128 im r lo w hi4 hr9
 have HC2 := fun w => cpath_any 128 im r hi w hi4 hr9
 have HC3 := fun w => cpages_any 128 im r w hi4 hr9
 rw [HST.out.trav, HST.out.te] at HC3
 rw [← hXe] at hPar hX
 rw [← hYe] at hPar hY
 rw [← hXe, k1] at HC1
 rw [← hYe, k2] at HC2
 dsimp only at HC3
 obtain ⟨K, hK⟩ : ∃ x, x = ns.length := ⟨_, rfl⟩
 have HPar := Lib.hid hPar
 have HXl := Lib.hid hX.2.1
 have HYl := Lib.hid hY.2.1
 have HND := Lib.hid HST.out.nodup
 have HKl := Lib.hid hK
 have hK9 : K ≤ 2600 := by omega
 have hd9 : d ≤ 7 := HST.out.d7
 have HN9 := Lib.hid (show ∀ x ∈ ns, x < 4294967296 from fun x hx => by have := (HST.out.mem x).1 hx; omega)
 have HC1 := Lib.hid HC1
 have HC2 := Lib.hid HC2
 have HC3 := Lib.hid HC3
 clear hlo hhi hle k1 k2 hPar hX hY hXe hYe hims hnl hi4 hr9 hr2 hrn hK HST
 go_wp2_with fail
 refine (HC1.out _).mono ?_
 rintro e w5 ⟨A5, n5, c5, rfl, h5, _, _, hb⟩
 obtain rfl : n5 = d := by have := ulen h5; have := HXl.out; omega
 have HR5 := Lib.hid h5
 replace HB := Lib.hid (HB.out.trans (hb.mono HB.out.size))
 clear hb h5 HC1
 go_wp2_with fail
 refine (HC2.out _).mono ?_
 rintro e w6 ⟨A6, n6, c6, rfl, h6, _, _, hb⟩
 obtain rfl : n6 = n5 := by have := ulen h6; have := HYl.out; omega
 have HR6 := Lib.hid h6
 replace HB := Lib.hid (HB.out.trans (hb.mono HB.out.size))
 replace HR5 := Lib.hid ((HR5.out.below hb).more hb.size)
 clear hb h6 HC2
 go_wp2_with fail
 refine (HC3.out _).mono ?_
 rintro e w7 ⟨A7, n7, c7, rfl, h7, hb⟩
 obtain rfl : n7 = K := by have := ulen h7; have := HKl.out; simp only [Option.getD_some] at *; omega
 have HR7 := Lib.hid (show Reads w7 w7.heap.size 1 A7 n7 (ucells ns) from h7)
 replace HB := Lib.hid (HB.out.trans (hb.mono HB.out.size))
 replace HR5 := Lib.hid ((HR5.out.below hb).more hb.size)
 replace HR6 := Lib.hid ((HR6.out.below hb).more hb.size)
 clear hb h7 HC3 hmin hmax
 have hmm := @run_makeMap Tryz.prog
 go_upto_region 16 with fail
 obtain ⟨w8, hw8⟩ : ∃ y, y = w7.alloc (.map #[] 0) := ⟨_, rfl⟩
 obtain ⟨bm, hbm⟩ : ∃ y, y = w7.heap.size := ⟨_, rfl⟩
 have HM0 := Lib.hid (show w8.ownsMap Tryz.prog 23 (plainElem (H := Unit) Tryz.prog 3) bm 0 (.map []) by rw [hw8, hbm]; exact World.ownsMap_made w7 Tryz.prog 23 _)
 have HB8 := Lib.hid (show Below w.heap.size w w8 by rw [hw8]; exact HB.out.alloc HB.out.size _)
 replace HR5 := Lib.hid (show Reads w8 bm 1 A5 n6 (ucells X) by rw [hw8, hbm]; exact HR5.out.alloc (Nat.le_refl _) _)
 replace HR6 := Lib.hid (show Reads w8 bm 1 A6 n6 (ucells Y) by rw [hw8, hbm]; exact HR6.out.alloc (Nat.le_refl _) _)
 replace HR7 := Lib.hid (show Reads w8 bm 1 A7 n7 (ucells ns) by rw [hw8, hbm]; exact HR7.out.alloc (Nat.le_refl _) _)
 have HLb := Lib.hid (show bm < w8.heap.size by rw [hw8, hbm]; simp)
 have HGb := Lib.hid (show w.heap.size ≤ bm by rw [hbm]; exact HB.out.size)
 rw [← hw8, ← hbm]
 clear hw8 hbm hmm HB
 have HK0 := Lib.hid (Kept.refl (fun k => k = bm) w8)
 have HA0 := Lib.hid (show AtP ns 0 (.map []) from ⟨Maps.isMap_empty, fun j x hj => by omega⟩)
 go_loopw [17] (fun i wr => ∃ (k : Nat) (D : DataW Unit), k ≤ n7 ∧ i = .int .i64 k ∧ Hid (wr.ownsMap Tryz.prog 23 (plainElem (H := Unit) Tryz.prog 3) bm k D) ∧ Hid (AtP ns k D) ∧ Hid (Kept (fun k => k = bm) w8 wr)) (fun i _ => n7 - (intOf i).toNat)
 case atStart => exact ⟨0, _, Nat.zero_le _, rfl, HM0, HA0, HK0⟩
 case round =>
  clear HM0 HA0 HK0
  obtain ⟨k, D, hkn, rfl, HMk, HAk, HKk⟩ := hrel
  by_cases hlt : k < n7
  ·obtain ⟨ad, x, rfl, hab, hx, hc⟩ := uread HR7.out hlt
   have c0 := (HKk.out.cell (p := ad.add k) (by rw [block_add]; have := HLb.out; omega) (by rw [block_add]; omega)).trans hc
   have hx9 := HN9.out x (List.mem_of_getElem? hx)
   have HAn := Lib.hid (HAk.out.next HND.out hx)
   have hown := HMk.out
   have hk9 : k < maxLen := by unfold maxLen; omega
   have hkey : keyOf Tryz.prog 23 (.int .u32 x) = some (.int .u32 x) := Maps.keyOf_int_mk Tryz.underlying23 (by simp [Lit.wf, IntKind.min, IntKind.max, IntKind.signed, IntKind.bits]; omega)
   have hval : plainElem (H := Unit) Tryz.prog 3 (.int .i64 ((k : Int) + 1)) = some (.lit (.int .i64 ((k : Int) + 1)), []) := plainElem_int Tryz.underlying3 (by simp [Lit.wf, IntKind.min, IntKind.max, IntKind.signed, IntKind.bits]; omega)
   have hk0' : (0 : Int) ≤ (k : Int) := by omega
   have hk1' : (k : Int) < (n7 : Int) := by omega
   clear hx hc hab
   go_wp2_with (at_mapUpdate; refine wpList_mapUpdate_own _ rfl _ _ _ 71 rfl 23 3 (Maps.int_keyed Tryz.underlying23) Tryz.underlying71 (plainElem (H := Unit) Tryz.prog 3) bm k _ rfl hown hk9 _ _ _ rfl rfl hkey _ [] hval ?_; intro w9 hown9 hgrow9; have HM9 := Lib.hid hown9; have HK9 := Lib.hid (HKk.out.grown hgrow9 (fun k e => by cases e; exact .inl rfl)); clear hown9 hgrow9)
   go_roundw
   case rel =>
    first
     | exact ⟨k + 1, _, by omega, by go_num, HM9, HAn, HK9⟩
     | ((repeat apply Exists.intro); exact ⟨⟨k + 1, _, by omega, by go_num, HM9, HAn, HK9⟩, rfl⟩)
   case measure => simp [intOf]; omega
  ·obtain rfl : k = n7 := by omega
   obtain ⟨wo, hwo⟩ : ∃ wo, wo = wr := ⟨_, rfl⟩
   subst hwo
   have HBo := Lib.hid (show Below w.heap.size w wo from HB8.out.trans (HKk.out.below (B := w.heap.size) (by rintro i rfl; exact HGb.out) HB8.out.size))
   replace HR5 := Lib.hid (show Reads wo bm 1 A5 n6 (ucells X) from HR5.out.keep fun p hp => HKk.out.cell (by have := HLb.out; omega) (by omega))
   replace HR6 := Lib.hid (show Reads wo bm 1 A6 n6 (ucells Y) from HR6.out.keep fun p hp => HKk.out.cell (by have := HLb.out; omega) (by omega))
   have HLk := Lib.hid (show ∀ (j x : Nat), ns[j]? = some x → ∀ q, (Instr.lookup 71 (.map (some bm)) (.int .u32 (x : Int)) false).run Tryz.prog (wo.drewN q) = .ok (.int .i64 ((j : Int) + 1)) (wo.drewN q) from fun j x hx q => by
    have hj : j < k := by have := (List.getElem?_eq_some_iff.1 hx).1; have := HKl.out; omega
    have hx9 := HN9.out x (List.mem_of_getElem? hx)
    have hkey : keyOf Tryz.prog 23 (.int .u32 x) = some (.int .u32 x) := Maps.keyOf_int_mk Tryz.underlying23 (by simp [Lit.wf, IntKind.min, IntKind.max, IntKind.signed, IntKind.bits]; omega)
    have hm : (wo.drewN q).ownsMap Tryz.prog 23 (plainElem (H := Unit) Tryz.prog 3) bm k D := HMk.out
    obtain ⟨c, h1, h2, _⟩ := hm.lookup_int (Maps.int_keyed Tryz.underlying23) Tryz.underlying71 Tryz.underlying3 (Tryz.zeroValue3 _) hkey
    rw [HAk.out.2 j x hj hx] at h2
    injection h2 with h2
    injection h2 with _ h2
    rw [h1, ← h2])
   clear HMk HAk HKk hlt hkn HR7 HB8 HLb HGb
   go_upto_region 20 with fail
   go_loopw [18] (fun i wr => ∃ k : Nat, k ≤ n6 ∧ i = .int .i64 k ∧ ∃ q, wr = wo.drewN q) (fun i _ => n6 - (intOf i).toNat)
   case atStart => exact ⟨0, Nat.zero_le _, rfl, 0, rfl⟩
   case round =>
    obtain ⟨i, hin, rfl, q, hq⟩ := hrel
    by_cases hlt : i < n6
    ·obtain ⟨ad, x, rfl, _, hx, hc⟩ := uread HR5.out hlt
     obtain ⟨ae, y, rfl, _, hy, hd⟩ := uread HR6.out hlt
     obtain ⟨j, jj, p1, p2, p3, p4⟩ := HPar.out.2 i x y hx hy
     have hl1 : ∀ m : Nat, (Instr.lookup 71 (.map (some bm)) (.int .u32 (x : Int)) false).run Tryz.prog (wr.drewN m) = .ok (.int .i64 ((j : Int) + 1)) (wr.drewN m) := fun m => by rw [hq, World.drewN_drewN]; exact HLk.out j x p1 (q + m)
     have hl2 : ∀ m : Nat, (Instr.lookup 71 (.map (some bm)) (.int .u32 (y : Int)) false).run Tryz.prog (wr.drewN m) = .ok (.int .i64 ((jj : Int) + 1)) (wr.drewN m) := fun m => by rw [hq, World.drewN_drewN]; exact HLk.out jj y p2 (q + m)
     have e1 : (((j : Int) + 1) == 0) = false := by simp; omega
     have e2 : (((jj : Int) + 1) == 0) = false := by simp; omega
     have e3 : ¬ ((jj : Int) < (j : Int)) := by omega
     have e4 : ¬ (jj < j) := by omega
     have c0 : wr.cell? (ad.add i) = some (.int .u32 (x : Int)) := by rw [hq]; exact hc
     have d0 : wr.cell? (ae.add i) = some (.int .u32 (y : Int)) := by rw [hq]; exact hd
     have HQ := Lib.hid hq
     have hi0 : (0 : Int) ≤ (i : Int) := by omega
     have hi1 : (i : Int) < (n6 : Int) := by omega
     have HP4 := Lib.hid p4
     have HP1 := Lib.hid p1
     have HP2 := Lib.hid p2
     have HX := Lib.hid hx
     have HY := Lib.hid hy
     clear p1 p2 p3 p4 hx hy hc hd
     cases i with
     | zero =>
      rw [add_zero_addr] at c0 d0
      have hi2 : (0 : Int) < (n6 : Int) := by simpa using hi1
      clear hq hi0 hi1
      go_upto_region 22 with fail
      go_quiet (fail)
      go_wp2_with fail
      go_roundw
      case rel =>
       have hqq : ∃ q', wr.drewN nq = wo.drewN q' := ⟨q + nq, by rw [HQ.out, World.drewN_drewN]⟩
       first
        | exact ⟨1, by omega, by go_num, hqq⟩
        | ((repeat apply Exists.intro); exact ⟨⟨1, by omega, by go_num, hqq⟩, rfl⟩)
      case measure => simp [intOf]; omega
     | succ i' =>
      have hlt2 : i' < n6 := by omega
      obtain ⟨ad2, x2, had, _, hx2, hc2⟩ := uread HR5.out hlt2
      cases had
      obtain ⟨ae2, y2, hae, _, hy2, hd2⟩ := uread HR6.out hlt2
      cases hae
      have c2 : wr.cell? (ad.add i') = some (.int .u32 (x2 : Int)) := by rw [hq]; exact hc2
      have d2 : wr.cell? (ae.add i') = some (.int .u32 (y2 : Int)) := by rw [hq]; exact hd2
      have c1 : wr.cell? { block := ad.block, off := ad.off + (i' + 1) } = some (.int .u32 (x : Int)) := by
       have := c0
       unfold Addr.add at this
       split at this <;> simp_all
      have d1 : wr.cell? { block := ae.block, off := ae.off + (i' + 1) } = some (.int .u32 (y : Int)) := by
       have := d0
       unfold Addr.add at this
       split at this <;> simp_all
      have j0 : (0 : Int) ≤ (i' : Int) := by omega
      have j1 : (i' : Int) < (n6 : Int) := by omega
      have j2 : (i' : Int) + 1 < (n6 : Int) := by omega
      have j3 : (0 : Int) ≤ (i' : Int) + 1 := by omega
      have j4 : (0 : Int) < (i' : Int) + 1 := by omega
      by_cases hne : x2 = y2
      ·subst hne
       clear hq hi0 hi1 hx2 hy2 hc2 hd2 hlt2
       go_upto_region 22 with fail
       go_quiet (fail)
       go_wp2_with fail
       go_roundw
       case rel =>
        have hqq : ∃ q', wr.drewN nq = wo.drewN q' := ⟨q + nq, by rw [HQ.out, World.drewN_drewN]⟩
        first
         | exact ⟨i' + 2, by omega, by go_num, hqq⟩
         | ((repeat apply Exists.intro); exact ⟨⟨i' + 2, by omega, by go_num, hqq⟩, rfl⟩)
       case measure => simp [intOf]; omega
      ·have n1 : ((x2 : Int) == (y2 : Int)) = false := by simp; omega
       have n2 : (x2 == y2) = false := by simp; omega
       have n5 : ((x2 : Int) != (y2 : Int)) = true := by simp; omega
       have n6' : (x2 != y2) = true := by simp; omega
       have hjj : j < jj := HP4.out i' rfl (by rw [hx2, hy2]; intro h; injection h with h; exact hne h)
       have hxy : x ≠ y := by
        rintro rfl
        have := (List.getElem?_inj (List.getElem?_eq_some_iff.1 HP1.out).1 HND.out).1 (HP1.out.trans HP2.out.symm)
        omega
       have n3 : ((x : Int) == (y : Int)) = false := by simp; omega
       have n4 : (x == y) = false := by simp; omega
       clear hq hi0 hi1 hx2 hy2 hc2 hd2 hlt2 hne hxy
       go_upto_region 22 with fail
       go_quiet (fail)
       go_wp2_with fail
       go_roundw
       case rel =>
        have hqq : ∃ q', wr.drewN nq = wo.drewN q' := ⟨q + nq, by rw [HQ.out, World.drewN_drewN]⟩
        first
         | exact ⟨i' + 2, by omega, by go_num, hqq⟩
         | ((repeat apply Exists.intro); exact ⟨⟨i' + 2, by omega, by go_num, hqq⟩, rfl⟩)
       case measure => simp [intOf]; omega
    ·obtain rfl : i = n6 := by omega
     have HBq := Lib.hid (show Below w.heap.size w wr by rw [hq]; exact below_drewN HBo.out q)
     clear hq hin hlt
     go_wp2_with fail
     go_ret
     exact ⟨rfl, HBq.out⟩
end Go.Proofs.YtmmjckokjmpfpaaGreat

