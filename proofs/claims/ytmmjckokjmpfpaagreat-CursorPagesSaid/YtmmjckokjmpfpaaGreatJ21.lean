/-
  Texts that the main proof rests on, put together: Ref7Valid, Ref7Page, Ref7Of, BrFork, BrForks. No statement is proved here.
-/
import Derived.Test.YtmmjckokjmpfpaaGreatJ9
import Derived.Deep.CutRange
import Derived.Deep.QuietTactic
import Derived.BigQuiet
import Derived.Lib.MinMax
import Derived.Test.YtmmjckokjmpfpaaGreatJ11
import Derived.Lib.AppendStr
import Derived.Test.YtmmjckokjmpfpaaGreatJ12
import Derived.Test.YtmmjckokjmpfpaaGreatJ20
set_option linter.unusedVariables false
set_option linter.unusedSimpArgs false
namespace Go.Proofs.YtmmjckokjmpfpaaGreat
open Go.RowKit
open Go.Lib hiding intOf
attribute [local go_sem ↓] Go.wp_at_zero Go.wp_at_succ

set_option maxRecDepth 100000 in
set_option maxHeartbeats 6400000 in
theorem rmay7_any (A : Option Addr) (n c : Nat) (l : List Fk) (w : World) (hr : Reads w w.heap.size 2 A n (fkc l)) (hn : n ≤ 5864062014805) :
  Calls Tryz.prog 47 #[.slice A n c] w fun e w' => e = .returned (.bool (mayF l)) ∧ Below w.heap.size w w' := by
 have HL := Lib.hid (fk_len hr)
 have HR := Lib.hid hr
 clear hr
 go_enter Tryz.func47, Tryz.ntmps47
 go_wp2_with fail
 go_loopw [3] (fun i wr => ∃ k : Nat, k ≤ n ∧ i = .int .i64 k ∧ Hid (∀ j, j < k → okAtF l j = true) ∧ Hid (Below w.heap.size w wr)) (fun i _ => n - (intOf i).toNat)
 case atStart => exact ⟨0, Nat.zero_le _, rfl, Lib.hid fun j hj => absurd hj (by omega), Lib.hid (Below.refl _ _)⟩
 case round =>
  obtain ⟨k, hk, rfl, HF, HB⟩ := hrel
  by_cases hlt : k < n
  ·obtain ⟨ad, x, rfl, _, hp, hx, hc⟩ := fk_at HR.out hlt
   obtain ⟨c0, c1⟩ := hc.below HB.out hp
   have hk0 : (0 : Int) ≤ k := by omega
   have hk1 : (k : Int) < n := by omega
   have HX := Lib.hid hx
   have hkl : k < l.length := by rw [HL.out]; exact hlt
   have HK := fun w => rkey_any x.nm w
   have HN := fun w => rnumB_any x.rt w
   clear hx hc hp
   rcases hnm : keyF x.nm with _ | _
   ·have HE := Lib.hid (show mayF l = false by rw [mayF, allOkF_no hkl (by rw [okAtF_of HX.out, okFk, hnm]; rfl)]; rfl)
    rw [hnm] at HK
    clear hkl hnm
    go_wp2_with fail
    go_quiet ((go_at_call 81; exact Calls.quiet_of_same (HK _)))
    go_wp2_with fail
    go_ret
    exact ⟨by rw [HE.out]; rfl, below_drewN HB.out _⟩
   rw [hnm] at HK
   rcases hnb : numB x.rt with _ | _
   ·have HE := Lib.hid (show mayF l = false by rw [mayF, allOkF_no hkl (by rw [okAtF_of HX.out, okFk, hnm, hnb]; rfl)]; rfl)
    rw [hnb] at HN
    clear hkl hnm hnb
    go_wp2_with fail
    go_quiet (first | (go_at_call 81; exact Calls.quiet_of_same (HK _)) | (go_at_call 50; exact Calls.quiet_of_same (HN _)))
    go_wp2_with fail
    go_ret
    exact ⟨by rw [HE.out]; rfl, below_drewN HB.out _⟩
   rw [hnb] at HN
   have hok : okFk x = true := by rw [okFk, hnm, hnb]; rfl
   clear hnm hnb
   by_cases hk00 : k = 0
   ·have HE := Lib.hid (show okAtF l k = true by rw [okAtF_of HX.out, hok, hk00]; rfl)
    have hk3 : decide ((k : Int) > 0) = false := by simp; omega
    have hk4 : decide (0 < k) = false := by simp; omega
    clear hk00 hok hkl
    go_wp2_with fail
    go_quiet (first | (go_at_call 81; exact Calls.quiet_of_same (HK _)) | (go_at_call 50; exact Calls.quiet_of_same (HN _)))
    go_wp2_with fail
    have HF' := Lib.hid (fun j (hj : j < k + 1) => show okAtF l j = true from by
     by_cases hjk : j < k
     ·exact HF.out j hjk
     ·have e : j = k := by omega
      rw [e]; exact HE.out)
    have HB' := Lib.hid (below_drewN HB.out nq)
    go_roundw
    case rel =>
     first
      | exact ⟨k + 1, by omega, by go_num, HF', HB'⟩
      | ((repeat apply Exists.intro); exact ⟨⟨k + 1, by omega, by go_num, HF', HB'⟩, rfl⟩)
    case measure => simp [intOf]; omega
   obtain ⟨j, hkj⟩ : ∃ j, k = j + 1 := ⟨k - 1, by omega⟩
   obtain ⟨ad', y, had, _, hpy, hy, hcy⟩ := fk_at HR.out (show j < n by omega)
   injection had with had
   subst had
   obtain ⟨y0, _⟩ := hcy.below HB.out hpy
   have hj1 : IntKind.i64.wrap ((k : Int) - 1) = (j : Int) := by rw [IntKind.wrap_i64]; omega
   have hj2 : (k : Int) - 1 = (j : Int) := by omega
   have hj5 : IntKind.i64.wrap (j : Int) = (j : Int) := by rw [IntKind.wrap_i64]; omega
   have hj3 : (0 : Int) ≤ j := by omega
   have hj4 : (j : Int) < n := by omega
   have hk3 : decide ((k : Int) > 0) = true := by simp; omega
   have hk4 : decide (0 < k) = true := by simp; omega
   have hat : okAtF l k = Op.bytesLess y.nm.toList x.nm.toList := by rw [okAtF_of HX.out, hok, hkj]; simp [hy]
   rcases hless : Op.bytesLess y.nm.toList x.nm.toList with _ | _
   ·have HE := Lib.hid (show mayF l = false by rw [mayF, allOkF_no hkl (by rw [hat, hless])]; rfl)
    clear hat hkl hok hy hkj hk00 hcy
    go_wp2_with fail
    go_quiet (first | (go_at_call 81; exact Calls.quiet_of_same (HK _)) | (go_at_call 50; exact Calls.quiet_of_same (HN _)))
    go_wp2_with fail
    go_ret
    exact ⟨by rw [HE.out]; rfl, below_drewN HB.out _⟩
   ·have HE := Lib.hid (show okAtF l k = true by rw [hat, hless])
    clear hat hkl hok hy hkj hk00 hcy
    go_wp2_with fail
    go_quiet (first | (go_at_call 81; exact Calls.quiet_of_same (HK _)) | (go_at_call 50; exact Calls.quiet_of_same (HN _)))
    clear hj1 hj2 hj5
    go_wp2_with fail
    have HF' := Lib.hid (fun j (hj : j < k + 1) => show okAtF l j = true from by
     by_cases hjk : j < k
     ·exact HF.out j hjk
     ·have e : j = k := by omega
      rw [e]; exact HE.out)
    have HB' := Lib.hid (below_drewN HB.out nq)
    go_roundw
    case rel =>
     first
      | exact ⟨k + 1, by omega, by go_num, HF', HB'⟩
      | ((repeat apply Exists.intro); exact ⟨⟨k + 1, by omega, by go_num, HF', HB'⟩, rfl⟩)
    case measure => simp [intOf]; omega
  ·obtain rfl : k = n := by omega
   have ha : allOkF l = true := allOkF_yes fun j hj => HF.out j (by rw [← HL.out]; exact hj)
   have HE := Lib.hid (show mayF l = decide (0 < k) by rw [mayF, ha, HL.out]; rfl)
   clear ha hlt
   go_wp2_with fail
   go_ret
   exact ⟨by rw [HE.out]; rfl, HB.out⟩
end Go.Proofs.YtmmjckokjmpfpaaGreat

namespace Go.Proofs.YtmmjckokjmpfpaaGreat
open Go.RowKit
open Go.Lib hiding intOf
attribute [local go_sem ↓] Go.wp_at_zero Go.wp_at_succ

set_option maxRecDepth 100000 in
set_option maxHeartbeats 12800000 in
theorem rpage7_yes (z n tx : Nat) (A : Option Addr) (m c : Nat) (l : List Fk) (w : World) (hr : Reads w w.heap.size 2 A m (fkc l)) (hm : m ≤ 5864062014805) (h : mayP7 z n tx l = true) :
  Calls Tryz.prog 18 #[.int .i64 z, .int .u32 n, .int .u64 tx, .slice A m c] w fun e w' => e = .returned (.tuple #[.agg #[.int .i64 3, .int .i64 m, .int .u32 n, .int .u32 0, .int .u64 tx, .string (forkBody z l)], .int .i64 0]) ∧ Below w.heap.size w w' := by
 obtain ⟨hall, hl0, hg, hroom, hnb, htx⟩ := mayP7_parts h
 have hmay : mayF l = true := by rw [mayF, hall, decide_eq_true hl0]; rfl
 have hm2 : m ≤ 1000 := by
  have h1 := five_le l
  rw [fk_len hr] at h1
  have h2 := good_pos hg
  omega
 have hnb' : numB n = true := by simp [numB, hnb]
 have HMay := fun (w' : World) (hb : Below w.heap.size w w') => rmay7_any A m c l w' ((hr.below hb).more hb.size) hm
 rw [hmay] at HMay
 have hgz := good_pos hg
 have HSz := fun (w' : World) (hb : Below w.heap.size w w') => rsize7_any A m c l w' ((hr.below hb).more hb.size) (by unfold maxLen; omega) (by omega)
 have HGd : ∀ w, Calls Tryz.prog 32 #[.int .i64 z] w fun e w' => e = .returned (.bool true) ∧ w' = w := fun w => by
  have h := rgood_any z w
  rw [hg] at h
  exact h.mono fun _ _ ⟨a, b⟩ => ⟨a, b.symm⟩
 have HM := fun w => rroom_is z w hg
 have HN := fun w => rnumB_any n w
 rw [hnb'] at HN
 have hd : decide ((4611686018427387904 : Int) < tx) = false := by simp; omega
 have hd2 : decide ((z : Int) - 24 < (sizeF l : Int)) = false := by simp; omega
 have HALL := Lib.hid hall
 have HL := Lib.hid (fk_len hr)
 have HR := Lib.hid hr
 have HG := Lib.hid hg
 have HRoom := Lib.hid hroom.1
 obtain ⟨i0, hi0, hz0, hz1, hz2⟩ := info_parts infoU8
 obtain ⟨hz, hi⟩ := zero_of_info infoPg
 have HI := Lib.hid hi
 clear hi hr hall hg hnb hnb' htx hroom hmay h hgz hl0
 obtain ⟨w0, hw0⟩ : ∃ x, x = w.alloc (.cells #[.int .i64 0, .int .i64 0, .int .u32 0, .int .u32 0, .int .u64 0, .string ByteArray.empty] 41) := ⟨_, rfl⟩
 have R0 := Lib.hid (show Blk w0 w.heap.size 41 #[.int .i64 0, .int .i64 0, .int .u32 0, .int .u32 0, .int .u64 0, .string ByteArray.empty] by rw [hw0]; exact Blk.new _ _ _)
 have HB := Lib.hid (show Below w.heap.size w w0 by rw [hw0]; exact (Below.refl _ _).alloc (Nat.le_refl _) _)
 go_enter Tryz.func18, Tryz.ntmps18
 go_wp2_with fail
 rw [← hw0]
 clear hw0
 refine (HGd _).mono ?_
 rintro e w' ⟨rfl, rfl⟩
 go_wp2_with fail
 refine (HMay _ HB.out).mono ?_
 rintro e w1 ⟨rfl, hb⟩
 replace R0 := Lib.hid (R0.out.below hb R0.out.lt)
 replace HB := Lib.hid (HB.out.trans (hb.mono HB.out.size))
 clear hb
 go_wp2_with fail
 refine (HSz _ HB.out).mono ?_
 rintro e w2 ⟨rfl, hb⟩
 replace R0 := Lib.hid (R0.out.below hb R0.out.lt)
 replace HB := Lib.hid (HB.out.trans (hb.mono HB.out.size))
 clear hb
 go_wp2_with fail
 refine (HM _).mono ?_
 rintro e w' ⟨rfl, rfl⟩
 go_wp2_with fail
 refine (HN _).mono ?_
 rintro e w' ⟨rfl, rfl⟩
 go_wp2_with fail
 clear HN hd hd2 HM HSz HMay HGd
 go_loopw [10, 11] (fun b i wr => ∃ (k : Nat) (A' : Option Addr) (c' : Nat), k ≤ m ∧ i = .int .i64 k ∧ b = .slice A' (sizeF (l.take k)) c' ∧ Hid (Reads wr wr.heap.size 1 A' (sizeF (l.take k)) (bcells (bytesF (l.take k)))) ∧ Hid (Blk wr w.heap.size 41 #[.int .i64 0, .int .i64 0, .int .u32 0, .int .u32 0, .int .u64 0, .string ByteArray.empty]) ∧ Hid (Below w.heap.size w wr)) (fun _ i _ => m - (intOf i).toNat)
 case atStart => exact ⟨0, none, 0, Nat.zero_le _, rfl, rfl, Lib.hid Reads.none_, R0, HB⟩
 case round =>
  clear R0 HB
  obtain ⟨k, A', c', hk, rfl, rfl, HRd, R0, HB⟩ := hrel
  by_cases hlt : k < m
  ·obtain ⟨ad, x, rfl, _, hp, hx, hc⟩ := fk_at HR.out hlt
   have hk0 : (0 : Int) ≤ k := by omega
   have hk1 : (k : Int) < m := by omega
   have hok := allOkF_ok HALL.out hx
   have hnm : x.nm.size ≤ 40 := by
    simp only [okFk, keyF, Bool.and_eq_true, decide_eq_true_eq] at hok
    exact hok.1
   have hrt : x.rt ≤ 2147483647 := by
    simp only [okFk, numB, Bool.and_eq_true, decide_eq_true_eq] at hok
    exact hok.2.2
   have hrt2 : (x.rt : Int) < 18446744073709551616 := by omega
   have hsz : sizeF (l.take k) ≤ 1000000 := by
    have h1 := sizeF_take_le l k
    have h2 := HRoom.out
    have h3 := good_pos HG.out
    omega
   have HX := Lib.hid hx
   have HC := Lib.hid (show FkAt w (ad.add (k * 2)) x from hc)
   have HP := Lib.hid hp
   obtain ⟨c0, _⟩ := HC.out.below HB.out HP.out
   have HR0lt := Lib.hid R0.out.lt
   clear hx hc hp hok
   go_wp2_with fail
   refine (rput_yes A' (sizeF (l.take k)) c' x.nm.size 1 (bytesF (l.take k)) _ HRd.out (by omega) (by decide) (by decide)).mono ?_
   rintro e w2 ⟨v2, rfl, hown2, hb⟩
   have hwr := HB.out.size
   have HB2 := Lib.hid (HB.out.trans (hb.mono HB.out.size))
   replace R0 := Lib.hid (R0.out.below hb R0.out.lt)
   have hb2s := hb.size
   obtain ⟨A2, c2, rfl, _, _, _⟩ := own_form hown2
   have HO2 := Lib.hid hown2
   obtain ⟨c0, _⟩ := HC.out.below HB2.out HP.out
   clear hb hown2
   go_upto_region 9 with (at_builtin; refine Lib.wpList_append_own_string _ rfl (.tmp 54) (.tmp 59) _ _ rfl wr.heap.size 5 i0 Tryz.underlying102 Tryz.underlying9 hi0 hz0 hz1 hz2 _ (sizeF (l.take k) + 1) _ rfl HO2.out x.nm rfl (by unfold maxLen; omega) (by omega) hb2s ?_; intro v3 w3 hown3 hg3 _)
   have hbg : Below w.heap.size w2 w3 := (Below.refl _ _).grown hg3 HB2.out.size (fun g hg => Nat.le_trans hwr (HO2.out.lt g hg).1)
   have HB3 := Lib.hid (HB2.out.trans hbg)
   have hR3 : Blk w3 w.heap.size 41 #[.int .i64 0, .int .i64 0, .int .u32 0, .int .u32 0, .int .u64 0, .string ByteArray.empty] := (hg3.block _ R0.out.lt (fun he => by
    have h1 := (HO2.out.lt _ he.symm).1
    have h2 := HR0lt.out
    omega)).trans R0.out
   have hown3' : w3.ownsRow wr.heap.size 5 1 v3 (sizeF (l.take k) + 1 + x.nm.size) (bcells (bytesF (l.take k) ++ Go.leBytes 1 x.nm.size ++ x.nm.data.toList)) := by
    rw [bcells_append]; exact hown3
   obtain ⟨A3, c3, rfl, _, _, _⟩ := own_form hown3'
   have HRd3 := Lib.hid (Reads.of_own hown3')
   have HR3 := Lib.hid hR3
   obtain ⟨_, c1⟩ := HC.out.below HB3.out HP.out
   clear hown3 hown3' hg3 hbg hR3 HO2 HB2 R0 c0 HRd
   go_wp2_with fail
   refine (rput_yes A3 (sizeF (l.take k) + 1 + x.nm.size) c3 x.rt 4 (bytesF (l.take k) ++ Go.leBytes 1 x.nm.size ++ x.nm.data.toList) _ HRd3.out (by omega) (by decide) (by decide)).mono ?_
   rintro e w4 ⟨v4, rfl, hown4, hb⟩
   have HB4 := Lib.hid (HB3.out.trans (hb.mono HB3.out.size))
   have HR4 := Lib.hid (HR3.out.below hb HR3.out.lt)
   obtain ⟨A4, c4, rfl, _, _, _⟩ := own_form hown4
   have HRd4 := Lib.hid (Reads.of_own hown4)
   clear hown4 hb HB3 HR3 HRd3 c1
   have hse := sizeF_take_succ HX.out
   have hby : bytesF (l.take k) ++ Go.leBytes 1 x.nm.size ++ x.nm.data.toList ++ Go.leBytes 4 x.rt = bytesF (l.take (k + 1)) := by
    rw [bytesF_take_succ HX.out, Fk.bytes]
    simp
   rw [hby, show sizeF (l.take k) + 1 + x.nm.size + 4 = sizeF (l.take (k + 1)) by omega] at HRd4
   have HSE := Lib.hid (show sizeF (l.take k) + 1 + x.nm.size + 4 = sizeF (l.take (k + 1)) by omega)
   clear hse hby
   go_wp2_with fail
   go_roundw
   case rel =>
    first
     | exact ⟨k + 1, A4, c4, by omega, by go_num, by rw [HSE.out], HRd4, HR4, HB4⟩
     | ((repeat apply Exists.intro); exact ⟨⟨k + 1, A4, c4, by omega, by go_num, by rw [HSE.out], HRd4, HR4, HB4⟩, rfl⟩)
   case measure => simp [intOf]; omega
  ·obtain rfl : k = m := by omega
   have ht : l.take k = l := List.take_of_length_le (by rw [HL.out]; exact Nat.le_refl _)
   rw [ht] at HRd
   rw [ht]
   have hgp := good_pos HG.out
   have HBd := rbody_ok z A' (sizeF l) c' (bytesF l) (forkBody z l) wr HG.out HRd.out HRoom.out rfl
   have hk9 : (k : Int) ≤ 1000000 := by omega
   clear hgp hlt ht
   go_wp2_with fail
   refine HBd.mono ?_
   rintro e w2 ⟨rfl, hb⟩
   clear HBd
   replace R0 := Lib.hid (R0.out.below hb R0.out.lt)
   replace HB := Lib.hid (HB.out.trans (hb.mono HB.out.size))
   have k0 := R0.out.cell 0
   have k1 := R0.out.cell 1
   have k2 := R0.out.cell 2
   have k3 := R0.out.cell 3
   have k4 := R0.out.cell 4
   have k5 := R0.out.cell 5
   have f0 := R0.out.frozen 0
   have f1 := R0.out.frozen 1
   have f2 := R0.out.frozen 2
   have f3 := R0.out.frozen 3
   have f4 := R0.out.frozen 4
   have f5 := R0.out.frozen 5
   simp at k0 k1 k2 k3 k4 k5
   go_wp2_with fail
   exact bodyPost_ret (read_row rfl _ _ _ w.heap.size #[.int .i64 3, .int .i64 k, .int .u32 n, .int .u32 0, .int .u64 tx, .string (forkBody z l)] rfl (load_page (six_at R0.out))) rfl ⟨rfl, six_below HB.out (Nat.le_refl _)⟩
end Go.Proofs.YtmmjckokjmpfpaaGreat

namespace Go.Proofs.YtmmjckokjmpfpaaGreat
open Go.RowKit
open Go.Lib hiding intOf
attribute [local go_sem ↓] Go.wp_at_zero Go.wp_at_succ

theorem infoFk : (Tryz.prog.info? 45).map (fun i => (i.zero, i.size, i.bytes)) = some (some (.agg #[.string ByteArray.empty, .int .u32 0]), 2, 24) := by kernel_rfl
theorem fkc_one (l : List Fk) : ∀ u ∈ fkc l, u.oneCell' = true := by
 intro u hu
 obtain ⟨b, _, hb⟩ := List.mem_flatMap.1 hu
 simp only [Fk.cells, List.mem_cons, List.not_mem_nil, or_false] at hb
 rcases hb with rfl | rfl <;> rfl
theorem fk_one (b : Fk) : ∀ u ∈ b.cells, u.oneCell' = true := fun u hu => fkc_one [b] u (by simpa [fkc, rowsOf] using hu)
theorem step7_is {s nm t1 t2 t3 : ByteArray} {v1 v3 : Nat} {x1 x2 x3 : Int} (h1 : tookN 1 s v1 x1 t1) (h2 : tookB v1 t1 nm x2 t2) (h3 : tookN 4 t2 v3 x3 t3) :
  match stepF s.data.toList with
  | none => (x1 ≠ 0 ∨ x2 ≠ 0 ∨ x3 ≠ 0)
  | some (b, r) => x1 = 0 ∧ x2 = 0 ∧ x3 = 0 ∧ b = ⟨nm, v3⟩ ∧ t3.data.toList = r := by
 rcases h1 with ⟨a1, rfl, e1, f1⟩ | ⟨a1, rfl, f1⟩
 rotate_left
 ·have h0 : s.data.toList = [] := List.eq_nil_of_length_eq_zero (by rw [size_list]; omega)
  simp [h0, stepF]
 obtain ⟨n, r, hs⟩ := list_one (l := s.data.toList) (by rw [size_list]; exact a1)
 have hv : v1 = n.toNat := by rw [e1, hs]; exact leNat_one n
 have hr : t1.data.toList = r := by rw [f1, ext_drop, hs]; rfl
 have hl : t1.size = r.length := by rw [← hr, size_list]
 rcases h2 with ⟨a2, rfl, e2, f2⟩ | ⟨a2, rfl, f2⟩
 rotate_left
 ·have hn : stepF s.data.toList = none := by rw [hs]; simp only [stepF]; rw [if_pos (by omega)]
  simp [hn]
 have hr2 : t2.data.toList = r.drop n.toNat := by rw [f2, ext_drop, hr, hv]
 have hl2 : t2.size = r.length - n.toNat := by rw [← size_list, hr2, List.length_drop]
 rcases h3 with ⟨a3, rfl, e3, f3⟩ | ⟨a3, rfl, f3⟩
 rotate_left
 ·have hn : stepF s.data.toList = none := by rw [hs]; simp only [stepF]; rw [if_pos (by omega)]
  simp [hn]
 have hr3 : t3.data.toList = (r.drop n.toNat).drop 4 := by rw [f3, ext_drop, hr2]
 have hn : stepF s.data.toList = some (⟨nm, v3⟩, t3.data.toList) := by
  rw [hs]
  simp only [stepF]
  rw [if_neg (by omega), hr3, e3, hr2]
  have hnm : nm = ⟨(r.take n.toNat).toArray⟩ := by
   apply bytes_ext
   rw [e2, ext_take, hr, hv]
  rw [hnm]
 rw [hn]
 exact ⟨rfl, rfl, rfl, rfl, rfl⟩
def OfPost7 (o : Option (List Fk)) (w : World) (e : Ending) (w' : World) : Prop :=
 match o with
 | none => e = .returned (.tuple #[.slice none 0 0, .int .i64 4]) ∧ Below w.heap.size w w'
 | some l => ∃ A n c, e = .returned (.tuple #[.slice A n c, .int .i64 0]) ∧ Reads w' w'.heap.size 2 A n (fkc l) ∧ n ≤ c ∧ c ≤ maxLen ∧ Below w.heap.size w w'
def OfPost7n (o : Option (List Fk)) (w : World) (e : Ending) (w' : World) : Prop :=
 match o with
 | none => e = .returned (.tuple #[.slice none 0 0, .int .i64 4]) ∧ Below w.heap.size w w'
 | some l => ∃ A n c, e = .returned (.tuple #[.slice A n c, .int .i64 0]) ∧ Reads w' w'.heap.size 2 A n (fkc l) ∧ n ≤ c ∧ c ≤ maxLen ∧ Below w.heap.size w w' ∧ ∀ ad, A = some ad → w.heap.size ≤ ad.block
end Go.Proofs.YtmmjckokjmpfpaaGreat

namespace Go.Proofs.YtmmjckokjmpfpaaGreat
open Go.RowKit
open Go.Lib hiding intOf
attribute [local go_sem ↓] Go.wp_at_zero Go.wp_at_succ

theorem took_some (t : ByteArray) : ∃ v x t', tookN 4 t v x t' := by
 by_cases h : 4 ≤ t.size
 ·exact ⟨_, _, _, .inl ⟨h, rfl, rfl, rfl⟩⟩
 ·exact ⟨0, 7, t, .inr ⟨by omega, rfl, rfl⟩⟩
theorem step_dead3 {t t1 t2 nm : ByteArray} {v : Nat} (h1 : tookN 1 t v 0 t1) (h2 : tookB v t1 nm 0 t2) (h3 : t2.size < 4) : stepF t.data.toList = none := by
 have h := step7_is h1 h2 (show tookN 4 t2 0 7 t2 from .inr ⟨h3, rfl, rfl⟩)
 rcases hs : stepF t.data.toList with _ | ⟨b, r⟩
 ·rfl
 ·rw [hs] at h
  exact absurd h.2.2.1 (by decide)
theorem step_dead2 {t t1 : ByteArray} {v : Nat} (h1 : tookN 1 t v 0 t1) (h2 : t1.size < v) : stepF t.data.toList = none := by
 obtain ⟨v3, x3, t3, h3⟩ := took_some t1
 have h := step7_is h1 (show tookB v t1 ByteArray.empty 7 t1 from .inr ⟨h2, rfl, rfl⟩) h3
 rcases hs : stepF t.data.toList with _ | ⟨b, r⟩
 ·rfl
 ·rw [hs] at h
  exact absurd h.2.1 (by decide)
theorem step_dead1 {t : ByteArray} (h1 : t.size < 1) : stepF t.data.toList = none := by
 have h0 : t.data.toList = [] := List.eq_nil_of_length_eq_zero (by rw [size_list]; omega)
 rw [h0]
 rfl
def forkPost (o : Option (Fk × List UInt8)) (g : Nat) (e : Ending) (w' : World) : Prop := match o with
 | none => DiesB e
 | some (b, r) => ∃ s' : ByteArray, e = .returned (.agg #[.string b.nm, .int .u32 b.rt]) ∧ IsRd w' g s' ∧ s'.data.toList = r
set_option maxRecDepth 100000 in
set_option maxHeartbeats 6400000 in
theorem bfork_tot {w : World} {g : Nat} {t : ByteArray} (h : IsRd w g t) (hs : t.size ≤ 100000) :
  Calls Tryz.prog 135 #[.agg #[.pointer (some ⟨g, 0, none⟩)]] w fun e w' => w.grownBy w' (some g) ∧ forkPost (stepF t.data.toList) g e w' := by
 obtain ⟨i0, hi0, hz0, hz1, hz2⟩ := info_parts infoFk
 obtain ⟨w0, hw0⟩ : ∃ x, x = (w.alloc (.cells #[.pointer (some ⟨g, 0, none⟩)] 192)).alloc (.cells #[.string ⟨#[]⟩, .int .u32 0] 45) := ⟨_, rfl⟩
 have Bx := Lib.hid (show Blk w0 w.heap.size 192 #[.pointer (some ⟨g, 0, none⟩)] by rw [hw0]; exact (Blk.new _ _ _).alloc _)
 have R0 := Lib.hid (show Blk w0 (w.heap.size + 1) 45 #[.string ⟨#[]⟩, .int .u32 0] by
  rw [hw0]
  have := Blk.new (w.alloc (.cells #[.pointer (some ⟨g, 0, none⟩)] 192)) 45 #[.string ⟨#[]⟩, .int .u32 0]
  simpa using this)
 have HF := Lib.hid (show IsRd w0 g t by rw [hw0]; exact Blk.alloc (Blk.alloc h _) _)
 have HG := Lib.hid (show w.grownBy w0 (some g) by rw [hw0]; exact grown_trans (World.grownBy_alloc _ _ _) (World.grownBy_alloc _ _ _))
 have hgl := Lib.hid (Blk.lt h)
 have HS := Lib.hid hs
 clear h hs
 go_enter Tryz.func135, Tryz.ntmps135
 go_wp2_with fail
 rw [← hw0]
 clear hw0
 replace Bx := Lib.hid (Bx.out.drew)
 replace R0 := Lib.hid (R0.out.drew)
 replace HG := Lib.hid (grown_trans HG.out (grown_drew _ _))
 replace HF := Lib.hid (show IsRd w0.drew g t from Blk.drew HF.out)
 refine wp_region_held_drew (S := (fun w' => w'.cell? ⟨w.heap.size, 0, none⟩ = some (.pointer (some ⟨g, 0, none⟩)))) (by kernel_rfl) (Bx.out.cell 0) (fun hHeld => ?_)
 refine tkA (i := 0) ?_
 try simp only [tkP]
 refine tkA (i := 1) ?_
 try simp only [tkP]
 refine wpAnyH_ready (rs := [2]) (by kernel_rfl) (by simp) ?_
 refine tkC (fun K hK => ?_)
 go_simp
 refine (bnumr_tot HF.out 1 (by decide) (by decide)).mono ?_
 rintro e w2 ⟨hg, ⟨v1, t1, rfl, hf, hv, ht⟩ | ⟨rfl, hk⟩⟩
 rotate_left
 ·have hE := step_dead1 hk
  refine ⟨rfl, grown_trans HG.out hg, ?_⟩
  rw [hE]
  exact rfl
 replace Bx := Lib.hid (Blk.grown Bx.out hg (by intro h; injection h with h; have := hgl.out; omega))
 replace R0 := Lib.hid (Blk.grown R0.out hg (by intro h; injection h with h; have := hgl.out; omega))
 replace HG := Lib.hid (grown_trans HG.out hg)
 replace HF := Lib.hid hf
 have T1 := Lib.hid ht
 have HV := Lib.hid (show v1 < 256 from hv)
 clear hg hf hv ht
 refine hK.out _ _ (Bx.out.cell 0) (fun hHeld => ?_)
 clear hK K
 try simp only [tkP]
 have hwv : IntKind.i64.wrap (v1 : Int) = (v1 : Int) := by have := HV.out; rw [IntKind.wrap_i64]; omega
 refine wpAnyH_takeL (i := 3) (v := .int .i64 (v1 : Int)) rfl (by kernel_rfl) (by kernel_rfl) (by kernel_rfl) (fun _ _ _ h => h) (Or.inl ⟨by rfl, ?_⟩) (by first | trivial | assumption) ?_
 ·intro wz hSz; (try dsimp only at hSz); go_simp; (try with_reducible rfl)
 try simp only [tkP]
 clear hwv
 refine wpAnyH_ready (rs := [4]) (by kernel_rfl) (by simp) ?_
 refine tkC (fun K hK => ?_)
 go_simp
 have hs1 : t1.size ≤ 100000 := by
  have h1 := HS.out
  rcases T1.out with ⟨_, _, _, h2⟩ | ⟨_, _, h2⟩
  ·rw [h2, ByteArray.size_extract]; omega
  ·rw [h2]; exact h1
 refine (btext_tot HF.out v1 hs1).mono ?_
 rintro e w3 ⟨hg, ⟨nm, t2, rfl, hf, ht⟩ | ⟨rfl, hk⟩⟩
 rotate_left
 ·have hE := step_dead2 T1.out hk
  refine ⟨rfl, grown_trans HG.out hg, ?_⟩
  rw [hE]
  exact rfl
 replace Bx := Lib.hid (Blk.grown Bx.out hg (by intro h; injection h with h; have := hgl.out; omega))
 replace R0 := Lib.hid (Blk.grown R0.out hg (by intro h; injection h with h; have := hgl.out; omega))
 replace HG := Lib.hid (grown_trans HG.out hg)
 replace HF := Lib.hid hf
 have T2 := Lib.hid ht
 clear hg hf ht
 refine hK.out _ _ (Bx.out.cell 0) (fun hHeld => ?_)
 clear hK K
 try simp only [tkP]
 refine tkA (i := 5) ?_
 try simp only [tkP]
 refine wpAnyH_done (by kernel_rfl) ?_ _
 clear hHeld
 have b0 := Bx.out.cell 0
 simp at b0
 go_wp2_with fail
 refine (bnumr_tot HF.out 4 (by decide) (by decide)).mono ?_
 rintro e w4 ⟨hg, ⟨v3, t3, rfl, hf, hv, ht⟩ | ⟨rfl, hk⟩⟩
 rotate_left
 ·have hE := step_dead3 T1.out T2.out hk
  refine ⟨rfl, grown_trans HG.out hg, ?_⟩
  rw [hE]
  exact rfl
 have hv3 : v3 < 4294967296 := hv
 have hw3 : IntKind.u32.wrap (v3 : Int) = (v3 : Int) := by rw [IntKind.wrap_u32]; omega
 replace R0 := Lib.hid (Blk.grown R0.out hg (by intro h; injection h with h; have := hgl.out; omega))
 replace HG := Lib.hid (grown_trans HG.out hg)
 replace HF := Lib.hid hf
 have hst := step7_is T1.out T2.out ht
 obtain ⟨r', hsf, hr'⟩ : ∃ r', stepF t.data.toList = some (⟨nm, v3⟩, r') ∧ t3.data.toList = r' := by
  rcases hq : stepF t.data.toList with _ | ⟨b, r⟩
  ·rw [hq] at hst
   simp at hst
  ·rw [hq] at hst
   exact ⟨r, by rw [hst.2.2.2.1], hst.2.2.2.2⟩
 have HE := Lib.hid hsf
 have HR := Lib.hid hr'
 clear hg hf hv ht hst hsf hr' T1 T2 b0 Bx
 have k0 := R0.out.cell 0
 have k1 := R0.out.cell 1
 have f0 := R0.out.frozen 0
 have f1 := R0.out.frozen 1
 simp at k0 k1
 go_wp2_with fail
 rw [HE.out]
 refine bodyPost_ret (results_cell_row rfl _ _ (w.heap.size + 1) 45 #[.string nm, .int .u32 v3] (0, 0) _ rfl ((R0.out.set_ 0 _).set_ 1 _) Tryz.underlying45 rfl (by rw [hi0]; simpa using hz1)) rfl ?_
 refine ⟨grown_cell (grown_cell HG.out (Nat.le_succ _) _) (Nat.le_succ _) _, t3, rfl, ?_, HR.out⟩
 have hne : g ≠ w.heap.size + 1 := by have := hgl.out; omega
 exact Blk.far (Blk.far HF.out hne _) hne _
end Go.Proofs.YtmmjckokjmpfpaaGreat

namespace Go.Proofs.YtmmjckokjmpfpaaGreat
open Go.RowKit
open Go.Lib hiding intOf
attribute [local go_sem ↓] Go.wp_at_zero Go.wp_at_succ

theorem grown_own {a b c : World} {r r' : Option Nat} (h1 : a.grownBy b r) (h2 : b.grownBy c r') (h : ∀ k, r' = some k → a.heap.size ≤ k) : a.grownBy c r :=
 ⟨h2.os.trans h1.os, h2.tape.trans h1.tape, h2.output.trans h1.output, Nat.le_trans h1.size h2.size, fun k hk hne => (h2.block k (Nat.lt_of_lt_of_le hk h1.size) (fun he => by have := h k he.symm; omega)).trans (h1.block k hk hne)⟩
def forksPost (B : Nat) (o : Option (List Fk)) (e : Ending) (w' : World) : Prop := match o with
 | none => DiesB e
 | some l => ∃ A n c, e = .returned (.slice A n c) ∧ Reads w' w'.heap.size 2 A n (fkc l) ∧ n ≤ c ∧ c ≤ maxLen ∧ ∀ ad, A = some ad → B ≤ ad.block
set_option maxRecDepth 100000 in
set_option maxHeartbeats 12800000 in
theorem bforks_tot {w : World} {g : Nat} {bd : ByteArray} (h : IsRd w g bd) (hs : bd.size ≤ 100000) (ct : Int) :
  Calls Tryz.prog 121 #[.agg #[.pointer (some ⟨g, 0, none⟩)], .int .i64 ct] w fun e w' => w.grownBy w' (some g) ∧ forksPost w.heap.size (forksF ct bd.data.toList) e w' := by
 obtain ⟨i0, hi0, hz0, hz1, hz2⟩ := info_parts infoFk
 have Hbd := Lib.hid hs
 obtain ⟨w0, hw0⟩ : ∃ x, x = w.alloc (.cells #[.pointer (some ⟨g, 0, none⟩)] 192) := ⟨_, rfl⟩
 have Bx := Lib.hid (show Blk w0 w.heap.size 192 #[.pointer (some ⟨g, 0, none⟩)] by rw [hw0]; exact Blk.new _ _ _)
 have HF := Lib.hid (show IsRd w0 g bd by rw [hw0]; exact Blk.alloc h _)
 have HG := Lib.hid (show w.grownBy w0 (some g) by rw [hw0]; exact World.grownBy_alloc _ _ _)
 have hgl := Lib.hid (Blk.lt h)
 clear h hs
 go_enter Tryz.func121, Tryz.ntmps121
 go_wp2_with fail
 rw [← hw0]
 clear hw0
 go_loopw [5, 7] (fun v i wr => ∃ (k : Nat) (A : Option Addr) (c : Nat) (l : List Fk) (r : List UInt8) (s : ByteArray), k ≤ ct.toNat ∧ i = .int .i64 k ∧ v = .slice A k c ∧ Hid (parseF k bd.data.toList = some (l, r)) ∧ Hid (s.data.toList = r) ∧ Hid (IsRd wr g s) ∧ Hid (wr.ownsRow (w.heap.size + 1) 45 2 (.slice A k c) k (fkc l)) ∧ Hid (Blk wr w.heap.size 192 #[.pointer (some ⟨g, 0, none⟩)]) ∧ Hid (w.grownBy wr (some g))) (fun _ i _ => ct.toNat - (intOf i).toNat)
 case atStart => exact ⟨0, none, 0, [], _, bd, Nat.zero_le _, rfl, rfl, Lib.hid rfl, Lib.hid rfl, HF, Lib.hid (World.ownsRow_nil _ _ _ _), Bx, HG⟩
 case round =>
  clear HF HG Bx
  obtain ⟨k, A, c, l, r, s, hk, rfl, rfl, HPr, HSr, HF, HO, Bx, HG⟩ := hrel
  have hsz := parseF_size HPr.out
  rw [size_list] at hsz
  have hk9 : k ≤ 100000 := by
   have h2 := five_le l
   rw [parseF_len HPr.out] at h2
   have h3 := Hbd.out
   omega
  have hss : s.size ≤ 100000 := by
   have h1 := HSr.out
   have h2 := size_list s
   rw [h1] at h2
   have h3 := Hbd.out
   omega
  clear hsz
  have b0 := Bx.out.cell 0
  simp at b0
  by_cases hlt : (k : Int) < ct
  ·have hkc : k + 1 ≤ ct.toNat := by omega
   go_wp2_with fail
   refine (bfork_tot HF.out hss).mono ?_
   rintro e w2 ⟨hg, hp⟩
   rw [HSr.out] at hp
   have HG2 := Lib.hid (grown_trans HG.out hg)
   rcases hsf : stepF r with _ | ⟨b, r'⟩
   ·rw [hsf] at hp
    have HE := Lib.hid (show forksF ct bd.data.toList = none by
     have h1 := parseF_none (parseF_stop HPr.out hsf) (ct.toNat - (k + 1))
     rw [show k + 1 + (ct.toNat - (k + 1)) = ct.toNat by omega] at h1
     rw [forksF, h1])
    have he : e = .panicked [{ v := .iface 186 (.agg #[]), recovered := false }] := hp
    subst he
    refine ⟨rfl, HG2.out, ?_⟩
    rw [HE.out]
    exact rfl
   ·rw [hsf] at hp
    obtain ⟨s', rfl, hf, hr'⟩ := hp
    have HP4 := Lib.hid (parseF_step HPr.out hsf)
    have HS4 := Lib.hid hr'
    replace HO := Lib.hid (HO.out.kept hg (own_apart HO.out (by have := hgl.out; omega)))
    replace Bx := Lib.hid (Blk.grown Bx.out hg (by intro h; injection h with h; have := hgl.out; omega))
    have HF2 := Lib.hid hf
    obtain ⟨nm, v3⟩ := b
    clear hf hr' hsf hg HF b0
    have HA := Lib.hid (HO.out.alloc (.cells #[.string nm, .int .u32 v3] 45))
    have hgl2 : w.heap.size + 1 ≤ w2.heap.size := Blk.lt Bx.out
    have HF3 := Lib.hid (show IsRd (w2.alloc (.cells #[.string nm, .int .u32 v3] 45)) g s' from Blk.alloc HF2.out _)
    have Bx3 := Lib.hid (Bx.out.alloc (.cells #[.string nm, .int .u32 v3] 45))
    have HG3 := Lib.hid (grown_trans HG2.out (World.grownBy_alloc w2 (.cells #[.string nm, .int .u32 v3] 45) _))
    go_upto_region 5 with (at_builtin; refine wpList_append_any _ rfl (.tmp 9) (.tmp 12) _ rfl (w.heap.size + 1) 45 i0 _ 2 24 Tryz.underlying46 hi0 hz0 hz1 hz2 rfl (by omega) _ k _ rfl HA.out (w2.heap.size + 1) (some ⟨w2.heap.size, 0, none⟩) 1 1 (Fk.cells ⟨nm, v3⟩) rfl (reads_own (n := 1) (Blk.new _ _ _) rfl) (fk_one _) (by unfold maxLen; omega) (by omega) (by simp; omega) ?_; intro v5 w5 hown4 hg4 hat)
    clear hat
    rw [fkc_snoc] at hown4
    obtain ⟨A4, c4, rfl, _, _, _⟩ := own_form hown4
    have HO4 := Lib.hid hown4
    have HF4 := Lib.hid (show IsRd w5 g s' from Blk.grown HF3.out hg4 (own_ne HA.out (by have := hgl.out; omega)))
    have Bx4 := Lib.hid (Blk.grown Bx3.out hg4 (own_ne HA.out (Nat.lt_succ_self _)))
    have HG4 := Lib.hid (grown_own HG3.out hg4 (fun j hj => by have h1 := (HA.out.lt j hj).1; omega))
    clear hown4 hg4 HA HF3 Bx3 HG3 HG2 HO HF2 HG Bx
    go_wp2_with fail
    go_roundw
    case rel =>
     first
      | exact ⟨k + 1, A4, c4, _, r', s', by omega, by go_num, rfl, HP4, HS4, HF4, HO4, Bx4, HG4⟩
      | ((repeat apply Exists.intro); exact ⟨⟨k + 1, A4, c4, _, r', s', by omega, by go_num, rfl, HP4, HS4, HF4, HO4, Bx4, HG4⟩, rfl⟩)
    case measure => simp [intOf]; omega
  ·have hkc : k = ct.toNat := by omega
   obtain ⟨A', c', he, h1, h2, _⟩ := own_form HO.out
   injection he with e1 e2 e3
   subst e1
   subst e3
   have HR := Lib.hid (Reads.of_own HO.out)
   have HC := Lib.hid h1
   have HMx := Lib.hid h2
   have HLo := Lib.hid (show ∀ ad, A = some ad → w.heap.size ≤ ad.block from fun ad h => by
    have := (HO.out.lt ad.block (by rw [h]; rfl)).1
    omega)
   have HQ := Lib.hid (show forksF ct bd.data.toList = if mayF l && zeros r then some l else none by rw [forksF, ← hkc, HPr.out])
   clear h1 h2 HO hkc
   go_wp2_with fail
   refine (bvalid_any A k c l _ HR.out (by omega)).mono ?_
   rintro e w2 ⟨rfl, hb⟩
   replace HR := Lib.hid ((HR.out.below hb).more hb.size)
   replace HF := Lib.hid (show IsRd w2 g s from Blk.below HF.out hb (Blk.lt HF.out))
   replace Bx := Lib.hid (Bx.out.below hb Bx.out.lt)
   replace HG := Lib.hid (grown_trans HG.out (grown_below' hb))
   clear hb b0
   have b0 := Bx.out.cell 0
   simp at b0
   have HZ := fun w => zero_any s w (by unfold maxLen; omega)
   rw [HSr.out] at HZ
   rcases hm : mayF l with _ | _
   ·rw [hm] at HQ
    clear hm
    go_wp2_with fail
    refine (bneed_no _).mono ?_
    rintro e w3 ⟨rfl, rfl⟩
    refine ⟨rfl, HG.out, ?_⟩
    rw [HQ.out]
    exact rfl
   ·rw [hm] at HQ
    rcases hzr : zeros r with _ | _
    ·rw [hzr] at HQ HZ
     clear hm hzr
     go_wp2_with (first | (go_at_call 138; refine (rest_any HF.out).mono ?_; rintro e w' ⟨rfl, rfl⟩) | (go_at_call 137; refine (HZ _).mono ?_; rintro e w' ⟨rfl, rfl⟩))
     refine (bneed_no _).mono ?_
     rintro e w3 ⟨rfl, rfl⟩
     refine ⟨rfl, HG.out, ?_⟩
     rw [HQ.out]
     exact rfl
    ·rw [hzr] at HQ HZ
     clear hm hzr
     go_wp2_with (first | (go_at_call 138; refine (rest_any HF.out).mono ?_; rintro e w' ⟨rfl, rfl⟩) | (go_at_call 137; refine (HZ _).mono ?_; rintro e w' ⟨rfl, rfl⟩) | (go_at_call 118; refine (bneed_yes _).mono ?_; rintro e w' ⟨rfl, rfl⟩))
     go_ret
     refine ⟨HG.out, ?_⟩
     rw [HQ.out]
     exact ⟨A, k, c, rfl, HR.out, HC.out, HMx.out, HLo.out⟩
theorem Reads.keep_from {w w' : World} {B size n lo : Nat} {A : Option Addr} {xs : List Value} (h : Reads w B size A n xs) (hA : ∀ ad, A = some ad → lo ≤ ad.block) (hk : ∀ p : Addr, lo ≤ p.block → w'.cell? p = w.cell? p) : Reads w' B size A n xs :=
 ⟨h.1, fun hn => by
  obtain ⟨ad, e, hb, hc⟩ := h.2 hn
  exact ⟨ad, e, hb, fun j u hu => (hk _ (by rw [block_add]; exact hA ad e)).trans (hc j u hu)⟩⟩
end Go.Proofs.YtmmjckokjmpfpaaGreat

