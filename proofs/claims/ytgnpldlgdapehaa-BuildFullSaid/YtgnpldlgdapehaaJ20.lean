/-
  What package build tells of items: their keys, which rise; slices.Clone and slices.Chunk of them. (Written by wip/tools/gen_bup.py.)
-/
import Derived.Test.YtgnpldlgdapehaaJ16
import Derived.Test.YtgnpldlgdapehaaJ4
import Derived.Test.YtgnpldlgdapehaaJ2
import Derived.Test.YtgnpldlgdapehaaJ19
import Derived.RangeFuncNested
import Derived.RangeFuncBound
import Derived.RangeFuncCalls
import Derived.RangeFuncLeaves
import Derived.RangeFuncBox
import Derived.Shelf.Abstract
import Derived.Shelf.RegionOpen
import Derived.OwnWalkIn
import Derived.TacticsInMore
import Derived.LoopNIn
import Derived.LoopIn
import Derived.Maps.AppendAt
import Derived.Lib.MinMax
import Derived.Lib.SliceRun
import Derived.Laws.CopyRow
import Derived.Laws.EntriesVeiled
import Derived.Deep.CutRange
set_option linter.unusedVariables false
set_option linter.unusedSimpArgs false
namespace Go.Proofs.Ytgnpldlgdapehaa
open Go.RowKit
attribute [local go_sem] Oper.semAt_some
attribute [local go_sem ↓] Go.wp_at_zero Go.wp_at_succ

theorem infoBI : (Try.prog.info? 46).map (fun i => (i.zero, i.size, i.bytes)) = some (some (.agg #[.string ByteArray.empty, .string ByteArray.empty, .bool false, .int .i64 0, .int .u32 0]), 5, 56) := by kernel_rfl
theorem infoSI : (Try.prog.info? 23).map (fun i => (i.zero, i.size, i.bytes)) = some (some (.slice none 0 0), 1, 24) := by kernel_rfl
theorem itc_oneB (l : List It) : ∀ u ∈ itc l, u.oneCell' = true := by
 intro u hu
 unfold itc at hu
 obtain ⟨b, _, hb⟩ := List.mem_flatMap.1 hu
 simp [It.cells] at hb
 rcases hb with rfl | rfl | rfl | rfl | rfl <;> rfl
def elI : Value := .agg #[.func (.func 47) #[] #[], .func (.func 48) #[] #[], .func (.func 49) #[] #[]]
theorem elemI_any (w : World) : Calls Try.prog 32 #[] w fun e w' => e = .returned elI ∧ Below w.heap.size w w' := by
 have HB := Lib.hid (Below.refl w.heap.size w)
 go_enter Try.func32, Try.ntmps32
 go_wp2_with fail
 refine bodyPost_ret (results_cell_row rfl _ _ w.heap.size 74 #[.func (.func 47) #[] #[], .func (.func 48) #[] #[], .func (.func 49) #[] #[]] (0, 0) _ rfl (Blk.new w 74 #[.func (.func 47) #[] #[], .func (.func 48) #[] #[], .func (.func 49) #[] #[]]) Try.underlying74 rfl (by kernel_rfl)) rfl ?_
 exact ⟨rfl, HB.out.alloc (Nat.le_refl _) _⟩
theorem keyI_any (x : It) (w : World) : Calls Try.prog 47 #[.agg #[.string x.ky, .string x.vl, .bool x.ov, .int .i64 x.ln, .int .u32 x.hd]] w fun e w' => e = .returned (.string x.ky) ∧ Below w.heap.size w w' := by
 have HB := Lib.hid (Below.refl w.heap.size w)
 go_enter Try.func47, Try.ntmps47
 go_wp2_with fail
 go_ret
 exact ⟨rfl, HB.out.alloc (Nat.le_refl _) _⟩
set_option maxRecDepth 100000 in
set_option maxHeartbeats 6400000 in
theorem risesI_any (A : Option Addr) (n c : Nat) (l : List It) (w : World) (hr : Reads w w.heap.size 5 A n (itc l)) (hn : n ≤ 1000000) :
  Calls Try.prog 71 #[.slice A n c, .func (.func 47) #[] #[]] w fun e w' => e = .returned (.bool (risesK (l.map (·.ky)))) ∧ Below w.heap.size w w' := by
 have HR := Lib.hid hr
 have HL := Lib.hid (it_len hr)
 clear hr
 go_enter Try.func71, Try.ntmps71
 go_wp2_with fail
 go_loopw [5] (fun vi wr => ∃ k : Nat, 1 ≤ k ∧ k ≤ n + 1 ∧ vi = .int .i64 k ∧ Hid (∀ j, j < k → j < n → adjB (l.map (·.ky)) j = true) ∧ Hid (Below w.heap.size w wr)) (fun vi _ => n + 1 - (RowKit.intOf vi).toNat)
 case atStart => exact ⟨1, by omega, by omega, rfl, Lib.hid (fun j hj _ => by (obtain rfl : j = 0 := (by omega)); unfold adjB; simp), Lib.hid (Below.refl _ _)⟩
 case round =>
  obtain ⟨k, hk1, hk2, rfl, HA, HBr⟩ := hrel
  by_cases hlt : k < n
  ·obtain ⟨km, hkm⟩ : ∃ km, km = k - 1 := ⟨_, rfl⟩
   have hR2 := HR.out.below HBr.out
   obtain ⟨ad, x, rfl, hab, _, hx, hcx⟩ := it_at hR2 hlt
   obtain ⟨ad', y, hA', _, _, hy, hcy⟩ := it_at hR2 (show km < n by omega)
   injection hA' with hA'
   subst hA'
   have hadj := adjB_of (ks := l.map (·.ky)) (k := k) (a := y.ky) (b := x.ky) (by omega) (by rw [List.getElem?_map, ← hkm, hy]; rfl) (by rw [List.getElem?_map, hx]; rfl)
   have HAdj := Lib.hid hadj
   have e1 : (k : Int) - 1 = (km : Int) := by omega
   have e2 : (0 : Int) ≤ k := by omega
   have e3 : (k : Int) < n := by omega
   have e4 : (0 : Int) ≤ km := by omega
   have e5 : (km : Int) < n := by omega
   have e6 := i64_nat km (by omega)
   have e7 := wrap64_nat km (by omega)
   have HK := Lib.hid hkm
   have hsz := HBr.out.size
   have HCx := Lib.hid hcx
   have HCy := Lib.hid hcy
   have HAb := Lib.hid hab
   have HLt := Lib.hid hlt
   have hle := leq_not x.ky.toList y.ky.toList
   have HLe := Lib.hid hle
   clear hkm hadj hx hy hcx hcy hab hk1 hk2 hR2 hle
   go_upto_region 4 with fail
   have tx : ∀ wz, Below wr.heap.size wr wz → ItAt wz (ad.add (k * 5)) x := fun wz hb => HCx.out.below hb (by rw [block_add]; have := HAb.out; omega)
   have ty : ∀ wz, Below wr.heap.size wr wz → ItAt wz (ad.add (km * 5)) y := fun wz hb => HCy.out.below hb (by rw [block_add]; have := HAb.out; omega)
   have HT := Lib.hid (And.intro tx ty)
   clear tx ty
   refine wp_region_held_drew (S := (fun w' => w'.cell? (ad.add (k * 5)) = some (.string x.ky) ∧ w'.cell? ⟨((ad.add (k * 5))).block, ((ad.add (k * 5))).off + 1, none⟩ = some (.string x.vl) ∧ w'.cell? ⟨((ad.add (k * 5))).block, ((ad.add (k * 5))).off + 2, none⟩ = some (.bool x.ov) ∧ w'.cell? ⟨((ad.add (k * 5))).block, ((ad.add (k * 5))).off + 3, none⟩ = some (.int .i64 x.ln) ∧ w'.cell? ⟨((ad.add (k * 5))).block, ((ad.add (k * 5))).off + 4, none⟩ = some (.int .u32 x.hd) ∧ w'.cell? (ad.add (km * 5)) = some (.string y.ky) ∧ w'.cell? ⟨((ad.add (km * 5))).block, ((ad.add (km * 5))).off + 1, none⟩ = some (.string y.vl) ∧ w'.cell? ⟨((ad.add (km * 5))).block, ((ad.add (km * 5))).off + 2, none⟩ = some (.bool y.ov) ∧ w'.cell? ⟨((ad.add (km * 5))).block, ((ad.add (km * 5))).off + 3, none⟩ = some (.int .i64 y.ln) ∧ w'.cell? ⟨((ad.add (km * 5))).block, ((ad.add (km * 5))).off + 4, none⟩ = some (.int .u32 y.hd))) (by kernel_rfl) (show _ ∧ _ from ⟨(HT.out.1 _ (Below.refl _ _).drew).1, (HT.out.1 _ (Below.refl _ _).drew).2.1, (HT.out.1 _ (Below.refl _ _).drew).2.2.1, (HT.out.1 _ (Below.refl _ _).drew).2.2.2.1, (HT.out.1 _ (Below.refl _ _).drew).2.2.2.2, (HT.out.2 _ (Below.refl _ _).drew).1, (HT.out.2 _ (Below.refl _ _).drew).2.1, (HT.out.2 _ (Below.refl _ _).drew).2.2.1, (HT.out.2 _ (Below.refl _ _).drew).2.2.2.1, (HT.out.2 _ (Below.refl _ _).drew).2.2.2.2⟩) (fun _ => ?_)
   refine tkA (i := 0) ?_
   try simp only [tkP]
   refine tkA (i := 1) ?_
   try simp only [tkP]
   refine tkA (i := 2) ?_
   try simp only [tkP]
   refine tkA (i := 3) ?_
   try simp only [tkP]
   refine tkA (i := 4) ?_
   try simp only [tkP]
   refine tkA (i := 6) ?_
   try simp only [tkP]
   refine tkA (i := 7) ?_
   try simp only [tkP]
   refine tkA (i := 8) ?_
   try simp only [tkP]
   refine tkA (i := 9) ?_
   try simp only [tkP]
   refine tkA (i := 10) ?_
   try simp only [tkP]
   refine tkA (i := 11) ?_
   try simp only [tkP]
   clear e6 e7
   refine wpAnyH_ready (rs := [5]) (by kernel_rfl) (by simp) ?_
   refine tkC (fun K hK => ?_)
   go_simp
   refine (keyI_any x _).mono ?_
   rintro e w1 ⟨rfl, hb⟩
   have HB1 := Lib.hid (show Below wr.heap.size wr w1 from (Below.refl _ wr).drew.trans hb)
   clear hb
   refine hK.out _ _ (show _ ∧ _ from ⟨(HT.out.1 _ HB1.out).1, (HT.out.1 _ HB1.out).2.1, (HT.out.1 _ HB1.out).2.2.1, (HT.out.1 _ HB1.out).2.2.2.1, (HT.out.1 _ HB1.out).2.2.2.2, (HT.out.2 _ HB1.out).1, (HT.out.2 _ HB1.out).2.1, (HT.out.2 _ HB1.out).2.2.1, (HT.out.2 _ HB1.out).2.2.2.1, (HT.out.2 _ HB1.out).2.2.2.2⟩) (fun hHeld => ?_)
   clear hK K
   try simp only [tkP]
   refine wpAnyH_ready (rs := [12]) (by kernel_rfl) (by simp) ?_
   refine tkC (fun K hK => ?_)
   go_simp
   refine (keyI_any y _).mono ?_
   rintro e w2 ⟨rfl, hb⟩
   have HB2 := Lib.hid (show Below wr.heap.size wr w2 from HB1.out.trans (hb.mono HB1.out.size))
   clear hb HB1
   refine hK.out _ _ (show _ ∧ _ from ⟨(HT.out.1 _ HB2.out).1, (HT.out.1 _ HB2.out).2.1, (HT.out.1 _ HB2.out).2.2.1, (HT.out.1 _ HB2.out).2.2.2.1, (HT.out.1 _ HB2.out).2.2.2.2, (HT.out.2 _ HB2.out).1, (HT.out.2 _ HB2.out).2.1, (HT.out.2 _ HB2.out).2.2.1, (HT.out.2 _ HB2.out).2.2.2.1, (HT.out.2 _ HB2.out).2.2.2.2⟩) (fun hHeld => ?_)
   clear hK K
   try simp only [tkP]
   rcases hq : Op.bytesLess y.ky.toList x.ky.toList with _ | _
   all_goals
    rw [hq] at HAdj HLe
    have hle := HLe.out
    refine tkA (i := 13) ?_
    try simp only [tkP]
    refine wpAnyH_done (by kernel_rfl) ?_ _
   ·go_wp2_with fail
    go_ret
    refine ⟨?_, HBr.out.trans (HB2.out.mono hsz)⟩
    rw [risesK_no (k := k) (by rw [List.length_map, HL.out]; exact HLt.out) HAdj.out]
    try rfl
   ·go_wp2_with fail
    refine ⟨⟨k + 1, by omega, by omega, by go_num, Lib.hid fun j hj hjn => ?_, Lib.hid (HBr.out.trans (HB2.out.mono hsz))⟩, by simp [RowKit.intOf]; omega⟩
    rcases Nat.lt_or_ge j k with h | h
    ·exact HA.out j h hjn
    ·obtain rfl : j = k := by omega
     exact HAdj.out
  ·have e3 : ¬ (k : Int) < n := by omega
   have HE := Lib.hid (show risesK (l.map (·.ky)) = true from risesK_yes fun j hj => by rw [List.length_map, HL.out] at hj; exact HA.out j (by omega) hj)
   clear hlt hk1 hk2
   go_wp2_with fail
   go_ret
   exact ⟨by rw [HE.out]; rfl, HBr.out⟩
set_option maxRecDepth 100000 in
set_option maxHeartbeats 6400000 in
theorem cloneI_any (A : Option Addr) (n c : Nat) (l : List It) (w : World) {B : Nat} (hB : B ≤ w.heap.size) (hr : Reads w B 5 A n (itc l)) (hn : n ≤ 1000000) :
  Calls Try.prog 73 #[.slice A n c] w fun e w' => ∃ A' c', e = .returned (.slice A' n c') ∧ w'.ownsRow w.heap.size 46 5 (.slice A' n c') n (itc l) ∧ Below w.heap.size w w' := by
 obtain ⟨i0, hi0, hz0, hz1, hz2⟩ := info_parts infoBI
 rcases A with _ | ad
 ·have h0 : n = 0 := by
   rcases Nat.eq_zero_or_pos n with h | h
   ·exact h
   ·obtain ⟨ad, h1, _⟩ := hr.2 (by omega)
    cases h1
  subst h0
  have hl : l = [] := List.eq_nil_of_length_eq_zero (it_len hr)
  subst hl
  have heq := fun w => Lib.run_eql_slice_nil (P := Try.prog) w 23 46 none 0 c 0 0 Try.underlying23
  go_enter Try.func73, Try.ntmps73
  go_wp2
  go_ret
  exact ⟨none, 0, rfl, World.ownsRow_nil _ _ _ _, Below.refl _ _⟩
 ·have hown1 : (w.alloc (.cells #[] 46)).ownsRow w.heap.size 46 5 (.slice (some ⟨w.heap.size, 0, none⟩) 0 0) 0 [] := World.ownsRow_made w #[] 0 (Nat.le_refl _) (by simp [maxLen]) rfl
  have HO := Lib.hid hown1
  have HB := Lib.hid ((Below.refl w.heap.size w).alloc (Nat.le_refl _) (.cells #[] 46))
  have HR := Lib.hid (hr.more hB)
  clear hown1 hr
  have heq := fun w => Lib.run_eql_slice_nil (P := Try.prog) w 23 46 (some ad) n c 0 0 Try.underlying23
  go_enter Try.func73, Try.ntmps73
  go_wp2_with (at_builtin; refine wpList_append_any _ rfl (.tmp 5) (.tmp 6) _ rfl w.heap.size 46 i0 _ 5 56 Try.underlying23 hi0 hz0 hz1 hz2 rfl (by omega) _ 0 [] rfl HO.out w.heap.size (some ad) n c _ rfl (HR.out.below HB.out) (itc_oneB _) (by unfold maxLen; omega) (by omega) HB.out.size ?_; intro v2 w2 hown2 hg2 hat2)
  go_ret
  simp only [Nat.zero_add, List.nil_append] at hown2
  obtain ⟨A', c', rfl, _, _, _⟩ := own_form hown2
  exact ⟨A', c', rfl, hown2, HB.out.grown hg2 HB.out.size (by rintro g ⟨⟩; exact Nat.le_refl _)⟩
theorem lowI (A : Option Addr) (n c i : Nat) (zi : Int) (hzi : zi = i) (hi : i ≤ n) : ∃ X q, ∀ w : World, (Instr.sliceAt 23 (.slice A n c) (some (.int .i64 zi)) none none).run Try.prog w = .ok (.slice X (n - i) q) w := by
 refine ⟨if c = i then A else A.map (·.add (i * 5)), c - i, fun w => ?_⟩
 obtain ⟨i0, hi0, hz0, hz1, hz2⟩ := info_parts infoBI
 have he : Try.prog.elem 23 = 46 := by kernel_rfl
 have hu : Try.prog.underlying 23 = some (.slice (Try.prog.elem 23)) := by rw [he]; exact Try.underlying23
 rw [run_sliceAt_slice w _ _ _ _ _ hu, run_slice_l w _ A n c hu .i64 zi (by omega) (by omega), he]
 simp [sizeOf, typeInfo, hi0, hz1, sliced, hzi]
theorem midI (A : Option Addr) (n c i j : Nat) (zi zj : Int) (hzi : zi = i) (hzj : zj = j) (hi : i ≤ j) (hj : j ≤ c) : ∃ X, X = (if c = i then A else A.map (·.add (i * 5))) ∧ ∀ w : World, (Instr.sliceAt 23 (.slice A n c) (some (.int .i64 zi)) (some (.int .i64 zj)) none).run Try.prog w = .ok (.slice X (j - i) (c - i)) w := by
 refine ⟨_, rfl, fun w => ?_⟩
 obtain ⟨i0, hi0, hz0, hz1, hz2⟩ := info_parts infoBI
 have he : Try.prog.elem 23 = 46 := by kernel_rfl
 have hu : Try.prog.underlying 23 = some (.slice (Try.prog.elem 23)) := by rw [he]; exact Try.underlying23
 rw [run_sliceAt_slice w _ _ _ _ _ hu, run_slice_lh w _ A n c hu .i64 .i64 zi zj (by omega) (by omega) (by omega), he]
 simp [sizeOf, typeInfo, hi0, hz1, sliced, hzi, hzj]
theorem sl1I (ad : Addr) (n c i : Nat) (zi zj : Int) (hzi : zi = i) (hzj : zj = (i + 1 : Nat)) (hj : i + 1 ≤ c) : ∀ w : World, (Instr.sliceAt 23 (.slice (some ad) n c) (some (.int .i64 zi)) (some (.int .i64 zj)) (some (.int .i64 zj))).run Try.prog w = .ok (.slice (some (ad.add (i * 5))) 1 1) w := by
 intro w
 obtain ⟨i0, hi0, hz0, hz1, hz2⟩ := info_parts infoBI
 have he : Try.prog.elem 23 = 46 := by kernel_rfl
 have hu : Try.prog.underlying 23 = some (.slice (Try.prog.elem 23)) := by rw [he]; exact Try.underlying23
 have h1 : i + 1 - i = 1 := by omega
 rw [run_sliceAt_slice w _ _ _ _ _ hu, run_slice_lhm w _ (some ad) n c hu .i64 .i64 .i64 zi zj zj (by omega) (by omega) (by omega) (by omega), he]
 subst hzi hzj
 simp [sizeOf, typeInfo, hi0, hz1, sliced]
end Go.Proofs.Ytgnpldlgdapehaa

