/-
  Texts that the main proof rests on, put together: Ref11P, Ref8May. No statement is proved here.
-/
import Derived.Test.YtmmjckokjmpfpaaGreatJ13
import Derived.Test.YtmmjckokjmpfpaaGreatJ3
import Derived.Test.YtmmjckokjmpfpaaGreatJ9
import Derived.Test.YtmmjckokjmpfpaaGreatJ8
import Derived.Test.YtmmjckokjmpfpaaGreatJ7
import Derived.Deep.CutRange
import Derived.Deep.DrawnRows
import Derived.Deep.QuietTactic
import Derived.BigQuiet
import Derived.Lib.MinMax
set_option linter.unusedVariables false
set_option linter.unusedSimpArgs false
namespace Go.Proofs.YtmmjckokjmpfpaaGreat
open Go.RowKit
open Go.Lib hiding intOf
attribute [local go_sem ↓] Go.wp_at_zero Go.wp_at_succ

set_option maxRecDepth 100000 in
set_option maxHeartbeats 12800000 in
theorem ron_yes (z : Nat) (tx : Nat) (A : Option Addr) (n c : Nat) (ps : List Nat) (v : ByteArray) (w : World) (hr : Reads w w.heap.size 1 A n (ucells ps)) (hn : n ≤ 1000000) (hv : v.size ≤ 1000000) (L : List Pg) (ho : onL z tx ps v = some L) : Calls Tryz.prog 93 #[.int .i64 z, .int .u64 tx, .slice A n c, .string v] w (PgsPost (some L) w) := by
 obtain ⟨hg, h1, h2, h3, h4, h5, hL⟩ := onL_some ho
 have hpl : (partsL z v).length = ps.length := by unfold partsL; rw [if_pos hg, chunks_len, show ((z : Int) - 24).toNat = z - 24 by omega, h3]
 obtain ⟨size, hsz⟩ : ∃ size : Int, size = z := ⟨_, rfl⟩
 rw [← hsz] at hg hpl ⊢
 have HPt := Lib.hid (fun i (hi : i < ps.length) => on_part ho hi)
 have HLl := Lib.hid (show L.length = n by rw [hL, List.length_map, List.length_range]; exact ulen hr)
 have HLat := Lib.hid (fun i (hi : i < ps.length) => show L[i]? = some (onPg z tx ps v i) by rw [hL, List.getElem?_map, List.getElem?_range hi]; rfl)
 have HFi := Lib.hid h4
 have HG := fun w => rgood_any size w
 rw [hg] at HG
 have he : (v.toList == []) = false := by rw [Bool.eq_false_iff]; intro h; rw [beq_iff_eq] at h; have h2 := size_list v; rw [← ByteArray.toList_eq, h] at h2; simp at h2; omega
 have hbg : decide ((4096 : Int) < (v.size : Int)) = false := by simp; omega
 have hbg2 : decide (4096 < v.size) = false := by simp; omega
 have htx : decide ((4611686018427387904 : Int) < tx) = false := by simp; omega
 have hl := ulen hr
 obtain ⟨i0, hi0, hz0, hz1, hz2⟩ := info_parts infoPg11
 obtain ⟨hzp, hi⟩ := zero_of_info infoPg
 have HI := Lib.hid hi
 have HSz := Lib.hid hsz
 clear hi hg h1 h2 h4 h5 hL ho h3 hsz
 go_enter Tryz.func93, Tryz.ntmps93
 go_wp2_with fail
 refine (rparts9_any size v w hv).mono ?_
 rintro e w1 ⟨Ap, np, cp, rfl, hrp, _, _, hb⟩
 have hnp : np = (partsL size v).length := by have := hrp.1; simpa [strc] using this.symm
 have HB := Lib.hid hb
 have HR := Lib.hid ((hr.below hb).more hb.size)
 have HRp := Lib.hid hrp
 clear hb hrp hr
 have hne : ((np : Int) != (n : Int)) = false := by simp; omega
 have hne2 : (np != n) = false := by simp; omega
 have hnn : np = n := by omega
 subst hnn
 have HLs := Lib.hid hl
 have HPl := Lib.hid hpl
 clear hnp hl hpl
 go_wp2_with (go_at_call 32; refine (HG _).mono ?_; rintro e w' ⟨rfl, rfl⟩)
 refine (rfine_any A np c ps _ HR.out hn).mono ?_
 rw [HFi.out]
 rintro e w2 ⟨rfl, q, hq⟩
 have HB2 := Lib.hid (show Below w.heap.size w w2 by rw [hq]; exact below_drewN HB.out q)
 have HR2 := Lib.hid (show Reads w2 w1.heap.size 1 A np (ucells ps) by rw [hq]; exact HR.out.drewN q)
 have HRp2 := Lib.hid (show Reads w2 w1.heap.size 1 Ap np (strc (partsL size v)) by rw [hq]; exact HRp.out.drewN q)
 have HW1 := Lib.hid (show w1.heap.size ≤ w2.heap.size by rw [hq]; exact Nat.le_refl _)
 clear hq HR HRp HB hne hne2 HG hv
 go_wp2_with fail
 clear he hbg hbg2 htx
 go_loopw [11, 12] (fun b i wr => ∃ (k : Nat) (A' : Option Addr) (c' : Nat), k ≤ np ∧ i = .int .i64 k ∧ b = .slice A' k c' ∧ Hid (wr.ownsRow w2.heap.size 41 6 (.slice A' k c') k (pgcs (L.take k))) ∧ Hid (Below w2.heap.size w2 wr)) (fun _ i _ => np - (intOf i).toNat)
 case atStart => exact ⟨0, none, 0, Nat.zero_le _, rfl, rfl, Lib.hid (World.ownsRow_nil _ _ _ _), Lib.hid (Below.refl _ _)⟩
 case round =>
  obtain ⟨k, A', c', hk, rfl, rfl, HO, HW⟩ := hrel
  by_cases hlt : k < np
  ·have HRr := Lib.hid (HR2.out.below (HW.out.mono HW1.out))
   have HPr := Lib.hid (HRp2.out.below (HW.out.mono HW1.out))
   have hBB : w1.heap.size ≤ wr.heap.size := Nat.le_trans HW1.out HW.out.size
   obtain ⟨ad, rfl, hab, hc0⟩ := ureads_at HRr.out hlt
   obtain ⟨ad2, rfl, hab2, hc1⟩ := strc_at HPr.out hlt
   obtain ⟨hp1, hp2⟩ := HPt.out k (by rw [HLs.out]; exact hlt)
   have hla := HLat.out k (by rw [HLs.out]; exact hlt)
   have hts := take_snoc_at hla
   obtain ⟨pz, hpz⟩ : ∃ x, x = piece (z - 24) v k := ⟨_, rfl⟩
   obtain ⟨pn, hpn⟩ : ∃ x, x = nthU ps k := ⟨_, rfl⟩
   obtain ⟨nx, hnx⟩ : ∃ x, x = nextL ps k := ⟨_, rfl⟩
   have hc1 : wr.cell? (ad2.add k) = some (.string pz) := by rw [hc1, HSz.out, hp1, hpz]
   rw [← hpn] at hc0
   rw [← hpz, ← hpn, ← hnx] at hp2
   have hPg : onPg z tx ps v k = ⟨5, pz.size, pn, nx, tx, overBody z pz⟩ := by unfold onPg; rw [hp1, ← hpz, ← hpn, ← hnx]
   rw [hPg] at hts
   have HNx := fun (wx : World) (hb : Below wr.heap.size wr wx) => (rnext_any (some ad) np c ps k wx (HRr.out.below (hb.mono hBB)) hn (by omega))
   rw [← hnx] at HNx
   have HPg := fun (wx : World) => rpage9_yes z pn nx tx pz wx hp2
   rw [← HSz.out] at HPg
   obtain ⟨B, hB⟩ : ∃ B, B = overBody z pz := ⟨_, rfl⟩
   obtain ⟨sz, hszz⟩ : ∃ x : Nat, x = pz.size := ⟨_, rfl⟩
   rw [← hB, ← hszz] at HPg hts
   have hS := fun (wx : World) (hb : Below wr.heap.size wr wx) => show wx.cell? (ad.add k) = some (.int .u32 pn) ∧ wx.cell? (ad2.add k) = some (.string pz) from ⟨cell_in hc0 hb (by omega), cell_in hc1 hb (by omega)⟩
   have HTs := Lib.hid hts
   have hk0 : (0 : Int) ≤ k := by omega
   have hk1 : (k : Int) < np := by omega
   clear hpz hpn hnx hp1 hp2 hla hts hPg hB hszz hab hab2
   go_upto_region 8 with fail
   refine wp_region_held_drew (S := fun wx => wx.cell? (ad.add k) = some (.int .u32 pn) ∧ wx.cell? (ad2.add k) = some (.string pz)) (by kernel_rfl) (⟨hc0, hc1⟩) (fun _ => ?_)
   have hHeld := And.intro hc0 hc1
   refine tkL (i := 0) (v := ?_) ?_ (by exact hHeld) ?_
   rotate_left
   ·intro wz hSz; (try dsimp only at hSz); obtain ⟨hz1, hz2⟩ := hSz; go_simp; (try with_reducible rfl)
   try simp only [tkP]
   refine tkL (i := 1) (v := ?_) ?_ (by exact hHeld) ?_
   rotate_left
   ·intro wz hSz; (try dsimp only at hSz); obtain ⟨hz1, hz2⟩ := hSz; go_simp; (try with_reducible rfl)
   try simp only [tkP]
   refine tkL (i := 2) (v := ?_) ?_ (by exact hHeld) ?_
   rotate_left
   ·intro wz hSz; (try dsimp only at hSz); obtain ⟨hz1, hz2⟩ := hSz; go_simp; (try with_reducible rfl)
   try simp only [tkP]
   refine tkL (i := 3) (v := ?_) ?_ (by exact hHeld) ?_
   rotate_left
   ·intro wz hSz; (try dsimp only at hSz); obtain ⟨hz1, hz2⟩ := hSz; go_simp; (try with_reducible rfl)
   try simp only [tkP]
   refine tkL (i := 4) (v := ?_) ?_ (by exact hHeld) ?_
   rotate_left
   ·intro wz hSz; (try dsimp only at hSz); obtain ⟨hz1, hz2⟩ := hSz; go_simp; (try with_reducible rfl)
   try simp only [tkP]
   refine tkL (i := 5) (v := ?_) ?_ (by exact hHeld) ?_
   rotate_left
   ·intro wz hSz; (try dsimp only at hSz); obtain ⟨hz1, hz2⟩ := hSz; go_simp; (try with_reducible rfl)
   try simp only [tkP]
   refine tkL (i := 6) (v := ?_) ?_ (by exact hHeld) ?_
   rotate_left
   ·intro wz hSz; (try dsimp only at hSz); obtain ⟨hz1, hz2⟩ := hSz; go_simp; (try with_reducible rfl)
   try simp only [tkP]
   refine tkL (i := 8) (v := ?_) ?_ (by exact hHeld) ?_
   rotate_left
   ·intro wz hSz; (try dsimp only at hSz); obtain ⟨hz1, hz2⟩ := hSz; go_simp; (try with_reducible rfl)
   try simp only [tkP]
   refine tkL (i := 9) (v := ?_) ?_ (by exact hHeld) ?_
   rotate_left
   ·intro wz hSz; (try dsimp only at hSz); obtain ⟨hz1, hz2⟩ := hSz; go_simp; (try with_reducible rfl)
   try simp only [tkP]
   refine tkL (i := 10) (v := ?_) ?_ (by exact hHeld) ?_
   rotate_left
   ·intro wz hSz; (try dsimp only at hSz); obtain ⟨hz1, hz2⟩ := hSz; go_simp; (try with_reducible rfl)
   try simp only [tkP]
   refine tkL (i := 11) (v := ?_) ?_ (by exact hHeld) ?_
   rotate_left
   ·intro wz hSz; (try dsimp only at hSz); obtain ⟨hz1, hz2⟩ := hSz; go_simp; (try with_reducible rfl)
   try simp only [tkP]
   refine tkL (i := 12) (v := ?_) ?_ (by exact hHeld) ?_
   rotate_left
   ·intro wz hSz; (try dsimp only at hSz); obtain ⟨hz1, hz2⟩ := hSz; go_simp; (try with_reducible rfl)
   try simp only [tkP]
   clear hc0 hc1
   refine wpAnyH_ready (rs := [7, 17]) (by kernel_rfl) (by simp) ?_
   refine AllReadyH.consL rfl (fun K hK => ?_) (AllReadyH.consL rfl (fun K hK => ?_) AllReadyH.nil)
   ·skip
    go_simp
    refine (HNx _ (Below.refl wr.heap.size wr).drew).mono ?_
    rintro e wq ⟨rfl, rfl⟩
    refine hK.out _ _ (hS _ (Below.refl wr.heap.size wr).drew) (fun hHeld => ?_)
    clear hK K
    try simp only [tkP]
    refine wpAnyH_ready (rs := [13, 17]) (by kernel_rfl) (by simp) ?_
    refine AllReadyH.consL rfl (fun K hK => ?_) (AllReadyH.consL rfl (fun K hK => ?_) AllReadyH.nil)
    ·skip
     go_simp
     refine (HPg _).mono ?_
     rintro e w4 ⟨rfl, hb4⟩
     have HW4 := Lib.hid ((Below.refl wr.heap.size wr).drew.trans (hb4.mono (Below.refl wr.heap.size wr).drew.size))
     refine hK.out _ _ (hS _ HW4.out) (fun hHeld => ?_)
     clear hK K
     try simp only [tkP]
     refine tkA (i := 14) ?_
     try simp only [tkP]
     refine tkA (i := 15) ?_
     try simp only [tkP]
     refine tkA (i := 16) ?_
     try simp only [tkP]
     refine wpAnyH_ready (rs := [17]) (by kernel_rfl) (by simp) ?_
     refine tkC (fun K hK => ?_)
     go_simp
     refine hK.out _ _ (hS _ (HW4.out.alloc HW4.out.size _)) (fun hHeld => ?_)
     clear hK K
     try simp only [tkP]
     refine wpAnyH_ready (rs := [18]) (by kernel_rfl) (by simp) ?_
     refine tkC (fun K hK => ?_)
     have Q9 := Lib.hid (show Blk (w4.alloc (.cells #[.int .i64 5, .int .i64 sz, .int .u32 pn, .int .u32 nx, .int .u64 tx, .string B] 41)) w4.heap.size 41 #[.int .i64 5, .int .i64 sz, .int .u32 pn, .int .u32 nx, .int .u64 tx, .string B] from Blk.new _ _ _)
     have HW9 := Lib.hid (show Below wr.heap.size wr (w4.alloc (.cells #[.int .i64 5, .int .i64 sz, .int .u32 pn, .int .u32 nx, .int .u64 tx, .string B] 41)) from HW4.out.alloc HW4.out.size _)
     obtain ⟨w9, hw9⟩ : ∃ x, x = w4.alloc (.cells #[.int .i64 5, .int .i64 sz, .int .u32 pn, .int .u32 nx, .int .u64 tx, .string B] 41) := ⟨_, rfl⟩
     rw [← hw9] at Q9 HW9
     go_simp
     rw [← hw9]
     clear hw9
     refine hK.out _ _ (hS _ HW9.out) (fun hHeld => ?_)
     clear hK K
     try simp only [tkP]
     generalize w4.heap.size = gp at *
     refine tkA (i := 19) ?_
     try simp only [tkP]
     refine wpAnyH_done (by kernel_rfl) ?_ _
     clear hHeld
     try clear p0 p1 p2 p3 p4 p5 f0 f1 f2 f3 f4 f5
     have q0 := Q9.out.cell 0
     have q1 := Q9.out.cell 1
     have q2 := Q9.out.cell 2
     have q3 := Q9.out.cell 3
     have q4 := Q9.out.cell 4
     have q5 := Q9.out.cell 5
     simp at q0 q1 q2 q3 q4 q5
     have HX := Lib.hid ((own_below HO.out HW9.out).alloc (.cells #[.int .i64 5, .int .i64 sz, .int .u32 pn, .int .u32 nx, .int .u64 tx, .string B] 41))
     have HWX := Lib.hid ((HW.out.trans (HW9.out.mono HW.out.size)).alloc (HW.out.trans (HW9.out.mono HW.out.size)).size (.cells #[.int .i64 5, .int .i64 sz, .int .u32 pn, .int .u32 nx, .int .u64 tx, .string B] 41))
     go_wp2_with (at_builtin; refine wpList_append_any _ rfl (.tmp 69) (.tmp 71) _ rfl w2.heap.size 41 i0 _ 6 48 Tryz.underlying48 hi0 hz0 hz1 hz2 rfl (by omega) _ k _ rfl HX.out (w9.heap.size + 1) (some ⟨w9.heap.size, 0, none⟩) 1 1 (pgcs [⟨5, sz, pn, nx, tx, B⟩]) rfl (reads_own (n := 1) (Blk.new _ _ _) rfl) (pgcs_one _) (by unfold maxLen; omega) (by omega) HWX.out.size ?_; intro v5 w5 hown5 hg5 hat; clear hat; rw [← pgcs_append, ← HTs.out] at hown5; obtain ⟨A5, c5, rfl, _, _, _⟩ := own_form hown5; have HO5 := Lib.hid hown5; have HW5 := Lib.hid (HWX.out.grown hg5 HWX.out.size (fun g hg => (HX.out.lt g hg).1)); clear hown5 hg5)
     go_roundw
     case rel =>
      first
       | exact ⟨k + 1, A5, c5, by omega, by go_num, rfl, HO5, HW5⟩
       | ((repeat apply Exists.intro); exact ⟨⟨k + 1, A5, c5, by omega, by go_num, rfl, HO5, HW5⟩, rfl⟩)
     case measure => simp [intOf]; omega
    ·skip
     obtain ⟨wa, hwa⟩ : ∃ x, x = (wr.alloc (.cells #[.int .i64 0, .int .i64 0, .int .u32 0, .int .u32 0, .int .u64 0, .string ByteArray.empty] 41)).drew := ⟨_, rfl⟩
     have HZa := Lib.hid (show Blk wa wr.heap.size 41 #[.int .i64 0, .int .i64 0, .int .u32 0, .int .u32 0, .int .u64 0, .string ByteArray.empty] by rw [hwa]; exact (Blk.new _ _ _).drew)
     have HWa := Lib.hid (show Below wr.heap.size wr wa by rw [hwa]; exact (Below.refl wr.heap.size wr).alloc (Nat.le_refl _) _ |>.drew)
     go_simp
     rw [← hwa]
     clear hwa
     refine hK.out _ _ (hS _ HWa.out) (fun hHeld => ?_)
     clear hK K
     try simp only [tkP]
     refine wpAnyH_ready (rs := [13]) (by kernel_rfl) (by simp) ?_
     refine tkC (fun K hK => ?_)
     go_simp
     refine (HPg _).mono ?_
     rintro e w4 ⟨rfl, hb4⟩
     have HW4 := Lib.hid (HWa.out.trans (hb4.mono HWa.out.size))
     refine hK.out _ _ (hS _ HW4.out) (fun hHeld => ?_)
     clear hK K
     try simp only [tkP]
     refine tkA (i := 14) ?_
     try simp only [tkP]
     refine tkA (i := 15) ?_
     try simp only [tkP]
     refine tkA (i := 16) ?_
     try simp only [tkP]
     have HZp := Lib.hid (HZa.out.below hb4 HZa.out.lt)
     have HWp := HW4
     generalize w4 = wp at *
     have p0 := HZp.out.cell 0
     have f0 := HZp.out.frozen 0
     have p1 := HZp.out.cell 1
     have f1 := HZp.out.frozen 1
     have p2 := HZp.out.cell 2
     have f2 := HZp.out.frozen 2
     have p3 := HZp.out.cell 3
     have f3 := HZp.out.frozen 3
     have p4 := HZp.out.cell 4
     have f4 := HZp.out.frozen 4
     have p5 := HZp.out.cell 5
     have f5 := HZp.out.frozen 5
     simp at p0 p1 p2 p3 p4 p5
     refine wpAnyH_ready (rs := [18]) (by kernel_rfl) (by simp) ?_
     refine tkC (fun K hK => ?_)
     have Q9 := Lib.hid (show Blk ((((((wp.setCell ⟨wr.heap.size, 0, none⟩ (.int .i64 5)).setCell ⟨wr.heap.size, 1, none⟩ (.int .i64 sz)).setCell ⟨wr.heap.size, 2, none⟩ (.int .u32 pn)).setCell ⟨wr.heap.size, 3, none⟩ (.int .u32 nx)).setCell ⟨wr.heap.size, 4, none⟩ (.int .u64 tx)).setCell ⟨wr.heap.size, 5, none⟩ (.string B)) wr.heap.size 41 #[.int .i64 5, .int .i64 sz, .int .u32 pn, .int .u32 nx, .int .u64 tx, .string B] from six_at HZp.out)
     have HW9 := Lib.hid (show Below wr.heap.size wr ((((((wp.setCell ⟨wr.heap.size, 0, none⟩ (.int .i64 5)).setCell ⟨wr.heap.size, 1, none⟩ (.int .i64 sz)).setCell ⟨wr.heap.size, 2, none⟩ (.int .u32 pn)).setCell ⟨wr.heap.size, 3, none⟩ (.int .u32 nx)).setCell ⟨wr.heap.size, 4, none⟩ (.int .u64 tx)).setCell ⟨wr.heap.size, 5, none⟩ (.string B)) from six_below HWp.out (Nat.le_refl _))
     obtain ⟨w9, hw9⟩ : ∃ x, x = ((((((wp.setCell ⟨wr.heap.size, 0, none⟩ (.int .i64 5)).setCell ⟨wr.heap.size, 1, none⟩ (.int .i64 sz)).setCell ⟨wr.heap.size, 2, none⟩ (.int .u32 pn)).setCell ⟨wr.heap.size, 3, none⟩ (.int .u32 nx)).setCell ⟨wr.heap.size, 4, none⟩ (.int .u64 tx)).setCell ⟨wr.heap.size, 5, none⟩ (.string B)) := ⟨_, rfl⟩
     rw [← hw9] at Q9 HW9
     go_simp
     rw [← hw9]
     clear hw9
     refine hK.out _ _ (hS _ HW9.out) (fun hHeld => ?_)
     clear hK K
     try simp only [tkP]
     refine tkA (i := 19) ?_
     try simp only [tkP]
     refine wpAnyH_done (by kernel_rfl) ?_ _
     clear hHeld
     try clear p0 p1 p2 p3 p4 p5 f0 f1 f2 f3 f4 f5
     have q0 := Q9.out.cell 0
     have q1 := Q9.out.cell 1
     have q2 := Q9.out.cell 2
     have q3 := Q9.out.cell 3
     have q4 := Q9.out.cell 4
     have q5 := Q9.out.cell 5
     simp at q0 q1 q2 q3 q4 q5
     have HX := Lib.hid ((own_below HO.out HW9.out).alloc (.cells #[.int .i64 5, .int .i64 sz, .int .u32 pn, .int .u32 nx, .int .u64 tx, .string B] 41))
     have HWX := Lib.hid ((HW.out.trans (HW9.out.mono HW.out.size)).alloc (HW.out.trans (HW9.out.mono HW.out.size)).size (.cells #[.int .i64 5, .int .i64 sz, .int .u32 pn, .int .u32 nx, .int .u64 tx, .string B] 41))
     go_wp2_with (at_builtin; refine wpList_append_any _ rfl (.tmp 69) (.tmp 71) _ rfl w2.heap.size 41 i0 _ 6 48 Tryz.underlying48 hi0 hz0 hz1 hz2 rfl (by omega) _ k _ rfl HX.out (w9.heap.size + 1) (some ⟨w9.heap.size, 0, none⟩) 1 1 (pgcs [⟨5, sz, pn, nx, tx, B⟩]) rfl (reads_own (n := 1) (Blk.new _ _ _) rfl) (pgcs_one _) (by unfold maxLen; omega) (by omega) HWX.out.size ?_; intro v5 w5 hown5 hg5 hat; clear hat; rw [← pgcs_append, ← HTs.out] at hown5; obtain ⟨A5, c5, rfl, _, _, _⟩ := own_form hown5; have HO5 := Lib.hid hown5; have HW5 := Lib.hid (HWX.out.grown hg5 HWX.out.size (fun g hg => (HX.out.lt g hg).1)); clear hown5 hg5)
     go_roundw
     case rel =>
      first
       | exact ⟨k + 1, A5, c5, by omega, by go_num, rfl, HO5, HW5⟩
       | ((repeat apply Exists.intro); exact ⟨⟨k + 1, A5, c5, by omega, by go_num, rfl, HO5, HW5⟩, rfl⟩)
     case measure => simp [intOf]; omega
   ·skip
    obtain ⟨wa, hwa⟩ : ∃ x, x = (wr.alloc (.cells #[.int .i64 0, .int .i64 0, .int .u32 0, .int .u32 0, .int .u64 0, .string ByteArray.empty] 41)).drew := ⟨_, rfl⟩
    have HZa := Lib.hid (show Blk wa wr.heap.size 41 #[.int .i64 0, .int .i64 0, .int .u32 0, .int .u32 0, .int .u64 0, .string ByteArray.empty] by rw [hwa]; exact (Blk.new _ _ _).drew)
    have HWa := Lib.hid (show Below wr.heap.size wr wa by rw [hwa]; exact (Below.refl wr.heap.size wr).alloc (Nat.le_refl _) _ |>.drew)
    go_simp
    rw [← hwa]
    clear hwa
    refine hK.out _ _ (hS _ HWa.out) (fun hHeld => ?_)
    clear hK K
    try simp only [tkP]
    refine wpAnyH_ready (rs := [7]) (by kernel_rfl) (by simp) ?_
    refine tkC (fun K hK => ?_)
    go_simp
    refine (HNx _ HWa.out).mono ?_
    rintro e wq ⟨rfl, rfl⟩
    refine hK.out _ _ (hS _ HWa.out) (fun hHeld => ?_)
    clear hK K
    try simp only [tkP]
    refine wpAnyH_ready (rs := [13]) (by kernel_rfl) (by simp) ?_
    refine tkC (fun K hK => ?_)
    go_simp
    refine (HPg _).mono ?_
    rintro e w4 ⟨rfl, hb4⟩
    have HW4 := Lib.hid (HWa.out.trans (hb4.mono HWa.out.size))
    refine hK.out _ _ (hS _ HW4.out) (fun hHeld => ?_)
    clear hK K
    try simp only [tkP]
    refine tkA (i := 14) ?_
    try simp only [tkP]
    refine tkA (i := 15) ?_
    try simp only [tkP]
    refine tkA (i := 16) ?_
    try simp only [tkP]
    have HZp := Lib.hid (HZa.out.below hb4 HZa.out.lt)
    have HWp := HW4
    generalize w4 = wp at *
    have p0 := HZp.out.cell 0
    have f0 := HZp.out.frozen 0
    have p1 := HZp.out.cell 1
    have f1 := HZp.out.frozen 1
    have p2 := HZp.out.cell 2
    have f2 := HZp.out.frozen 2
    have p3 := HZp.out.cell 3
    have f3 := HZp.out.frozen 3
    have p4 := HZp.out.cell 4
    have f4 := HZp.out.frozen 4
    have p5 := HZp.out.cell 5
    have f5 := HZp.out.frozen 5
    simp at p0 p1 p2 p3 p4 p5
    refine wpAnyH_ready (rs := [18]) (by kernel_rfl) (by simp) ?_
    refine tkC (fun K hK => ?_)
    have Q9 := Lib.hid (show Blk ((((((wp.setCell ⟨wr.heap.size, 0, none⟩ (.int .i64 5)).setCell ⟨wr.heap.size, 1, none⟩ (.int .i64 sz)).setCell ⟨wr.heap.size, 2, none⟩ (.int .u32 pn)).setCell ⟨wr.heap.size, 3, none⟩ (.int .u32 nx)).setCell ⟨wr.heap.size, 4, none⟩ (.int .u64 tx)).setCell ⟨wr.heap.size, 5, none⟩ (.string B)) wr.heap.size 41 #[.int .i64 5, .int .i64 sz, .int .u32 pn, .int .u32 nx, .int .u64 tx, .string B] from six_at HZp.out)
    have HW9 := Lib.hid (show Below wr.heap.size wr ((((((wp.setCell ⟨wr.heap.size, 0, none⟩ (.int .i64 5)).setCell ⟨wr.heap.size, 1, none⟩ (.int .i64 sz)).setCell ⟨wr.heap.size, 2, none⟩ (.int .u32 pn)).setCell ⟨wr.heap.size, 3, none⟩ (.int .u32 nx)).setCell ⟨wr.heap.size, 4, none⟩ (.int .u64 tx)).setCell ⟨wr.heap.size, 5, none⟩ (.string B)) from six_below HWp.out (Nat.le_refl _))
    obtain ⟨w9, hw9⟩ : ∃ x, x = ((((((wp.setCell ⟨wr.heap.size, 0, none⟩ (.int .i64 5)).setCell ⟨wr.heap.size, 1, none⟩ (.int .i64 sz)).setCell ⟨wr.heap.size, 2, none⟩ (.int .u32 pn)).setCell ⟨wr.heap.size, 3, none⟩ (.int .u32 nx)).setCell ⟨wr.heap.size, 4, none⟩ (.int .u64 tx)).setCell ⟨wr.heap.size, 5, none⟩ (.string B)) := ⟨_, rfl⟩
    rw [← hw9] at Q9 HW9
    go_simp
    rw [← hw9]
    clear hw9
    refine hK.out _ _ (hS _ HW9.out) (fun hHeld => ?_)
    clear hK K
    try simp only [tkP]
    refine tkA (i := 19) ?_
    try simp only [tkP]
    refine wpAnyH_done (by kernel_rfl) ?_ _
    clear hHeld
    try clear p0 p1 p2 p3 p4 p5 f0 f1 f2 f3 f4 f5
    have q0 := Q9.out.cell 0
    have q1 := Q9.out.cell 1
    have q2 := Q9.out.cell 2
    have q3 := Q9.out.cell 3
    have q4 := Q9.out.cell 4
    have q5 := Q9.out.cell 5
    simp at q0 q1 q2 q3 q4 q5
    have HX := Lib.hid ((own_below HO.out HW9.out).alloc (.cells #[.int .i64 5, .int .i64 sz, .int .u32 pn, .int .u32 nx, .int .u64 tx, .string B] 41))
    have HWX := Lib.hid ((HW.out.trans (HW9.out.mono HW.out.size)).alloc (HW.out.trans (HW9.out.mono HW.out.size)).size (.cells #[.int .i64 5, .int .i64 sz, .int .u32 pn, .int .u32 nx, .int .u64 tx, .string B] 41))
    go_wp2_with (at_builtin; refine wpList_append_any _ rfl (.tmp 69) (.tmp 71) _ rfl w2.heap.size 41 i0 _ 6 48 Tryz.underlying48 hi0 hz0 hz1 hz2 rfl (by omega) _ k _ rfl HX.out (w9.heap.size + 1) (some ⟨w9.heap.size, 0, none⟩) 1 1 (pgcs [⟨5, sz, pn, nx, tx, B⟩]) rfl (reads_own (n := 1) (Blk.new _ _ _) rfl) (pgcs_one _) (by unfold maxLen; omega) (by omega) HWX.out.size ?_; intro v5 w5 hown5 hg5 hat; clear hat; rw [← pgcs_append, ← HTs.out] at hown5; obtain ⟨A5, c5, rfl, _, _, _⟩ := own_form hown5; have HO5 := Lib.hid hown5; have HW5 := Lib.hid (HWX.out.grown hg5 HWX.out.size (fun g hg => (HX.out.lt g hg).1)); clear hown5 hg5)
    go_roundw
    case rel =>
     first
      | exact ⟨k + 1, A5, c5, by omega, by go_num, rfl, HO5, HW5⟩
      | ((repeat apply Exists.intro); exact ⟨⟨k + 1, A5, c5, by omega, by go_num, rfl, HO5, HW5⟩, rfl⟩)
    case measure => simp [intOf]; omega
  ·obtain rfl : k = np := by omega
   have ht : L.take k = L := List.take_of_length_le (by rw [HLl.out]; exact Nat.le_refl _)
   rw [ht] at HO
   clear hlt ht
   have HBB := Lib.hid (HB2.out.trans (HW.out.mono HB2.out.size))
   go_wp2_with fail
   go_ret2
   exact ⟨A', k, c', rfl, Reads.of_own HO.out, HBB.out⟩
theorem ron_any (size : Int) (tx : Nat) (A : Option Addr) (n c : Nat) (ps : List Nat) (v : ByteArray) (w : World) (hr : Reads w w.heap.size 1 A n (ucells ps)) (hn : n ≤ 1000000) (hv : v.size ≤ 1000000) :
  Calls Tryz.prog 93 #[.int .i64 size, .int .u64 tx, .slice A n c, .string v] w (PgsPost (onL size tx ps v) w) := by
 rcases hg : goodSize size with _ | _
 ·exact ron_0 size tx A n c ps v w hr hn hv hg
 by_cases h1 : v.size = 0
 ·exact ron_1 size tx A n c ps v w hr hn hv hg h1
 by_cases h2 : 4096 < v.size
 ·exact ron_2 size tx A n c ps v w hr hn hv hg (by omega) h2
 by_cases h3 : (partsL size v).length = ps.length
 rotate_left
 ·exact ron_3 size tx A n c ps v w hr hn hv hg (by omega) (by omega) h3
 rcases h4 : fineL ps with _ | _
 ·exact ron_4 size tx A n c ps v w hr hn hv hg (by omega) (by omega) h3 h4
 by_cases h5 : 4611686018427387904 < tx
 ·exact ron_5 size tx A n c ps v w hr hn hv hg (by omega) (by omega) h3 h4 h5
 have ho := onL_yes (tx := tx) hg (by omega) (by omega) h3 h4 (by omega)
 obtain ⟨z, rfl, _⟩ := good_nat hg
 rw [ho]
 exact ron_yes z tx A n c ps v w hr hn hv _ ho
def pagesL (size : Int) (tx f : Nat) (v : ByteArray) : Option (List Pg) := onL size tx (runW f (needN size v.size)) v
theorem needN_le (size : Int) (n : Nat) (h : n ≤ 1000000) : needN size n ≤ 1000000 := by
 unfold needN
 split
 ·rename_i hc
  simp only [Bool.and_eq_true, decide_eq_true_eq] at hc
  have := Nat.div_le_self ((n : Int).toNat - 1) (size - 24).toNat
  omega
 ·omega
set_option maxRecDepth 100000 in
set_option maxHeartbeats 3200000 in
theorem rpages11_any (size : Int) (tx f : Nat) (v : ByteArray) (w : World) (hf : f < 4294967296) (hv : v.size ≤ 1000000) :
  Calls Tryz.prog 69 #[.int .i64 size, .int .u64 tx, .int .u32 f, .string v] w (PgsPost (pagesL size tx f v) w) := by
 by_cases h : 4096 < v.size
 ·have HE := Lib.hid (show pagesL size tx f v = none from onL_no (.inr (.inr (.inl h))))
  have h1 : decide ((4096 : Int) < (v.size : Int)) = true := by simp; omega
  have h2 : decide (4096 < v.size) = true := by simp; omega
  clear h
  go_enter Tryz.func69, Tryz.ntmps69
  go_wp2_with fail
  go_ret2
  rw [HE.out]
  exact ⟨rfl, Below.refl _ _⟩
 ·have h1 : decide ((4096 : Int) < (v.size : Int)) = false := by simp; omega
  have h2 : decide (4096 < v.size) = false := by simp; omega
  obtain ⟨m, hm⟩ : ∃ m, m = needN size v.size := ⟨_, rfl⟩
  have hm9 : m ≤ 1000000 := by rw [hm]; exact needN_le _ _ hv
  have HN := fun w => rneed9_any size v.size w (by omega)
  rw [← hm] at HN
  obtain ⟨o, ho⟩ : ∃ o, o = pagesL size tx f v := ⟨_, rfl⟩
  have HE := Lib.hid (show o = onL size tx (runW f m) v by rw [ho, pagesL, hm])
  rw [← ho]
  have HV := Lib.hid hv
  clear h hm ho hv
  go_enter Tryz.func69, Tryz.ntmps69
  go_wp2_with (go_at_call 95; refine (HN _).mono ?_; rintro e w' ⟨rfl, rfl⟩)
  refine (rrun_any f m _ hf hm9).mono ?_
  rintro e w1 ⟨A, c, rfl, hown, hb⟩
  have HR := Lib.hid (Reads.of_own hown)
  have HB := Lib.hid hb
  clear hown hb
  go_wp2_with fail
  refine (ron_any size tx A m c _ v _ HR.out hm9 HV.out).mono ?_
  rw [← HE.out]
  rintro e w2 h2
  cases o with
  | none =>
   obtain ⟨rfl, hb⟩ := h2
   have HB2 := Lib.hid (HB.out.trans (hb.mono HB.out.size))
   clear hb
   go_wp2_with fail
   go_ret2
   exact ⟨rfl, HB2.out⟩
  | some L =>
   obtain ⟨A3, n3, c3, rfl, hr3, hb⟩ := h2
   have HB2 := Lib.hid (HB.out.trans (hb.mono HB.out.size))
   have HR3 := Lib.hid hr3
   clear hb hr3
   go_wp2_with fail
   go_ret2
   exact ⟨A3, n3, c3, rfl, HR3.out, HB2.out⟩
end Go.Proofs.YtmmjckokjmpfpaaGreat

namespace Go.Proofs.YtmmjckokjmpfpaaGreat
open Go.RowKit
open Go.Lib hiding intOf
attribute [local go_sem ↓] Go.wp_at_zero Go.wp_at_succ

def inB (z : Nat) (n : Int) : Bool := decide (0 ≤ n) && decide (n ≤ ((min (z / 8) 255 : Nat) : Int))
theorem rin_any (z : Nat) (n : Int) (w : World) (hz : (z : Int) ≤ 9223372036854775807) : Calls Tryz.prog 67 #[.int .i64 z, .int .i64 n] w fun e w' => e = .returned (.bool (inB z n)) ∧ w' = w := by
 by_cases h1 : 0 ≤ n
 ·have hm : ((min (z / 8) 255 : Nat) : Int) = min ((z : Int) / 8) 255 := by omega
  have hq : (z : Int).tdiv 8 = (z : Int) / 8 := by rw [Int.tdiv_eq_ediv_of_nonneg (by omega)]
  have hw : wrap64 ((z : Int) / 8) = (z : Int) / 8 := by
   have := wrap64_nat (z / 8) (by omega)
   simpa using this
  have HE := Lib.hid (show inB z n = decide (n ≤ min ((z : Int) / 8) 255) by rw [inB, hm, decide_eq_true h1, Bool.true_and])
  clear hm
  go_enter Tryz.func67, Tryz.ntmps67
  go_wp2
  go_ret
  exact ⟨by rw [HE.out]; rfl, rfl⟩
 ·have HE := Lib.hid (show inB z n = false by simp [inB, h1])
  go_enter Tryz.func67, Tryz.ntmps67
  go_wp2
  go_ret
  exact ⟨by rw [HE.out]; rfl, rfl⟩
theorem rone8_any (b : It) (w : World) (hs : b.ky.size ≤ 140737488351232) (hv : b.vl.size ≤ 140737488351232) : Calls Tryz.prog 96 #[.agg #[.string b.ky, .string b.vl, .bool b.ov, .int .i64 b.ln, .int .u32 b.hd]] w fun e w' => e = .returned (.int .i64 (oneI b)) ∧ Below w.heap.size w w' := by
 obtain ⟨ky, vl, ov, ln, hd⟩ := b
 cases ov
 ·have HE := Lib.hid (show ((oneI ⟨ky, vl, false, ln, hd⟩ : Nat) : Int) = 3 + (ky.size : Int) + (vl.size : Int) by simp [oneI])
  dsimp only at hs hv
  go_enter Tryz.func96, Tryz.ntmps96
  go_wp2
  go_ret
  exact ⟨by rw [HE.out]; rfl, (Below.refl _ _).alloc (Nat.le_refl _) _⟩
 ·have HE := Lib.hid (show ((oneI ⟨ky, vl, true, ln, hd⟩ : Nat) : Int) = 10 + (ky.size : Int) by simp [oneI])
  dsimp only at hs hv
  go_enter Tryz.func96, Tryz.ntmps96
  go_wp2
  go_ret
  exact ⟨by rw [HE.out]; rfl, (Below.refl _ _).alloc (Nat.le_refl _) _⟩
set_option maxRecDepth 100000 in
set_option maxHeartbeats 3200000 in
theorem rsize8_any (A : Option Addr) (n c : Nat) (l : List It) (w : World) (hr : Reads w w.heap.size 5 A n (itc l)) (hn : n ≤ maxLen) (hx : NearI l) (hs : sizeI l ≤ 9007199254740992) :
  Calls Tryz.prog 70 #[.slice A n c] w fun e w' => e = .returned (.int .i64 (sizeI l)) ∧ Below w.heap.size w w' := by
 have hl := it_len hr
 have HR := Lib.hid hr
 have HL := Lib.hid hl
 have HX := Lib.hid hx
 unfold maxLen at hn
 clear hr hl hx
 go_enter Tryz.func70, Tryz.ntmps70
 go_wp2_with fail
 go_loopw [3, 4] (fun s i wr => ∃ k : Nat, k ≤ n ∧ i = .int .i64 k ∧ s = .int .i64 (sizeI (l.take k)) ∧ Hid (Below w.heap.size w wr)) (fun _ i _ => n - (intOf i).toNat)
 case atStart => exact ⟨0, Nat.zero_le _, rfl, by simp [sizeI], Lib.hid (Below.refl _ _)⟩
 case round =>
  obtain ⟨k, hk, rfl, rfl, HB⟩ := hrel
  by_cases hlt : k < n
  ·obtain ⟨ad, x, rfl, _, hp, hx, hc⟩ := it_at HR.out hlt
   obtain ⟨hc0, hc1, hc2, hc3, hc4⟩ := hc.below HB.out hp
   have hk0 : (0 : Int) ≤ k := by omega
   have hk1 : (k : Int) < n := by omega
   have hsz := sizeI_take_succ hx
   have hle := sizeI_take_le l (k + 1)
   have hxx := HX.out x (List.mem_of_getElem? hx)
   have HS := Lib.hid hsz
   have hks : sizeI (l.take k) + oneI x ≤ 9007199254740992 := by omega
   have HO := fun w => rone8_any x w hxx.1 hxx.2
   clear hx hsz hle hxx
   go_wp2_with fail
   refine (HO _).mono ?_
   rintro e w1 ⟨rfl, hb⟩
   replace HB := Lib.hid (HB.out.trans (hb.mono HB.out.size))
   clear hb hc hc0 hc1 hc2 hc3 hc4 HO
   have hadd : ((sizeI (l.take k) : Nat) : Int) + ((oneI x : Nat) : Int) = ((sizeI (l.take (k + 1)) : Nat) : Int) := by rw [HS.out]; omega
   go_wp2
   go_roundw
   case rel =>
    first
     | exact ⟨k + 1, by omega, by go_num, by first | rfl | (rw [← hadd]; go_num), HB⟩
     | ((repeat apply Exists.intro); exact ⟨⟨k + 1, by omega, by go_num, by first | rfl | (rw [← hadd]; go_num), HB⟩, rfl⟩)
   case measure => simp [intOf]; omega
  ·obtain rfl : k = n := by omega
   have ht : l.take k = l := List.take_of_length_le (by rw [HL.out]; exact Nat.le_refl _)
   rw [ht]
   clear hlt
   go_wp2
   go_ret
   exact ⟨rfl, HB.out⟩
theorem okIt_in {b : It} (h : b.ov = false) : okIt b = (keyF b.ky && (decide (b.vl.size ≤ 255) && (decide (b.ln = 0) && decide (b.hd = 0)))) := by rw [okIt, if_neg (by rw [h]; decide)]
theorem okIt_ov {b : It} (h : b.ov = true) : okIt b = (keyF b.ky && (decide (b.vl.size = 0) && (decide (1 ≤ b.ln) && (decide (b.ln ≤ 4096) && numB b.hd)))) := by rw [okIt, if_pos h]
set_option maxRecDepth 100000 in
set_option maxHeartbeats 3200000 in
theorem rmayone_any (b : It) (w : World) : Calls Tryz.prog 111 #[.agg #[.string b.ky, .string b.vl, .bool b.ov, .int .i64 b.ln, .int .u32 b.hd]] w fun e w' => e = .returned (.bool (okIt b)) ∧ Below w.heap.size w w' := by
 obtain ⟨ky, vl, ov, ln, hd⟩ := b
 have HK := fun w => rkey_any ky w
 have HN := fun w => rnumB_any hd w
 have HB := Lib.hid ((Below.refl w.heap.size w).alloc (Nat.le_refl _) (.cells #[.string ky, .string vl, .bool ov, .int .i64 ln, .int .u32 hd] 76))
 have hvz : vl.toList.isEmpty = decide (vl.size = 0) := by
  rw [Bool.eq_iff_iff, List.isEmpty_iff_length_eq_zero, ByteArray.toList_eq, size_list, decide_eq_true_eq]
 cases ov
 ·clear hvz
  have hE := okIt_in (b := ⟨ky, vl, false, ln, hd⟩) rfl
  dsimp only at hE
  rcases hk : keyF ky with _ | _
  ·rw [hk] at HK hE
   have HE := Lib.hid hE
   clear hE hk
   go_enter Tryz.func111, Tryz.ntmps111
   go_wp2_with (go_at_call 81; refine (HK _).mono ?_; rintro e w' ⟨rfl, rfl⟩)
   go_ret
   exact ⟨by rw [HE.out]; rfl, HB.out⟩
  rw [hk] at HK hE
  by_cases h1 : vl.size ≤ 255
  rotate_left
  ·have h1' : decide ((vl.size : Int) ≤ 255) = false := by simp; omega
   rw [decide_eq_false h1] at hE
   have HE := Lib.hid hE
   clear hE hk h1
   go_enter Tryz.func111, Tryz.ntmps111
   go_wp2_with (go_at_call 81; refine (HK _).mono ?_; rintro e w' ⟨rfl, rfl⟩)
   go_ret
   exact ⟨by rw [HE.out]; rfl, HB.out⟩
  have h1' : decide ((vl.size : Int) ≤ 255) = true := by simp; omega
  rw [decide_eq_true h1] at hE
  by_cases h2 : ln = 0
  rotate_left
  ·have h2' : (ln == 0) = false := by simpa using h2
   rw [decide_eq_false h2] at hE
   have HE := Lib.hid hE
   clear hE hk h1 h2
   go_enter Tryz.func111, Tryz.ntmps111
   go_wp2_with (go_at_call 81; refine (HK _).mono ?_; rintro e w' ⟨rfl, rfl⟩)
   go_ret
   exact ⟨by rw [HE.out]; rfl, HB.out⟩
  have h2' : (ln == 0) = true := by simpa using h2
  rw [decide_eq_true h2] at hE
  have h3' : ((hd : Int) == 0) = decide (hd = 0) := by
   by_cases h3 : hd = 0
   ·simp [h3]
   ·simp [h3]
  have HE := Lib.hid hE
  have H3 := Lib.hid h3'
  clear hE hk h1 h2 h3'
  go_enter Tryz.func111, Tryz.ntmps111
  go_wp2_with (go_at_call 81; refine (HK _).mono ?_; rintro e w' ⟨rfl, rfl⟩)
  go_ret
  exact ⟨by rw [HE.out, ← H3.out]; rfl, HB.out⟩
 ·have hE := okIt_ov (b := ⟨ky, vl, true, ln, hd⟩) rfl
  dsimp only at hE
  rcases hk : keyF ky with _ | _
  ·rw [hk] at HK hE
   have HE := Lib.hid hE
   clear hE hk hvz
   go_enter Tryz.func111, Tryz.ntmps111
   go_wp2_with (go_at_call 81; refine (HK _).mono ?_; rintro e w' ⟨rfl, rfl⟩)
   go_ret
   exact ⟨by rw [HE.out]; rfl, HB.out⟩
  rw [hk] at HK hE
  by_cases h1 : vl.size = 0
  rotate_left
  ·rw [decide_eq_false h1] at hE hvz
   have HE := Lib.hid hE
   clear hE hk h1
   go_enter Tryz.func111, Tryz.ntmps111
   go_wp2_with (go_at_call 81; refine (HK _).mono ?_; rintro e w' ⟨rfl, rfl⟩)
   go_ret
   exact ⟨by rw [HE.out]; rfl, HB.out⟩
  rw [decide_eq_true h1] at hE hvz
  have hvn : vl.toList = [] := List.isEmpty_iff.1 hvz
  clear hvz
  by_cases h2 : 1 ≤ ln
  rotate_left
  ·have h2' : decide (1 ≤ ln) = false := decide_eq_false h2
   rw [h2'] at hE
   have HE := Lib.hid hE
   clear hE hk h1 h2
   go_enter Tryz.func111, Tryz.ntmps111
   go_wp2_with (go_at_call 81; refine (HK _).mono ?_; rintro e w' ⟨rfl, rfl⟩)
   go_ret
   exact ⟨by rw [HE.out]; rfl, HB.out⟩
  rw [decide_eq_true h2] at hE
  by_cases h3 : ln ≤ 4096
  rotate_left
  ·have h3' : decide (ln ≤ 4096) = false := decide_eq_false h3
   rw [h3'] at hE
   have HE := Lib.hid hE
   clear hE hk h1
   go_enter Tryz.func111, Tryz.ntmps111
   go_wp2_with (go_at_call 81; refine (HK _).mono ?_; rintro e w' ⟨rfl, rfl⟩)
   go_ret
   exact ⟨by rw [HE.out]; rfl, HB.out⟩
  rw [decide_eq_true h3] at hE
  have HE := Lib.hid hE
  clear hE hk h1
  go_enter Tryz.func111, Tryz.ntmps111
  go_wp2_with (first | (go_at_call 81; refine (HK _).mono ?_; rintro e w' ⟨rfl, rfl⟩) | (go_at_call 50; refine (HN _).mono ?_; rintro e w' ⟨rfl, rfl⟩))
  go_ret
  exact ⟨by rw [HE.out]; rfl, HB.out⟩
end Go.Proofs.YtmmjckokjmpfpaaGreat

