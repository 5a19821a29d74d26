/-
  Contract of the reference's On of layer 11, where it makes pages. (Written by wip/tools/gen_ref11o.py.)
-/
import Derived.Test.YtanbbnogdhnikaaGreatJ27
set_option linter.unusedVariables false
set_option linter.unusedSimpArgs false
set_option maxRecDepth 300000
set_option maxHeartbeats 25600000
namespace Go.Proofs.YtanbbnogdhnikaaGreat
open Go.RowKit
open Go.Lib hiding intOf
attribute [local go_sem ↓] Go.wp_at_zero Go.wp_at_succ

theorem ron_yes (z:Nat) (tx:Nat) (A:Option Addr) (n c:Nat) (ps:List Nat) (v:ByteArray) (w:World) (hr:Reads w w.heap.size 1 A n (ucells ps)) (hn:n≤1000000) (hv:v.size≤1000000) (L:List Pg) (ho:onL z tx ps v=some L):Calls Tryz.prog 93 #[.int .i64 z,.int .u64 tx,.slice A n c,.string v] w (PgsPost (some L) w):=by
 obtain⟨hg,h1,h2,h3,h4,h5,hL⟩:=onL_some ho
 have hpl:(partsL z v).length=ps.length:=by unfold partsL;rw[if_pos hg,chunks_len,show ((z:Int)-24).toNat=z-24 by omega,h3]
 obtain⟨size,hsz⟩ : ∃ size:Int,size=z:=⟨_,rfl⟩
 rw[← hsz] at hg hpl ⊢
 have HPt:=Hd (fun i (hi:i<ps.length)=>on_part ho hi)
 have HLl:=Hd (show L.length=n by rw[hL,List.length_map,List.length_range];exact ulen hr)
 have HLat:=Hd (fun i (hi:i<ps.length)=>show L[i]? = some (onPg z tx ps v i) by rw[hL,List.getElem?_map,List.getElem?_range hi];rfl)
 have HFi:=Hd h4
 have HG:=fun w=>rgood_any size w
 rw[hg] at HG
 have he:(v.toList == [])=false:=by rw[Bool.eq_false_iff];intro h;rw[beq_iff_eq] at h;have h2:=size_list v;rw[← ByteArray.toList_eq,h] at h2;simp at h2;omega
 have hbg:decide ((4096:Int)<(v.size:Int))=false:=by simp;omega
 have hbg2:decide (4096<v.size)=false:=by simp;omega
 have htx:decide ((4611686018427387904:Int)<tx)=false:=by simp;omega
 have hl:=ulen hr
 obtain⟨i0,hi0,hz0,hz1,hz2⟩:=info_parts infoPg11
 obtain⟨hzp,hi⟩:=zero_of_info infoPg
 have HI:=Hd hi
 have HSz:=Hd hsz
 clear hi hg h1 h2 h4 h5 hL ho h3 hsz
 go_enter Tryz.func93,Tryz.ntmps93
 go_wp2_with fail
 refine (rparts9_any size v w hv).mono ?_
 rintro e w1 ⟨Ap,np,cp,rfl,hrp,_,_,hb⟩
 have hnp:np=(partsL size v).length:=by have:=hrp.1;simpa [strc] using this.symm
 have HB:=Hd hb
 have HR:=Hd ((hr.below hb).more hb.size)
 have HRp:=Hd hrp
 clear hb hrp hr
 have hne:((np:Int) != (n:Int))=false:=by simp;omega
 have hne2:(np != n)=false:=by simp;omega
 have hnn:np=n:=by omega
 subst hnn
 have HLs:=Hd hl
 have HPl:=Hd hpl
 clear hnp hl hpl
 go_wp2_with (go_at_call 32;refine (HG _).mono ?_;rintro e w' ⟨rfl,rfl⟩)
 refine (rfine_any A np c ps _ HR.out hn).mono ?_
 rw[HFi.out]
 rintro e w2 ⟨rfl,q,hq⟩
 have HB2:=Hd (show Below w.heap.size w w2 by rw[hq];exact below_drewN HB.out q)
 have HR2:=Hd (show Reads w2 w1.heap.size 1 A np (ucells ps) by rw[hq];exact HR.out.drewN q)
 have HRp2:=Hd (show Reads w2 w1.heap.size 1 Ap np (strc (partsL size v)) by rw[hq];exact HRp.out.drewN q)
 have HW1:=Hd (show w1.heap.size≤w2.heap.size by rw[hq];exact Nat.le_refl _)
 clear hq HR HRp HB hne hne2 HG hv
 go_wp2_with fail
 clear he hbg hbg2 htx
 go_loopw [11,12] (fun b i wr=>∃ (k:Nat) (A':Option Addr) (c':Nat),k≤np∧i=.int .i64 k∧b=.slice A' k c'∧Hid (wr.ownsRow w2.heap.size 41 6 (.slice A' k c') k (pgcs (L.take k)))∧Hid (Below w2.heap.size w2 wr)) (fun _ i _=>np-(intOf i).toNat)
 case atStart=>exact⟨0,none,0,Nat.zero_le _,rfl,rfl,Hd (World.ownsRow_nil _ _ _ _),Hd (Below.refl _ _)⟩
 case round =>
  obtain⟨k,A',c',hk,rfl,rfl,HO,HW⟩:=hrel
  by_cases hlt:k<np
  ·have HRr:=Hd (HR2.out.below (HW.out.mono HW1.out))
   have HPr:=Hd (HRp2.out.below (HW.out.mono HW1.out))
   have hBB:w1.heap.size≤wr.heap.size:=Nat.le_trans HW1.out HW.out.size
   obtain⟨ad,rfl,hab,hc0⟩:=ureads_at HRr.out hlt
   obtain⟨ad2,rfl,hab2,hc1⟩:=strc_at HPr.out hlt
   obtain⟨hp1,hp2⟩:=HPt.out k (by rw[HLs.out];exact hlt)
   have hla:=HLat.out k (by rw[HLs.out];exact hlt)
   have hts:=take_snoc_at hla
   obtain⟨pz,hpz⟩ : ∃ x,x=piece (z-24) v k:=⟨_,rfl⟩
   obtain⟨pn,hpn⟩ : ∃ x,x=nthU ps k:=⟨_,rfl⟩
   obtain⟨nx,hnx⟩ : ∃ x,x=nextL ps k:=⟨_,rfl⟩
   have hc1:wr.cell? (ad2.add k)=some (.string pz):=by rw[hc1,HSz.out,hp1,hpz]
   rw[← hpn] at hc0
   rw[← hpz,← hpn,← hnx] at hp2
   have hPg:onPg z tx ps v k=⟨5,pz.size,pn,nx,tx,overBody z pz⟩:=by unfold onPg;rw[hp1,← hpz,← hpn,← hnx]
   rw[hPg] at hts
   have HNx:=fun (wx:World) (hb:Below wr.heap.size wr wx)=>(rnext_any (some ad) np c ps k wx (HRr.out.below (hb.mono hBB)) hn (by omega))
   rw[← hnx] at HNx
   have HPg:=fun (wx:World)=>rpage9_yes z pn nx tx pz wx hp2
   rw[← HSz.out] at HPg
   obtain⟨B,hB⟩ : ∃ B,B=overBody z pz:=⟨_,rfl⟩
   obtain⟨sz,hszz⟩ : ∃ x:Nat,x=pz.size:=⟨_,rfl⟩
   rw[← hB,← hszz] at HPg hts
   have hS:=fun (wx:World) (hb:Below wr.heap.size wr wx)=>show wx.cell? (ad.add k)=some (.int .u32 pn)∧wx.cell? (ad2.add k)=some (.string pz) from ⟨cell_in hc0 hb (by omega),cell_in hc1 hb (by omega)⟩
   have HTs:=Hd hts
   have hk0:(0:Int)≤k:=by omega
   have hk1:(k:Int)<np:=by omega
   clear hpz hpn hnx hp1 hp2 hla hts hPg hB hszz hab hab2
   go_upto_region 8 with fail
   refine wp_region_held_drew (S:=fun wx=>wx.cell? (ad.add k)=some (.int .u32 pn)∧wx.cell? (ad2.add k)=some (.string pz)) (by kernel_rfl) (⟨hc0,hc1⟩) (fun _=>?_)
   have hHeld:=And.intro hc0 hc1
   refine tkL (i:=0) (v:=?_) ?_ (by exact hHeld) ?_
   rotate_left
   ·intro wz hSz;(try dsimp only at hSz);obtain⟨hz1,hz2⟩:=hSz;go_simp;(try with_reducible rfl)
   try simp only[tkP]
   refine tkL (i:=1) (v:=?_) ?_ (by exact hHeld) ?_
   rotate_left
   ·intro wz hSz;(try dsimp only at hSz);obtain⟨hz1,hz2⟩:=hSz;go_simp;(try with_reducible rfl)
   try simp only[tkP]
   refine tkL (i:=2) (v:=?_) ?_ (by exact hHeld) ?_
   rotate_left
   ·intro wz hSz;(try dsimp only at hSz);obtain⟨hz1,hz2⟩:=hSz;go_simp;(try with_reducible rfl)
   try simp only[tkP]
   refine tkL (i:=3) (v:=?_) ?_ (by exact hHeld) ?_
   rotate_left
   ·intro wz hSz;(try dsimp only at hSz);obtain⟨hz1,hz2⟩:=hSz;go_simp;(try with_reducible rfl)
   try simp only[tkP]
   refine tkL (i:=4) (v:=?_) ?_ (by exact hHeld) ?_
   rotate_left
   ·intro wz hSz;(try dsimp only at hSz);obtain⟨hz1,hz2⟩:=hSz;go_simp;(try with_reducible rfl)
   try simp only[tkP]
   refine tkL (i:=5) (v:=?_) ?_ (by exact hHeld) ?_
   rotate_left
   ·intro wz hSz;(try dsimp only at hSz);obtain⟨hz1,hz2⟩:=hSz;go_simp;(try with_reducible rfl)
   try simp only[tkP]
   refine tkL (i:=6) (v:=?_) ?_ (by exact hHeld) ?_
   rotate_left
   ·intro wz hSz;(try dsimp only at hSz);obtain⟨hz1,hz2⟩:=hSz;go_simp;(try with_reducible rfl)
   try simp only[tkP]
   refine tkL (i:=8) (v:=?_) ?_ (by exact hHeld) ?_
   rotate_left
   ·intro wz hSz;(try dsimp only at hSz);obtain⟨hz1,hz2⟩:=hSz;go_simp;(try with_reducible rfl)
   try simp only[tkP]
   refine tkL (i:=9) (v:=?_) ?_ (by exact hHeld) ?_
   rotate_left
   ·intro wz hSz;(try dsimp only at hSz);obtain⟨hz1,hz2⟩:=hSz;go_simp;(try with_reducible rfl)
   try simp only[tkP]
   refine tkL (i:=10) (v:=?_) ?_ (by exact hHeld) ?_
   rotate_left
   ·intro wz hSz;(try dsimp only at hSz);obtain⟨hz1,hz2⟩:=hSz;go_simp;(try with_reducible rfl)
   try simp only[tkP]
   refine tkL (i:=11) (v:=?_) ?_ (by exact hHeld) ?_
   rotate_left
   ·intro wz hSz;(try dsimp only at hSz);obtain⟨hz1,hz2⟩:=hSz;go_simp;(try with_reducible rfl)
   try simp only[tkP]
   refine tkL (i:=12) (v:=?_) ?_ (by exact hHeld) ?_
   rotate_left
   ·intro wz hSz;(try dsimp only at hSz);obtain⟨hz1,hz2⟩:=hSz;go_simp;(try with_reducible rfl)
   try simp only[tkP]
   clear hc0 hc1
   refine wpAnyH_ready (rs:=[7,17]) (by kernel_rfl) (by simp) ?_
   refine AllReadyH.consL rfl (fun K hK=>?_) (AllReadyH.consL rfl (fun K hK=>?_) AllReadyH.nil)
   ·skip
    go_simp
    refine (HNx _ (Below.refl wr.heap.size wr).drew).mono ?_
    rintro e wq ⟨rfl,rfl⟩
    refine hK.out _ _ (hS _ (Below.refl wr.heap.size wr).drew) (fun hHeld=>?_)
    clear hK K
    try simp only[tkP]
    refine wpAnyH_ready (rs:=[13,17]) (by kernel_rfl) (by simp) ?_
    refine AllReadyH.consL rfl (fun K hK=>?_) (AllReadyH.consL rfl (fun K hK=>?_) AllReadyH.nil)
    ·skip
     go_simp
     refine (HPg _).mono ?_
     rintro e w4 ⟨rfl,hb4⟩
     have HW4:=Hd ((Below.refl wr.heap.size wr).drew.trans (hb4.mono (Below.refl wr.heap.size wr).drew.size))
     refine hK.out _ _ (hS _ HW4.out) (fun hHeld=>?_)
     clear hK K
     try simp only[tkP]
     refine tkA (i:=14) ?_
     try simp only[tkP]
     refine tkA (i:=15) ?_
     try simp only[tkP]
     refine tkA (i:=16) ?_
     try simp only[tkP]
     refine wpAnyH_ready (rs:=[17]) (by kernel_rfl) (by simp) ?_
     refine tkC (fun K hK=>?_)
     go_simp
     refine hK.out _ _ (hS _ (HW4.out.alloc HW4.out.size _)) (fun hHeld=>?_)
     clear hK K
     try simp only[tkP]
     refine wpAnyH_ready (rs:=[18]) (by kernel_rfl) (by simp) ?_
     refine tkC (fun K hK=>?_)
     have Q9:=Hd (show Blk (w4.alloc (.cells #[.int .i64 5,.int .i64 sz,.int .u32 pn,.int .u32 nx,.int .u64 tx,.string B] 41)) w4.heap.size 41 #[.int .i64 5,.int .i64 sz,.int .u32 pn,.int .u32 nx,.int .u64 tx,.string B] from Blk.new _ _ _)
     have HW9:=Hd (show Below wr.heap.size wr (w4.alloc (.cells #[.int .i64 5,.int .i64 sz,.int .u32 pn,.int .u32 nx,.int .u64 tx,.string B] 41)) from HW4.out.alloc HW4.out.size _)
     obtain⟨w9,hw9⟩ : ∃ x,x=w4.alloc (.cells #[.int .i64 5,.int .i64 sz,.int .u32 pn,.int .u32 nx,.int .u64 tx,.string B] 41):=⟨_,rfl⟩
     rw[← hw9] at Q9 HW9
     go_simp
     rw[← hw9]
     clear hw9
     refine hK.out _ _ (hS _ HW9.out) (fun hHeld=>?_)
     clear hK K
     try simp only[tkP]
     generalize w4.heap.size=gp at *
     refine tkA (i:=19) ?_
     try simp only[tkP]
     refine wpAnyH_done (by kernel_rfl) ?_ _
     clear hHeld
     try clear p0 p1 p2 p3 p4 p5 f0 f1 f2 f3 f4 f5
     have q0:=Q9.out.cell 0
     have q1:=Q9.out.cell 1
     have q2:=Q9.out.cell 2
     have q3:=Q9.out.cell 3
     have q4:=Q9.out.cell 4
     have q5:=Q9.out.cell 5
     simp at q0 q1 q2 q3 q4 q5
     have HX:=Hd ((own_below HO.out HW9.out).alloc (.cells #[.int .i64 5,.int .i64 sz,.int .u32 pn,.int .u32 nx,.int .u64 tx,.string B] 41))
     have HWX:=Hd ((HW.out.trans (HW9.out.mono HW.out.size)).alloc (HW.out.trans (HW9.out.mono HW.out.size)).size (.cells #[.int .i64 5,.int .i64 sz,.int .u32 pn,.int .u32 nx,.int .u64 tx,.string B] 41))
     go_wp2_with (at_builtin;refine wpList_append_any _ rfl (.tmp 69) (.tmp 71) _ rfl w2.heap.size 41 i0 _ 6 48 Tryz.underlying48 hi0 hz0 hz1 hz2 rfl (by omega) _ k _ rfl HX.out (w9.heap.size+1) (some ⟨w9.heap.size,0,none⟩) 1 1 (pgcs [⟨5,sz,pn,nx,tx,B⟩]) rfl (reads_own (n:=1) (Blk.new _ _ _) rfl) (pgcs_one _) (by unfold maxLen;omega) (by omega) HWX.out.size ?_;intro v5 w5 hown5 hg5 hat;clear hat;rw[← pgcs_append,← HTs.out] at hown5;obtain⟨A5,c5,rfl,_,_,_⟩:=own_form hown5;have HO5:=Hd hown5;have HW5:=Hd (HWX.out.grown hg5 HWX.out.size (fun g hg=>(HX.out.lt g hg).1));clear hown5 hg5)
     go_roundw
     case rel =>
      first
       | exact⟨k+1,A5,c5,by omega,by go_num,rfl,HO5,HW5⟩
       | ((repeat apply Exists.intro);exact⟨⟨k+1,A5,c5,by omega,by go_num,rfl,HO5,HW5⟩,rfl⟩)
     case measure=>simp[intOf];omega
    ·skip
     obtain⟨wa,hwa⟩ : ∃ x,x=(wr.alloc (.cells #[.int .i64 0,.int .i64 0,.int .u32 0,.int .u32 0,.int .u64 0,.string .empty] 41)).drew:=⟨_,rfl⟩
     have HZa:=Hd (show Blk wa wr.heap.size 41 #[.int .i64 0,.int .i64 0,.int .u32 0,.int .u32 0,.int .u64 0,.string .empty] by rw[hwa];exact (Blk.new _ _ _).drew)
     have HWa:=Hd (show Below wr.heap.size wr wa by rw[hwa];exact (Below.refl wr.heap.size wr).alloc (Nat.le_refl _) _ |>.drew)
     go_simp
     rw[← hwa]
     clear hwa
     refine hK.out _ _ (hS _ HWa.out) (fun hHeld=>?_)
     clear hK K
     try simp only[tkP]
     refine wpAnyH_ready (rs:=[13]) (by kernel_rfl) (by simp) ?_
     refine tkC (fun K hK=>?_)
     go_simp
     refine (HPg _).mono ?_
     rintro e w4 ⟨rfl,hb4⟩
     have HW4:=Hd (HWa.out.trans (hb4.mono HWa.out.size))
     refine hK.out _ _ (hS _ HW4.out) (fun hHeld=>?_)
     clear hK K
     try simp only[tkP]
     refine tkA (i:=14) ?_
     try simp only[tkP]
     refine tkA (i:=15) ?_
     try simp only[tkP]
     refine tkA (i:=16) ?_
     try simp only[tkP]
     have HZp:=Hd (HZa.out.below hb4 HZa.out.lt)
     have HWp:=HW4
     generalize w4=wp at *
     have p0:=HZp.out.cell 0
     have f0:=HZp.out.frozen 0
     have p1:=HZp.out.cell 1
     have f1:=HZp.out.frozen 1
     have p2:=HZp.out.cell 2
     have f2:=HZp.out.frozen 2
     have p3:=HZp.out.cell 3
     have f3:=HZp.out.frozen 3
     have p4:=HZp.out.cell 4
     have f4:=HZp.out.frozen 4
     have p5:=HZp.out.cell 5
     have f5:=HZp.out.frozen 5
     simp at p0 p1 p2 p3 p4 p5
     refine wpAnyH_ready (rs:=[18]) (by kernel_rfl) (by simp) ?_
     refine tkC (fun K hK=>?_)
     have Q9:=Hd (show Blk ((((((wp.setCell ⟨wr.heap.size,0,none⟩ (.int .i64 5)).setCell ⟨wr.heap.size,1,none⟩ (.int .i64 sz)).setCell ⟨wr.heap.size,2,none⟩ (.int .u32 pn)).setCell ⟨wr.heap.size,3,none⟩ (.int .u32 nx)).setCell ⟨wr.heap.size,4,none⟩ (.int .u64 tx)).setCell ⟨wr.heap.size,5,none⟩ (.string B)) wr.heap.size 41 #[.int .i64 5,.int .i64 sz,.int .u32 pn,.int .u32 nx,.int .u64 tx,.string B] from six_at HZp.out)
     have HW9:=Hd (show Below wr.heap.size wr ((((((wp.setCell ⟨wr.heap.size,0,none⟩ (.int .i64 5)).setCell ⟨wr.heap.size,1,none⟩ (.int .i64 sz)).setCell ⟨wr.heap.size,2,none⟩ (.int .u32 pn)).setCell ⟨wr.heap.size,3,none⟩ (.int .u32 nx)).setCell ⟨wr.heap.size,4,none⟩ (.int .u64 tx)).setCell ⟨wr.heap.size,5,none⟩ (.string B)) from six_below HWp.out (Nat.le_refl _))
     obtain⟨w9,hw9⟩ : ∃ x,x=((((((wp.setCell ⟨wr.heap.size,0,none⟩ (.int .i64 5)).setCell ⟨wr.heap.size,1,none⟩ (.int .i64 sz)).setCell ⟨wr.heap.size,2,none⟩ (.int .u32 pn)).setCell ⟨wr.heap.size,3,none⟩ (.int .u32 nx)).setCell ⟨wr.heap.size,4,none⟩ (.int .u64 tx)).setCell ⟨wr.heap.size,5,none⟩ (.string B)):=⟨_,rfl⟩
     rw[← hw9] at Q9 HW9
     go_simp
     rw[← hw9]
     clear hw9
     refine hK.out _ _ (hS _ HW9.out) (fun hHeld=>?_)
     clear hK K
     try simp only[tkP]
     refine tkA (i:=19) ?_
     try simp only[tkP]
     refine wpAnyH_done (by kernel_rfl) ?_ _
     clear hHeld
     try clear p0 p1 p2 p3 p4 p5 f0 f1 f2 f3 f4 f5
     have q0:=Q9.out.cell 0
     have q1:=Q9.out.cell 1
     have q2:=Q9.out.cell 2
     have q3:=Q9.out.cell 3
     have q4:=Q9.out.cell 4
     have q5:=Q9.out.cell 5
     simp at q0 q1 q2 q3 q4 q5
     have HX:=Hd ((own_below HO.out HW9.out).alloc (.cells #[.int .i64 5,.int .i64 sz,.int .u32 pn,.int .u32 nx,.int .u64 tx,.string B] 41))
     have HWX:=Hd ((HW.out.trans (HW9.out.mono HW.out.size)).alloc (HW.out.trans (HW9.out.mono HW.out.size)).size (.cells #[.int .i64 5,.int .i64 sz,.int .u32 pn,.int .u32 nx,.int .u64 tx,.string B] 41))
     go_wp2_with (at_builtin;refine wpList_append_any _ rfl (.tmp 69) (.tmp 71) _ rfl w2.heap.size 41 i0 _ 6 48 Tryz.underlying48 hi0 hz0 hz1 hz2 rfl (by omega) _ k _ rfl HX.out (w9.heap.size+1) (some ⟨w9.heap.size,0,none⟩) 1 1 (pgcs [⟨5,sz,pn,nx,tx,B⟩]) rfl (reads_own (n:=1) (Blk.new _ _ _) rfl) (pgcs_one _) (by unfold maxLen;omega) (by omega) HWX.out.size ?_;intro v5 w5 hown5 hg5 hat;clear hat;rw[← pgcs_append,← HTs.out] at hown5;obtain⟨A5,c5,rfl,_,_,_⟩:=own_form hown5;have HO5:=Hd hown5;have HW5:=Hd (HWX.out.grown hg5 HWX.out.size (fun g hg=>(HX.out.lt g hg).1));clear hown5 hg5)
     go_roundw
     case rel =>
      first
       | exact⟨k+1,A5,c5,by omega,by go_num,rfl,HO5,HW5⟩
       | ((repeat apply Exists.intro);exact⟨⟨k+1,A5,c5,by omega,by go_num,rfl,HO5,HW5⟩,rfl⟩)
     case measure=>simp[intOf];omega
   ·skip
    obtain⟨wa,hwa⟩ : ∃ x,x=(wr.alloc (.cells #[.int .i64 0,.int .i64 0,.int .u32 0,.int .u32 0,.int .u64 0,.string .empty] 41)).drew:=⟨_,rfl⟩
    have HZa:=Hd (show Blk wa wr.heap.size 41 #[.int .i64 0,.int .i64 0,.int .u32 0,.int .u32 0,.int .u64 0,.string .empty] by rw[hwa];exact (Blk.new _ _ _).drew)
    have HWa:=Hd (show Below wr.heap.size wr wa by rw[hwa];exact (Below.refl wr.heap.size wr).alloc (Nat.le_refl _) _ |>.drew)
    go_simp
    rw[← hwa]
    clear hwa
    refine hK.out _ _ (hS _ HWa.out) (fun hHeld=>?_)
    clear hK K
    try simp only[tkP]
    refine wpAnyH_ready (rs:=[7]) (by kernel_rfl) (by simp) ?_
    refine tkC (fun K hK=>?_)
    go_simp
    refine (HNx _ HWa.out).mono ?_
    rintro e wq ⟨rfl,rfl⟩
    refine hK.out _ _ (hS _ HWa.out) (fun hHeld=>?_)
    clear hK K
    try simp only[tkP]
    refine wpAnyH_ready (rs:=[13]) (by kernel_rfl) (by simp) ?_
    refine tkC (fun K hK=>?_)
    go_simp
    refine (HPg _).mono ?_
    rintro e w4 ⟨rfl,hb4⟩
    have HW4:=Hd (HWa.out.trans (hb4.mono HWa.out.size))
    refine hK.out _ _ (hS _ HW4.out) (fun hHeld=>?_)
    clear hK K
    try simp only[tkP]
    refine tkA (i:=14) ?_
    try simp only[tkP]
    refine tkA (i:=15) ?_
    try simp only[tkP]
    refine tkA (i:=16) ?_
    try simp only[tkP]
    have HZp:=Hd (HZa.out.below hb4 HZa.out.lt)
    have HWp:=HW4
    generalize w4=wp at *
    have p0:=HZp.out.cell 0
    have f0:=HZp.out.frozen 0
    have p1:=HZp.out.cell 1
    have f1:=HZp.out.frozen 1
    have p2:=HZp.out.cell 2
    have f2:=HZp.out.frozen 2
    have p3:=HZp.out.cell 3
    have f3:=HZp.out.frozen 3
    have p4:=HZp.out.cell 4
    have f4:=HZp.out.frozen 4
    have p5:=HZp.out.cell 5
    have f5:=HZp.out.frozen 5
    simp at p0 p1 p2 p3 p4 p5
    refine wpAnyH_ready (rs:=[18]) (by kernel_rfl) (by simp) ?_
    refine tkC (fun K hK=>?_)
    have Q9:=Hd (show Blk ((((((wp.setCell ⟨wr.heap.size,0,none⟩ (.int .i64 5)).setCell ⟨wr.heap.size,1,none⟩ (.int .i64 sz)).setCell ⟨wr.heap.size,2,none⟩ (.int .u32 pn)).setCell ⟨wr.heap.size,3,none⟩ (.int .u32 nx)).setCell ⟨wr.heap.size,4,none⟩ (.int .u64 tx)).setCell ⟨wr.heap.size,5,none⟩ (.string B)) wr.heap.size 41 #[.int .i64 5,.int .i64 sz,.int .u32 pn,.int .u32 nx,.int .u64 tx,.string B] from six_at HZp.out)
    have HW9:=Hd (show Below wr.heap.size wr ((((((wp.setCell ⟨wr.heap.size,0,none⟩ (.int .i64 5)).setCell ⟨wr.heap.size,1,none⟩ (.int .i64 sz)).setCell ⟨wr.heap.size,2,none⟩ (.int .u32 pn)).setCell ⟨wr.heap.size,3,none⟩ (.int .u32 nx)).setCell ⟨wr.heap.size,4,none⟩ (.int .u64 tx)).setCell ⟨wr.heap.size,5,none⟩ (.string B)) from six_below HWp.out (Nat.le_refl _))
    obtain⟨w9,hw9⟩ : ∃ x,x=((((((wp.setCell ⟨wr.heap.size,0,none⟩ (.int .i64 5)).setCell ⟨wr.heap.size,1,none⟩ (.int .i64 sz)).setCell ⟨wr.heap.size,2,none⟩ (.int .u32 pn)).setCell ⟨wr.heap.size,3,none⟩ (.int .u32 nx)).setCell ⟨wr.heap.size,4,none⟩ (.int .u64 tx)).setCell ⟨wr.heap.size,5,none⟩ (.string B)):=⟨_,rfl⟩
    rw[← hw9] at Q9 HW9
    go_simp
    rw[← hw9]
    clear hw9
    refine hK.out _ _ (hS _ HW9.out) (fun hHeld=>?_)
    clear hK K
    try simp only[tkP]
    refine tkA (i:=19) ?_
    try simp only[tkP]
    refine wpAnyH_done (by kernel_rfl) ?_ _
    clear hHeld
    try clear p0 p1 p2 p3 p4 p5 f0 f1 f2 f3 f4 f5
    have q0:=Q9.out.cell 0
    have q1:=Q9.out.cell 1
    have q2:=Q9.out.cell 2
    have q3:=Q9.out.cell 3
    have q4:=Q9.out.cell 4
    have q5:=Q9.out.cell 5
    simp at q0 q1 q2 q3 q4 q5
    have HX:=Hd ((own_below HO.out HW9.out).alloc (.cells #[.int .i64 5,.int .i64 sz,.int .u32 pn,.int .u32 nx,.int .u64 tx,.string B] 41))
    have HWX:=Hd ((HW.out.trans (HW9.out.mono HW.out.size)).alloc (HW.out.trans (HW9.out.mono HW.out.size)).size (.cells #[.int .i64 5,.int .i64 sz,.int .u32 pn,.int .u32 nx,.int .u64 tx,.string B] 41))
    go_wp2_with (at_builtin;refine wpList_append_any _ rfl (.tmp 69) (.tmp 71) _ rfl w2.heap.size 41 i0 _ 6 48 Tryz.underlying48 hi0 hz0 hz1 hz2 rfl (by omega) _ k _ rfl HX.out (w9.heap.size+1) (some ⟨w9.heap.size,0,none⟩) 1 1 (pgcs [⟨5,sz,pn,nx,tx,B⟩]) rfl (reads_own (n:=1) (Blk.new _ _ _) rfl) (pgcs_one _) (by unfold maxLen;omega) (by omega) HWX.out.size ?_;intro v5 w5 hown5 hg5 hat;clear hat;rw[← pgcs_append,← HTs.out] at hown5;obtain⟨A5,c5,rfl,_,_,_⟩:=own_form hown5;have HO5:=Hd hown5;have HW5:=Hd (HWX.out.grown hg5 HWX.out.size (fun g hg=>(HX.out.lt g hg).1));clear hown5 hg5)
    go_roundw
    case rel =>
     first
      | exact⟨k+1,A5,c5,by omega,by go_num,rfl,HO5,HW5⟩
      | ((repeat apply Exists.intro);exact⟨⟨k+1,A5,c5,by omega,by go_num,rfl,HO5,HW5⟩,rfl⟩)
    case measure=>simp[intOf];omega
  ·obtain rfl:k=np:=by omega
   have ht:L.take k=L:=List.take_of_length_le (by rw[HLl.out];exact Nat.le_refl _)
   rw[ht] at HO
   clear hlt ht
   have HBB:=Hd (HB2.out.trans (HW.out.mono HB2.out.size))
   go_wp2_with fail
   go_ret2
   exact⟨A',k,c',rfl,Reads.of_own HO.out,HBB.out⟩
theorem ron_any (size:Int) (tx:Nat) (A:Option Addr) (n c:Nat) (ps:List Nat) (v:ByteArray) (w:World) (hr:Reads w w.heap.size 1 A n (ucells ps)) (hn:n≤1000000) (hv:v.size≤1000000) :
  Calls Tryz.prog 93 #[.int .i64 size,.int .u64 tx,.slice A n c,.string v] w (PgsPost (onL size tx ps v) w):=by
 rcases hg:goodSize size with _ | _
 ·exact ron_0 size tx A n c ps v w hr hn hv hg
 by_cases h1:v.size=0
 ·exact ron_1 size tx A n c ps v w hr hn hv hg h1
 by_cases h2:4096<v.size
 ·exact ron_2 size tx A n c ps v w hr hn hv hg (by omega) h2
 by_cases h3:(partsL size v).length=ps.length
 rotate_left
 ·exact ron_3 size tx A n c ps v w hr hn hv hg (by omega) (by omega) h3
 rcases h4:fineL ps with _ | _
 ·exact ron_4 size tx A n c ps v w hr hn hv hg (by omega) (by omega) h3 h4
 by_cases h5:4611686018427387904<tx
 ·exact ron_5 size tx A n c ps v w hr hn hv hg (by omega) (by omega) h3 h4 h5
 have ho:=onL_yes (tx:=tx) hg (by omega) (by omega) h3 h4 (by omega)
 obtain⟨z,rfl,_⟩:=good_nat hg
 rw[ho]
 exact ron_yes z tx A n c ps v w hr hn hv _ ho
def pagesL (size:Int) (tx f:Nat) (v:ByteArray):Option (List Pg):=onL size tx (runW f (needN size v.size)) v
theorem needN_le (size:Int) (n:Nat) (h:n≤1000000):needN size n≤1000000:=by
 unfold needN
 split
 ·rename_i hc
  simp only[Bool.and_eq_true,decide_eq_true_eq] at hc
  have:=Nat.div_le_self ((n:Int).toNat-1) (size-24).toNat
  omega
 ·omega
theorem rpages11_any (size:Int) (tx f:Nat) (v:ByteArray) (w:World) (hf:f<4294967296) (hv:v.size≤1000000) :
  Calls Tryz.prog 69 #[.int .i64 size,.int .u64 tx,.int .u32 f,.string v] w (PgsPost (pagesL size tx f v) w):=by
 by_cases h:4096<v.size
 ·have HE:=Hd (show pagesL size tx f v=none from onL_no (.inr (.inr (.inl h))))
  have h1:decide ((4096:Int)<(v.size:Int))=true:=by simp;omega
  have h2:decide (4096<v.size)=true:=by simp;omega
  clear h
  go_enter Tryz.func69,Tryz.ntmps69
  go_wp2_with fail
  go_ret2
  rw[HE.out]
  exact⟨rfl,Below.refl _ _⟩
 ·have h1:decide ((4096:Int)<(v.size:Int))=false:=by simp;omega
  have h2:decide (4096<v.size)=false:=by simp;omega
  obtain⟨m,hm⟩ : ∃ m,m=needN size v.size:=⟨_,rfl⟩
  have hm9:m≤1000000:=by rw[hm];exact needN_le _ _ hv
  have HN:=fun w=>rneed9_any size v.size w (by omega)
  rw[← hm] at HN
  obtain⟨o,ho⟩ : ∃ o,o=pagesL size tx f v:=⟨_,rfl⟩
  have HE:=Hd (show o=onL size tx (runW f m) v by rw[ho,pagesL,hm])
  rw[← ho]
  have HV:=Hd hv
  clear h hm ho hv
  go_enter Tryz.func69,Tryz.ntmps69
  go_wp2_with (go_at_call 95;refine (HN _).mono ?_;rintro e w' ⟨rfl,rfl⟩)
  refine (rrun_any f m _ hf hm9).mono ?_
  rintro e w1 ⟨A,c,rfl,hown,hb⟩
  have HR:=Hd (Reads.of_own hown)
  have HB:=Hd hb
  clear hown hb
  go_wp2_with fail
  refine (ron_any size tx A m c _ v _ HR.out hm9 HV.out).mono ?_
  rw[← HE.out]
  rintro e w2 h2
  cases o with
  | none =>
   obtain⟨rfl,hb⟩:=h2
   have HB2:=Hd (HB.out.trans (hb.mono HB.out.size))
   clear hb
   go_wp2_with fail
   go_ret2
   exact⟨rfl,HB2.out⟩
  | some L =>
   obtain⟨A3,n3,c3,rfl,hr3,hb⟩:=h2
   have HB2:=Hd (HB.out.trans (hb.mono HB.out.size))
   have HR3:=Hd hr3
   clear hb hr3
   go_wp2_with fail
   go_ret2
   exact⟨A3,n3,c3,rfl,HR3.out,HB2.out⟩
end Go.Proofs.YtanbbnogdhnikaaGreat

