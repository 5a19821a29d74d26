/-
  Contract of the reference of layer 8: Of: the items of which a page is the page. (Written by wip/tools/gen_ref8of.py.)
-/
import Derived.Test.YtanbbnogdhnikaaGreatJ26
set_option linter.unusedVariables false
set_option linter.unusedSimpArgs false
set_option maxRecDepth 300000
set_option maxHeartbeats 25600000
namespace Go.Proofs.YtanbbnogdhnikaaGreat
open Go.RowKit
open Go.Lib hiding intOf
attribute [local go_sem ↓] Go.wp_at_zero Go.wp_at_succ

theorem rof8_new (kd ct:Int) (pg lk ty:Nat) (bd:ByteArray) (w:World) (hbd:bd.size≤100000) :
  Calls Tryz.prog 31 #[.agg #[.int .i64 kd,.int .i64 ct,.int .u32 pg,.int .u32 lk,.int .u64 ty,.string bd]] w (OfPost8n (readI kd ct pg lk ty bd) w):=by
 have Hbd:=Hd hbd
 obtain⟨i0,hi0,hz0,hz1,hz2⟩:=info_parts infoIt
 obtain⟨hzp,hi⟩:=zero_of_info infoPg
 have HI:=Hd hi
 clear hi
 obtain⟨w0,hw0⟩ : ∃ x,x=w.alloc (.cells #[.int .i64 kd,.int .i64 ct,.int .u32 pg,.int .u32 lk,.int .u64 ty,.string bd] 41):=⟨_,rfl⟩
 have Pp:=Hd (show Blk w0 w.heap.size 41 #[.int .i64 kd,.int .i64 ct,.int .u32 pg,.int .u32 lk,.int .u64 ty,.string bd] by rw[hw0];exact Blk.new _ _ _)
 have HB:=Hd (show Below w.heap.size w w0 by rw[hw0];exact (Below.refl _ _).alloc (Nat.le_refl _) _)
 go_enter Tryz.func31,Tryz.ntmps31
 go_upto_region 1 with fail
 rw[← hw0]
 clear hw0 hbd
 have p5:=Pp.out.cell 5
 simp at p5
 go_wp2_with fail
 refine (rnew_any' bd _).mono ?_
 rintro e w1 ⟨rfl,hrf,hb,hlt1⟩
 have hpg:=Hd Pp.out.lt
 replace Pp:=Hd (Pp.out.below hb Pp.out.lt)
 replace HB:=Hd (HB.out.trans (hb.mono HB.out.size))
 have HF:=Hd hrf
 clear hb hrf hlt1 p5
 generalize w0.heap.size=g at *
 go_wp2_with fail
 go_loopw [5,6] (fun v i wr=>∃ (k:Nat) (A:Option Addr) (c:Nat) (l:List It) (r:List UInt8) (s:ByteArray),k≤ct.toNat∧i=.int .i64 k∧v=.slice A k c∧Hid (parseI k bd.data.toList=some (l,r))∧Hid (s.data.toList=r)∧Hid (IsRf wr g s)∧Hid (wr.ownsRow (g+1) 76 5 (.slice A k c) k (itc l))∧Hid (Blk wr w.heap.size 41 #[.int .i64 kd,.int .i64 ct,.int .u32 pg,.int .u32 lk,.int .u64 ty,.string bd])∧Hid (Below w.heap.size w wr)) (fun _ i _=>ct.toNat-(intOf i).toNat)
 case atStart=>exact⟨0,none,0,[],_,bd,Nat.zero_le _,rfl,rfl,Hd rfl,Hd rfl,HF,Hd (World.ownsRow_nil _ _ _ _),Pp,HB⟩
 case round =>
  clear HF HB Pp
  obtain⟨k,A,c,l,r,s,hk,rfl,rfl,HPr,HSr,HF,HO,Pp,HB⟩:=hrel
  have hk9:k≤100000:=by
   have h1:=parseI_size HPr.out
   have h2:=three_le l
   rw[parseI_len HPr.out] at h2
   rw[size_list] at h1
   have h3:=Hbd.out
   omega
  have p1:=Pp.out.cell 1
  simp at p1
  by_cases hlt:(k:Int)<ct
  ·have hkc:k+1≤ct.toNat:=by omega
   go_wp2_with fail
   refine (rnum_tot HF.out 1 (by decide) (by decide)).mono ?_
   rintro e w2 ⟨vo,x0,t0,rfl,hf,hg,hv,hx⟩
   have hbl:=below_of_grown hg (Nat.le_of_lt hpg.out) HB.out.size
   replace HB:=Hd (HB.out.trans hbl)
   replace HO:=Hd (HO.out.kept hg (own_apart HO.out (Nat.lt_succ_self g)))
   replace Pp:=Hd (Blk.grown Pp.out hg (by intro h;injection h with h;have:=hpg.out;omega))
   replace HF:=Hd hf
   have Xx0:=Hd hx
   have hvvo:vo<256:=hv
   clear hf hg hbl hx hv p1
   go_wp2_with fail
   refine (rnum_tot HF.out 1 (by decide) (by decide)).mono ?_
   rintro e w3 ⟨vn,x1,t1,rfl,hf,hg,hv,hx⟩
   have hbl:=below_of_grown hg (Nat.le_of_lt hpg.out) HB.out.size
   replace HB:=Hd (HB.out.trans hbl)
   replace HO:=Hd (HO.out.kept hg (own_apart HO.out (Nat.lt_succ_self g)))
   replace Pp:=Hd (Blk.grown Pp.out hg (by intro h;injection h with h;have:=hpg.out;omega))
   replace HF:=Hd hf
   have Xx1:=Hd hx
   have hvvn:vn<256:=hv
   clear hf hg hbl hx hv 
   have hwv:IntKind.i64.wrap (vn:Int)=(vn:Int):=by rw[IntKind.wrap_i64];omega
   go_wp2_with fail
   refine (rby_tot HF.out vn).mono ?_
   rintro e w4 ⟨ky,x2,t2,rfl,hf,hg,hx⟩
   have hbl:=below_of_grown hg (Nat.le_of_lt hpg.out) HB.out.size
   replace HB:=Hd (HB.out.trans hbl)
   replace HO:=Hd (HO.out.kept hg (own_apart HO.out (Nat.lt_succ_self g)))
   replace Pp:=Hd (Blk.grown Pp.out hg (by intro h;injection h with h;have:=hpg.out;omega))
   replace HF:=Hd hf
   have Xx2:=Hd hx
   clear hf hg hbl hx hwv
   have hh:=head8 Xx0.out Xx1.out Xx2.out
   rw[HSr.out] at hh
   have HA:=Hd (HB.out.alloc HB.out.size (.cells #[.string ky,.string ⟨#[]⟩,.bool ((vo:Int)==1),.int .i64 0,.int .u32 0] 76))
   by_cases hx:x0=0∧x1=0∧x2=0
   rotate_left
   ·have HE:=Hd (show readI kd ct pg lk ty bd=none by
     have hsf:stepI r=none:=by
      rcases hh with ⟨a,b,d,_⟩ | ⟨_,h⟩
      ·exact absurd ⟨a,b,d⟩ hx
      ·exact h
     have h1:=parseI_none (parseI_stop HPr.out hsf) (ct.toNat-(k+1))
     rw[show k+1+(ct.toNat-(k+1))=ct.toNat by omega] at h1
     rw[readI,h1])
    clear hh Xx0 Xx1 Xx2
    by_cases h0:x0=0
    ·have q1:(x0 != 0)=false:=by simp[h0]
     by_cases h1:x1=0
     ·have q2:(x1 != 0)=false:=by simp[h1]
      have h2 : ¬ x2=0:=fun h=>hx ⟨h0,h1,h⟩
      have q3:(x2 != 0)=true:=by simp[h2]
      clear hx h0 h1 h2
      go_wp2_with fail
      go_ret2
      rw[HE.out]
      exact⟨rfl,HA.out⟩
     ·have q2:(x1 != 0)=true:=by simp[h1]
      clear hx h0 h1
      go_wp2_with fail
      go_ret2
      rw[HE.out]
      exact⟨rfl,HA.out⟩
    ·have q1:(x0 != 0)=true:=by simp[h0]
     clear hx h0
     go_wp2_with fail
     go_ret2
     rw[HE.out]
     exact⟨rfl,HA.out⟩
   obtain⟨hx0,hx1,hx2⟩:=hx
   subst hx0 hx1 hx2
   obtain⟨hvo2,hst⟩:vo<256∧stepI r=tailI (UInt8.ofNat vo) ky t2.data.toList:=by
    rcases hh with ⟨_,_,_,h1,h2⟩ | ⟨h,_⟩
    ·exact⟨h1,h2⟩
    ·exact absurd ⟨rfl,rfl,rfl⟩ h
   clear hh Xx0 Xx1 Xx2
   by_cases hgt:1<vo
   ·have q1:decide ((1:Int)<vo)=true:=by simp;omega
    have HE:=Hd (show readI kd ct pg lk ty bd=none by
     have hsf:stepI r=none:=by
      rw[hst]
      have h1:(UInt8.ofNat vo).toNat=vo:=by simp;omega
      unfold tailI
      rw[if_neg (fun h=>by rw[h] at h1;simp at h1;omega),if_neg (fun h=>by rw[h] at h1;simp at h1;omega)]
     have h1:=parseI_none (parseI_stop HPr.out hsf) (ct.toNat-(k+1))
     rw[show k+1+(ct.toNat-(k+1))=ct.toNat by omega] at h1
     rw[readI,h1])
    clear hst
    go_wp2_with fail
    go_ret2
    rw[HE.out]
    exact⟨rfl,HA.out⟩
   clear HA
   have q1:decide ((1:Int)<vo)=false:=by simp;omega
   by_cases hov:vo=1
   ·subst hov
    have hq1:(((1:Nat):Int)==1)=true:=by decide
    have hst1:stepI r=tailI 1 ky t2.data.toList:=hst
    clear hst
    obtain⟨w5,hw5⟩ : ∃ x,x=w4.alloc (.cells #[.string ky,.string ⟨#[]⟩,.bool true,.int .i64 0,.int .u32 0] 76):=⟨_,rfl⟩
    have M:=Hd (show Blk w5 w4.heap.size 76 #[.string ky,.string ⟨#[]⟩,.bool true,.int .i64 0,.int .u32 0] by rw[hw5];exact Blk.new _ _ _)
    have HOM:=Hd (show (Value.slice A k c).ownBlock=none∨(Value.slice A k c).ownBlock≠some w4.heap.size by
     rcases hob:(Value.slice A k c).ownBlock with _ | j
     ·exact .inl rfl
     ·refine .inr fun he=>?_
      injection he with he
      have h1:=(HO.out.lt j hob).2
      omega)
    have HgM:=Hd (show g<w4.heap.size from Blk.lt HF.out)
    have HwM:=Hd (show w.heap.size<w4.heap.size from Blk.lt Pp.out)
    replace HB:=Hd (show Below w.heap.size w w5 by rw[hw5];exact HB.out.alloc HB.out.size _)
    replace HO:=Hd (show w5.ownsRow (g+1) 76 5 (.slice A k c) k (itc l) by rw[hw5];exact HO.out.alloc _)
    replace Pp:=Hd (show Blk w5 w.heap.size 41 #[.int .i64 kd,.int .i64 ct,.int .u32 pg,.int .u32 lk,.int .u64 ty,.string bd] by rw[hw5];exact Pp.out.alloc _)
    replace HF:=Hd (show IsRf w5 g t2 by rw[hw5];exact Blk.alloc HF.out _)
    go_upto_region 10 with fail
    rw[← hw5]
    clear hw5
    generalize w4.heap.size=gM at *
    have m2:=M.out.cell 2
    simp at m2
    go_wp2_with fail
    refine (rnum_tot HF.out 4 (by decide) (by decide)).mono ?_
    rintro e w6 ⟨v3,x3,t3,rfl,hf,hg,hv,hx⟩
    have hbl:=below_of_grown hg (Nat.le_of_lt hpg.out) HB.out.size
    replace HB:=Hd (HB.out.trans hbl)
    replace HO:=Hd (HO.out.kept hg (own_apart HO.out (Nat.lt_succ_self g)))
    replace Pp:=Hd (Blk.grown Pp.out hg (by intro h;injection h with h;have:=hpg.out;omega))
    replace HF:=Hd hf
    replace M:=Hd (Blk.grown M.out hg (by intro h;injection h with h;have:=HgM.out;omega))
    have Xx3:=Hd hx
    have hvv3:v3<4294967296:=hv
    clear hf hg hbl hx hv m2
    go_wp2_with fail
    refine (rnum_tot HF.out 4 (by decide) (by decide)).mono ?_
    rintro e w7 ⟨v4,x4,t4,rfl,hf,hg,hv,hx⟩
    have hbl:=below_of_grown hg (Nat.le_of_lt hpg.out) HB.out.size
    replace HB:=Hd (HB.out.trans hbl)
    replace HO:=Hd (HO.out.kept hg (own_apart HO.out (Nat.lt_succ_self g)))
    replace Pp:=Hd (Blk.grown Pp.out hg (by intro h;injection h with h;have:=hpg.out;omega))
    replace HF:=Hd hf
    replace M:=Hd (Blk.grown M.out hg (by intro h;injection h with h;have:=HgM.out;omega))
    have Xx4:=Hd hx
    have hvv4:v4<4294967296:=hv
    clear hf hg hbl hx hv 
    have hh:=tail8_ov (ky:=ky) Xx3.out Xx4.out
    rw[← hst1] at hh
    clear hst1
    by_cases hx:x3=0∧x4=0
    rotate_left
    ·have HE:=Hd (show readI kd ct pg lk ty bd=none by
      have hsf:stepI r=none:=by
       rcases hh with ⟨a,b,_⟩ | ⟨_,h⟩
       ·exact absurd ⟨a,b⟩ hx
       ·exact h
      have h1:=parseI_none (parseI_stop HPr.out hsf) (ct.toNat-(k+1))
      rw[show k+1+(ct.toNat-(k+1))=ct.toNat by omega] at h1
      rw[readI,h1])
     clear hh Xx3 Xx4
     by_cases h3:x3=0
     ·have q3:(x3 != 0)=false:=by simp[h3]
      have h4 : ¬ x4=0:=fun h=>hx ⟨h3,h⟩
      have q4:(x4 != 0)=true:=by simp[h4]
      clear hx h3 h4
      go_wp2_with fail
      go_ret2
      rw[HE.out]
      exact⟨rfl,HB.out⟩
     ·have q3:(x3 != 0)=true:=by simp[h3]
      clear hx h3
      go_wp2_with fail
      go_ret2
      rw[HE.out]
      exact⟨rfl,HB.out⟩
    obtain⟨hx3,hx4⟩:=hx
    subst hx3 hx4
    have hst:stepI r=some (⟨ky,⟨#[]⟩,true,(v3:Nat),v4⟩,t4.data.toList):=by
     rcases hh with ⟨_,_,h2⟩ | ⟨h,_⟩
     ·exact h2
     ·exact absurd ⟨rfl,rfl⟩ h
    clear hh Xx3 Xx4
    have HP4:=Hd (parseI_step HPr.out hst)
    clear hst
    by_cases hbig:4096<v3
    ·have q3:decide ((4096:Int)<v3)=true:=by simp;omega
     have HE:=Hd (show readI kd ct pg lk ty bd=none from readI_bad (k:=k+1) hkc HP4.out (List.mem_append_right _ List.mem_cons_self) (by
      simp only[okIt,if_true]
      have h1:decide (((v3:Nat):Int)≤4096)=false:=by simp;omega
      rw[h1]
      simp))
     clear HP4
     go_wp2_with fail
     go_ret2
     rw[HE.out]
     exact⟨rfl,HB.out⟩
    have q3:decide ((4096:Int)<v3)=false:=by simp;omega
    have hwl:IntKind.i64.wrap (v3:Int)=(v3:Int):=by rw[IntKind.wrap_i64];omega
    have hwh:IntKind.u32.wrap (v4:Int)=(v4:Int):=by rw[IntKind.wrap_u32];omega
    have hwl2:IntKind.i64.wrap (v3:Int)=(v3:Int):=hwl
    have f3:=M.out.frozen 3
    have z3:=M.out.cell 3
    simp at z3
    have f4:=(M.out.set_ 3 (.int .i64 (v3:Int))).frozen 4
    have z4:=(M.out.set_ 3 (.int .i64 (v3:Int))).cell 4
    simp at z4
    obtain⟨w8,hw8⟩ : ∃ x,x=((w7.setCell ⟨gM,3,none⟩ (.int .i64 (v3:Int))).setCell ⟨gM,4,none⟩ (.int .u32 (v4:Int))):=⟨_,rfl⟩
    have HG8:=Hd (show w7.grownBy w8 (some gM) by rw[hw8];exact grown_trans (grown_set _ _ _ _) (grown_set _ _ _ _))
    replace M:=Hd (show Blk w8 gM 76 #[.string ky,.string ⟨#[]⟩,.bool true,.int .i64 (v3:Int),.int .u32 (v4:Int)] by rw[hw8];exact ((M.out.set_ 3 _).set_ 4 _))
    replace HB:=Hd (HB.out.trans (below_of_grown HG8.out (Nat.le_of_lt HwM.out) HB.out.size))
    replace HO:=Hd (HO.out.kept HG8.out HOM.out)
    replace Pp:=Hd (Blk.grown Pp.out HG8.out (by intro h;injection h with h;have:=HwM.out;omega))
    replace HF:=Hd (show IsRf w8 g t4 from Blk.grown HF.out HG8.out (by intro h;injection h with h;have:=HgM.out;omega))
    go_upto_region 23 with fail
    rw[← hw8]
    clear hw8 HG8 f3 z3 f4 z4 hwl hwh hwl2
    have m0:=M.out.cell 0
    have m1:=M.out.cell 1
    have m2:=M.out.cell 2
    have m3:=M.out.cell 3
    have m4:=M.out.cell 4
    simp at m0 m1 m2 m3 m4
    have HA:=Hd (HO.out.alloc (.cells #[.string ky,.string ⟨#[]⟩,.bool true,.int .i64 (v3:Int),.int .u32 (v4:Int)] 76))
    have hgl:g+1≤w8.heap.size:=Blk.lt HF.out
    have HB3:=Hd (HB.out.alloc HB.out.size (.cells #[.string ky,.string ⟨#[]⟩,.bool true,.int .i64 (v3:Int),.int .u32 (v4:Int)] 76))
    have HF3:=Hd (show IsRf (w8.alloc (.cells #[.string ky,.string ⟨#[]⟩,.bool true,.int .i64 (v3:Int),.int .u32 (v4:Int)] 76)) g t4 from Blk.alloc HF.out _)
    have Pp3:=Hd (Pp.out.alloc (.cells #[.string ky,.string ⟨#[]⟩,.bool true,.int .i64 (v3:Int),.int .u32 (v4:Int)] 76))
    go_upto_region 5 with (at_builtin;refine wpList_append_any _ rfl (.tmp 116) (.tmp 118) _ rfl (g+1) 76 i0 _ 5 56 Tryz.underlying62 hi0 hz0 hz1 hz2 rfl (by omega) _ k _ rfl HA.out (w8.heap.size+1) (some ⟨w8.heap.size,0,none⟩) 1 1 (It.cells ⟨ky,⟨#[]⟩,true,(v3:Nat),v4⟩) rfl (reads_own (n:=1) (Blk.new _ _ _) rfl) (it_one _) (by unfold maxLen;omega) (by omega) (by simp;omega) ?_;intro v5 w9 hown4 hg4 hat)
    clear hat m0 m1 m2 m3 m4
    rw[itc_snoc] at hown4
    obtain⟨A4,c4,rfl,_,_,_⟩:=own_form hown4
    have HO4:=Hd hown4
    have HF4:=Hd (show IsRf w9 g t4 from Blk.grown HF3.out hg4 (own_ne HA.out (Nat.lt_succ_self g)))
    have Pp4:=Hd (Blk.grown Pp3.out hg4 (own_ne HA.out (Nat.lt_succ_of_lt hpg.out)))
    have HB4:=Hd (HB3.out.grown hg4 HB3.out.size (fun j hj=>by have h1:=(HA.out.lt j hj).1;have h2:=hpg.out;omega))
    clear hown4 hg4 HA HB3 HF3 Pp3 HO HF HB Pp M
    go_wp2_with fail
    go_roundw
    case rel =>
     first
      | exact⟨k+1,A4,c4,_,_,t4,by omega,by go_num,rfl,HP4,Hd rfl,HF4,HO4,Pp4,HB4⟩
      | ((repeat apply Exists.intro);exact⟨⟨k+1,A4,c4,_,_,t4,by omega,by go_num,rfl,HP4,Hd rfl,HF4,HO4,Pp4,HB4⟩,rfl⟩)
    case measure=>simp[intOf];omega
   ·have hvz:vo=0:=by omega
    subst hvz
    have hq1:(((0:Nat):Int)==1)=false:=by decide
    have hst1:stepI r=tailI 0 ky t2.data.toList:=hst
    clear hst hov
    obtain⟨w5,hw5⟩ : ∃ x,x=w4.alloc (.cells #[.string ky,.string ⟨#[]⟩,.bool false,.int .i64 0,.int .u32 0] 76):=⟨_,rfl⟩
    have M:=Hd (show Blk w5 w4.heap.size 76 #[.string ky,.string ⟨#[]⟩,.bool false,.int .i64 0,.int .u32 0] by rw[hw5];exact Blk.new _ _ _)
    have HOM:=Hd (show (Value.slice A k c).ownBlock=none∨(Value.slice A k c).ownBlock≠some w4.heap.size by
     rcases hob:(Value.slice A k c).ownBlock with _ | j
     ·exact .inl rfl
     ·refine .inr fun he=>?_
      injection he with he
      have h1:=(HO.out.lt j hob).2
      omega)
    have HgM:=Hd (show g<w4.heap.size from Blk.lt HF.out)
    have HwM:=Hd (show w.heap.size<w4.heap.size from Blk.lt Pp.out)
    replace HB:=Hd (show Below w.heap.size w w5 by rw[hw5];exact HB.out.alloc HB.out.size _)
    replace HO:=Hd (show w5.ownsRow (g+1) 76 5 (.slice A k c) k (itc l) by rw[hw5];exact HO.out.alloc _)
    replace Pp:=Hd (show Blk w5 w.heap.size 41 #[.int .i64 kd,.int .i64 ct,.int .u32 pg,.int .u32 lk,.int .u64 ty,.string bd] by rw[hw5];exact Pp.out.alloc _)
    replace HF:=Hd (show IsRf w5 g t2 by rw[hw5];exact Blk.alloc HF.out _)
    go_upto_region 10 with fail
    rw[← hw5]
    clear hw5
    generalize w4.heap.size=gM at *
    have m2:=M.out.cell 2
    simp at m2
    go_wp2_with fail
    refine (rnum_tot HF.out 1 (by decide) (by decide)).mono ?_
    rintro e w6 ⟨v3,x3,t3,rfl,hf,hg,hv,hx⟩
    have hbl:=below_of_grown hg (Nat.le_of_lt hpg.out) HB.out.size
    replace HB:=Hd (HB.out.trans hbl)
    replace HO:=Hd (HO.out.kept hg (own_apart HO.out (Nat.lt_succ_self g)))
    replace Pp:=Hd (Blk.grown Pp.out hg (by intro h;injection h with h;have:=hpg.out;omega))
    replace HF:=Hd hf
    replace M:=Hd (Blk.grown M.out hg (by intro h;injection h with h;have:=HgM.out;omega))
    have Xx3:=Hd hx
    have hvv3:v3<256:=hv
    clear hf hg hbl hx hv m2
    have hwv:IntKind.i64.wrap (v3:Int)=(v3:Int):=by rw[IntKind.wrap_i64];omega
    go_wp2_with fail
    refine (rby_tot HF.out v3).mono ?_
    rintro e w7 ⟨vl,x4,t4,rfl,hf,hg,hx⟩
    have hbl:=below_of_grown hg (Nat.le_of_lt hpg.out) HB.out.size
    replace HB:=Hd (HB.out.trans hbl)
    replace HO:=Hd (HO.out.kept hg (own_apart HO.out (Nat.lt_succ_self g)))
    replace Pp:=Hd (Blk.grown Pp.out hg (by intro h;injection h with h;have:=hpg.out;omega))
    replace HF:=Hd hf
    replace M:=Hd (Blk.grown M.out hg (by intro h;injection h with h;have:=HgM.out;omega))
    have Xx4:=Hd hx
    clear hf hg hbl hx hwv
    have hh:=tail8_in (ky:=ky) Xx3.out Xx4.out
    rw[← hst1] at hh
    clear hst1
    by_cases hx:x3=0∧x4=0
    rotate_left
    ·have HE:=Hd (show readI kd ct pg lk ty bd=none by
      have hsf:stepI r=none:=by
       rcases hh with ⟨a,b,_⟩ | ⟨_,h⟩
       ·exact absurd ⟨a,b⟩ hx
       ·exact h
      have h1:=parseI_none (parseI_stop HPr.out hsf) (ct.toNat-(k+1))
      rw[show k+1+(ct.toNat-(k+1))=ct.toNat by omega] at h1
      rw[readI,h1])
     clear hh Xx3 Xx4
     by_cases h3:x3=0
     ·have q3:(x3 != 0)=false:=by simp[h3]
      have h4 : ¬ x4=0:=fun h=>hx ⟨h3,h⟩
      have q4:(x4 != 0)=true:=by simp[h4]
      clear hx h3 h4
      go_wp2_with fail
      go_ret2
      rw[HE.out]
      exact⟨rfl,HB.out⟩
     ·have q3:(x3 != 0)=true:=by simp[h3]
      clear hx h3
      go_wp2_with fail
      go_ret2
      rw[HE.out]
      exact⟨rfl,HB.out⟩
    obtain⟨hx3,hx4⟩:=hx
    subst hx3 hx4
    have hst:stepI r=some (⟨ky,vl,false,0,0⟩,t4.data.toList):=by
     rcases hh with ⟨_,_,h2⟩ | ⟨h,_⟩
     ·exact h2
     ·exact absurd ⟨rfl,rfl⟩ h
    clear hh Xx3 Xx4
    have HP4:=Hd (parseI_step HPr.out hst)
    clear hst
    have f1:=M.out.frozen 1
    have z1:=M.out.cell 1
    simp at z1
    obtain⟨w8,hw8⟩ : ∃ x,x=(w7.setCell ⟨gM,1,none⟩ (.string vl)):=⟨_,rfl⟩
    have HG8:=Hd (show w7.grownBy w8 (some gM) by rw[hw8];exact grown_set _ _ _ _)
    replace M:=Hd (show Blk w8 gM 76 #[.string ky,.string vl,.bool false,.int .i64 0,.int .u32 0] by rw[hw8];exact (M.out.set_ 1 _))
    replace HB:=Hd (HB.out.trans (below_of_grown HG8.out (Nat.le_of_lt HwM.out) HB.out.size))
    replace HO:=Hd (HO.out.kept HG8.out HOM.out)
    replace Pp:=Hd (Blk.grown Pp.out HG8.out (by intro h;injection h with h;have:=HwM.out;omega))
    replace HF:=Hd (show IsRf w8 g t4 from Blk.grown HF.out HG8.out (by intro h;injection h with h;have:=HgM.out;omega))
    go_upto_region 23 with fail
    rw[← hw8]
    clear hw8 HG8 f1 z1
    have m0:=M.out.cell 0
    have m1:=M.out.cell 1
    have m2:=M.out.cell 2
    have m3:=M.out.cell 3
    have m4:=M.out.cell 4
    simp at m0 m1 m2 m3 m4
    have HA:=Hd (HO.out.alloc (.cells #[.string ky,.string vl,.bool false,.int .i64 0,.int .u32 0] 76))
    have hgl:g+1≤w8.heap.size:=Blk.lt HF.out
    have HB3:=Hd (HB.out.alloc HB.out.size (.cells #[.string ky,.string vl,.bool false,.int .i64 0,.int .u32 0] 76))
    have HF3:=Hd (show IsRf (w8.alloc (.cells #[.string ky,.string vl,.bool false,.int .i64 0,.int .u32 0] 76)) g t4 from Blk.alloc HF.out _)
    have Pp3:=Hd (Pp.out.alloc (.cells #[.string ky,.string vl,.bool false,.int .i64 0,.int .u32 0] 76))
    go_upto_region 5 with (at_builtin;refine wpList_append_any _ rfl (.tmp 116) (.tmp 118) _ rfl (g+1) 76 i0 _ 5 56 Tryz.underlying62 hi0 hz0 hz1 hz2 rfl (by omega) _ k _ rfl HA.out (w8.heap.size+1) (some ⟨w8.heap.size,0,none⟩) 1 1 (It.cells ⟨ky,vl,false,0,0⟩) rfl (reads_own (n:=1) (Blk.new _ _ _) rfl) (it_one _) (by unfold maxLen;omega) (by omega) (by simp;omega) ?_;intro v5 w9 hown4 hg4 hat)
    clear hat m0 m1 m2 m3 m4
    rw[itc_snoc] at hown4
    obtain⟨A4,c4,rfl,_,_,_⟩:=own_form hown4
    have HO4:=Hd hown4
    have HF4:=Hd (show IsRf w9 g t4 from Blk.grown HF3.out hg4 (own_ne HA.out (Nat.lt_succ_self g)))
    have Pp4:=Hd (Blk.grown Pp3.out hg4 (own_ne HA.out (Nat.lt_succ_of_lt hpg.out)))
    have HB4:=Hd (HB3.out.grown hg4 HB3.out.size (fun j hj=>by have h1:=(HA.out.lt j hj).1;have h2:=hpg.out;omega))
    clear hown4 hg4 HA HB3 HF3 Pp3 HO HF HB Pp M
    go_wp2_with fail
    go_roundw
    case rel =>
     first
      | exact⟨k+1,A4,c4,_,_,t4,by omega,by go_num,rfl,HP4,Hd rfl,HF4,HO4,Pp4,HB4⟩
      | ((repeat apply Exists.intro);exact⟨⟨k+1,A4,c4,_,_,t4,by omega,by go_num,rfl,HP4,Hd rfl,HF4,HO4,Pp4,HB4⟩,rfl⟩)
    case measure=>simp[intOf];omega
  ·have hkc:k=ct.toNat:=by omega
   have HLo:=Hd (show ∀ ad,A=some ad→w.heap.size≤ad.block from fun ad e=>by
    have h1:=own_base HO.out ad.block (by rw[e];rfl)
    have h2:=hpg.out
    omega)
   have hlen:=parseI_len HPr.out
   have hsz:sizeI l≤100000:=by
    have h1:=parseI_size HPr.out
    rw[size_list] at h1
    have h3:=Hbd.out
    omega
   have hnear:NearI l:=parseI_near HPr.out (by rw[size_list];have:=Hbd.out;omega)
   obtain⟨z,hzz⟩ : ∃ z,z=bd.size+24:=⟨_,rfl⟩
   have hwz:wrap64 (z:Int)=(z:Int):=wrap64_nat z (by have:=Hbd.out;omega)
   have hws2:((bd.size:Int)+24)=(z:Int):=by omega
   have HZ:=Hd hzz
   have HQ:=Hd (show readI kd ct pg lk ty bd=if mayP8 z pg ty l&&decide (kd=4∧ct=l.length∧lk=0∧bd=itemBody z l) then some l else none by rw[readI,← hkc,HPr.out,hzz])
   obtain⟨A',c',he,h1,h2,_⟩:=own_form HO.out
   injection he with e1 e2 e3
   subst e1
   subst e3
   have HR:=Hd (Reads.of_own HO.out)
   have HC:=Hd h1
   have HMx:=Hd h2
   have HLn:=Hd hlen
   clear hzz hkc hlen h1 h2 HO HF p1
   have p1:=Pp.out.cell 1
   have p2:=Pp.out.cell 2
   have p4:=Pp.out.cell 4
   have p5:=Pp.out.cell 5
   simp at p1 p2 p4 p5
   rcases hy:mayP8 z pg ty l with _ | _
   ·have HP:=rpage8_no z pg ty A k c l wr HR.out (by omega) hnear (by omega) hy
    rw[hy] at HQ
    clear hy hnear
    go_wp2_with fail
    refine HP.mono ?_
    rintro e w2 ⟨rfl,hb⟩
    replace HB:=Hd (HB.out.trans (hb.mono HB.out.size))
    clear hb HP
    go_wp2_with fail
    go_ret2
    rw[HQ.out]
    exact⟨rfl,HB.out.alloc HB.out.size _⟩
   ·have HP:=rpage8_yes z pg ty A k c l wr HR.out (by omega) hy
    obtain⟨B,hB⟩ : ∃ B,B=itemBody z l:=⟨_,rfl⟩
    rw[← hB] at HP
    rw[hy,← hB] at HQ
    clear hy hB hnear
    go_wp2_with fail
    refine HP.mono ?_
    rintro e w2 ⟨rfl,hb⟩
    replace Pp:=Hd (Pp.out.below hb Pp.out.lt)
    replace HB:=Hd (HB.out.trans (hb.mono HB.out.size))
    replace HR:=Hd ((HR.out.below hb).more hb.size)
    clear hb HP p1 p2 p4 p5
    obtain⟨w3,hw3⟩ : ∃ x,x=w2.alloc (.cells #[.int .i64 4,.int .i64 k,.int .u32 pg,.int .u32 0,.int .u64 ty,.string B] 41):=⟨_,rfl⟩
    have Q:=Hd (show Blk w3 w2.heap.size 41 #[.int .i64 4,.int .i64 k,.int .u32 pg,.int .u32 0,.int .u64 ty,.string B] by rw[hw3];exact Blk.new _ _ _)
    replace Pp:=Hd (show Blk w3 w.heap.size 41 #[.int .i64 kd,.int .i64 ct,.int .u32 pg,.int .u32 lk,.int .u64 ty,.string bd] by rw[hw3];exact Pp.out.alloc _)
    replace HB:=Hd (show Below w.heap.size w w3 by rw[hw3];exact HB.out.alloc HB.out.size _)
    replace HR:=Hd (show Reads w3 w3.heap.size 5 A k (itc l) by rw[hw3];exact (HR.out.alloc (Nat.le_refl _) _).more (by simp))
    go_upto_region 25 with fail
    rw[← hw3]
    clear hw3 hws2 hwz
    generalize w2.heap.size=gQ at *
    have c0:=Pp.out.cell 0
    have c1:=Pp.out.cell 1
    have c2:=Pp.out.cell 2
    have c3:=Pp.out.cell 3
    have c4:=Pp.out.cell 4
    have c5:=Pp.out.cell 5
    have q0:=Q.out.cell 0
    have q1:=Q.out.cell 1
    have q2:=Q.out.cell 2
    have q3:=Q.out.cell 3
    have q4:=Q.out.cell 4
    have q5:=Q.out.cell 5
    simp at c0 c1 c2 c3 c4 c5 q0 q1 q2 q3 q4 q5
    by_cases hd:(4:Int)=kd∧(k:Int)=ct∧(0:Int)=lk∧B=bd
    ·obtain⟨rfl,rfl,hlk,rfl⟩:=hd
     have hlk0:lk=0:=by omega
     subst hlk0
     clear hlk
     simp at c3
     have HE:=Hd (show readI 4 k pg 0 ty B=some l by
      rw[HQ.out,if_pos]
      have:=HLn.out
      simp
      omega)
     have hpq:=fun w=>page8_neq_no 4 k pg 0 ty B w
     go_wp2_with fail
     go_ret2
     rw[HE.out]
     exact⟨A,k,c,rfl,HR.out,HC.out,HMx.out,HB.out,HLo.out⟩
    ·have HE:=Hd (show readI kd ct pg lk ty bd=none by
      rw[HQ.out,decide_eq_false (fun ⟨e1,e2,e3,e4⟩=>hd ⟨e1.symm,by have:=HLn.out;omega,by omega,e4.symm⟩),Bool.and_false]
      rfl)
     have hpq:=fun w=>page8_neq_yes 4 k pg 0 ty B kd ct pg lk ty bd w (by intro ⟨e1,e2,_,e4,_,e6⟩;exact hd ⟨e1,e2,e4,e6⟩)
     clear hd
     go_wp2_with fail
     go_ret2
     rw[HE.out]
     exact⟨rfl,HB.out⟩
end Go.Proofs.YtanbbnogdhnikaaGreat

