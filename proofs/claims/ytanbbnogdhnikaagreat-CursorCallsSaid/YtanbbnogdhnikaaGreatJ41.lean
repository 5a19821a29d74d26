/-
  Contract of the statements' leaves: elements cut into pages of a layer. (Written by wip/tools/gen_lacut.py leaves.)
-/
import Derived.Deep.CutBlock
import Derived.Test.YtanbbnogdhnikaaGreatJ40
set_option linter.unusedVariables false
set_option linter.unusedSimpArgs false
set_option maxRecDepth 300000
set_option maxHeartbeats 25600000
namespace Go.Proofs.YtanbbnogdhnikaaGreat
open Go.RowKit
open Go.Lib hiding intOf
attribute [local go_sem ↓] Go.wp_at_zero Go.wp_at_succ

def LeavesPost (b:Nat) (V:Value) (L:List Pg) (n:Nat) (l:List It) (w:World) (e:Ending) (w':World):Prop :=
 ∃ V',LyStep b V w V' w'∧((leafMay 128 (2+L.length) (cutG sizeI 104 n l)=true∧∃ A' n' c',e=.returned (.tuple #[.slice A' n' c',.bool true])∧LyAt w' b V' (L++leafPgs 128 (2+L.length) (cutG sizeI 104 n l))∧w'.ownsRow w.heap.size 45 2 (.slice A' n' c') n' (fkc (leafFks (2+L.length) (cutG sizeI 104 n l)))) ∨
  (leafMay 128 (2+L.length) (cutG sizeI 104 n l)=false∧e=.returned (.tuple #[.slice none 0 0,.bool false])))
theorem yleaves_any {w:World} {b B0:Nat} {V:Value} {L:List Pg} {A:Option Addr} {n c:Nat} {l:List It} (h:LyAt w b V L) (hr:w.ownsRow B0 76 5 (.slice A n c) n (itc l)) (hn:n≤1000) (hx:NearI l) (hs:sizeI l≤1000000) (hl:L.length≤100000) :
  Calls Tryz.prog 37 #[.pointer (some ⟨b,0,none⟩),.slice A n c] w fun e w'=>LeavesPost b V L n l w e w':=by
 have hln:l.length=n:=it_len (Reads.of_own hr)
 have HL:=Hd hln
 have HN:=Hd hn
 have HS:=Hd hs
 have HPl:=Hd hl
 have HR:=Hd hr
 have HC:=Hd (own_cap hr)
 have H:=Hd h
 have HX:=Hd hx
 obtain⟨N,hN⟩ : ∃ N,N=2+L.length:=⟨_,rfl⟩
 have HNn:=Hd hN
 obtain⟨i0,hi0,hz0,hz1,hz2⟩:=info_parts infoPg11
 obtain⟨j0,hj0,hy0,hy1,hy2⟩:=info_parts infoFk
 obtain⟨hzp,hip⟩:=zero_of_info infoPg
 have HIP:=Hd hip
 clear h hr hn hs hl hln hN hip hx
 go_enter Tryz.func37,Tryz.ntmps37
 go_wp2_with fail
 go_loopw [6,7] (fun vo vf wr=>∃ (a d:Nat) (ps:List (List It)) (A':Option Addr) (c':Nat) (V':Value),a≤n∧vf=.int .i64 a∧vo=.slice A' ps.length c'∧Hid (l.length≤a+d)∧Hid (cutG sizeI 104 n l=ps++cutG sizeI 104 d (l.drop a))∧Hid (wr.ownsRow w.heap.size 45 2 (.slice A' ps.length c') ps.length (fkc (leafFks N ps)))∧Hid (LyAt wr b V' (L++leafPgs 128 N ps))∧Hid (LyStep b V w V' wr)∧Hid (ps.length≤a)∧Hid (leafMay 128 N ps=true)) (fun _ vf _=>n-(intOf vf).toNat)
 case atStart=>exact⟨0,n,[],none,0,V,Nat.zero_le _,rfl,rfl,Hd (by rw[HL.out];omega),Hd rfl,Hd (World.ownsRow_nil _ _ _ _),Hd (by simpa [leafPgs] using H.out),Hd (LyStep.refl _ _ _),Hd (Nat.zero_le _),Hd rfl⟩
 case round =>
  obtain⟨a,d,ps,A',c',V',ha,rfl,rfl,HD,HCut,HO,HLy,HSt,HPs,HM⟩:=hrel
  rename World=>wo
  by_cases hlt:a<n
  rotate_left
  ·obtain rfl:a=n:=by omega
   have he:cutG sizeI 104 a l=ps:=by rw[HCut.out,List.drop_eq_nil_of_le (by rw[HL.out];exact Nat.le_refl _),cutG_nil,List.append_nil]
   clear hlt HD HCut
   go_wp2_with fail
   go_ret2
   exact⟨V',HSt.out,.inl ⟨by rw[he,← HNn.out];exact HM.out,A',_,c',rfl,by rw[he,← HNn.out];exact HLy.out,by rw[he,← HNn.out];exact HO.out⟩⟩
  obtain⟨r,hrr⟩ : ∃ r,r=l.drop a:=⟨_,rfl⟩
  have HRr:=Hd hrr
  have hrl:r.length=n-a:=by rw[hrr,List.length_drop,HL.out]
  have HRl:=Hd hrl
  obtain⟨d,rfl⟩ : ∃ d',d=d'+1:=⟨d-1,by have h1:=HD.out;have h2:=HL.out;rw[h2] at h1;omega⟩
  have HOw:=Hd (show wo.ownsRow B0 76 5 (.slice A n c) n (itc l) from HSt.out.row HR.out (own_ne_blk HR.out H.out.blk (by decide)) (fun k hv hk=>own_ne_own H.out.own HR.out (by decide) hv hk))
  have HRd:=Hd (Reads.of_own HOw.out)
  obtain⟨m,hm⟩ : ∃ m,m=growT sizeI 104 r r.length 1:=⟨_,rfl⟩
  have HMm:=Hd hm
  have hsr:sizeI r≤1000000:=by rw[hrr];exact Nat.le_trans (sizeI_dropY l a) HS.out
  have HSr:=Hd hsr
  have ha9:a≤1000:=by have:=HN.out;omega
  clear hm hrr hrl hsr
  go_upto_block 2 with fail
  go_cut [8] from 11 to 74 (fun vt wx=>vt=.int .i64 ((a+m:Nat):Int)∧Hid (1≤m∧a+m≤n)∧Hid (Below wo.heap.size wo wx))
  case first =>
   go_wp2_with fail
   go_loopw [8] (fun vt wx=>∃ (t e:Nat),1≤t∧a+t≤n∧vt=.int .i64 ((a+t:Nat):Int)∧Hid (m=growT sizeI 104 r e t)∧Hid (n≤a+t+e)∧Hid (Below wo.heap.size wo wx)) (fun vt _=>n-(intOf vt).toNat)
   case atStart=>exact⟨1,r.length,by omega,by omega,congrArg (Value.int .i64) (by omega),HMm,Hd (by rw[HRl.out];omega),Hd (Below.refl _ _)⟩
   case round =>
    obtain⟨t,e,ht1,ht2,rfl,HG,HE,HB⟩:=hrel
    rename World=>wx
    have hat9:a+t≤1000:=by have:=HN.out;omega
    have hb:=HB.out
    have HRx:=Hd (HRd.out.below hb |>.more hb.size)
    have HLx:=Hd (HLy.out.below hb)
    by_cases ht3:a+t<n
    rotate_left
    ·have hmt:m=t:=by rw[HG.out,growT_end];rintro ⟨h1,_⟩;rw[HRl.out] at h1;omega
     have hg1:decide (((a+t:Nat):Int)<(n:Int))=false:=by simp;omega
     have hg2:decide ((a:Int)+(t:Int)<(n:Int))=false:=by simp;omega
     have hg3:decide (a+t<n)=false:=by simp;omega
     have HBq:=Hd (fun q=>below_drewN hb q)
     clear hb
     go_upto_region 5 with fail
     go_quiet (fail)
     go_wp2_with fail
     go_meet
     exact⟨congrArg (Value.int .i64) (by omega),Hd ⟨by omega,by omega⟩,Hd (HBq.out _)⟩
    ·have c0:=HLx.out.c0
     obtain⟨X,rX,hX,hXr⟩:=partI A n c a (a+t+1) (a:Int) ((a:Int)+(t:Int)+1) rfl (by omega) (by omega) (by omega) HC.out
     have hXX:=hXr wx _ _ HRx.out
     have hsub:a+t+1-a=t+1:=by omega
     rw[hsub,← HRr.out] at hXX
     rw[hsub] at hX
     obtain⟨sz,hsz⟩ : ∃ sz,sz=sizeI (r.take (t+1)):=⟨_,rfl⟩
     have hsz9:sz≤1000000:=by rw[hsz];exact Nat.le_trans (sizeI_takeY r (t+1)) HSr.out
     have HXr:=Hd hXX
     have HZ:=Hd hsz
     have HSz : ∀ wy:World,Below wx.heap.size wx wy→Calls Tryz.prog 70 #[.slice X (((t+1:Nat))) rX] wy fun e w'=>e=.returned (.int .i64 sz)∧Below wy.heap.size wy w':=fun wy hy=>by
      rw[hsz]
      exact rsize8_any X (t+1) rX (r.take (t+1)) wy (HXr.out.below hy |>.more hy.size) (by unfold maxLen;have:=HN.out;omega) (nearI_part HX.out a (t+1) HRr.out) (Nat.le_trans (Nat.le_trans (sizeI_takeY r (t+1)) HSr.out) (by omega))
     have HRm : ∀ wy:World,Calls Tryz.prog 49 #[.int .i64 128] wy fun e w'=>e=.returned (.int .i64 104)∧wy=w':=fun wy=>rroom_yes 128 wy (by decide)
     have hg1:decide (((a+t:Nat):Int)<(n:Int))=true:=by simp;omega
     have hg2:decide ((a:Int)+(t:Int)<(n:Int))=true:=by simp;omega
     have hg3:decide (a+t<n)=true:=by simp;omega
     have hwr:IntKind.i64.wrap ((a:Int)+(t:Int)+1)=(a:Int)+(t:Int)+1:=by rw[IntKind.wrap_i64];omega
     clear hsub hXX hXr hsz
     by_cases hfit:sz≤104
     ·have hf:decide ((sz:Int)≤104)=true:=by simp;omega
      go_upto_region 5 with fail
      have hby:=(Below.refl wx.heap.size wx).drew
      refine wp_region_held_drew (S:=fun w'=>w'.cell? ⟨b,0,none⟩=some (.int .i64 128)) (by kernel_rfl) (c0) (fun _=>?_)
      have hHeld:=c0
      refine tkA (i:=0) ?_
      try simp only[tkP]
      refine tkA (i:=1) ?_
      try simp only[tkP]
      refine tkA (i:=2) ?_
      try simp only[tkP]
      refine tkA (i:=3) ?_
      try simp only[tkP]
      refine tkA (i:=4) ?_
      try simp only[tkP]
      refine tkA (i:=5) ?_
      try simp only[tkP]
      refine tkA (i:=6) ?_
      try simp only[tkP]
      refine tkA (i:=7) ?_
      try simp only[tkP]
      refine tkA (i:=8) ?_
      try simp only[tkP]
      refine tkA (i:=9) ?_
      try simp only[tkP]
      refine tkA (i:=11) ?_
      try simp only[tkP]
      refine tkA (i:=12) ?_
      try simp only[tkP]
      refine tkA (i:=13) ?_
      try simp only[tkP]
      refine tkA (i:=14) ?_
      try simp only[tkP]
      refine wpAnyH_ready (rs:=[10]) (by kernel_rfl) (by simp) ?_
      refine tkC (fun K hK=>?_)
      go_simp
      refine (HSz _ hby).mono ?_
      rintro e w1 ⟨rfl,hb1⟩
      have hb2:=hby.trans (hb1.mono hby.size)
      clear hb1
      refine hK.out _ _ (hb2.cell (p:=⟨b,0,none⟩) HLx.out.blk.lt |>.trans c0) (fun hHeld=>?_)
      clear hK K
      try simp only[tkP]
      refine wpAnyH_ready (rs:=[15]) (by kernel_rfl) (by simp) ?_
      refine tkC (fun K hK=>?_)
      go_simp
      refine (HRm _).mono ?_
      rintro e w1 ⟨rfl,rfl⟩
      refine hK.out _ _ (hb2.cell (p:=⟨b,0,none⟩) HLx.out.blk.lt |>.trans c0) (fun hHeld=>?_)
      clear hK K
      try simp only[tkP]
      refine tkA (i:=16) ?_
      try simp only[tkP]
      refine tkA (i:=17) ?_
      try simp only[tkP]
      refine wpAnyH_done (by kernel_rfl) ?_ _
      clear hHeld
      have hB2:=Hd (hb.trans (hb2.mono hb.size))
      clear hb2 hby c0
      go_wp2_with fail
      go_roundw
      case rel =>
       obtain⟨e,rfl⟩ : ∃ e',e=e'+1:=⟨e-1,by have:=HE.out;omega⟩
       exact⟨t+1,e,by omega,by omega,congrArg (Value.int .i64) (by omega),Hd (by rw[HG.out,growT_step _ ⟨by rw[HRl.out];omega,by rw[← HZ.out];exact hfit⟩]),Hd (by have:=HE.out;omega),hB2⟩
      case measure=>simp[intOf];omega
     ·have hf:decide ((sz:Int)≤104)=false:=by simp;omega
      go_upto_region 5 with fail
      have hby:=(Below.refl wx.heap.size wx).drew
      refine wp_region_held_drew (S:=fun w'=>w'.cell? ⟨b,0,none⟩=some (.int .i64 128)) (by kernel_rfl) (c0) (fun _=>?_)
      have hHeld:=c0
      refine tkA (i:=0) ?_
      try simp only[tkP]
      refine tkA (i:=1) ?_
      try simp only[tkP]
      refine tkA (i:=2) ?_
      try simp only[tkP]
      refine tkA (i:=3) ?_
      try simp only[tkP]
      refine tkA (i:=4) ?_
      try simp only[tkP]
      refine tkA (i:=5) ?_
      try simp only[tkP]
      refine tkA (i:=6) ?_
      try simp only[tkP]
      refine tkA (i:=7) ?_
      try simp only[tkP]
      refine tkA (i:=8) ?_
      try simp only[tkP]
      refine tkA (i:=9) ?_
      try simp only[tkP]
      refine tkA (i:=11) ?_
      try simp only[tkP]
      refine tkA (i:=12) ?_
      try simp only[tkP]
      refine tkA (i:=13) ?_
      try simp only[tkP]
      refine tkA (i:=14) ?_
      try simp only[tkP]
      refine wpAnyH_ready (rs:=[10]) (by kernel_rfl) (by simp) ?_
      refine tkC (fun K hK=>?_)
      go_simp
      refine (HSz _ hby).mono ?_
      rintro e w1 ⟨rfl,hb1⟩
      have hb2:=hby.trans (hb1.mono hby.size)
      clear hb1
      refine hK.out _ _ (hb2.cell (p:=⟨b,0,none⟩) HLx.out.blk.lt |>.trans c0) (fun hHeld=>?_)
      clear hK K
      try simp only[tkP]
      refine wpAnyH_ready (rs:=[15]) (by kernel_rfl) (by simp) ?_
      refine tkC (fun K hK=>?_)
      go_simp
      refine (HRm _).mono ?_
      rintro e w1 ⟨rfl,rfl⟩
      refine hK.out _ _ (hb2.cell (p:=⟨b,0,none⟩) HLx.out.blk.lt |>.trans c0) (fun hHeld=>?_)
      clear hK K
      try simp only[tkP]
      refine tkA (i:=16) ?_
      try simp only[tkP]
      refine tkA (i:=17) ?_
      try simp only[tkP]
      refine wpAnyH_done (by kernel_rfl) ?_ _
      clear hHeld
      have hB2:=Hd (hb.trans (hb2.mono hb.size))
      have hmt:m=t:=by rw[HG.out,growT_end];rintro ⟨_,h1⟩;rw[← HZ.out] at h1;exact hfit h1
      clear hb2 hby c0
      go_wp2_with fail
      go_meet
      exact⟨congrArg (Value.int .i64) (by omega),Hd ⟨by omega,by omega⟩,hB2⟩
  case rest =>
   obtain⟨rfl,HMn,HB⟩:=hcut
   rename World=>wx
   have hm1:=HMn.out.1
   have hm2:=HMn.out.2
   have HLx:=Hd (HLy.out.below HB.out)
   have HSx:=Hd (HSt.out.below HB.out)
   have HOx:=Hd (own_below HO.out HB.out)
   have HRx:=Hd (Reads.of_own (own_below HOw.out HB.out))
   obtain⟨X,rX,hX,hXr⟩:=partI A n c a (a+m) (a:Int) ((a:Int)+(m:Int)) rfl (by omega) (by omega) hm2 HC.out
   have hXX:=hXr wx _ _ HRx.out
   have hsub:a+m-a=m:=by omega
   rw[hsub,← HRr.out] at hXX
   rw[hsub] at hX
   have HXr:=Hd hXX
   have hpl:(L++leafPgs 128 N ps).length=L.length+ps.length:=by rw[List.length_append,leafPgs_len]
   have HPs1000:=Hd (show ps.length≤1000 by have:=HPs.out;omega)
   have HNx : ∀ wy:World,Below wx.heap.size wx wy→Calls Tryz.prog 68 #[.pointer (some ⟨b,0,none⟩)] wy fun e w'=>e=.returned (.int .u32 ((N+ps.length:Nat):Int))∧w'=wy:=fun wy hy=>by
    have h1:=ynext_any (HLx.out.below hy) (by rw[hpl];have:=HPs1000.out;have:=HPl.out;omega)
    rw[hpl,show 2+(L.length+ps.length)=N+ps.length by rw[HNn.out];omega] at h1
    exact h1

   obtain⟨kd,ct,pg,tx,bd,er,HPg,HCase⟩ : ∃ (kd ct:Int) (pg tx:Nat) (bd:ByteArray) (er:Int),(∀ wy:World,Below wx.heap.size wx wy→Calls Tryz.prog 66 #[.int .i64 128,.int .u32 ((N+ps.length:Nat):Int),.int .u64 3,.slice X m rX] wy fun e w'=>e=.returned (.tuple #[.agg #[.int .i64 kd,.int .i64 ct,.int .u32 pg,.int .u32 0,.int .u64 tx,.string bd],.int .i64 er])∧Below wy.heap.size wy w')∧Hid ((mayP8 128 (N+ps.length) 3 (r.take m)=true∧kd=4∧ct=m∧pg=N+ps.length∧tx=3∧bd=itemBody 128 (r.take m)∧er=0)∨(mayP8 128 (N+ps.length) 3 (r.take m)=false∧er=2)):=by
    rcases hmay:mayP8 128 (N+ps.length) 3 (r.take m) with _ | _
    ·exact⟨0,0,0,0,ByteArray.empty,2,fun wy hy=>rpage8_no 128 (N+ps.length) 3 X m rX (r.take m) wy (HXr.out.below hy |>.more hy.size) (by have:=HN.out;omega) (nearI_part HX.out a m HRr.out) (Nat.le_trans (Nat.le_trans (sizeI_takeY r m) HSr.out) (by omega)) hmay,Hd (.inr ⟨rfl,rfl⟩)⟩
    ·exact⟨4,m,N+ps.length,3,itemBody 128 (r.take m),0,fun wy hy=>rpage8_yes 128 (N+ps.length) 3 X m rX (r.take m) wy (HXr.out.below hy |>.more hy.size) (by have:=HN.out;omega) hmay,Hd (.inl ⟨rfl,rfl,rfl,rfl,rfl,rfl,rfl⟩)⟩
   clear hsub hXX hXr hpl
   have c0:=HLx.out.c0
   go_upto_region 7 with fail
   go_cut [9,10] from 11 to 74 (fun s9 s10 wy=>∃ g,s9=.pointer (some ⟨g,0,none⟩)∧s10=.int .i64 er∧Hid (Blk wy g 41 #[.int .i64 kd,.int .i64 ct,.int .u32 pg,.int .u32 0,.int .u64 tx,.string bd])∧Hid (Below wx.heap.size wx wy)∧Hid (wx.heap.size≤g))
   case first =>

    refine wp_region_held_drew (S:=fun w'=>w'.cell? ⟨b,0,none⟩=some (.int .i64 128)) (by kernel_rfl) (c0) (fun _=>?_)
    have hHeld:=c0
    have hb2:=(Below.refl wx.heap.size wx).drew
    refine tkA (i:=0) ?_
    try simp only[tkP]
    refine tkA (i:=1) ?_
    try simp only[tkP]
    refine tkA (i:=2) ?_
    try simp only[tkP]
    refine tkA (i:=3) ?_
    try simp only[tkP]
    refine tkA (i:=4) ?_
    try simp only[tkP]
    refine tkA (i:=6) ?_
    try simp only[tkP]
    refine tkA (i:=7) ?_
    try simp only[tkP]
    refine tkA (i:=8) ?_
    try simp only[tkP]
    refine tkA (i:=9) ?_
    try simp only[tkP]
    refine wpAnyH_ready (rs:=[5,14]) (by kernel_rfl) (by simp) ?_
    refine AllReadyH.consL rfl (fun K hK=>?_) (AllReadyH.consL rfl (fun K hK=>?_) AllReadyH.nil)
    ·skip
     go_simp
     refine (HNx _ hb2).mono ?_
     rintro e wq ⟨rfl,rfl⟩
     refine hK.out _ _ (hb2.cell (p:=⟨b,0,none⟩) HLx.out.blk.lt |>.trans c0) (fun hHeld=>?_)
     clear hK K
     try simp only[tkP]
     refine wpAnyH_ready (rs:=[10,14]) (by kernel_rfl) (by simp) ?_
     refine AllReadyH.consL rfl (fun K hK=>?_) (AllReadyH.consL rfl (fun K hK=>?_) AllReadyH.nil)
     ·skip
      go_simp
      refine (HPg _ hb2).mono ?_
      rintro e w4 ⟨rfl,hb4⟩
      replace hb2:=hb2.trans (hb4.mono hb2.size)
      refine hK.out _ _ (hb2.cell (p:=⟨b,0,none⟩) HLx.out.blk.lt |>.trans c0) (fun hHeld=>?_)
      clear hK K
      try simp only[tkP]
      refine tkA (i:=11) ?_
      try simp only[tkP]
      refine tkA (i:=12) ?_
      try simp only[tkP]
      refine tkA (i:=13) ?_
      try simp only[tkP]
      refine wpAnyH_ready (rs:=[14]) (by kernel_rfl) (by simp) ?_
      refine tkC (fun K hK=>?_)
      go_simp
      refine hK.out _ _ ((hb2.alloc hb2.size _).cell (p:=⟨b,0,none⟩) HLx.out.blk.lt |>.trans c0) (fun hHeld=>?_)
      clear hK K
      try simp only[tkP]
      refine wpAnyH_ready (rs:=[15]) (by kernel_rfl) (by simp) ?_
      refine tkC (fun K hK=>?_)
      have Q9:=Hd (show Blk (w4.alloc (.cells #[.int .i64 kd,.int .i64 ct,.int .u32 pg,.int .u32 0,.int .u64 tx,.string bd] 41)) w4.heap.size 41 #[.int .i64 kd,.int .i64 ct,.int .u32 pg,.int .u32 0,.int .u64 tx,.string bd] from Blk.new _ _ _)
      have HW9:=Hd (show Below wx.heap.size wx (w4.alloc (.cells #[.int .i64 kd,.int .i64 ct,.int .u32 pg,.int .u32 0,.int .u64 tx,.string bd] 41)) from hb2.alloc hb2.size _)
      have HG9:=Hd hb2.size
      obtain⟨w9,hw9⟩ : ∃ x,x=w4.alloc (.cells #[.int .i64 kd,.int .i64 ct,.int .u32 pg,.int .u32 0,.int .u64 tx,.string bd] 41):=⟨_,rfl⟩
      rw[← hw9] at Q9 HW9
      go_simp
      rw[← hw9]
      clear hw9
      refine hK.out _ _ (HW9.out.cell (p:=⟨b,0,none⟩) HLx.out.blk.lt |>.trans c0) (fun hHeld=>?_)
      clear hK K
      try simp only[tkP]
      refine tkA (i:=16) ?_
      try simp only[tkP]
      refine wpAnyH_done (by kernel_rfl) ?_ _
      clear hHeld
      go_wp2_with fail
      go_meet
      exact⟨_,rfl,rfl,Q9,HW9,HG9⟩
     ·skip
      have hb3:=hb2
      obtain⟨wa,hwa⟩ : ∃ x,x=(wx.alloc (.cells #[.int .i64 0,.int .i64 0,.int .u32 0,.int .u32 0,.int .u64 0,.string .empty] 41)).drew:=⟨_,rfl⟩
      have HZa:=Hd (show Blk wa wx.heap.size 41 #[.int .i64 0,.int .i64 0,.int .u32 0,.int .u32 0,.int .u64 0,.string .empty] by rw[hwa];exact (Blk.new _ _ _).drew)
      have HZg:=Hd (show wx.heap.size≤wx.heap.size from Nat.le_refl _)
      replace hb2:=(show Below wx.heap.size wx wa by rw[hwa];exact ((Below.refl _ _).alloc (Nat.le_refl _) _).drew)
      go_simp
      rw[← hwa]
      clear hwa
      refine hK.out _ _ (hb2.cell (p:=⟨b,0,none⟩) HLx.out.blk.lt |>.trans c0) (fun hHeld=>?_)
      clear hK K
      try simp only[tkP]
      refine wpAnyH_ready (rs:=[10]) (by kernel_rfl) (by simp) ?_
      refine tkC (fun K hK=>?_)
      go_simp
      refine (HPg _ hb2).mono ?_
      rintro e w4 ⟨rfl,hb4⟩
      replace hb2:=hb2.trans (hb4.mono hb2.size)
      refine hK.out _ _ (hb2.cell (p:=⟨b,0,none⟩) HLx.out.blk.lt |>.trans c0) (fun hHeld=>?_)
      clear hK K
      try simp only[tkP]
      refine tkA (i:=11) ?_
      try simp only[tkP]
      refine tkA (i:=12) ?_
      try simp only[tkP]
      refine tkA (i:=13) ?_
      try simp only[tkP]
      have HZp:=Hd (HZa.out.below hb4 HZa.out.lt)
      have p0:=HZp.out.cell 0
      have f0:=HZp.out.frozen 0
      have p1:=HZp.out.cell 1
      have f1:=HZp.out.frozen 1
      have p2:=HZp.out.cell 2
      have f2:=HZp.out.frozen 2
      have p3:=HZp.out.cell 3
      have f3:=HZp.out.frozen 3
      have p4:=HZp.out.cell 4
      have f4:=HZp.out.frozen 4
      have p5:=HZp.out.cell 5
      have f5:=HZp.out.frozen 5
      simp at p0 p1 p2 p3 p4 p5
      refine wpAnyH_ready (rs:=[15]) (by kernel_rfl) (by simp) ?_
      refine tkC (fun K hK=>?_)
      have Q9:=Hd (show Blk ((((((w4.setCell ⟨wx.heap.size,0,none⟩ (.int .i64 kd)).setCell ⟨wx.heap.size,1,none⟩ (.int .i64 ct)).setCell ⟨wx.heap.size,2,none⟩ (.int .u32 pg)).setCell ⟨wx.heap.size,3,none⟩ (.int .u32 0)).setCell ⟨wx.heap.size,4,none⟩ (.int .u64 tx)).setCell ⟨wx.heap.size,5,none⟩ (.string bd)) wx.heap.size 41 #[.int .i64 kd,.int .i64 ct,.int .u32 pg,.int .u32 0,.int .u64 tx,.string bd] from six_at HZp.out)
      have HW9:=Hd (show Below wx.heap.size wx ((((((w4.setCell ⟨wx.heap.size,0,none⟩ (.int .i64 kd)).setCell ⟨wx.heap.size,1,none⟩ (.int .i64 ct)).setCell ⟨wx.heap.size,2,none⟩ (.int .u32 pg)).setCell ⟨wx.heap.size,3,none⟩ (.int .u32 0)).setCell ⟨wx.heap.size,4,none⟩ (.int .u64 tx)).setCell ⟨wx.heap.size,5,none⟩ (.string bd)) from six_below hb2 HZg.out)
      have HG9:=HZg
      obtain⟨w9,hw9⟩ : ∃ x,x=((((((w4.setCell ⟨wx.heap.size,0,none⟩ (.int .i64 kd)).setCell ⟨wx.heap.size,1,none⟩ (.int .i64 ct)).setCell ⟨wx.heap.size,2,none⟩ (.int .u32 pg)).setCell ⟨wx.heap.size,3,none⟩ (.int .u32 0)).setCell ⟨wx.heap.size,4,none⟩ (.int .u64 tx)).setCell ⟨wx.heap.size,5,none⟩ (.string bd)):=⟨_,rfl⟩
      rw[← hw9] at Q9 HW9
      go_simp
      rw[← hw9]
      clear hw9
      refine hK.out _ _ (HW9.out.cell (p:=⟨b,0,none⟩) HLx.out.blk.lt |>.trans c0) (fun hHeld=>?_)
      clear hK K
      try simp only[tkP]
      refine tkA (i:=16) ?_
      try simp only[tkP]
      refine wpAnyH_done (by kernel_rfl) ?_ _
      clear hHeld
      go_wp2_with fail
      go_meet
      exact⟨_,rfl,rfl,Q9,HW9,HG9⟩
    ·skip
     have hb3:=hb2
     obtain⟨wa,hwa⟩ : ∃ x,x=(wx.alloc (.cells #[.int .i64 0,.int .i64 0,.int .u32 0,.int .u32 0,.int .u64 0,.string .empty] 41)).drew:=⟨_,rfl⟩
     have HZa:=Hd (show Blk wa wx.heap.size 41 #[.int .i64 0,.int .i64 0,.int .u32 0,.int .u32 0,.int .u64 0,.string .empty] by rw[hwa];exact (Blk.new _ _ _).drew)
     have HZg:=Hd (show wx.heap.size≤wx.heap.size from Nat.le_refl _)
     replace hb2:=(show Below wx.heap.size wx wa by rw[hwa];exact ((Below.refl _ _).alloc (Nat.le_refl _) _).drew)
     go_simp
     rw[← hwa]
     clear hwa
     refine hK.out _ _ (hb2.cell (p:=⟨b,0,none⟩) HLx.out.blk.lt |>.trans c0) (fun hHeld=>?_)
     clear hK K
     try simp only[tkP]
     refine wpAnyH_ready (rs:=[5]) (by kernel_rfl) (by simp) ?_
     refine tkC (fun K hK=>?_)
     go_simp
     refine (HNx _ hb2).mono ?_
     rintro e wq ⟨rfl,rfl⟩
     refine hK.out _ _ (hb2.cell (p:=⟨b,0,none⟩) HLx.out.blk.lt |>.trans c0) (fun hHeld=>?_)
     clear hK K
     try simp only[tkP]
     refine wpAnyH_ready (rs:=[10]) (by kernel_rfl) (by simp) ?_
     refine tkC (fun K hK=>?_)
     go_simp
     refine (HPg _ hb2).mono ?_
     rintro e w4 ⟨rfl,hb4⟩
     replace hb2:=hb2.trans (hb4.mono hb2.size)
     refine hK.out _ _ (hb2.cell (p:=⟨b,0,none⟩) HLx.out.blk.lt |>.trans c0) (fun hHeld=>?_)
     clear hK K
     try simp only[tkP]
     refine tkA (i:=11) ?_
     try simp only[tkP]
     refine tkA (i:=12) ?_
     try simp only[tkP]
     refine tkA (i:=13) ?_
     try simp only[tkP]
     have HZp:=Hd (HZa.out.below hb4 HZa.out.lt)
     have p0:=HZp.out.cell 0
     have f0:=HZp.out.frozen 0
     have p1:=HZp.out.cell 1
     have f1:=HZp.out.frozen 1
     have p2:=HZp.out.cell 2
     have f2:=HZp.out.frozen 2
     have p3:=HZp.out.cell 3
     have f3:=HZp.out.frozen 3
     have p4:=HZp.out.cell 4
     have f4:=HZp.out.frozen 4
     have p5:=HZp.out.cell 5
     have f5:=HZp.out.frozen 5
     simp at p0 p1 p2 p3 p4 p5
     refine wpAnyH_ready (rs:=[15]) (by kernel_rfl) (by simp) ?_
     refine tkC (fun K hK=>?_)
     have Q9:=Hd (show Blk ((((((w4.setCell ⟨wx.heap.size,0,none⟩ (.int .i64 kd)).setCell ⟨wx.heap.size,1,none⟩ (.int .i64 ct)).setCell ⟨wx.heap.size,2,none⟩ (.int .u32 pg)).setCell ⟨wx.heap.size,3,none⟩ (.int .u32 0)).setCell ⟨wx.heap.size,4,none⟩ (.int .u64 tx)).setCell ⟨wx.heap.size,5,none⟩ (.string bd)) wx.heap.size 41 #[.int .i64 kd,.int .i64 ct,.int .u32 pg,.int .u32 0,.int .u64 tx,.string bd] from six_at HZp.out)
     have HW9:=Hd (show Below wx.heap.size wx ((((((w4.setCell ⟨wx.heap.size,0,none⟩ (.int .i64 kd)).setCell ⟨wx.heap.size,1,none⟩ (.int .i64 ct)).setCell ⟨wx.heap.size,2,none⟩ (.int .u32 pg)).setCell ⟨wx.heap.size,3,none⟩ (.int .u32 0)).setCell ⟨wx.heap.size,4,none⟩ (.int .u64 tx)).setCell ⟨wx.heap.size,5,none⟩ (.string bd)) from six_below hb2 HZg.out)
     have HG9:=HZg
     obtain⟨w9,hw9⟩ : ∃ x,x=((((((w4.setCell ⟨wx.heap.size,0,none⟩ (.int .i64 kd)).setCell ⟨wx.heap.size,1,none⟩ (.int .i64 ct)).setCell ⟨wx.heap.size,2,none⟩ (.int .u32 pg)).setCell ⟨wx.heap.size,3,none⟩ (.int .u32 0)).setCell ⟨wx.heap.size,4,none⟩ (.int .u64 tx)).setCell ⟨wx.heap.size,5,none⟩ (.string bd)):=⟨_,rfl⟩
     rw[← hw9] at Q9 HW9
     go_simp
     rw[← hw9]
     clear hw9
     refine hK.out _ _ (HW9.out.cell (p:=⟨b,0,none⟩) HLx.out.blk.lt |>.trans c0) (fun hHeld=>?_)
     clear hK K
     try simp only[tkP]
     refine tkA (i:=16) ?_
     try simp only[tkP]
     refine wpAnyH_done (by kernel_rfl) ?_ _
     clear hHeld
     go_wp2_with fail
     go_meet
     exact⟨_,rfl,rfl,Q9,HW9,HG9⟩
   case rest =>
    obtain⟨g,rfl,rfl,HPb,HBy,HGg⟩:=hcut
    rename World=>wy

    rcases HCase.out with ⟨hmay,rfl,rfl,rfl,rfl,rfl,rfl⟩ | ⟨hmay,rfl⟩
    rotate_left
    ·have hbad:leafMay 128 N (cutG sizeI 104 n l)=false:=by
      rw[HCut.out,leafMay_append,← HRr.out,cutG_cons (by intro h0;have:=HRl.out;rw[h0] at this;simp at this;omega),leafMay,← HMm.out,(show mayP8 ((128:Nat):Int) (N+ps.length) 3 (r.take m)=false from hmay),Bool.false_and,Bool.and_false]
     have HBad:=Hd hbad
     have HEnd:=Hd (HSx.out.below HBy.out)
     clear hbad c0 HNx HPg hX
     go_wp2_with fail
     go_ret2
     exact⟨V',HEnd.out,.inr ⟨by rw[← HNn.out];exact HBad.out,rfl⟩⟩
    have HMay:=Hd hmay
    clear hmay
    clear c0 HNx HPg hX HCase
    have HLy2:=Hd (HLx.out.below HBy.out)
    have HSt2:=Hd (HSx.out.below HBy.out)
    have HOy:=Hd (own_below HOx.out HBy.out)
    have HRy:=Hd ((HRx.out.below HBy.out).more HBy.out.size)
    obtain⟨ad,x,rfl,hab,hab2,hx,hat⟩:=it_at HRy.out hlt
    have hkey:keyI (r.take m)=x.ky:=by
     have h1:r[0]? = some x:=by rw[HRr.out,List.getElem?_drop];exact hx
     obtain⟨y,ys,hy⟩ : ∃ y ys,r=y::ys:=by
      cases hr0:r with
      | nil=>rw[hr0] at h1;cases h1
      | cons y ys=>exact⟨y,ys,rfl⟩
     rw[hy] at h1 ⊢
     simp at h1
     subst h1
     obtain⟨m',rfl⟩ : ∃ m',m=m'+1:=⟨m-1,by omega⟩
     rfl
    have HKey:=Hd hkey
    have k0:=hat.1
    have q0:=HPb.out.cell 0
    have q1:=HPb.out.cell 1
    have q2:=HPb.out.cell 2
    have q3:=HPb.out.cell 3
    have q4:=HPb.out.cell 4
    have q5:=HPb.out.cell 5
    simp at q0 q1 q2 q3 q4 q5
    have hpl:=HPs1000.out
    have hi0a:(0:Int)≤a:=by omega
    have hi0b:(a:Int)<n:=by omega
    obtain⟨kx,hkx⟩ : ∃ k,k=x.ky:=⟨_,rfl⟩
    rw[← hkx] at k0 HKey
    have HX:=Hd (HOy.out.alloc (.cells #[.string kx,.int .u32 ((N+ps.length:Nat):Int)] 45))
    have HXs:=Hd (show w.heap.size≤(wy.alloc (.cells #[.string kx,.int .u32 ((N+ps.length:Nat):Int)] 45)).heap.size by rw[World.size_alloc];have:=HSt2.out.kept.size;omega)
    clear hab hx hat hkey hkx
    have HXd:=Hd HX.out.drew
    go_upto_region 10 with fail
    go_cut [6] from 11 to 74 (fun so wz=>∃ A5 c5,so=.slice A5 (ps.length+1) c5∧Hid (wz.ownsRow w.heap.size 45 2 (.slice A5 (ps.length+1) c5) (ps.length+1) (fkc (leafFks N ps++[⟨kx,N+ps.length⟩])))∧Hid (LyAt wz b V' (L++leafPgs 128 N ps))∧Hid (LyStep b V w V' wz)∧Hid (Blk wz g 41 #[.int .i64 4,.int .i64 m,.int .u32 ((N+ps.length:Nat):Int),.int .u32 0,.int .u64 (3:Nat),.string (itemBody 128 (r.take m))]))
    case first =>
     go_region_law
      ((refine step_append_any (by rfl) (.tmp 53) (.tmp 62) _ (by rfl) w.heap.size 45 j0 _ 2 24 Tryz.underlying46 hj0 hy0 hy1 hy2 rfl (by omega) (.slice A' ps.length c') ps.length (fkc (leafFks N ps)) (by rfl) HXd.out (wy.heap.size+1) (some ⟨wy.heap.size,0,none⟩) 1 1 (fkc [⟨kx,N+ps.length⟩]) (by rfl) (reads_own (n:=1) (Blk.new wy _ _).drew rfl) (fkc_one _) (by unfold maxLen;omega) (by omega) HXs.out ?_;intro v5 w5 hown5 hg5 hat5;rw[← fkc_append] at hown5;obtain⟨A5,c5,rfl,_,_,_⟩:=own_form hown5;have HO5:=Hd hown5;have HG5:=Hd hg5;clear hown5 hg5 hat5))
     all_goals
      go_wp2_with fail
      go_meet
      obtain⟨h1,h2,h3⟩:=out_grow (V:=V) (w:=w) (HLy2.out.below (((Below.refl _ wy).alloc (Nat.le_refl _) _).drew)) (HSt2.out.below (((Below.refl _ wy).alloc (Nat.le_refl _) _).drew)) HXd.out HG5.out (HPb.out.alloc _).drew
      exact⟨A5,c5,rfl,HO5,Hd h1,Hd h2,Hd h3⟩
    case rest =>
     obtain⟨A5,c5,rfl,HO5,HL5,HS5,HP5⟩:=hcut
     rename World=>wz
     clear q0 q1 q2 q3 q4 q5 k0 hab2
     obtain⟨LP,hLP⟩ : ∃ x,x=L++leafPgs 128 N ps:=⟨_,rfl⟩
     have HLP:=Hd hLP
     rw[← hLP] at HL5
     clear hLP
     obtain⟨BD,hBD⟩ : ∃ B,B=itemBody 128 (r.take m):=⟨_,rfl⟩
     have HBD:=Hd hBD
     rw[← hBD] at HP5
     obtain⟨pn,hpn⟩ : ∃ q,q=N+ps.length:=⟨_,rfl⟩
     have HPN:=Hd hpn
     rw[← hpn] at HP5
     clear hBD hpn
     have q0:=HP5.out.cell 0
     have q1:=HP5.out.cell 1
     have q2:=HP5.out.cell 2
     have q3:=HP5.out.cell 3
     have q4:=HP5.out.cell 4
     have q5:=HP5.out.cell 5
     simp at q0 q1 q2 q3 q4 q5
     have cb1:=HL5.out.c1
     have fb1:=HL5.out.blk.frozen 1
     have HLa:=Hd (HL5.out.below (((Below.refl _ wz).alloc (Nat.le_refl _) (.cells #[.int .i64 4,.int .i64 m,.int .u32 pn,.int .u32 0,.int .u64 3,.string BD] 41)).drew))
     have HSa:=Hd (HS5.out.below (((Below.refl _ wz).alloc (Nat.le_refl _) (.cells #[.int .i64 4,.int .i64 m,.int .u32 pn,.int .u32 0,.int .u64 3,.string BD] 41)).drew))
     have HOa:=Hd ((HO5.out.alloc (.cells #[.int .i64 4,.int .i64 m,.int .u32 pn,.int .u32 0,.int .u64 3,.string BD] 41)).drew)
     have cb2:=HLa.out.c1
     have hll:LP.length≤200000:=by rw[HLP.out,List.length_append,leafPgs_len];have:=HPl.out;omega
     go_upto_region 11 with fail
     go_region_law
      ((refine step_append_any (by rfl) (.tmp 68) (.tmp 70) _ (by rfl) 0 41 i0 _ 6 48 Tryz.underlying48 hi0 hz0 hz1 hz2 rfl (by omega) V' LP.length (pgcs LP) (by rfl) HLa.out.own (wz.heap.size+1) (some ⟨wz.heap.size,0,none⟩) 1 1 (pgcs [⟨4,m,pn,0,3,BD⟩]) (by rfl) (reads_own (n:=1) (Blk.new wz _ _).drew rfl) (pgcs_one _) (by unfold maxLen;omega) (by omega) (Nat.zero_le _) ?_;intro v7 w7 hown7 hg7 hat7;rw[← pgcs_append] at hown7;obtain⟨A7,c7,rfl,_,_,_⟩:=own_form hown7;have HO7:=Hd hown7;have HG7:=Hd hg7;have HA7:=Hd hat7;have b1:=(HLa.out.grown hg7 hat7).1.cell 1;have x1:=(HLa.out.grown hg7 hat7).1.frozen 1;simp at b1;clear hown7 hg7 hat7))
     all_goals
      go_wp2_with fail
      go_roundw
      case rel =>
       obtain⟨e1,e2,e3⟩:=pgs_grow (L':=LP++[⟨4,m,pn,0,3,BD⟩]) HSa.out HLa.out HG7.out (by rw[List.length_append];exact HO7.out) HA7.out HOa.out
       have htl:(r.take m).length=m:=by rw[List.length_take,HRl.out];omega
       have E1:=Hd (show l.length≤a+m+d by have:=HD.out;omega)
       have E2:=Hd (show cutG sizeI 104 n l=(ps++[r.take m])++cutG sizeI 104 d (l.drop (a+m)) by
        rw[HCut.out,← HRr.out,cutG_cons (by intro h0;have:=HRl.out;rw[h0] at this;simp at this;omega),← HMm.out,HRr.out,List.drop_drop]
        simp)
       have E3:=Hd e3
       rw[show leafFks N ps++[⟨kx,N+ps.length⟩]=leafFks N (ps++[r.take m]) by rw[leafFks_append,leafFks,leafFks,HKey.out],show ps.length+1=(ps++[r.take m]).length by rw[List.length_append];rfl] at E3
       have E4:=Hd e1
       rw[show LP++[⟨4,m,pn,0,3,BD⟩]=L++leafPgs 128 N (ps++[r.take m]) by rw[leafPgs_append,← List.append_assoc,leafPgs,leafPgs,leafPg,htl,← HBD.out,← HPN.out,← HLP.out]] at E4
       have E5:=Hd e2
       have E6:=Hd (show (ps++[r.take m]).length≤a+m by rw[List.length_append];have:=HPs.out;simp;omega)
       have E7:=Hd (show leafMay 128 N (ps++[r.take m])=true by rw[leafMay_append,HM.out,leafMay,leafMay];simpa using HMay.out)
       clear e1 e2 e3
       first
        | exact⟨a+m,d,ps++[r.take m],A5,c5,_,hm2,by first | rfl | exact congrArg (Value.int .i64) (by omega),by rw[List.length_append];rfl,E1,E2,E3,E4,E5,E6,E7⟩
        | ((repeat apply Exists.intro);exact⟨⟨a+m,d,ps++[r.take m],A5,c5,_,hm2,by first | rfl | exact congrArg (Value.int .i64) (by omega),by rw[List.length_append];rfl,E1,E2,E3,E4,E5,E6,E7⟩,rfl⟩)
      case measure =>
       show n-((a:Int)+(m:Int)).toNat<n-((a:Int)).toNat
       omega
end Go.Proofs.YtanbbnogdhnikaaGreat

