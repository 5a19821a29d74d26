/-
  Texts that the main proof rests on, put together: Ref9Parts, Ref7Valid. No statement is proved here.
-/
import Derived.Test.YtanbbnogdhnikaaGreatJ16
set_option linter.unusedVariables false
set_option linter.unusedSimpArgs false
set_option maxRecDepth 300000
set_option maxHeartbeats 25600000
namespace Go.Proofs.YtanbbnogdhnikaaGreat
open Go.RowKit
open Go.Lib hiding intOf
attribute [local go_sem ↓] Go.wp_at_zero Go.wp_at_succ

theorem infoS9:(Tryz.prog.info? 9).map (fun i=>(i.zero,i.size,i.bytes))=some (some (.string .empty),1,16):=by kernel_rfl
theorem extdrop9 (t:ByteArray) (k:Nat):(t.extract k t.size).data.toList=t.data.toList.drop k:=by
 have h:t.data.size=t.data.toList.length:=by simp
 rw[ByteArray.data_extract,Array.toList_extract,List.extract_eq_take_drop,List.take_of_length_le]
 rw[List.length_drop]
 show _≤t.data.size-k
 omega
theorem piece_front {v R:ByteArray} {k r q:Nat} (hr0:0<r) (hR:R=v.extract (k*r) v.size) (hkl:k*r<v.size) (hq:q=min R.size r):R.extract 0 q=piece r v k∧R.extract q R.size=v.extract ((k+1)*r) v.size:=by
 have hRs:R.size=v.size-k*r:=by rw[hR,ByteArray.size_extract];omega
 constructor
 ·apply bytes_ext
  rw[hR]
  unfold piece
  simp only[ByteArray.data_extract,Array.toList_extract,List.extract_eq_take_drop,List.drop_zero,Nat.sub_zero]
  rw[List.take_take]
  congr 1
  rw[Nat.add_mul,Nat.one_mul]
  omega
 ·apply bytes_ext
  rw[hR]
  have e1:(v.extract (k*r) v.size).data.toList=v.data.toList.drop (k*r):=extdrop9 v (k*r)
  have e2:(v.extract ((k+1)*r) v.size).data.toList=v.data.toList.drop ((k+1)*r):=extdrop9 v ((k+1)*r)
  have e3:((v.extract (k*r) v.size).extract q (v.extract (k*r) v.size).size).data.toList=((v.extract (k*r) v.size).data.toList).drop q:=extdrop9 _ q
  rw[e3,e1,e2,List.drop_drop]
  by_cases hq2:q=r
  ·rw[hq2,Nat.add_mul,Nat.one_mul]
  ·have hlen:v.data.toList.length=v.size:=size_list v
   rw[List.drop_eq_nil_of_le (by omega),List.drop_eq_nil_of_le (by rw[Nat.add_mul,Nat.one_mul];omega)]
theorem chunks_take_succ {v:ByteArray} {r k:Nat} (hlt:k<ceilD v.size r):(chunks r v).take (k+1)=(chunks r v).take k++[piece r v k]:=by
 have:(chunks r v)[k]? = some (piece r v k):=by
  unfold chunks
  rw[List.getElem?_map,List.getElem?_range hlt]
  rfl
 obtain⟨h1,h2⟩:=List.getElem?_eq_some_iff.1 this
 rw[List.take_succ_eq_append_getElem h1,h2]
def strLenV:Value→Nat
 | .string s=>s.size
 | _=>0
theorem ceilD_le {n r:Nat} (hr:0<r):ceilD n r≤n:=by
 rcases Nat.lt_or_ge 0 (ceilD n r) with h | h
 ·have h2:=piece_lt (n:=n) (r:=r) (i:=ceilD n r-1) hr (by omega)
  have h3:(ceilD n r-1)*1≤(ceilD n r-1)*r:=Nat.mul_le_mul_left _ hr
  omega
 ·omega
theorem rparts9_any (size:Int) (v:ByteArray) (w:World) (hv:v.size≤1000000) :
  Calls Tryz.prog 112 #[.int .i64 size,.string v] w fun e w'=>∃ A n c,e=.returned (.slice A n c)∧Reads w' w'.heap.size 1 A n (strc (partsL size v))∧n≤c∧c≤maxLen∧Below w.heap.size w w':=by
 have HG:=fun w=>rgood_any size w
 rcases hg:goodSize size with _ | _
 ·rw[hg] at HG
  have HE:=Hd (show partsL size v=[] by rw[partsL,hg];rfl)
  clear hg
  go_enter Tryz.func112,Tryz.ntmps112
  go_wp2_with (go_at_call 32;refine (HG _).mono ?_;rintro e w' ⟨rfl,rfl⟩)
  go_ret
  rw[HE.out]
  exact⟨none,0,0,rfl,Reads.none_,Nat.le_refl _,by simp[maxLen],Below.refl _ _⟩
 obtain⟨i0,hi0,hz0,hz1,hz2⟩:=info_parts infoS9
 obtain⟨z,rfl,hz1',hz2',_⟩:=good_nat hg
 obtain⟨r,hr⟩ : ∃ r,r=z-24:=⟨_,rfl⟩
 have HM : ∀ w:World,Calls Tryz.prog 49 #[.int .i64 z] w fun e w'=>e=.returned (.int .i64 (r:Int))∧w=w':=fun w=>by
  have h:=rroom_yes z w hg
  rwa [show (z:Int)-24=(r:Int) by omega] at h
 have hr0:0<r:=by omega
 have hr9:r≤4096:=by omega
 have HE:=Hd (show partsL z v=chunks r v by rw[partsL,hg,if_pos rfl];congr 1;omega)
 rw[hg] at HG
 have HB0:=Hd (Below.refl w.heap.size w)
 clear hg hz1' hz2' hr
 go_enter Tryz.func112,Tryz.ntmps112
 go_wp2_with (go_at_call 32;refine (HG _).mono ?_;rintro e w' ⟨rfl,rfl⟩)
 go_loopw [1,5,6] (fun p o _ wr=>∃ (k:Nat) (A:Option Addr) (c:Nat),k≤ceilD v.size r∧p=.string (v.extract (k*r) v.size)∧o=.slice A k c∧Hid (wr.ownsRow w.heap.size 9 1 (.slice A k c) k (strc ((chunks r v).take k)))∧Hid (Below w.heap.size w wr)) (fun p _ _ _=>strLenV p)
 case atStart=>exact⟨0,none,0,Nat.zero_le _,by simp,rfl,Hd (World.ownsRow_nil _ _ _ _),HB0⟩
 case round =>
  clear HB0
  obtain⟨k,A,c,hk,rfl,rfl,HO,HB⟩:=hrel
  obtain⟨R,hR⟩ : ∃ R,R=v.extract (k*r) v.size:=⟨_,rfl⟩
  have hRs:R.size=v.size-k*r:=by rw[hR,ByteArray.size_extract];omega
  rw[← hR]
  have hk9:k≤1000000:=by have:=ceilD_le (n:=v.size) hr0;omega
  by_cases hlt:k<ceilD v.size r
  ·have hkl:=piece_lt hr0 hlt
   obtain⟨q,hq⟩ : ∃ q,q=min R.size r:=⟨_,rfl⟩
   have hmin:min (R.size:Int) (r:Int)=(q:Int):=by omega
   have hemp:R.toList.isEmpty=false:=by
    rw[Bool.eq_false_iff]
    intro h
    rw[List.isEmpty_iff_length_eq_zero,ByteArray.toList_eq,size_list] at h
    omega
   have hql:q≤R.size:=by omega
   have hqi:(q:Int)≤(R.size:Int):=by omega
   have hq0:0<q:=by omega
   have HPN:=Hd (piece_front hr0 hR hkl hq)
   have HT:=Hd (chunks_take_succ hlt)
   have HRs:=Hd hRs
   have HQ:=Hd hq
   clear hq hR hkl hRs
   go_wp2_with (go_at_call 49;refine (HM _).mono ?_;rintro e w' ⟨rfl,rfl⟩)
   clear hmin
   obtain⟨w0,hw0⟩ : ∃ w0,w0=wr.drew:=⟨_,rfl⟩
   replace HO:=Hd (show w0.ownsRow w.heap.size 9 1 (.slice A k c) k (strc ((chunks r v).take k)) by rw[hw0];exact HO.out.drew)
   replace HB:=Hd (show Below w.heap.size w w0 by rw[hw0];exact HB.out.drew)
   refine wp_region_held_drew (S:=(fun _=>True)) (by kernel_rfl) trivial (fun hHeld=>?_)
   rw[← hw0]
   clear hw0
   refine tkA (i:=0) ?_
   try simp only[tkP]
   refine tkA (i:=1) ?_
   try simp only[tkP]
   refine tkA (i:=2) ?_
   try simp only[tkP]
   refine tkA (i:=3) ?_
   try simp only[tkP]
   refine tkA (i:=6) ?_
   try simp only[tkP]
   refine tkA (i:=7) ?_
   try simp only[tkP]
   refine tkA (i:=8) ?_
   try simp only[tkP]
   refine wpAnyH_ready (rs:=[4]) (by kernel_rfl) (by simp) ?_
   refine tkC (fun K hK=>?_)
   go_simp
   refine hK.out _ _ (trivial) (fun hHeld=>?_)
   clear hK K
   try simp only[tkP]
   refine wpAnyH_ready (rs:=[5]) (by kernel_rfl) (by simp) ?_
   refine tkC (fun K hK=>?_)
   refine wp_append_any _ (.tmp 17) (.tmp 21) _ rfl w.heap.size 9 i0 _ 1 16 Tryz.underlying181 hi0 hz0 hz1 hz2 rfl (by omega) _ k _ rfl (HO.out.alloc _) (w0.heap.size+1) (some ⟨w0.heap.size,0,none⟩) 1 1 [.string (R.extract 0 q)] rfl (reads_new _ _ _ _) (oneCell_one rfl) (by unfold maxLen;omega) (by omega) (by have:=HB.out.size;simp;omega) ?_
   intro v5 w5 hown5 hg5 hat
   clear hat
   refine hK.out _ _ (trivial) (fun hHeld=>?_)
   clear hK K
   try simp only[tkP]
   refine tkA (i:=9) ?_
   try simp only[tkP]
   refine tkA (i:=10) ?_
   try simp only[tkP]
   refine wpAnyH_done (by kernel_rfl) ?_ _
   have hown6:w5.ownsRow w.heap.size 9 1 v5 (k+1) (strc ((chunks r v).take (k+1))):=by
    rw[HT.out,← HPN.out.1]
    simpa [strc] using hown5
   obtain⟨A5,c5,rfl,_,_,_⟩:=own_form hown6
   have HO5:=Hd hown6
   have HB5:=Hd ((HB.out.alloc HB.out.size (.cells #[.string (R.extract 0 q)] 9)).grown hg5 (by have:=HB.out.size;simp;omega) (fun j hj=>(HO.out.lt j hj).1))
   clear hown5 hown6 hg5 HO HB hHeld
   go_wp2_with fail
   go_roundw
   case rel =>
    have hnx:=HPN.out.2
    first
     | exact⟨k+1,A5,c5,by omega,by rw[hnx],rfl,HO5,HB5⟩
     | ((repeat apply Exists.intro);exact⟨⟨k+1,A5,c5,by omega,by rw[hnx],rfl,HO5,HB5⟩,rfl⟩)
   case measure =>
    simp only[strLenV]
    first
     | (rw[ByteArray.size_extract];omega)
     | omega
  ·have hkc:k=ceilD v.size r:=by omega
   have hend:=piece_end hr0 hlt
   have hemp:R.toList.isEmpty=true:=by
    rw[List.isEmpty_iff_length_eq_zero,ByteArray.toList_eq,size_list]
    omega
   have hemp2:R.toList=[]:=List.isEmpty_iff.1 hemp
   have HT:=Hd (show strc ((chunks r v).take k)=strc (partsL z v) by rw[HE.out,List.take_of_length_le (by rw[chunks_len];omega)])
   clear hRs hR hend hkc hlt
   go_wp2_with fail
   go_ret
   obtain⟨A',c',he,h1,h2,_⟩:=own_form HO.out
   injection he with e1 e2 e3
   subst e1
   subst e3
   rw[← HT.out]
   exact⟨A,k,c,rfl,Reads.of_own HO.out,h1,h2,HB.out⟩
theorem rmay7_any (A:Option Addr) (n c:Nat) (l:List Fk) (w:World) (hr:Reads w w.heap.size 2 A n (fkc l)) (hn:n≤5864062014805) :
  Calls Tryz.prog 47 #[.slice A n c] w fun e w'=>e=.returned (.bool (mayF l))∧Below w.heap.size w w':=by
 have HL:=Hd (fk_len hr)
 have HR:=Hd hr
 clear hr
 go_enter Tryz.func47,Tryz.ntmps47
 go_wp2_with fail
 go_loopw [3] (fun i wr=>∃ k:Nat,k≤n∧i=.int .i64 k∧Hid (∀ j,j<k→okAtF l j=true)∧Hid (Below w.heap.size w wr)) (fun i _=>n-(intOf i).toNat)
 case atStart=>exact⟨0,Nat.zero_le _,rfl,Hd fun j hj=>absurd hj (by omega),Hd (Below.refl _ _)⟩
 case round =>
  obtain⟨k,hk,rfl,HF,HB⟩:=hrel
  by_cases hlt:k<n
  ·obtain⟨ad,x,rfl,_,hp,hx,hc⟩:=fk_at HR.out hlt
   obtain⟨c0,c1⟩:=hc.below HB.out hp
   have hk0:(0:Int)≤k:=by omega
   have hk1:(k:Int)<n:=by omega
   have HX:=Hd hx
   have hkl:k<l.length:=by rw[HL.out];exact hlt
   have HK:=fun w=>rkey_any x.nm w
   have HN:=fun w=>rnumB_any x.rt w
   clear hx hc hp
   rcases hnm:keyF x.nm with _ | _
   ·have HE:=Hd (show mayF l=false by rw[mayF,allOkF_no hkl (by rw[okAtF_of HX.out,okFk,hnm];rfl)];rfl)
    rw[hnm] at HK
    clear hkl hnm
    go_wp2_with fail
    go_quiet ((go_at_call 81;exact Calls.quiet_of_same (HK _)))
    go_wp2_with fail
    go_ret
    exact⟨by rw[HE.out];rfl,below_drewN HB.out _⟩
   rw[hnm] at HK
   rcases hnb:numB x.rt with _ | _
   ·have HE:=Hd (show mayF l=false by rw[mayF,allOkF_no hkl (by rw[okAtF_of HX.out,okFk,hnm,hnb];rfl)];rfl)
    rw[hnb] at HN
    clear hkl hnm hnb
    go_wp2_with fail
    go_quiet (first | (go_at_call 81;exact Calls.quiet_of_same (HK _)) | (go_at_call 50;exact Calls.quiet_of_same (HN _)))
    go_wp2_with fail
    go_ret
    exact⟨by rw[HE.out];rfl,below_drewN HB.out _⟩
   rw[hnb] at HN
   have hok:okFk x=true:=by rw[okFk,hnm,hnb];rfl
   clear hnm hnb
   by_cases hk00:k=0
   ·have HE:=Hd (show okAtF l k=true by rw[okAtF_of HX.out,hok,hk00];rfl)
    have hk3:decide ((k:Int) > 0)=false:=by simp;omega
    have hk4:decide (0<k)=false:=by simp;omega
    clear hk00 hok hkl
    go_wp2_with fail
    go_quiet (first | (go_at_call 81;exact Calls.quiet_of_same (HK _)) | (go_at_call 50;exact Calls.quiet_of_same (HN _)))
    go_wp2_with fail
    have HF':=Hd (fun j (hj:j<k+1)=>show okAtF l j=true from by
     by_cases hjk:j<k
     ·exact HF.out j hjk
     ·have e:j=k:=by omega
      rw[e];exact HE.out)
    have HB':=Hd (below_drewN HB.out nq)
    go_roundw
    case rel =>
     first
      | exact⟨k+1,by omega,by go_num,HF',HB'⟩
      | ((repeat apply Exists.intro);exact⟨⟨k+1,by omega,by go_num,HF',HB'⟩,rfl⟩)
    case measure=>simp[intOf];omega
   obtain⟨j,hkj⟩ : ∃ j,k=j+1:=⟨k-1,by omega⟩
   obtain⟨ad',y,had,_,hpy,hy,hcy⟩:=fk_at HR.out (show j<n by omega)
   injection had with had
   subst had
   obtain⟨y0,_⟩:=hcy.below HB.out hpy
   have hj1:IntKind.i64.wrap ((k:Int)-1)=(j:Int):=by rw[IntKind.wrap_i64];omega
   have hj2:(k:Int)-1=(j:Int):=by omega
   have hj5:IntKind.i64.wrap (j:Int)=(j:Int):=by rw[IntKind.wrap_i64];omega
   have hj3:(0:Int)≤j:=by omega
   have hj4:(j:Int)<n:=by omega
   have hk3:decide ((k:Int) > 0)=true:=by simp;omega
   have hk4:decide (0<k)=true:=by simp;omega
   have hat:okAtF l k=Op.bytesLess y.nm.toList x.nm.toList:=by rw[okAtF_of HX.out,hok,hkj];simp[hy]
   rcases hless:Op.bytesLess y.nm.toList x.nm.toList with _ | _
   ·have HE:=Hd (show mayF l=false by rw[mayF,allOkF_no hkl (by rw[hat,hless])];rfl)
    clear hat hkl hok hy hkj hk00 hcy
    go_wp2_with fail
    go_quiet (first | (go_at_call 81;exact Calls.quiet_of_same (HK _)) | (go_at_call 50;exact Calls.quiet_of_same (HN _)))
    go_wp2_with fail
    go_ret
    exact⟨by rw[HE.out];rfl,below_drewN HB.out _⟩
   ·have HE:=Hd (show okAtF l k=true by rw[hat,hless])
    clear hat hkl hok hy hkj hk00 hcy
    go_wp2_with fail
    go_quiet (first | (go_at_call 81;exact Calls.quiet_of_same (HK _)) | (go_at_call 50;exact Calls.quiet_of_same (HN _)))
    clear hj1 hj2 hj5
    go_wp2_with fail
    have HF':=Hd (fun j (hj:j<k+1)=>show okAtF l j=true from by
     by_cases hjk:j<k
     ·exact HF.out j hjk
     ·have e:j=k:=by omega
      rw[e];exact HE.out)
    have HB':=Hd (below_drewN HB.out nq)
    go_roundw
    case rel =>
     first
      | exact⟨k+1,by omega,by go_num,HF',HB'⟩
      | ((repeat apply Exists.intro);exact⟨⟨k+1,by omega,by go_num,HF',HB'⟩,rfl⟩)
    case measure=>simp[intOf];omega
  ·obtain rfl:k=n:=by omega
   have ha:allOkF l=true:=allOkF_yes fun j hj=>HF.out j (by rw[← HL.out];exact hj)
   have HE:=Hd (show mayF l=decide (0<k) by rw[mayF,ha,HL.out];rfl)
   clear ha hlt
   go_wp2_with fail
   go_ret
   exact⟨by rw[HE.out];rfl,HB.out⟩
theorem rpick7_any (A:Option Addr) (n c:Nat) (l:List Fk) (key:ByteArray) (w:World) {B:Nat} (hr:Reads w B 2 A n (fkc l)) (hn:n≤5864062014805) :
  Calls Tryz.prog 60 #[.slice A n c,.string key] w fun e w'=>e=.returned (.int .i64 (pickF l key))∧w'=w:=by
 have HL:=Hd (fk_len hr)
 have HR:=Hd hr
 clear hr
 have hend : ∀ k:Nat,k≤n→pickN l key=k→max (0:Int) ((k:Int)-1)=((pickF l key:Nat):Int):=fun k hk h=>by unfold pickF;omega
 have HEnd:=Hd hend
 clear hend
 go_enter Tryz.func60,Tryz.ntmps60
 go_wp2_with fail
 go_loop [5] (fun i=>∃ k:Nat,k≤n∧i=.int .i64 k∧Hid (∀ j y,j<k→l[j]? = some y→(!Op.bytesLess key.toList y.nm.toList)=true)) (fun i=>n-(intOf i).toNat)
 case atStart=>exact⟨0,Nat.zero_le _,rfl,Hd fun j y hj=>absurd hj (by omega)⟩
 case round =>
  obtain⟨k,hk,rfl,HF⟩:=hrel
  by_cases hlt:k<n
  ·obtain⟨ad,x,rfl,_,_,hx,hc0,_⟩:=fk_at HR.out hlt
   have hk0:(0:Int)≤k:=by omega
   have hk1:(k:Int)<n:=by omega
   have HX:=Hd hx
   clear hx
   rcases he:Op.bytesLess key.toList x.nm.toList with _ | _
   ·have hle:(Op.bytesLess x.nm.toList key.toList || x.nm.toList==key.toList)=true:=by rw[leq_not,he];rfl
    go_wp2_with fail
    go_round
    case rel =>
     refine⟨k+1,by omega,by go_num,Hd fun i y hi hy=>?_⟩
     by_cases hjk:i<k
     ·exact HF.out i y hjk hy
     ·obtain rfl:i=k:=by omega
      rw[HX.out] at hy
      injection hy with hy
      subst hy
      rw[he];rfl
    case measure=>simp[intOf];omega
   ·have hle:(Op.bytesLess x.nm.toList key.toList || x.nm.toList==key.toList)=false:=by rw[leq_not,he];rfl
    have hle1:Op.bytesLess x.nm.toList key.toList=false:=by simp at hle;exact hle.1
    have hle2:(x.nm.toList==key.toList)=false:=by simp at hle;simpa using hle.2
    have hN:pickN l key=k:=takeWhile_at HF.out (by rw[HL.out];omega) (fun y hy=>by rw[HX.out] at hy;injection hy with hy;subst hy;rw[he];rfl)
    have HE:=HEnd.out k hk hN
    have hw:IntKind.i64.wrap ((k:Int)-1)=(k:Int)-1:=by rw[IntKind.wrap_i64];omega
    clear hN
    go_wp2_with fail
    go_ret
    exact⟨by rw[← HE];rfl,rfl⟩
  ·obtain rfl:k=n:=by omega
   have hN:pickN l key=k:=takeWhile_at HF.out (by rw[HL.out];exact Nat.le_refl _) (fun y hy=>by
    have:=(List.getElem?_eq_some_iff.1 hy).1
    rw[HL.out] at this
    omega)
   have HE:=HEnd.out k hk hN
   have hw:IntKind.i64.wrap ((k:Int)-1)=(k:Int)-1:=by rw[IntKind.wrap_i64];omega
   have hnl : ¬ ((k:Int)<k):=by omega
   clear hN hlt
   go_wp2_with fail
   go_ret
   exact⟨by rw[← HE];rfl,rfl⟩
end Go.Proofs.YtanbbnogdhnikaaGreat

