/-
  Contracts of the reference's Path, Depth, Get of layer 12. No statement is proved here.
-/
import Derived.Test.YtanbbnogdhnikaaGreatJ53
import Derived.Test.YtanbbnogdhnikaaGreatJ46
set_option linter.unusedVariables false
set_option linter.unusedSimpArgs false
set_option maxRecDepth 300000
set_option maxHeartbeats 25600000
namespace Go.Proofs.YtanbbnogdhnikaaGreat
open Go.RowKit
open Go.Lib hiding intOf
attribute [local go_sem ↓] Go.wp_at_zero Go.wp_at_succ

theorem fork_two {sz:Int} {img:ByteArray} {n k:Nat} {l:List Fk} {x:Fk} (h:nodeN sz img n=.br l) (hx:l[k]? = some x):2≤x.rt:=by
 obtain⟨p,hp,hf⟩:=node_some h
 have h1:=allOkF_ok (readF_kd hf).2.2.2 hx
 simp only[okFk,numB,Bool.and_eq_true,decide_eq_true_eq] at h1
 omega
theorem fork_some {sz:Int} {img:ByteArray} {n:Nat} {l:List Fk} (h:nodeN sz img n=.br l):0<l.length:=by
 obtain⟨p,hp,hf⟩:=node_some h
 exact (readF_kd hf).2.2.1
def PathPost (sz:Int) (img:ByteArray) (root:Nat) (key:ByteArray) (w:World) (e:Ending) (w':World):Prop :=
 ∃ (A:Option Addr) (n c:Nat),e=.returned (.tuple #[.slice A n c,.int .i64 (pathE sz img root key)])∧Reads w' w'.heap.size 1 A n (ucells (pathL sz img root key))∧n≤c∧n≤16∧Below w.heap.size w w'
theorem PathPost.bad {sz:Int} {img:ByteArray} {root:Nat} {key:ByteArray} {w w':World} (hg:goodSize sz=true) (h:pathV sz img root key=none) (hb:Below w.heap.size w w'):PathPost sz img root key w (.returned (.tuple #[.slice none 0 0,.int .i64 4])) w' :=
 ⟨none,0,0,by unfold pathE;rw[hg,h];rfl,by unfold pathL;rw[h];exact Reads.none_,Nat.le_refl _,by omega,hb⟩
theorem rpath12_any (sz:Int) (img:ByteArray) (root:Nat) (key:ByteArray) (w:World) (hs:img.size≤400000) (hr:root<4294967296) :
  Calls Tryz.prog 25 #[.int .i64 sz,.string img,.int .u32 root,.string key] w (PathPost sz img root key w):=by
 have HGd:=fun w=>rgood_any sz w
 rcases hg:goodSize sz with _ | _
 ·rw[hg] at HGd
  have HP:=Hd (show PathPost sz img root key w (.returned (.tuple #[.slice none 0 0,.int .i64 2])) w from ⟨none,0,0,by unfold pathE;rw[hg];rfl,by unfold pathL pathV;rw[hg];exact Reads.none_,Nat.le_refl _,by omega,Below.refl _ _⟩)
  clear hg
  go_enter Tryz.func25,Tryz.ntmps25
  go_wp2_with fail
  refine (HGd _).mono ?_
  rintro e w1 ⟨rfl,rfl⟩
  go_wp2_with fail
  go_ret2
  exact HP.out
 rw[hg] at HGd
 obtain⟨w0,hw0⟩ : ∃ y,y=w.alloc (.cells #[.int .i64 sz,.string img,.slice none 0 0,.slice none 0 0,.int .i64 0] 112):=⟨_,rfl⟩
 have HG:=Hd (show Gr w0 w.heap.size sz img [] [] 0 (.slice none 0 0) (.slice none 0 0) by rw[hw0];exact gr_new w sz img)
 have HB:=Hd (show Below w.heap.size w w0 by rw[hw0];exact (Below.refl _ _).alloc (Nat.le_refl _) _)
 obtain⟨bg,hbg⟩ : ∃ y,y=w.heap.size:=⟨_,rfl⟩
 by_cases h0:root=0
 ·subst h0
  have HV:=Hd (show pathV sz img 0 key=some ([],[]) by unfold pathV;rw[hg];rfl)
  have HP:=Hd (show PathPost sz img 0 key w (.returned (.tuple #[.slice none 0 0,.int .i64 0])) w0 from ⟨none,0,0,by unfold pathE;rw[hg,HV.out];rfl,by unfold pathL;rw[HV.out];exact Reads.none_,Nat.le_refl _,by omega,HB.out⟩)
  clear hg
  have c2:=HG.out.blk.cell 2
  simp at c2
  go_enter Tryz.func25,Tryz.ntmps25
  go_wp2_with fail
  refine (HGd _).mono ?_
  rintro e w1 ⟨rfl,rfl⟩
  go_upto_region 5 with fail
  rw[← hw0]
  clear hw0
  go_loopw [11] (fun v w'=>v=.int .u32 0∧w'=w0) (fun _ _=>0)
  case atStart=>exact⟨rfl,rfl⟩
  case round =>
   obtain⟨rfl,rfl⟩:=hrel
   go_wp2_with fail
   go_ret2
   exact HP.out
 have HPV:=Hd (show pathV sz img root key=descT sz img key 16 root [] by unfold pathV;rw[hg,if_pos rfl,if_neg h0])
 have HGs:=Hd hg
 have HSz:=Hd hs
 have H0:=Hd h0
 clear hg hs h0
 go_enter Tryz.func25,Tryz.ntmps25
 go_wp2_with fail
 refine (HGd _).mono ?_
 rintro e w1 ⟨rfl,rfl⟩
 clear HGd
 go_upto_region 5 with fail
 rw[← hw0,← hbg]
 rw[← hbg] at HG
 have HBg:=Hd hbg
 clear hw0 hbg
 have HV0:=Hd (show ∀ g,(Value.slice none 0 0).ownBlock=some g→w.heap.size≤g from fun g h=>by simp[Value.ownBlock] at h)
 go_loopg [11] 16 (fun gd vn wr=>∃ (cur:Nat) (P:List Nat) (V:Value),vn=.int .u32 cur∧cur<4294967296∧cur≠0∧gd+P.length=16∧Hid (pathV sz img root key=descT sz img key gd cur P)∧Hid (Gr wr bg sz img P [] 0 V (.slice none 0 0))∧Hid (Below w.heap.size w wr)∧Hid (∀ g,V.ownBlock=some g→w.heap.size≤g))
 case atStart=>exact⟨root,[],_,rfl,hr,H0.out,rfl,HPV,HG,HB,HV0⟩
 case round =>
  clear HG HB HPV HV0
  obtain⟨cur,P,V,rfl,hc9,hc0,hgp,HD,HGr,HBr,HVb⟩:=hrel
  rename World=>wl
  have z1:((cur:Int)==0)=false:=by simp;omega
  have z2:((cur:Int) != 0)=true:=by simp;omega
  have HNd:=Hd (fun w=>rnode_any sz img cur w (by have:=HSz.out;omega) hc9)
  obtain⟨o,ho⟩ : ∃ o,o=nodeN sz img cur:=⟨_,rfl⟩
  rw[← ho] at HNd
  have HO:=Hd ho
  clear ho
  go_wp2_with fail
  refine (HNd.out _).mono ?_
  rintro e w3 ⟨pg,tx,ok,lf,A,n1,c1,A2,n2,c2',rfl,hni,hb3⟩
  go_upto_region 7 with fail
  obtain⟨w4,hw4⟩ : ∃ y,y=w3.alloc (.cells #[.int .u32 pg,.int .u64 tx,.bool lf,.slice A n1 c1,.slice A2 n2 c2'] 114):=⟨_,rfl⟩
  obtain⟨gN,hgN⟩ : ∃ y,y=w3.heap.size:=⟨_,rfl⟩
  have NB:=Hd (show Blk w4 gN 114 #[.int .u32 pg,.int .u64 tx,.bool lf,.slice A n1 c1,.slice A2 n2 c2'] by rw[hw4,hgN];exact Blk.new _ _ _)
  have hb4:Below wl.heap.size wl w4:=by rw[hw4];exact hb3.alloc hb3.size _
  have HNi:=Hd (show NdTell o wl.heap.size w4 ok lf A n1 c1 A2 n2 c2' by rw[hw4];exact hni.keep (by simp) (Nat.le_refl _) fun p _ hp=>World.cell?_alloc_lt _ _ _ hp)
  have HG4:=Hd (HGr.out.below hb4)
  have HB4:=Hd (HBr.out.trans (hb4.mono HBr.out.size))
  have HltF:=Hd HGr.out.ltF
  have HgN:=Hd (show wl.heap.size≤gN by rw[hgN];exact hb3.size)
  have HWl:=Hd hb4.size
  rw[← hw4,← hgN]
  clear hw4 hgN hb4 hb3 hni HNd HGr HBr
  have hdn:o=.none→pathV sz img root key=none:=fun h=>by
   rw[HD.out]
   cases gk with
   | zero=>rfl
   | succ f=>simp only[descT,← HO.out,h];split<;>rfl
  have HDn:=Hd hdn
  clear hdn
  by_cases hok:ok=false
  ·subst hok
   have HFin:=Hd (PathPost.bad HGs.out (HDn.out (by
    cases o with
    | none=>rfl
    | br l=>exact absurd HNi.out.1 (by decide)
    | lf l=>exact absurd HNi.out.1 (by decide))) HB4.out)
   clear HDn HD
   go_wp2_with fail
   go_ret2
   exact HFin.out
  obtain rfl:ok=true:=by cases ok;exact absurd rfl hok;rfl
  clear hok HDn
  obtain⟨AV,cV,rfl,hv1,hv2,_⟩:=own_form HG4.out.row
  have v2:=HG4.out.blk.cell 2
  simp at v2
  cases gk with
  | zero =>
   have h16:P.length=16:=by omega
   have HFin:=Hd (PathPost.bad HGs.out (show pathV sz img root key=none by rw[HD.out];rfl) HB4.out)
   rw[h16] at v2
   clear HD
   go_wp2_with fail
   go_ret2
   exact HFin.out
  | succ f =>
  have h16:((P.length:Int)==16)=false:=by simp;omega
  have h17:(P.length==16)=false:=by simp;omega
  have h18 : ¬ (P.length:Int)=16:=by omega
  go_wp2_with fail
  refine (come_any cur HG4.out hc9 (by omega)).mono ?_
  rintro e w5 ⟨rfl,V5,hf5,hg5⟩
  have HB5:=Hd (show Below w.heap.size w w5 from HB4.out.trans (hf5.kept.below (B:=w.heap.size) (by
   rintro k (rfl | h | h)
   ·rw[HBg.out];exact Nat.le_refl _
   ·exact HVb.out k h
   ·simp[Value.ownBlock] at h) HB4.out.size))
  have HV5:=Hd (show ∀ g,V5.ownBlock=some g→w.heap.size≤g from fun g h=>by
   rcases hf5.own g (.inr (.inl h)) with (h1 | h1 | h1) | h1
   ·rw[h1,HBg.out];exact Nat.le_refl _
   ·exact HVb.out g h1
   ·simp[Value.ownBlock] at h1
   ·have:=HB4.out.size;omega)
  have HgF : ∀ k,wl.heap.size≤k→¬ FG bg (.slice AV P.length cV) (.slice none 0 0) k:=fun k hk hf=>by have:=HltF.out k hf;omega
  have NB5:=Hd (hf5.kept.blk NB.out (HgF gN HgN.out))
  have HG5:=Hd hg5
  have HF5:=Hd hf5.kept
  have HgF:=Hd HgF
  clear hg5 hf5
  by_cases hm:cur∈P
  ·have hd1:decide (cur ∉ P)=false:=decide_eq_false (fun h=>h hm)
   have HFin:=Hd (PathPost.bad HGs.out (show pathV sz img root key=none by rw[HD.out];simp only[descT,if_pos hm]) HB5.out)
   clear HD hm HG5
   go_wp2_with fail
   go_ret2
   exact HFin.out
  have hd1:decide (cur ∉ P)=true:=decide_eq_true hm
  have HG6:=Hd (show Gr w5 bg sz img (P++[cur]) [] 0 V5 (.slice none 0 0) by have:=HG5.out;rw[if_neg hm] at this;exact this)
  have y2:=NB5.out.cell 2
  have y3:=NB5.out.cell 3
  simp at y2 y3
  cases o with
  | none=>exact absurd (show true=false from HNi.out) (by decide)
  | lf l =>
   obtain⟨_,rfl,rfl,hrn⟩:=HNi.out
   obtain⟨A6,c6,rfl,q1,q2,_⟩:=own_form HG6.out.row
   have HPt:=Hd (show pathV sz img root key=some (P++[cur],l) by rw[HD.out];simp only[descT,if_neg hm,← HO.out])
   have HFin:=Hd (show PathPost sz img root key w (.returned (.tuple #[.slice A6 (P++[cur]).length c6,.int .i64 0])) w5 from ⟨A6,_,c6,by unfold pathE;rw[HGs.out,HPt.out];rfl,by unfold pathL;rw[HPt.out];exact Reads.of_own HG6.out.row,q1,by rw[List.length_append];simp;omega,HB5.out⟩)
   have v6:=HG6.out.blk.cell 2
   simp only[List.getElem?_toArray,List.getElem?_cons_succ,List.getElem?_cons_zero] at v6
   clear HD hm HG5 hrn
   go_wp2_with fail
   go_ret2
   have hfin:=HFin.out
   rw[show (P++[cur]).length=P.length+1 by simp] at hfin
   exact hfin
  | br l =>
   obtain⟨_,rfl,hrn,rfl⟩:=HNi.out
   have hnl:l.length=n1:=fk_len hrn.1
   have hpl:=pickF_lt (fork_some HO.out.symm) key
   have hn9:n1≤100000:=by rw[← hnl];exact fork_size HO.out.symm
   have HR5:=Hd (show Reads w5 w4.heap.size 2 A n1 (fkc l) from HF5.out.reads hrn.1 (Nat.le_refl _) (fun a e=>HgF.out a.block (hrn.2 a e)))
   obtain⟨ad,x,rfl,hab,hab2,hx,hfk⟩:=fk_at (i:=pickF l key) HR5.out (by omega)
   have hrt:=fork_num HO.out.symm hx
   have hr2:=fork_two HO.out.symm hx
   have HDb:=Hd (show pathV sz img root key=descT sz img key f x.rt (P++[cur]) by rw[HD.out];simp only[descT,if_neg hm,← HO.out,hx];rfl)
   have HPk:=fun q=>rpick7_any (some ad) n1 c1 l key (w5.drewN q) (HR5.out.drewN q) (by omega)
   obtain⟨p,hp⟩ : ∃ p,p=pickF l key:=⟨_,rfl⟩
   rw[← hp] at HPk hfk hpl
   have f1:=hfk.2
   have hp0:(0:Int)≤(p:Int):=by omega
   have hp1:(p:Int)<(n1:Int):=by omega
   obtain⟨nm,rt⟩:=x
   dsimp only at f1 hrt hr2 HDb
   have HLn:=Hd (show f+(P++[cur]).length=16 by rw[List.length_append];simp;omega)
   clear hrn hnl hpl hab hab2 hx hfk hp HD hm HG5
   go_upto_region 10 with fail
   go_quiet ((go_at_call 60;exact Calls.quiet_of_same (HPk _)))
   go_wp2_with fail
   go_roundg f
   case rel =>
    first
     | exact⟨rt,P++[cur],V5,rfl,hrt,by omega,HLn.out,HDb,Hd (HG6.out.below (below_drewN (Below.refl _ _) nq)),Hd (below_drewN HB5.out nq),HV5⟩
     | ((repeat apply Exists.intro);exact⟨⟨rt,P++[cur],V5,rfl,hrt,by omega,HLn.out,HDb,Hd (HG6.out.below (below_drewN (Below.refl _ _) nq)),Hd (below_drewN HB5.out nq),HV5⟩,rfl⟩)
   case measure=>omega
theorem rdepth12_any (sz:Int) (img:ByteArray) (root:Nat) (w:World) (hs:img.size≤400000) (hr:root<4294967296) :
  Calls Tryz.prog 27 #[.int .i64 sz,.string img,.int .u32 root] w fun e w'=>e=.returned (.tuple #[.int .i64 ((pathL sz img root ⟨#[]⟩).length:Int),.int .i64 (pathE sz img root ⟨#[]⟩)])∧Below w.heap.size w w':=by
 have HD:=Hd (rpath12_any sz img root ⟨#[]⟩ w hs hr)
 clear hs hr
 go_enter Tryz.func27,Tryz.ntmps27
 go_wp2_with fail
 refine HD.out.mono ?_
 rintro e w1 ⟨A,n,c,rfl,h1,h2,_,hb⟩
 have HL:=Hd (show (pathL sz img root ⟨#[]⟩).length=n from ulen h1)
 have HB:=Hd hb
 clear h1 hb HD
 go_wp2_with fail
 go_ret2
 rw[HL.out]
 exact⟨rfl,HB.out⟩
theorem desc_last {sz:Int} {s key:ByteArray} : ∀ (f n:Nat) (P Q:List Nat) (l:List It),n<4294967296→descT sz s key f n P=some (Q,l)→∃ Q' z,Q=Q'++[z]∧nodeN sz s z=.lf l∧z<4294967296
 | 0,n,P,Q,l,hn,h=>by cases h
 | f+1,n,P,Q,l,hn,h=>by
  simp only[descT] at h
  split at h
  ·cases h
  ·rcases ho:nodeN sz s n with _ | F | I
   ·rw[ho] at h;cases h
   ·rw[ho] at h
    have hpl:=pickF_lt (fork_some ho) key
    have hx:F[pickF F key]? = some F[pickF F key]:=List.getElem?_eq_getElem hpl
    simp only[hx,Option.map_some,Option.getD_some] at h
    exact desc_last f _ _ Q l (fork_num ho hx) h
   ·rw[ho] at h
    injection h with h
    injection h with h1 h2
    subst h1 h2
    exact⟨P,n,rfl,ho,hn⟩
theorem path_last {sz:Int} {s key:ByteArray} {root:Nat} {P:List Nat} {l:List It} (hr:root<4294967296) (h:pathV sz s root key=some (P,l)):(P=[]∧l=[])∨∃ Q' z,P=Q'++[z]∧nodeN sz s z=.lf l∧z<4294967296:=by
 unfold pathV at h
 split at h
 ·split at h
  ·injection h with h
   injection h with h1 h2
   exact .inl ⟨h1.symm,h2.symm⟩
  ·exact .inr (desc_last 16 root [] P l hr h)
 ·cases h
theorem rget12_any (sz:Int) (img:ByteArray) (root:Nat) (key:ByteArray) (w:World) (hs:img.size≤400000) (hr:root<4294967296) :
  Calls Tryz.prog 23 #[.int .i64 sz,.string img,.int .u32 root,.string key] w fun e w'=>e=.returned (.tuple #[.string (getV sz img root key).1,.int .i64 (getV sz img root key).2])∧Below w.heap.size w w':=by
 have HD:=Hd (rpath12_any sz img root key w hs hr)
 unfold PathPost at HD
 obtain⟨E,hE⟩ : ∃ E,E=pathE sz img root key:=⟨_,rfl⟩
 obtain⟨P,hP⟩ : ∃ I,I=pathL sz img root key:=⟨_,rfl⟩
 obtain⟨r,hr'⟩ : ∃ r,r=getV sz img root key:=⟨_,rfl⟩
 have hcase:(E≠0∧r=(⟨#[]⟩,E))∨(E=0∧P=[]∧r=(⟨#[]⟩,5))∨(E=0∧goodSize sz=true∧∃ Q' z l,P=Q'++[z]∧nodeN sz img z=.lf l∧z<4294967296∧r=((if findB l key then (match l[findN l key]? with
   | some i=>match valN sz img i with
    | some (v,_)=>(v,0)
    | none=>(⟨#[]⟩,4)
   | none=>(⟨#[]⟩,5)) else (⟨#[]⟩,5)):ByteArray×Int)):=by
  by_cases h0:E=0
  ·have hg:goodSize sz=true:=by
    have h:=hE
    unfold pathE at h
    rcases hg:goodSize sz with _ | _
    ·rw[hg] at h;rw[h] at h0;simp at h0
    ·rfl
   obtain⟨P0,l,hpv⟩ : ∃ P0 l,pathV sz img root key=some (P0,l):=by
    have h:=hE
    unfold pathE at h
    rcases hpv:pathV sz img root key with _ | ⟨P0,l⟩
    ·rw[hpv,hg] at h;rw[h] at h0;simp at h0
    ·exact⟨P0,l,rfl⟩
   have hPP:P=P0:=by rw[hP];unfold pathL;rw[hpv];rfl
   have hI:pathI sz img root key=l:=by unfold pathI;rw[hpv];rfl
   have hrr:r=((if findB l key then (match l[findN l key]? with
     | some i=>match valN sz img i with
      | some (v,_)=>(v,0)
      | none=>(⟨#[]⟩,4)
     | none=>(⟨#[]⟩,5)) else (⟨#[]⟩,5)):ByteArray×Int):=by
    rw[hr']
    unfold getV
    rw[← hE,h0,hI]
    simp only[ne_eq,not_true_eq_false,if_false]
    rfl
   rcases path_last hr hpv with ⟨h1,h2⟩ | ⟨Q',z,h1,h2,h3⟩
   ·exact .inr (.inl ⟨h0,by rw[hPP,h1],by rw[hrr,h2];rfl⟩)
   ·exact .inr (.inr ⟨h0,hg,Q',z,l,by rw[hPP,h1],h2,h3,hrr⟩)
  ·refine .inl ⟨h0,?_⟩
   rw[hr']
   unfold getV
   rw[← hE,if_pos h0]
 have HCase:=Hd hcase
 rw[← hE,← hP] at HD
 rw[← hr']
 have HSz:=Hd hs
 clear hE hP hr' hs hr hcase
 obtain⟨hzn,hin⟩:=zero_of_info infoNd12
 have HIN:=Hd hin
 obtain⟨hzi,hii⟩:=zero_of_info infoItz
 have HII:=Hd hii
 clear hin hii
 go_enter Tryz.func23,Tryz.ntmps23
 go_wp2_with fail
 refine HD.out.mono ?_
 rintro e w1 ⟨A,n,c,rfl,hrd,hnc,hn16,hb⟩
 have HB:=Hd hb
 have HR:=Hd hrd
 have HLn:=Hd (ulen hrd)
 clear hrd hb HD
 rcases HCase.out with ⟨h0,hrv⟩ | ⟨rfl,hp0,hrv⟩ | ⟨rfl,hg,Q',z,l,hpz,hz,hz9,hrv⟩
 ·have h1:(E != 0)=true:=by simpa using h0
  have h2:(E==0)=false:=by simpa using h0
  have HE:=Hd hrv
  clear hrv HCase
  go_wp2_with fail
  go_ret2
  rw[HE.out]
  exact⟨rfl,HB.out⟩
 ·have HE:=Hd hrv
  obtain rfl:n=0:=by have:=HLn.out;rw[hp0] at this;simpa using this.symm
  clear hrv HCase hp0
  go_wp2_with fail
  go_ret2
  rw[HE.out]
  exact⟨rfl,HB.out⟩
 ·have HE:=Hd hrv
  obtain⟨m,hm⟩ : ∃ m,n=m+1:=⟨Q'.length,by have:=HLn.out;rw[hpz] at this;simpa using this.symm⟩
  subst hm
  have hmQ:m=Q'.length:=by have:=HLn.out;rw[hpz] at this;simp at this;omega
  have hnz:nthU P m=z:=nthU_of (by rw[hpz,hmQ];simp)
  obtain⟨ad,rfl,hab,c0⟩:=ureads_at HR.out (show m<m+1 by omega)
  rw[hnz] at c0
  have HNd:=Hd (fun w=>rnode_any sz img z w (by have:=HSz.out;omega) hz9)
  rw[hz] at HNd
  have hm0:(0:Int)≤(m:Int):=by omega
  have hm1:(m:Int)<(m:Int)+1:=by omega
  have hm2:(m:Int)+1-1=(m:Int):=by omega
  have hm3:(((m+1:Nat):Int)-1)=(m:Int):=by omega
  have hm9:m≤15:=by omega
  have hl9:l.length≤100000:=item_size hz
  have HZ:=Hd hz
  have HGd:=Hd hg
  clear hrv HCase hpz hmQ hnz hab hz hg
  go_wp2_with fail
  refine (HNd.out _).mono ?_
  rintro e w3 ⟨pg,tx,ok,lf,A3,n3,c3,A2,n2,c2',rfl,hni,hb3⟩
  obtain⟨rfl,rfl,rfl,hrn⟩:=hni
  go_upto_region 7 with fail
  obtain⟨w4,hw4⟩ : ∃ y,y=w3.alloc (.cells #[.int .u32 pg,.int .u64 tx,.bool true,.slice A3 0 c3,.slice A2 n2 c2'] 114):=⟨_,rfl⟩
  obtain⟨gN,hgN⟩ : ∃ y,y=w3.heap.size:=⟨_,rfl⟩
  have NB:=Hd (show Blk w4 gN 114 #[.int .u32 pg,.int .u64 tx,.bool true,.slice A3 0 c3,.slice A2 n2 c2'] by rw[hw4,hgN];exact Blk.new _ _ _)
  have HB4:=Hd (HB.out.trans ((hb3.alloc hb3.size (.cells #[.int .u32 pg,.int .u64 tx,.bool true,.slice A3 0 c3,.slice A2 n2 c2'] 114)).mono HB.out.size))
  have HR4:=Hd (show Reads w4 gN 5 A2 n2 (itc l) by rw[hw4,hgN];exact hrn.1.alloc (Nat.le_refl _) _)
  rw[← hw4] at HB4
  rw[← hw4,← hgN]
  clear hw4 hgN hb3 hrn HNd HR c0
  have hl:l.length=n2:=it_len HR4.out
  have x4:=NB.out.cell 4
  simp at x4
  have HF:=Hd (rfind8_any A2 n2 c2' l key w4 HR4.out (by omega))
  rcases hf:findB l key with _ | _
  ·rw[hf] at HF
   have HE2:=Hd (show r=(⟨#[]⟩,5) by rw[HE.out,hf];rfl)
   clear hf hl HE
   go_wp2_with fail
   refine HF.out.mono ?_
   rintro e w5 ⟨rfl,q,hq⟩
   have HB5:=Hd (show Below w.heap.size w w5 by rw[hq];exact below_drewN HB4.out q)
   clear hq
   go_wp2_with fail
   go_ret2
   rw[HE2.out]
   exact⟨rfl,HB5.out⟩
  ·rw[hf] at HF
   obtain⟨p,hp⟩ : ∃ p,p=findN l key:=⟨_,rfl⟩
   have hpn:p<n2:=by
    rw[← hl]
    unfold findB at hf
    rw[← hp] at hf
    rcases hx:l[p]? with _ | x
    ·rw[hx] at hf;cases hf
    ·exact (List.getElem?_eq_some_iff.1 hx).1
   obtain⟨ae,x,rfl,hab,hab2,hx,hfk⟩:=it_at HR4.out hpn
   have hin:=item_num HZ.out hx
   have HV:=Hd (show r=((match valN sz img x with
     | some (v,_)=>(v,0)
     | none=>(⟨#[]⟩,4)):ByteArray×Int) by rw[HE.out,hf,if_pos rfl,← hp];simp only[hx])
   rw[← hp] at HF
   obtain⟨ky,vl,ov,ln,hd'⟩:=x
   have hp0:(0:Int)≤(p:Int):=by omega
   have hp1:(p:Int)<(n2:Int):=by omega
   dsimp only at hin
   clear hf hl HE hx hp
   go_wp2_with fail
   refine HF.out.mono ?_
   rintro e w5 ⟨rfl,q,hq⟩
   have HB5:=Hd (show Below w.heap.size w w5 by rw[hq];exact below_drewN HB4.out q)
   have NB5:=Hd (show Blk w5 gN 114 #[.int .u32 pg,.int .u64 tx,.bool true,.slice A3 0 c3,.slice (some ae) n2 c2'] by rw[hq];exact NB.out.drewN q)
   have f0:w5.cell? (ae.add (p*5))=some (.string ky):=by rw[hq];exact hfk.1
   have f1:w5.cell? ⟨(ae.add (p*5)).block,(ae.add (p*5)).off+1,none⟩=some (.string vl):=by rw[hq];exact hfk.2.1
   have f2:w5.cell? ⟨(ae.add (p*5)).block,(ae.add (p*5)).off+2,none⟩=some (.bool ov):=by rw[hq];exact hfk.2.2.1
   have f3:w5.cell? ⟨(ae.add (p*5)).block,(ae.add (p*5)).off+3,none⟩=some (.int .i64 ln):=by rw[hq];exact hfk.2.2.2.1
   have f4:w5.cell? ⟨(ae.add (p*5)).block,(ae.add (p*5)).off+4,none⟩=some (.int .u32 hd'):=by rw[hq];exact hfk.2.2.2.2
   have x4:=NB5.out.cell 4
   simp at x4
   clear hq hfk HF HR4 NB hab
   cases ov with
   | false =>
    have HE2:=Hd (show r=(vl,0) by rw[HV.out];rfl)
    clear HV
    go_wp2_with fail
    go_ret2
    rw[HE2.out]
    exact⟨rfl,HB5.out⟩
   | true =>
    have HRd:=Hd (fun w=>rread11_any sz img hd' ln w (by have:=HSz.out;omega) hin.1)
    have HE2:=Hd (show r=(rdStr (readV sz img hd' ln),rdErr sz (readV sz img hd' ln)) by
     rw[HV.out]
     have hv:valN sz img ⟨ky,vl,true,ln,hd'⟩=readV sz img hd' ln:=rfl
     rw[hv]
     unfold rdStr rdErr
     rw[HGd.out]
     rcases readV sz img hd' ln with _ | ⟨v,ns⟩<;>rfl)
    obtain⟨o,ho⟩ : ∃ o,o=readV sz img hd' ln:=⟨_,rfl⟩
    rw[← ho] at HE2 HRd
    have hlb:(ae.add (p*5)).block<w5.heap.size:=Nat.lt_trans hab2 NB5.out.lt
    clear HV ho
    go_upto_region 12 with fail
    go_region_held3 (fun w'=>w'.cell? ⟨gN,4,none⟩=some (.slice (some ae) n2 c2')∧w'.cell? ⟨(ae.add (p*5)).block,(ae.add (p*5)).off+3,none⟩=some (.int .i64 ln)∧w'.cell? ⟨(ae.add (p*5)).block,(ae.add (p*5)).off+4,none⟩=some (.int .u32 hd'))
     (first | exact⟨x4,f3,f4⟩ | exact⟨j0,j3,j4⟩)
     ((go_at_call 58;refine (HRd.out _).mono ?_;rintro e w6 ⟨A6,n6,c6,rfl,_,hb6⟩;have j0:=(hb6.cell (p:=⟨gN,4,none⟩) NB5.out.lt).trans x4;have j3:=(hb6.cell (p:=⟨(ae.add (p*5)).block,(ae.add (p*5)).off+3,none⟩) (by exact hlb)).trans f3;have j4:=(hb6.cell (p:=⟨(ae.add (p*5)).block,(ae.add (p*5)).off+4,none⟩) (by exact hlb)).trans f4;have HB6:=Hd (HB5.out.drew.trans (hb6.mono (by exact HB5.out.size)))))
    go_wp2_with fail
    go_ret2
    rw[HE2.out]
    exact⟨rfl,HB6.out⟩
end Go.Proofs.YtanbbnogdhnikaaGreat

