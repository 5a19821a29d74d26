/-
  Texts that the main proof rests on, put together: Kit12, Srt, CuDesc, CuGet, CuPages. No statement is proved here.
-/
import Derived.Test.YtanbbnogdhnikaaGreatJ43
import Derived.Test.YtanbbnogdhnikaaGreatJ45
set_option linter.unusedVariables false
set_option linter.unusedSimpArgs false
set_option maxRecDepth 300000
set_option maxHeartbeats 25600000
namespace Go.Proofs.YtanbbnogdhnikaaGreat
open Go.RowKit
open Go.Lib hiding intOf
attribute [local go_sem ↓] Go.wp_at_zero Go.wp_at_succ

theorem pr_noteq (a:ByteArray) (b:ByteArray) (w:World):(binOp .neq 55 (.agg #[.string a,.string b]) (.agg #[.string a,.string b])).run Tryz.prog w=.ok (.bool false) w:=by
 simp[go_sem]
theorem same12_yes (A:Option Addr) (n c:Nat) (A':Option Addr) (c':Nat) (l:List Pr) (w:World) {B B':Nat} (hr:Reads w B 2 A n (prc l)) (hr':Reads w B' 2 A' n (prc l)) (hn:n≤maxLen) :
  Calls Tryz.prog 24 #[.slice A n c,.slice A' n c'] w fun e w'=>e=.returned (.bool true)∧∃ q,w'=w.drewN q:=by
 have HR:=Hd hr
 have HR':=Hd hr'
 unfold maxLen at hn
 clear hr hr'
 go_enter Tryz.func24,Tryz.ntmps24
 go_wp2_with fail
 go_loopw [5] (fun i wr=>∃ k:Nat,k≤n∧i=.int .i64 k∧∃ q,wr=w.drewN q) (fun i _=>n-(intOf i).toNat)
 case atStart=>exact⟨0,Nat.zero_le _,rfl,0,rfl⟩
 case round =>
  obtain⟨k,hk,rfl,q,hq⟩:=hrel
  by_cases hlt:k<n
  ·obtain⟨ad,x,rfl,_,_,hx,hc⟩:=pr_at HR.out hlt
   obtain⟨ad',x',rfl,_,_,hx',hc'⟩:=pr_at HR'.out hlt
   rw[hx] at hx'
   injection hx' with hx'
   subst hx'
   have hc:PrAt wr (ad.add (k*2)) x:=by rw[hq];exact hc
   have hc':PrAt wr (ad'.add (k*2)) x:=by rw[hq];exact hc'
   obtain⟨c0,c1⟩:=hc
   obtain⟨d0,d1⟩:=hc'
   have hk0:(0:Int)≤k:=by omega
   have hk1:(k:Int)<n:=by omega
   have HQ:=Hd hq
   have he:=fun w=>pr_noteq x.ky x.vl w
   clear hq hx
   go_wp2_with fail
   go_quiet (fail)
   go_wp2_with fail
   go_roundw
   case rel =>
    have hqq : ∃ q',wr.drewN nq=w.drewN q':=⟨q+nq,by rw[HQ.out,World.drewN_drewN]⟩
    first
     | exact⟨k+1,by omega,by go_num,hqq⟩
     | ((repeat apply Exists.intro);exact⟨⟨k+1,by omega,by go_num,hqq⟩,rfl⟩)
   case measure=>simp[intOf];omega
  ·obtain rfl:k=n:=by omega
   clear hlt hk
   have HQ:=Hd hq
   clear hq
   go_wp2_with fail
   go_ret
   exact⟨rfl,q,HQ.out⟩
def sumP:List Pr→Nat
 | []=>0
 | b::l=>b.ky.size+b.vl.size+sumP l
def lightP (l:List Pr):Bool:=decide (l.length≤60)&&decide (sumP l≤2500)
theorem infoPrS:(Tryz.prog.info? 55).map (fun i=>(i.zero,i.size,i.bytes))=some (some (.agg #[.string .empty,.string .empty]),2,32):=by kernel_rfl
theorem partP_hi (A:Option Addr) (n c i:Nat) (hc:n≤c) (hi:i≤n) : ∃ X r,(∀ w:World,(Instr.sliceAt 26 (.slice A n c) (some (.int .i64 (i:Int))) none none).run Tryz.prog w=.ok (.slice X (n-i) r) w) ∧
  ∀ (w:World) (B:Nat) (l:List Pr),Reads w B 2 A n (prc l)→Reads w B 2 X (n-i) (prc (l.drop i)):=by
 refine⟨(if c=i then A else A.map (·.add (i*2))),c-i,fun w=>?_,fun w B l h=>?_⟩
 ·obtain⟨i0,hi0,hz0,hz1,hz2⟩:=info_parts infoPrS
  have he:Tryz.prog.elem 26=55:=by kernel_rfl
  have hu:Tryz.prog.underlying 26=some (.slice (Tryz.prog.elem 26)):=by rw[he];exact Tryz.underlying26
  rw[run_sliceAt_slice w _ _ _ _ _ hu,run_slice_l w _ A n c hu .i64 i (by omega) (by omega),he]
  simp[sizeOf,typeInfo,hi0,hz1,sliced]
 ·exact rows_drop (fun x=>Pr.cells_len x) h hi hc
theorem bytesP_inj {a b:ByteArray} (h:a.toList=b.toList):a=b:=by
 rw[ByteArray.toList_eq,ByteArray.toList_eq] at h
 cases a
 cases b
 congr
 exact Array.toList_inj.1 h
def lenSl:Value→Nat
 | .slice _ n _=>n
 | _=>0
def DescPost (sz:Int) (img:ByteArray) (root:Nat) (key:ByteArray) (w:World) (e:Ending) (w':World):Prop :=
 ∃ A n c A2 n2 c2,e=.returned (.tuple #[.slice A n c,.slice A2 n2 c2,.int .i64 (pathE sz img root key)])∧Reads w' w'.heap.size 1 A n (ucells (pathL sz img root key))∧Reads w' w'.heap.size 5 A2 n2 (itc (pathI sz img root key))∧n≤16∧n2≤100000∧n≤c∧n2≤c2∧Below w.heap.size w w'
theorem DescPost.no {sz:Int} {img:ByteArray} {root:Nat} {key:ByteArray} {w w':World} (h:pathV sz img root key=none) (hb:Below w.heap.size w w'):DescPost sz img root key w (.returned (.tuple #[.slice none 0 0,.slice none 0 0,.int .i64 (if goodSize sz then 4 else 2)])) w' :=
 ⟨none,0,0,none,0,0,by rw[pathE,h];rfl,by rw[pathL,h];exact Reads.none_,by rw[pathI,h];exact Reads.none_,by omega,by omega,by omega,by omega,hb⟩
theorem DescPost.yes {sz:Int} {img:ByteArray} {root:Nat} {key:ByteArray} {w w':World} {P:List Nat} {l:List It} {A:Option Addr} {n c:Nat} {A2:Option Addr} {n2 c2:Nat} (h:pathV sz img root key=some (P,l)) (h1:Reads w' w'.heap.size 1 A n (ucells P)) (h2:Reads w' w'.heap.size 5 A2 n2 (itc l)) (h3:n≤16) (h4:n2≤100000) (h5:n≤c) (h6:n2≤c2) (hb:Below w.heap.size w w'):DescPost sz img root key w (.returned (.tuple #[.slice A n c,.slice A2 n2 c2,.int .i64 0])) w':=by
 have hg:goodSize sz=true:=by
  rcases hg:goodSize sz with _ | _
  ·unfold pathV at h;rw[hg] at h;cases h
  ·rfl
 exact⟨A,n,c,A2,n2,c2,by rw[pathE,h,hg];rfl,by rw[pathL,h];exact h1,by rw[pathI,h];exact h2,h3,h4,h5,h6,hb⟩
theorem descend_any (sz:Int) (img:ByteArray) (root:Nat) (key:ByteArray) (w:World) (hi:img.size≤400000) (hr:root<4294967296) :
  Calls Tryz.prog 39 #[.int .i64 sz,.string img,.int .u32 root,.string key] w (DescPost sz img root key w):=by
 rcases hg:goodSize sz with _ | _
 ·have HG:=Hd (fun w=>dgood_is sz false w hg)
  have HP:=Hd (DescPost.no (sz:=sz) (img:=img) (root:=root) (key:=key) (w:=w) (w':=w) (by unfold pathV;rw[hg];rfl) (Below.refl _ _))
  rw[hg] at HP
  clear hg hi hr
  go_enter Tryz.func39,Tryz.ntmps39
  go_wp2_with fail
  go_step3
  go_wp2_with fail
  refine (HG.out _).mono ?_
  rintro e w' ⟨rfl,rfl⟩
  go_wp2_with fail
  (try rw[Exit.noGoto_ret])
  go_ret3
  exact HP.out
 have HG:=Hd (fun w=>dgood_is sz true w hg)
 by_cases h0:root=0
 ·subst h0
  have HP:=Hd (DescPost.yes (sz:=sz) (img:=img) (root:=0) (key:=key) (w:=w) (w':=w) (P:=[]) (l:=[]) (A:=none) (n:=0) (c:=0) (A2:=none) (n2:=0) (c2:=0) (by unfold pathV;rw[hg];rfl) Reads.none_ Reads.none_ (by omega) (by omega) (by omega) (by omega) (Below.refl _ _))
  clear hg hi hr
  go_enter Tryz.func39,Tryz.ntmps39
  go_wp2_with fail
  go_step3
  go_wp2_with fail
  refine (HG.out _).mono ?_
  rintro e w' ⟨rfl,rfl⟩
  go_wp2_with fail
  (try rw[Exit.noGoto_ret])
  go_ret3
  exact HP.out
 have hP:pathV sz img root key=descT sz img key 16 root []:=by unfold pathV;rw[hg];simp[h0]
 have HP:=Hd hP
 have HNo:=Hd (show ∀ w',Below w.heap.size w w'→descT sz img key 16 root []=none→DescPost sz img root key w (.returned (.tuple #[.slice none 0 0,.slice none 0 0,.int .i64 4])) w' from fun w' hb hn=>by
  have:=DescPost.no (by rw[hP];exact hn) hb
  rwa [hg] at this)
 have h1:((root:Int)==0)=false:=by simp;omega
 have h2:(root==0)=false:=by simp;omega
 obtain⟨i0,hi0,hz0,hz1,hz2⟩:=info_parts infoU32
 obtain⟨hzn,hin⟩:=zero_of_info infoNodez
 have HIN:=Hd hin
 have HSz:=Hd hi
 have HR:=Hd hr
 clear hP hg hi hr h0 hin
 go_enter Tryz.func39,Tryz.ntmps39
 go_wp2_with fail
 go_step3
 go_wp2_with fail
 refine (HG.out _).mono ?_
 rintro e w' ⟨rfl,hw'⟩
 subst hw'
 go_wp2_with fail
 go_step3
 go_wp2_with fail
 go_loopw [8,11] (fun v8 v11 wr=>∃ (d:Nat) (P:List Nat) (A:Option Addr) (c nn:Nat),v8=.slice A P.length c∧v11=.int .u32 nn∧P.length+d=16∧nn<4294967296∧Hid (wr.ownsRow w'.heap.size 23 1 (.slice A P.length c) P.length (ucells P))∧Hid (Below w'.heap.size w' wr)∧Hid (descT sz img key 16 root []=descT sz img key d nn P)) (fun v8 _ _=>16-lenSl v8)
 case atStart=>exact⟨16,[],none,0,root,rfl,rfl,rfl,HR.out,Hd (World.ownsRow_nil _ _ _ _),Hd (Below.refl _ _),Hd rfl⟩
 case round =>
  obtain⟨d,P,A,c,nn,rfl,rfl,hlen,hnn,HO,HB,HD⟩:=hrel
  have HRd:=Hd (Reads.of_own HO.out)
  rcases d with _ | d
  ·have hE:=Hd (HNo.out wr HB.out (by rw[HD.out];rfl))
   have hg1:decide (P.length<16)=false:=by simp;omega
   have hg2:decide ((P.length:Int)<16)=false:=by simp;omega
   go_wp2_with fail
   (try rw[Exit.noGoto_ret])
   go_ret3
   exact hE.out
  have hl16:P.length<16:=by omega
  have hg1:decide (P.length<16)=true:=by simp;omega
  have hg2:decide ((P.length:Int)<16)=true:=by simp;omega
  have HCt:=Hd (ucontains_any (w:=wr) (n:=P.length) c nn HRd.out (by omega))
  by_cases hm:nn∈P
  ·have hE:=Hd (HNo.out wr HB.out (by rw[HD.out];simp[descT,hm]))
   have hct:decide (nn∈P)=true:=decide_eq_true hm
   rw[hct] at HCt
   clear hm hct
   go_wp2_with fail
   refine HCt.out.mono ?_
   rintro e w2 ⟨rfl,hw2⟩
   subst hw2
   go_wp2_with fail
   (try rw[Exit.noGoto_ret])
   go_ret3
   exact hE.out
  have hct:decide (nn∈P)=false:=decide_eq_false hm
  rw[hct] at HCt
  have HDn:=Hd (show descT sz img key 16 root []=match nodeN sz img nn with
    | .none=>none
    | .lf l=>some (P++[nn],l)
    | .br l=>descT sz img key d ((l[pickF l key]?.map (·.rt)).getD 0) (P++[nn]) by rw[HD.out];simp only[descT,if_neg hm];rfl)
  clear hct hm HD
  go_wp2_with fail
  refine HCt.out.mono ?_
  rintro e w2 ⟨rfl,hw2⟩
  subst hw2
  clear HCt
  have HA:=Hd (HO.out.alloc (.cells #[.int .u32 nn] 23))
  have HBa:=Hd (HB.out.alloc HB.out.size (.cells #[.int .u32 nn] 23))
  have hsz:=HB.out.size
  go_upto_region 8 with (at_builtin;refine wpList_append_any _ rfl (.tmp 28) (.tmp 30) _ rfl w'.heap.size 23 i0 _ 1 4 Tryz.underlying31 hi0 hz0 hz1 hz2 rfl (by omega) _ P.length _ rfl HA.out (wr.heap.size+1) (some ⟨wr.heap.size,0,none⟩) 1 1 (ucells [nn]) rfl (reads_own (n:=1) (Blk.new _ _ _) rfl) (ucells_one _) (by unfold maxLen;omega) (by omega) (by simp;omega) ?_;intro v6 w6 hown6 hg6 hat6)
  clear hat6 hsz
  rw[← ucells_append] at hown6
  obtain⟨A6,c6,rfl,hc6,_,_⟩:=own_form hown6
  have HO6:=Hd hown6
  have HC6:=Hd hc6
  have HB6:=Hd (HBa.out.grown hg6 HBa.out.size (own_base HA.out))
  clear hown6 hg6 hc6 HA HBa HO HB HRd
  have HNd:=Hd (nodeAt_any sz img nn w6 (by have:=HSz.out;omega) hnn)
  go_wp2_with fail
  refine HNd.out.mono ?_
  rintro e w7 hp
  obtain⟨kd,An,n1,c1,A2,n2,c2,rfl,hb7,hni⟩:=hp.letters
  clear hp HNd
  have HO7:=Hd (own_below HO6.out hb7)
  have HB7:=Hd (HB6.out.trans (hb7.mono HB6.out.size))
  obtain⟨w8,hw8⟩ : ∃ y,y=w7.alloc (.cells #[.int .i64 kd,.slice An n1 c1,.slice A2 n2 c2] 136):=⟨_,rfl⟩
  have PN:=Hd (show Blk w8 w7.heap.size 136 #[.int .i64 kd,.slice An n1 c1,.slice A2 n2 c2] by rw[hw8];exact Blk.new _ _ _)
  have HO8:=Hd (show w8.ownsRow w'.heap.size 23 1 (.slice A6 (P.length+1) c6) (P.length+1) (ucells (P++[nn])) by rw[hw8];exact HO7.out.alloc _)
  have HB8:=Hd (show Below w'.heap.size w' w8 by rw[hw8];exact HB7.out.alloc HB7.out.size _)
  have HNi:=Hd (show NodeIs (nodeN sz img nn) w6.heap.size w8 kd An n1 c1 A2 n2 c2 by rw[hw8];exact hni.keep (by simp) (Nat.le_refl _) fun p _ hp=>World.cell?_alloc_lt _ _ _ hp)
  clear hni hb7 HO6 HB6 HO7 HB7
  go_upto_region 9 with fail
  rw[← hw8]
  clear hw8
  obtain⟨gP,hgP⟩ : ∃ g,g=w7.heap.size:=⟨_,rfl⟩
  rw[← hgP] at PN ⊢
  clear hgP
  obtain⟨o,ho⟩ : ∃ o,o=nodeN sz img nn:=⟨_,rfl⟩
  rw[← ho] at HNi HDn
  have HOo:=Hd ho
  clear ho
  have p0:=PN.out.cell 0
  have p1:=PN.out.cell 1
  have p2:=PN.out.cell 2
  simp at p0 p1 p2
  cases o with
  | none =>
   have hkd:kd=0:=HNi.out
   subst hkd
   have hE:=Hd (HNo.out w8 HB8.out (by rw[HDn.out]))
   go_wp2_with fail
   (try rw[Exit.noGoto_ret])
   go_ret3
   exact hE.out
  | lf l =>
   obtain⟨hkd,hn0,hrn,hnc,hcm⟩:=HNi.out
   subst hkd
   have hnl:l.length=n2:=it_len hrn.1
   have hE:=Hd (fun q=>DescPost.yes (w':=w8.drewN q) (by rw[HP.out,HDn.out]) ((Reads.of_own HO8.out).drewN q) (hrn.1.drewN q) (by omega) (by rw[← hnl];exact item_size HOo.out.symm) HC6.out hnc (below_drewN HB8.out q))
   clear hrn hnc hcm hnl hn0
   go_upto_region 13 with fail
   go_quiet (fail)
   go_wp2_with fail
   (try rw[Exit.noGoto_ret])
   go_ret3
   exact hE.out nq
  | br l =>
   obtain⟨hkd,hrn,hnc,hcm,hn2⟩:=HNi.out
   subst hkd
   have hnl:l.length=n1:=fk_len hrn.1
   have hl0:0<l.length:=by obtain⟨p,_,hf⟩:=node_some HOo.out.symm;exact (readF_kd hf).2.2.1
   have hpl:=pickF_lt hl0 key
   have hn9:n1≤100000:=by rw[← hnl];exact fork_size HOo.out.symm
   obtain⟨ad,x,rfl,hab,hab2,hx,hfk⟩:=fk_at (i:=pickF l key) hrn.1 (by omega)
   have hrt:=fork_num HOo.out.symm hx
   have HDb:=Hd (show descT sz img key 16 root []=descT sz img key d x.rt (P++[nn]) by rw[HDn.out];simp only[hx];rfl)
   have HPk:=Hd (fun (W:World) (hb:Below w8.heap.size w8 W)=>bpick_any (some ad) n1 c1 l key W ((hrn.1.below hb).more hb.size) (by omega))
   have HF1:=Hd hfk.2
   have HPl:=Hd PN.out.lt
   have HAb:=Hd hab2
   obtain⟨p,hp⟩ : ∃ p,p=pickF l key:=⟨_,rfl⟩
   rw[← hp] at HPk HF1 HAb hpl
   have hpn:p<n1:=by omega
   clear hrn hnc hcm hnl hl0 hfk hab hab2 hx hp hpl
   go_upto_region 11 with fail
   refine wp_region_held_drew (S:=(fun W=>W.cell? ⟨gP,1,none⟩=some (.slice (some ad) n1 c1)∧W.cell? ⟨(ad.add (p*2)).block,(ad.add (p*2)).off+1,none⟩=some (.int .u32 (x.rt:Int)))) (by kernel_rfl) (show _∧_ from ⟨PN.out.drew.cell 1,HF1.out⟩) (fun _=>?_)
   refine tkA (i:=0) ?_
   try simp only[tkP]
   refine tkA (i:=1) ?_
   try simp only[tkP]
   refine tkA (i:=2) ?_
   try simp only[tkP]
   refine tkA (i:=3) ?_
   try simp only[tkP]
   refine tkA (i:=4) ?_
   try simp only[tkP]
   refine wpAnyH_ready (rs:=[5]) (by kernel_rfl) (by simp) ?_
   refine tkC (fun K hK=>?_)
   go_simp
   refine (HPk.out _ (Below.refl _ w8).drew).mono ?_
   rintro e w9 ⟨rfl,hb9⟩
   have HB9:=Hd hb9
   refine hK.out _ _ (show _∧_ from ⟨(PN.out.drew.below hb9 PN.out.lt).cell 1,(hb9.cell (p:=⟨(ad.add (p*2)).block,(ad.add (p*2)).off+1,none⟩) HAb.out).trans HF1.out⟩) (fun hHeld=>?_)
   clear hK K hb9
   try simp only[tkP]
   refine tkA (i:=6) ?_
   try simp only[tkP]
   refine tkA (i:=7) ?_
   try simp only[tkP]
   refine tkA (i:=8) ?_
   try simp only[tkP]
   refine tkA (i:=9) ?_
   try simp only[tkP]
   refine wpAnyH_done (by kernel_rfl) ?_ _
   go_wp2_with fail
   go_roundw
   case rel=>exact⟨d,P++[nn],A6,c6,x.rt,by rw[List.length_append];rfl,rfl,by rw[List.length_append];simp;omega,hrt,Hd (by rw[List.length_append];exact own_below HO8.out ((Below.refl _ w8).drew.trans HB9.out)),Hd (HB8.out.trans (((Below.refl _ w8).drew.trans HB9.out).mono HB8.out.size)),HDb⟩
   case measure=>simp[lenSl];omega
theorem desc_num {sz:Int} {img:ByteArray} {key:ByteArray} : ∀ {d n:Nat} {P Q:List Nat} {l:List It} {k:Nat} {x:It},descT sz img key d n P=some (Q,l)→l[k]? = some x→x.hd<4294967296∧(-9223372036854775808≤x.ln∧x.ln≤9223372036854775807)
 | 0,_,_,_,_,_,_,h,_=>by simp[descT] at h
 | d+1,n,P,Q,l,k,x,h,hx=>by
  simp only[descT] at h
  split at h
  ·cases h
  ·rcases hn:nodeN sz img n with _ | l' | l'
   ·rw[hn] at h;cases h
   ·rw[hn] at h
    exact desc_num h hx
   ·rw[hn] at h
    injection h with h
    injection h with _ h
    subst h
    exact item_num hn hx
theorem path_num {sz:Int} {img:ByteArray} {root:Nat} {key:ByteArray} {P:List Nat} {l:List It} {k:Nat} {x:It} (h:pathV sz img root key=some (P,l)) (hx:l[k]? = some x):x.hd<4294967296∧(-9223372036854775808≤x.ln∧x.ln≤9223372036854775807):=by
 unfold pathV at h
 split at h
 ·split at h
  ·injection h with h
   injection h with _ h
   subst h
   simp at hx
  ·exact desc_num h hx
 ·cases h
theorem cpath_any (sz:Int) (img:ByteArray) (root:Nat) (key:ByteArray) (w:World) (hi:img.size≤400000) (hr:root<4294967296) :
  Calls Tryz.prog 14 #[.int .i64 sz,.string img,.int .u32 root,.string key] w fun e w'=>∃ A n c,e=.returned (.tuple #[.slice A n c,.int .i64 (pathE sz img root key)])∧Reads w' w'.heap.size 1 A n (ucells (pathL sz img root key))∧n≤16∧n≤c∧Below w.heap.size w w':=by
 have HD:=Hd (descend_any sz img root key w hi hr)
 clear hi hr
 go_enter Tryz.func14,Tryz.ntmps14
 go_wp2_with fail
 refine HD.out.mono ?_
 rintro e w1 ⟨A,n,c,A2,n2,c2,rfl,hr1,hr2,hn,hn2,hc,hc2,hb⟩
 have HP:=Hd (show Reads w1 w1.heap.size 1 A n (ucells (pathL sz img root key))∧n≤16∧n≤c∧Below w.heap.size w w1 from ⟨hr1,hn,hc,hb⟩)
 clear hr1 hr2 hn hn2 hc hc2 hb
 go_wp2_with fail
 go_ret2
 exact⟨A,n,c,rfl,HP.out⟩
theorem cdepth_any (sz:Int) (img:ByteArray) (root:Nat) (w:World) (hi:img.size≤400000) (hr:root<4294967296) :
  Calls Tryz.prog 16 #[.int .i64 sz,.string img,.int .u32 root] w fun e w'=>e=.returned (.tuple #[.int .i64 ((pathL sz img root ⟨#[]⟩).length:Int),.int .i64 (pathE sz img root ⟨#[]⟩)])∧Below w.heap.size w w':=by
 have HD:=Hd (cpath_any sz img root ⟨#[]⟩ w hi hr)
 clear hi hr
 go_enter Tryz.func16,Tryz.ntmps16
 go_wp2_with fail
 refine HD.out.mono ?_
 rintro e w1 ⟨A,n,c,rfl,hr1,hn,hc,hb⟩
 have hl:(pathL sz img root ⟨#[]⟩).length=n:=by have:=hr1.1;simpa [ucells] using this
 have HP:=Hd (show Below w.heap.size w w1 from hb)
 have HL:=Hd hl
 clear hr1 hc hb hl
 go_wp2_with fail
 go_ret2
 rw[HL.out]
 exact⟨rfl,HP.out⟩
theorem cget_any (sz:Int) (img:ByteArray) (root:Nat) (key:ByteArray) (w:World) (hi:img.size≤400000) (hr:root<4294967296) :
  Calls Tryz.prog 13 #[.int .i64 sz,.string img,.int .u32 root,.string key] w fun e w'=>e=.returned (.tuple #[.string (getV sz img root key).1,.int .i64 (getV sz img root key).2])∧Below w.heap.size w w':=by
 have HD:=Hd (descend_any sz img root key w hi hr)
 obtain⟨E,hE⟩ : ∃ E,E=pathE sz img root key:=⟨_,rfl⟩
 obtain⟨I,hI⟩ : ∃ I,I=pathI sz img root key:=⟨_,rfl⟩
 obtain⟨r,hr'⟩ : ∃ r,r=getV sz img root key:=⟨_,rfl⟩
 have HG:=Hd (show r=if E≠0 then (⟨#[]⟩,E) else if findB I key then (match I[findN I key]? with
   | some i=>match valN sz img i with
    | some (v,_)=>(v,0)
    | none=>(⟨#[]⟩,4)
   | none=>(⟨#[]⟩,5)) else (⟨#[]⟩,5) by rw[hr',hE,hI];rfl)
 unfold DescPost at HD
 rw[← hE,← hI] at HD
 rw[← hr']
 have HSz:=Hd hi
 have HEq:=Hd hE
 have HIq:=Hd hI
 clear hE hI hr' hi hr
 obtain⟨hzi,hii⟩:=zero_of_info infoItz
 have HII:=Hd hii
 clear hii
 go_enter Tryz.func13,Tryz.ntmps13
 go_wp2_with fail
 refine HD.out.mono ?_
 rintro e w1 ⟨A,n,c,A2,n2,c2,rfl,hr1,hr2,hn,hn2,hc,hc2,hb⟩
 have HB:=Hd hb
 have HR:=Hd hr2
 clear hr1 hr2 hn hc hb
 by_cases h0:E=0
 rotate_left
 ·have h1:(E != 0)=true:=by simpa using h0
  have HE:=Hd (show r=(⟨#[]⟩,E) by rw[HG.out,if_pos h0])
  clear h0
  go_wp2_with fail
  go_ret2
  rw[HE.out]
  exact⟨rfl,HB.out⟩
 subst h0
 have HF:=Hd (lfind_any A2 n2 c2 I key w1 HR.out (by omega))
 have hl:I.length=n2:=it_len HR.out
 rcases hf:findB I key with _ | _
 ·rw[hf] at HF
  have HE:=Hd (show r=(⟨#[]⟩,5) by rw[HG.out,hf];rfl)
  clear hf hl
  go_wp2_with fail
  refine HF.out.mono ?_
  rintro e w2 ⟨rfl,hb2⟩
  have HB2:=Hd (HB.out.trans (hb2.mono HB.out.size))
  clear hb2
  go_wp2_with fail
  go_ret2
  rw[HE.out]
  exact⟨rfl,HB2.out⟩
 ·rw[hf] at HF
  obtain⟨p,hp⟩ : ∃ p,p=findN I key:=⟨_,rfl⟩
  have hpn:p<n2:=by
   rw[← hl]
   unfold findB at hf
   rw[← hp] at hf
   rcases hx:I[p]? with _ | x
   ·rw[hx] at hf;cases hf
   ·exact (List.getElem?_eq_some_iff.1 hx).1
  obtain⟨ad,x,rfl,hab,hab2,hx,hfk⟩:=it_at HR.out hpn
  have HV:=Hd (show r=match valN sz img x with
    | some (v,_)=>(v,0)
    | none=>(⟨#[]⟩,4) by rw[HG.out,hf,if_neg (by simp),if_pos rfl,← hp];simp only[hx])
  have hgood:goodSize sz=true:=by
   have h:=HEq.out
   unfold pathE at h
   rcases hg:goodSize sz with _ | _
   ·rw[hg] at h;simp at h
   ·rfl
  have hin:x.hd<4294967296∧(-9223372036854775808≤x.ln∧x.ln≤9223372036854775807):=by
   have h:=HIq.out
   unfold pathI at h
   rcases hpv:pathV sz img root key with _ | ⟨P,l⟩
   ·rw[hpv] at h;rw[h] at hx;simp at hx
   ·rw[hpv] at h
    simp at h
    subst h
    exact path_num hpv hx
  have HVal:=fun w=>value_any sz img x w (by have:=HSz.out;omega) hin.1 hin.2
  rw[← hp] at HF
  clear hf hp hin hl
  go_wp2_with fail
  refine HF.out.mono ?_
  rintro e w2 ⟨rfl,hb2⟩
  have HB2:=Hd (HB.out.trans (hb2.mono HB.out.size))
  obtain⟨f0,f1,f2,f3,f4⟩:=hfk.below hb2 hab2
  have HGd:=Hd hgood
  obtain⟨ky,vl,ov,ln,hd⟩:=x
  dsimp only at f0 f1 f2 f3 f4 HVal
  obtain⟨o,ho⟩ : ∃ o,o=valN sz img ⟨ky,vl,ov,ln,hd⟩:=⟨_,rfl⟩
  rw[← ho] at HV HVal
  have HVl:=Hd HVal
  clear hb2 hab hab2 hx hfk HVal ho hgood
  go_wp2_with fail
  refine (HVl.out _).mono ?_
  rintro e w3 ⟨Ac,nc,cc,rfl,hrc,hb3⟩
  have HB3:=Hd (HB2.out.trans (hb3.mono HB2.out.size))
  have HE:=Hd (show r=(rdStr o,valE sz o) by
   rw[HV.out]
   rcases o with _ | ⟨v,ps⟩
   ·unfold valE rdErr
    rw[HGd.out]
    rfl
   ·rfl)
  clear hrc hb3
  go_wp2_with fail
  go_ret2
  rw[HE.out]
  exact⟨rfl,HB3.out⟩
end Go.Proofs.YtanbbnogdhnikaaGreat

namespace Go.Proofs.YtanbbnogdhnikaaGreat
open Go.RowKit Go.Shelf
attribute [local go_sem] Oper.semAt_some
attribute [local go_sem ↓] Go.wp_at_zero Go.wp_at_succ

def lastE (l:List (Pr×Int)):Int:=(l.getLast?.map (·.2)).getD 0
theorem lastE_snoc (l:List (Pr×Int)) (x:Pr×Int):lastE (l++[x])=x.2:=by simp[lastE]
theorem lastE_tree {size:Int} {s:ByteArray} {root:Nat}:lastE (treeS size s root)=treeE size s root:=by
 unfold treeS stepsT
 by_cases h:treeE size s root=0
 ·rw[if_pos h,h,List.append_nil]
  generalize (treeV size s root).1=l
  unfold lastE
  rw[List.getLast?_map]
  cases l.getLast? <;> rfl
 ·rw[if_neg h,lastE_snoc]
def PagesJ (b:Nat) (pre:List (Pr×Int)) (U:Nat→Prop) (W:World):Prop:=(∀ k,U k↔k=b)∧Boxed W b 28 (.int .i64 (lastE pre))
theorem pages1_any (b:Nat) (x:Pr×Int) (pre:List (Pr×Int)) (w:World) (h:Boxed w b 28 (.int .i64 (lastE pre))) :
  Calls Tryz.prog 44 (encP x++#[.pointer (some ⟨b,0,none⟩)]) w fun e w'=>e=.returned (.bool true)∧Boxed w' b 28 (.int .i64 x.2)∧Kept (fun k=>k=b) w w':=by
 obtain⟨⟨ky,vl⟩,er⟩:=x
 have h':=h.alloc (.cells #[.string ky,.string vl] 55)
 have c:=h'.cell
 have f:=h'.frozen
 have HB:=Hd h'
 have HK:=Hd (show Kept (fun k=>k=b) w ((w.alloc (.cells #[.string ky,.string vl] 55)).setCell ⟨b,0,none⟩ (.int .i64 er)) from ((Kept.refl (fun k=>k=b) w).alloc _).setCell (p:=⟨b,0,none⟩) (.inl rfl) _)
 clear h h'
 simp only[encP,List.append_toArray,List.cons_append,List.nil_append]
 go_enter Tryz.func44,Tryz.ntmps44
 go_wp2_with fail
 go_ret
 exact⟨rfl,HB.out.set _,HK.out⟩
theorem eg_pages1 : ∀ args w,(callFunc 44 args).run Tryz.prog w=.ok (.enter 44 args) w:=fun _ _=>by first | rfl | kernel_rfl
theorem pages_hears (b:Nat) (XS:List (Pr×Int)):Hears XS (PagesJ b) (fun _ _ _=>False) (.func (.func 44) #[] #[.pointer (some ⟨b,0,none⟩)]) where
 sJ:=fun pre U W W' h hk=>⟨h.1,(hk.block b h.2.lt ((h.1 b).2 rfl)).trans h.2⟩
 sJx:=fun _ _ _ _ h _=>h
 lJ:=fun pre U W h k hk=>by
  obtain rfl:=(h.1 k).1 hk
  exact h.2.lt
 lJx:=fun _ _ _ h=>h.elim
 tell:=fun pre x U W h hx=>.inr ⟨_,_,rfl,eg_pages1,(pages1_any b x pre W h.2).mono fun e w' ⟨h1,h2,h3⟩=>.inl ⟨h1,U,fun k hk=>.inl hk,h3.mono (fun k e=>(h.1 k).2 e),h.1,by rw[lastE_snoc];exact h2⟩⟩
theorem cpages_any (sz:Int) (img:ByteArray) (root:Nat) (w:World) (hi:img.size≤400000) (hr:root<4294967296) :
  Calls Tryz.prog 15 #[.int .i64 sz,.string img,.int .u32 root] w fun e w'=>∃ A n c,e=.returned (.tuple #[.slice A n c,.int .i64 (treeE sz img root)])∧Reads w' w'.heap.size 1 A n (ucells (((treeV sz img root).2).getD []))∧Below w.heap.size w w':=by
 have hmf : ∀ (fn:Fn) (first cap:Array Value) (w:World),(Instr.makeFunc fn first cap).run Tryz.prog w=.ok (.func fn first cap) w:=fun _ _ _ _=>rfl
 have HI:=Hd hi
 have HR:=Hd hr
 obtain⟨E,hE⟩ : ∃ E,E=treeE sz img root:=⟨_,rfl⟩
 rw[← hE]
 have HEq:=Hd hE
 clear hi hr hE
 go_enter Tryz.func15,Tryz.ntmps15
 go_wp2_with fail
 refine (visitor_any sz img _).mono ?_
 rintro e w1 ⟨rfl,hb1,hv1,hs⟩
 have HSz:=Hd hs
 have HB1:=Hd hb1
 clear hs hb1
 go_upto_region 3 with fail
 have hs1:=HSz.out
 have hb1:=HB1.out
 obtain⟨w2,hw2⟩ : ∃ y,y=w1.alloc (.cells #[.int .i64 0] 28):=⟨_,rfl⟩
 obtain⟨b,hb⟩ : ∃ b,b=w1.heap.size:=⟨_,rfl⟩
 have hbx:Boxed w2 b 28 (.int .i64 0):=by rw[hw2,hb];exact Boxed.new _ _ _
 have hv2:Vis w2 (w.heap.size+1) w.heap.size sz img [] (.slice none 0 0):=by rw[hw2];exact hv1.below ((Below.refl _ _).alloc (Nat.le_refl _) _)
 have hb2:Below w.heap.size w w2:=by rw[hw2];exact hb1.alloc (by omega) _
 have HT:=Hd (tree_any sz img root (pages_hears b (treeS sz img root)) (w.heap.size+1) w.heap.size HI.out HR.out _ (fun k=>k=b) w2 hv2 (fun k hk hu=>by rcases hk with h | h | h<;>(try simp[Value.ownBlock] at h)<;>omega) ⟨fun _=>Iff.rfl,hbx⟩)
 have HB2:=Hd hb2
 have HS2:=Hd (show w.heap.size+2≤b by omega)
 clear hb1 hv1 hv2 hb2 hbx
 rw[← hw2,← hb]
 clear hw2 hb hs1 HSz HB1
 go_wp2_with fail
 refine HT.out.mono ?_
 rintro e w3 ⟨⟨v,rfl⟩,V',U',hf,hq⟩
 have hj:PagesJ b (treeS sz img root) U' w3∧∀ M,(treeV sz img root).2=some M→Vis w3 (w.heap.size+1) w.heap.size sz img M V':=hq.elim id (fun h=>h.elim fun q h=>h.2.elim)
 have HB3:=Hd (show Below w.heap.size w w3 from HB2.out.trans (hf.kept.below (fun k hk=>by have h2:=HS2.out;rcases hk with (h | h | h) | h<;>(try simp[Value.ownBlock] at h)<;>omega) HB2.out.size))
 have hbx:=hj.1.2
 rw[lastE_tree] at hbx
 have c3:=hbx.cell
 have HVi:=Hd hj.2
 clear hf hq hj hbx HT HB2
 have hE:=HEq.out
 rw[← hE] at c3
 by_cases h0:E=0
 ·have hM : ∃ M,(treeV sz img root).2=some M:=by
   unfold treeE at hE
   rcases hm:(treeV sz img root).2 with _ | M
   ·rw[hm] at hE;simp at hE;split at hE<;>omega
   ·exact⟨M,rfl⟩
  obtain⟨M,hM⟩:=hM
  have HV3:=Hd (HVi.out M hM)
  obtain⟨A,c,hV,_,_,_⟩:=own_form HV3.out.row
  subst hV
  have HRd:=Hd (Reads.of_own HV3.out.row)
  have HM:=Hd hM
  have c4:=HV3.out.blk.cell 3
  simp at c4
  subst h0
  clear hE hM HVi
  go_wp2_with fail
  go_ret2
  rw[HM.out]
  exact⟨A,_,c,rfl,HRd.out,HB3.out⟩
 ·have hM:(treeV sz img root).2=none:=by
   unfold treeE at hE
   rcases hm:(treeV sz img root).2 with _ | M
   ·rfl
   ·rcases hg:goodSize sz with _ | _
    ·unfold treeV at hm;rw[hg] at hm;cases hm
    ·rw[hm,hg] at hE;simp at hE;exact absurd hE h0
  have HM:=Hd hM
  have h1:(E != 0)=true:=by simpa using h0
  clear hE hM HVi h0
  go_upto_region 5 with fail
  go_quiet (fail)
  go_wp2_with fail
  go_ret2
  rw[HM.out]
  exact⟨none,0,0,rfl,Reads.none_,below_drewN HB3.out nq⟩
end Go.Proofs.YtanbbnogdhnikaaGreat

