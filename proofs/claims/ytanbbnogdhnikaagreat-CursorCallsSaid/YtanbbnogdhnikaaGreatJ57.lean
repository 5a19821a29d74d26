/-
  The given statement CursorCalls, proved: called with any arguments that can be read as data, in whatever memory, the function returns true, and each argument reads afterwards as it read before. No condition beyond the statement's own.
-/
import Derived.Test.YtanbbnogdhnikaaGreatRows
import Derived.ShutString
import Derived.ChangeOld
import Derived.Test.YtanbbnogdhnikaaGreatJ54
import Derived.Test.YtanbbnogdhnikaaGreatJ55
set_option linter.unusedVariables false
set_option linter.unusedSimpArgs false
set_option maxRecDepth 300000
set_option maxHeartbeats 25600000
namespace Go.Proofs.YtanbbnogdhnikaaGreat
open Go.RowKit
open Go.Lib hiding intOf
attribute [local go_sem ↓] Go.wp_at_zero Go.wp_at_succ

def InQ (Q:Nat) (L:List Nat):Prop:=L.Nodup∧∀ x∈L,x<Q
theorem InQ.len {Q:Nat} {L:List Nat} (h:InQ Q L):L.length≤Q:=nodup_le h.1 h.2
theorem InQ.visit {Q:Nat} {L ps M:List Nat} (h:InQ Q L) (hp : ∀ x∈ps,x<Q) (hv:visitL L ps=some M):InQ Q M:=by
 refine⟨visitL_nodup h.1 hv,fun x hx=>?_⟩
 rw[visitL_some hv] at hx
 rcases List.mem_append.1 hx with hx | hx
 ·exact h.2 x hx
 ·exact hp x hx
theorem valN_pagesQ {size:Int} {s:ByteArray} {i:It} {v:ByteArray} {ps:List Nat} (h:valN size s i=some (v,ps)) : ∀ x∈ps,x<s.size/size.toNat:=by
 unfold valN at h
 split at h
 ·unfold readV at h
  split at h
  ·split at h
   ·split at h
    ·injection h with h
     injection h with _ h
     subst h
     intro x hx
     obtain⟨p,hp,rfl⟩:=List.mem_map.1 hx
     exact (readAt_some (chain_mem_read hp)).2.1
    ·cases h
   ·cases h
  ·cases h
 ·injection h with h
  injection h with _ h
  subst h
  intro x hx
  cases hx
theorem itemsT_q {size:Int} {s:ByteArray} : ∀ {l:List It} {L M:List Nat},InQ (s.size/size.toNat) L→(itemsT size s l L).2=some M→InQ (s.size/size.toNat) M
 | [],L,M,h,he=>by simp[itemsT] at he;exact he ▸ h
 | i::t,L,M,h,he=>by
  simp only[itemsT] at he
  rcases hv:valN size s i with _ | ⟨v,ps⟩
  ·rw[hv] at he;cases he
  ·rw[hv] at he
   simp only at he
   rcases hw:visitL L ps with _ | N
   ·rw[hw] at he;cases he
   ·rw[hw] at he
    exact itemsT_q (h.visit (valN_pagesQ hv) hw) he
def CntQ (K Q:Nat) (L:List Nat) (t:Tv):Prop:=match t.2 with
 | some M=>InQ Q M∧t.1.length+K*L.length≤K*M.length
 | none=>t.1.length+K*L.length≤K*Q
theorem forksT_q {K Q:Nat} {f:Nat→List Nat→Tv} (hf : ∀ n L,InQ Q L→CntQ K Q L (f n L)) : ∀ (l:List Fk) (L:List Nat),InQ Q L→CntQ K Q L (forksT f l L)
 | [],L,h=>⟨h,by simp[forksT]⟩
 | b::t,L,h=>by
  have h1:=hf b.rt L h
  unfold CntQ at h1 ⊢
  simp only[forksT]
  rcases hb:(f b.rt L).2 with _ | M0
  ·rw[hb] at h1
   exact h1
  ·rw[hb] at h1
   have h2:=forksT_q hf t M0 h1.1
   unfold CntQ at h2
   rcases ht:(forksT f t M0).2 with _ | M
   ·rw[ht] at h2
    simp only[ht,List.length_append]
    have:=h1.2
    omega
   ·rw[ht] at h2
    simp only[ht,List.length_append]
    have:=h1.2
    exact⟨h2.1,by omega⟩
theorem leaf_few {size:Int} {s:ByteArray} {n:Nat} {l:List It} (h:nodeN size s n=.lf l):l.length≤size.toNat:=by
 obtain⟨p,hp,_,hi⟩:=leaf_some h
 have h1:=(readI_kd hi).2.2.2.2
 have h2:=three_le l
 have h3:p.bd.size≤size.toNat:=by
  unfold readAt at hp
  split at hp
  ·injection hp with hp
   subst hp
   show ((blkOf size.toNat s n).extract 24 (blkOf size.toNat s n).size).size≤_
   unfold blkOf
   rw[ByteArray.size_extract,ByteArray.size_extract]
   omega
  ·cases hp
 omega
theorem trav_q {size:Int} {s:ByteArray} : ∀ (d n:Nat) (L:List Nat),InQ (s.size/size.toNat) L→CntQ size.toNat (s.size/size.toNat) L (trav size s d n L)
 | 0,n,L,h=>by
  show 0+_≤_
  rw[Nat.zero_add]
  exact Nat.mul_le_mul_left _ h.len
 | d+1,n,L,h=>by
  simp only[trav]
  by_cases hm:n∈L
  ·rw[if_pos hm]
   show 0+_≤_
   rw[Nat.zero_add]
   exact Nat.mul_le_mul_left _ h.len
  ·rw[if_neg hm]
   have hin:nodeN size s n ≠ .none→InQ (s.size/size.toNat) (L++[n]):=fun hn=>by
    refine h.visit (ps:=[n]) (fun x hx=>?_) (by simp[visitL,hm])
    rw[List.mem_singleton.1 hx]
    unfold nodeN at hn
    split at hn
    ·rename_i p hp
     exact (readAt_some hp).2.1
    ·exact absurd rfl hn
   have hK : ∀ (a:Nat) (M:List Nat),InQ (s.size/size.toNat) M→a+size.toNat*(L.length+1)≤size.toNat*M.length→a+size.toNat+size.toNat*L.length≤size.toNat*M.length:=fun a M _ h=>by rw[Nat.mul_add,Nat.mul_one] at h;omega
   rcases hn:nodeN size s n with _ | l | l
   ·show 0+_≤_
    rw[Nat.zero_add]
    exact Nat.mul_le_mul_left _ h.len
   ·have h1:=forksT_q (f:=trav size s d) (fun n L h=>trav_q d n L h) l (L++[n]) (hin (by rw[hn];simp))
    unfold CntQ at h1 ⊢
    rw[List.length_append,List.length_singleton,Nat.mul_add,Nat.mul_one] at h1
    rcases ht:(forksT (trav size s d) l (L++[n])).2 with _ | M
    ·rw[ht] at h1
     simp only[ht]
     omega
    ·rw[ht] at h1
     simp only[ht]
     exact⟨h1.1,by omega⟩
   ·have h0:=hin (by rw[hn];simp)
    have h1:=(itemsT_cnt size s l (L++[n])).1
    have h2:=leaf_few hn
    unfold CntQ
    rcases ht:(itemsT size s l (L++[n])).2 with _ | M
    ·simp only[ht]
     have h3:=h0.len
     rw[List.length_append,List.length_singleton] at h3
     have h4:=Nat.mul_le_mul_left size.toNat h3
     rw[Nat.mul_add,Nat.mul_one] at h4
     omega
    ·simp only[ht]
     have h3:=(itemsT_cnt size s l (L++[n])).2 M ht
     rw[List.length_append,List.length_singleton] at h3
     have h4:=Nat.mul_le_mul_left size.toNat h3
     rw[Nat.mul_add,Nat.mul_one] at h4
     exact⟨itemsT_q h0 ht,by omega⟩
theorem tree_few (size:Int) (s:ByteArray) (root:Nat):(treeV size s root).1.length≤s.size∧(((treeV size s root).2).getD []).length≤s.size:=by
 unfold treeV
 split
 ·split
  ·exact⟨by simp,by simp⟩
  ·have h:=trav_q (size:=size) (s:=s) 16 root [] ⟨by simp,by simp⟩
   unfold CntQ at h
   rcases ht:(trav size s 16 root []).2 with _ | M
   ·rw[ht] at h
    simp only[List.length_nil,Nat.mul_zero,Nat.add_zero] at h
    exact⟨Nat.le_trans h (Nat.mul_div_le _ _),by simp⟩
   ·rw[ht] at h
    simp only[List.length_nil,Nat.mul_zero,Nat.add_zero] at h
    have h1:=h.1.len
    have h2:=Nat.mul_div_le s.size size.toNat
    have h3:=Nat.div_le_self s.size size.toNat
    exact⟨Nat.le_trans h.2 (Nat.le_trans (Nat.mul_le_mul_left _ h1) h2),by simp;omega⟩
 ·exact⟨by simp,by simp⟩
theorem steps_few (size:Int) (s:ByteArray) (root:Nat) (h:s.size≤8000):(treeS size s root).length≤20000∧∀ key,(fromS size s root key).length≤20000:=by
 have h0:=(tree_few size s root).1
 have h1:(treeS size s root).length≤8001:=by
  unfold treeS stepsT
  rw[List.length_append,List.length_map]
  split
  ·simp;omega
  ·simp;omega
 refine⟨by omega,fun key=>?_⟩
 unfold fromS
 have:=List.length_filter_le (keepK key) (treeS size s root)
 omega
theorem pages_if (size:Int) (s:ByteArray) (root:Nat):(if treeE size s root=0 then ((treeV size s root).2).getD [] else [])=((treeV size s root).2).getD []:=by
 by_cases h:treeE size s root=0
 ·rw[if_pos h]
 ·rw[if_neg h]
  unfold treeE at h
  rcases hg:goodSize size with _ | _
  ·unfold treeV;rw[hg];rfl
  ·rw[hg,if_pos rfl] at h
   rcases ht:(treeV size s root).2 with _ | M
   ·rfl
   ·rw[ht] at h;simp at h
theorem cucalls_walk (sz:Int) (img:ByteArray) (root0:Int) (key:ByteArray) (w:World) (_h0:(Lit.int .i64 sz).wf=true) (_h1:img.size≤maxLen) (h2:(Lit.int .u32 root0).wf=true) (_h3:key.size≤maxLen) :
  Calls Tryz.prog 4 #[.int .i64 sz,.string img,.int .u32 root0,.string key] w fun e w'=>e=.returned (.bool true)∧Below w.heap.size w w':=by
 obtain⟨root,rfl⟩:=Int.eq_ofNat_of_zero_le (lit_u32' h2).1
 have hr9:root<4294967296:=by have:=(lit_u32' h2).2;omega
 clear _h0 _h1 h2 _h3
 have HB:=Hd (Below.refl w.heap.size w)
 by_cases hi:8000<img.size
 ·have g1:decide ((8000:Int)<(img.size:Int))=true:=by simp;omega
  have g2:decide (8000<img.size)=true:=by simp;omega
  clear hi
  go_enter Tryz.func4,Tryz.ntmps4
  go_wp2_with fail
  refine (lives12_any _).mono ?_
  rintro e w1 ⟨rfl,hb⟩
  replace HB:=Hd (HB.out.trans (hb.mono HB.out.size))
  clear hb
  go_wp2_with fail
  go_ret
  exact⟨rfl,HB.out⟩
 have g1:decide ((8000:Int)<(img.size:Int))=false:=by simp;omega
 have g2:decide (8000<img.size)=false:=by simp;omega
 have hi8:img.size≤8000:=by omega
 clear hi
 by_cases hk:100<key.size
 ·have g3:decide ((100:Int)<(key.size:Int))=true:=by simp;omega
  have g4:decide (100<key.size)=true:=by simp;omega
  clear hk
  go_enter Tryz.func4,Tryz.ntmps4
  go_wp2_with fail
  refine (lives12_any _).mono ?_
  rintro e w1 ⟨rfl,hb⟩
  replace HB:=Hd (HB.out.trans (hb.mono HB.out.size))
  clear hb
  go_wp2_with fail
  go_ret
  exact⟨rfl,HB.out⟩
 have g3:decide ((100:Int)<(key.size:Int))=false:=by simp;omega
 have g4:decide (100<key.size)=false:=by simp;omega
 clear hk
 have hs:img.size≤400000:=by omega
 obtain⟨t1,t2⟩:=tree_few sz img root
 obtain⟨s1,s2⟩:=steps_few sz img root hi8
 have C1:=fun w=>lall0_any sz img root key w hs hr9 s1
 have C2:=fun w=>rall12_any sz img root w hs hr9
 have C3:=fun w=>lall1_any sz img root key w hs hr9 (s2 key)
 have C4:=fun w=>rfrom12_any sz img root key w hs hr9 (by omega)
 have C5:=fun w=>cget_any sz img root key w hs hr9
 have C6:=fun w=>rget12_any sz img root key w hs hr9
 have D1:=fun w=>cpath_any sz img root key w hs hr9
 have D2:=fun w=>rpath12_any sz img root key w hs hr9
 have D3:=fun w=>cpages_any sz img root w hs hr9
 have D4:=fun w=>rpages12_any sz img root w hs hr9
 have D5:=fun w=>cdepth_any sz img root w hs hr9
 have D6:=fun w=>rdepth12_any sz img root w hs hr9
 have hfl:=fromP_len key (treeV sz img root).1
 rw[pages_if] at D4
 unfold PathPost at D2
 obtain⟨E,hE⟩ : ∃ x,x=treeE sz img root:=⟨_,rfl⟩
 obtain⟨TL,hTL⟩ : ∃ x,x=(treeV sz img root).1:=⟨_,rfl⟩
 obtain⟨TM,hTM⟩ : ∃ x,x=((treeV sz img root).2).getD []:=⟨_,rfl⟩
 obtain⟨gv,hgv⟩ : ∃ x,x=getV sz img root key:=⟨_,rfl⟩
 obtain⟨PE,hPE⟩ : ∃ x,x=pathE sz img root key:=⟨_,rfl⟩
 obtain⟨PL,hPL⟩ : ∃ x,x=pathL sz img root key:=⟨_,rfl⟩
 obtain⟨QE,hQE⟩ : ∃ x,x=pathE sz img root ⟨#[]⟩:=⟨_,rfl⟩
 obtain⟨QL,hQL⟩ : ∃ x,x=(pathL sz img root ⟨#[]⟩).length:=⟨_,rfl⟩
 rw[← hE,← hTL] at C1 C2 C3 C4
 rw[← hgv] at C5 C6
 rw[← hPE,← hPL] at D1 D2
 rw[← hE,← hTM] at D3 D4
 rw[← hQE,← hQL] at D5 D6
 rw[← hTL] at t1 hfl
 rw[← hTM] at t2
 obtain⟨FL,hFL⟩ : ∃ x,x=fromP key TL:=⟨_,rfl⟩
 rw[← hFL] at C3 C4 hfl
 obtain⟨v1,v2⟩:=gv
 dsimp only at C5 C6
 have C1:=Hd C1
 have C2:=Hd C2
 have C3:=Hd C3
 have C4:=Hd C4
 have C5:=Hd C5
 have C6:=Hd C6
 have D1:=Hd D1
 have D2:=Hd D2
 have D3:=Hd D3
 have D4:=Hd D4
 have D5:=Hd D5
 have D6:=Hd D6
 have M1:=Hd (show TL.length≤maxLen by unfold maxLen;omega)
 have M2:=Hd (show FL.length≤maxLen by unfold maxLen;omega)
 have M3:=Hd (show TM.length≤maxLen by unfold maxLen;omega)
 clear t1 t2 s1 s2 hfl hE hTL hTM hgv hPE hPL hQE hQL hFL hs hi8 hr9
 go_enter Tryz.func4,Tryz.ntmps4
 go_wp2_with fail
 refine (lives12_any _).mono ?_
 rintro e w0 ⟨rfl,hb⟩
 replace HB:=Hd (HB.out.trans (hb.mono HB.out.size))
 clear hb
 go_wp2_with fail
 refine (C1.out _).mono ?_
 rintro e w1 ⟨A1,n1,c1,rfl,h1,hb⟩
 obtain rfl:n1=TL.length:=(pr_len h1).symm
 have R1:=Hd h1
 replace HB:=Hd (HB.out.trans (hb.mono HB.out.size))
 clear hb h1 C1
 go_wp2_with fail
 refine (C2.out _).mono ?_
 rintro e w2 ⟨A2,n2,c2,rfl,h1,_,hb⟩
 obtain rfl:n2=TL.length:=(pr_len h1).symm
 have R2:=Hd h1
 replace R1:=Hd ((R1.out.below hb).more hb.size)
 replace HB:=Hd (HB.out.trans (hb.mono HB.out.size))
 clear hb h1 C2
 go_wp2_with fail
 refine (C3.out _).mono ?_
 rintro e w3 ⟨A3,n3,c3,rfl,h1,hb⟩
 obtain rfl:n3=FL.length:=(pr_len h1).symm
 have R3:=Hd h1
 replace R1:=Hd ((R1.out.below hb).more hb.size)
 replace R2:=Hd ((R2.out.below hb).more hb.size)
 replace HB:=Hd (HB.out.trans (hb.mono HB.out.size))
 clear hb h1 C3
 go_wp2_with fail
 refine (C4.out _).mono ?_
 rintro e w4 ⟨A4,n4,c4,rfl,h1,hb⟩
 obtain rfl:n4=FL.length:=(pr_len h1).symm
 have R4:=Hd h1
 replace R1:=Hd ((R1.out.below hb).more hb.size)
 replace R2:=Hd ((R2.out.below hb).more hb.size)
 replace R3:=Hd ((R3.out.below hb).more hb.size)
 replace HB:=Hd (HB.out.trans (hb.mono HB.out.size))
 clear hb h1 C4
 go_wp2_with fail
 refine (C5.out _).mono ?_
 rintro e w5 ⟨rfl,hb⟩
 replace R1:=Hd ((R1.out.below hb).more hb.size)
 replace R2:=Hd ((R2.out.below hb).more hb.size)
 replace R3:=Hd ((R3.out.below hb).more hb.size)
 replace R4:=Hd ((R4.out.below hb).more hb.size)
 replace HB:=Hd (HB.out.trans (hb.mono HB.out.size))
 clear hb C5
 go_wp2_with fail
 refine (C6.out _).mono ?_
 rintro e w6 ⟨rfl,hb⟩
 replace R1:=Hd ((R1.out.below hb).more hb.size)
 replace R2:=Hd ((R2.out.below hb).more hb.size)
 replace R3:=Hd ((R3.out.below hb).more hb.size)
 replace R4:=Hd ((R4.out.below hb).more hb.size)
 replace HB:=Hd (HB.out.trans (hb.mono HB.out.size))
 clear hb C6
 go_wp2_with fail
 refine (same12_yes A1 TL.length c1 A2 c2 TL _ R1.out R2.out M1.out).mono ?_
 rintro e w7 ⟨rfl,q7,hq⟩
 replace HB:=Hd (show Below w.heap.size w w7 by rw[hq];exact below_drewN HB.out q7)
 replace R3:=Hd (show Reads w7 w6.heap.size 2 A3 FL.length (prc FL) by rw[hq];exact R3.out.drewN q7)
 replace R4:=Hd (show Reads w7 w6.heap.size 2 A4 FL.length (prc FL) by rw[hq];exact R4.out.drewN q7)
 clear hq R1 R2
 go_wp2_with fail
 refine (same12_yes A3 FL.length c3 A4 c4 FL _ R3.out R4.out M2.out).mono ?_
 rintro e w8 ⟨rfl,q8,hq⟩
 replace HB:=Hd (show Below w.heap.size w w8 by rw[hq];exact below_drewN HB.out q8)
 clear hq R3 R4
 go_wp2_with fail
 refine (D1.out _).mono ?_
 rintro e w9 ⟨A9,n9,c9,rfl,h1,hn9,_,hb⟩
 obtain rfl:n9=PL.length:=(ulen h1).symm
 have R1:=Hd h1
 replace HB:=Hd (HB.out.trans (hb.mono HB.out.size))
 have M4:=Hd (show PL.length≤maxLen by unfold maxLen;omega)
 clear hb h1 D1 hn9
 go_wp2_with fail
 refine (D2.out _).mono ?_
 rintro e w10 ⟨A10,n10,c10,rfl,h1,_,_,hb⟩
 obtain rfl:n10=PL.length:=(ulen h1).symm
 have R2:=Hd h1
 replace R1:=Hd ((R1.out.below hb).more hb.size)
 replace HB:=Hd (HB.out.trans (hb.mono HB.out.size))
 clear hb h1 D2
 go_wp2_with fail
 refine (D3.out _).mono ?_
 rintro e w11 ⟨A11,n11,c11,rfl,h1,hb⟩
 obtain rfl:n11=TM.length:=(ulen h1).symm
 have R3:=Hd h1
 replace R1:=Hd ((R1.out.below hb).more hb.size)
 replace R2:=Hd ((R2.out.below hb).more hb.size)
 replace HB:=Hd (HB.out.trans (hb.mono HB.out.size))
 clear hb h1 D3
 go_wp2_with fail
 refine (D4.out _).mono ?_
 rintro e w12 ⟨A12,n12,c12,rfl,h1,hb⟩
 obtain rfl:n12=TM.length:=(ulen h1).symm
 have R4:=Hd h1
 replace R1:=Hd ((R1.out.below hb).more hb.size)
 replace R2:=Hd ((R2.out.below hb).more hb.size)
 replace R3:=Hd ((R3.out.below hb).more hb.size)
 replace HB:=Hd (HB.out.trans (hb.mono HB.out.size))
 clear hb h1 D4
 go_wp2_with fail
 refine (D5.out _).mono ?_
 rintro e w13 ⟨rfl,hb⟩
 replace R1:=Hd ((R1.out.below hb).more hb.size)
 replace R2:=Hd ((R2.out.below hb).more hb.size)
 replace R3:=Hd ((R3.out.below hb).more hb.size)
 replace R4:=Hd ((R4.out.below hb).more hb.size)
 replace HB:=Hd (HB.out.trans (hb.mono HB.out.size))
 clear hb D5
 go_wp2_with fail
 refine (D6.out _).mono ?_
 rintro e w14 ⟨rfl,hb⟩
 replace R1:=Hd ((R1.out.below hb).more hb.size)
 replace R2:=Hd ((R2.out.below hb).more hb.size)
 replace R3:=Hd ((R3.out.below hb).more hb.size)
 replace R4:=Hd ((R4.out.below hb).more hb.size)
 replace HB:=Hd (HB.out.trans (hb.mono HB.out.size))
 clear hb D6
 go_wp2_with fail
 refine (sameU_yes A9 PL.length c9 A10 c10 PL _ R1.out R2.out M4.out).mono ?_
 rintro e w15 ⟨rfl,q15,hq⟩
 replace HB:=Hd (show Below w.heap.size w w15 by rw[hq];exact below_drewN HB.out q15)
 replace R3:=Hd (show Reads w15 w14.heap.size 1 A11 TM.length (ucells TM) by rw[hq];exact R3.out.drewN q15)
 replace R4:=Hd (show Reads w15 w14.heap.size 1 A12 TM.length (ucells TM) by rw[hq];exact R4.out.drewN q15)
 clear hq R1 R2
 go_wp2_with fail
 refine (sameU_yes A11 TM.length c11 A12 c12 TM _ R3.out R4.out M3.out).mono ?_
 rintro e w16 ⟨rfl,q16,hq⟩
 replace HB:=Hd (show Below w.heap.size w w16 by rw[hq];exact below_drewN HB.out q16)
 clear hq R3 R4
 go_wp2_with fail
 go_ret
 exact⟨rfl,HB.out⟩
end Go.Proofs.YtanbbnogdhnikaaGreat
namespace Go.Proofs.YtanbbnogdhnikaaGreat.cursorCalls
open Go.ChangeShapes Go.WideShapes Go.ChangeAt Go.RowKit
open Go.ChangeMaps (open_string shut_string)

theorem own:ownKnob Tryz.prog.godebug=none:=by kernel_rfl
theorem laidOut:laidOutB Tryz.prog=true:=by kernel_rfl

theorem lifted (os:Os) (started:os.Started) (H:Type) (enc:TypeId×Value→H) :
  ReturnsInHanded {} Tryz.checked os 4 .any (Rows.cursorCallsSpec.pre6 enc Tryz.prog Tryz.f4 Rows.cursorCallsRow.domain false) (Rows.cursorCallsSpec.post enc Tryz.prog Tryz.f4 false true false false):=by
 refine returnsInHanded_of_change (C:=Tryz.checked) own started (by kernel_rfl) Tryz.func4
  (ChangeSpec.witness6 (enc:=enc) (C:=Tryz.checked) false ⟨#[],#[.int .i64 0,.string .empty,.int .u32 0,.string .empty],[]⟩ 8 (by kernel_rfl) (by kernel_rfl) (by kernel_rfl) (by kernel_rfl)) ?_
 intro W base args ds gs before hval0 hW hcnd _
 have hval : ∀ (j:Nat) t v,Tryz.f4.params[j]? = some t→args[j]? = some v→Value.okWide Tryz.prog W .any base t v:=hval0
 have hW':=hW
 obtain⟨p,q,hA0,hV,rfl,hfz,hnd⟩:=hW
 have hA:DataW.TrodAll enc Tryz.prog W 0 (fun _=>true) true Tryz.f4.params.toList args.toList ds p:=hA0
 rw[Tryz.params4] at hA hval
 obtain⟨v0,vs0,d0,ds0,p0,q0,hargs,rfl,rfl,h0,r0⟩:=trodAll_cons hA
 obtain⟨v1,vs1,d1,ds1,p1,q1,rfl,rfl,rfl,h1,r1⟩:=trodAll_cons r0
 obtain⟨v2,vs2,d2,ds2,p2,q2,rfl,rfl,rfl,h2,r2⟩:=trodAll_cons r1
 obtain⟨v3,vs3,d3,ds3,p3,q3,rfl,rfl,rfl,h3,r3⟩:=trodAll_cons r2
 obtain⟨rfl,rfl,rfl⟩:=trodAll_nil r3
 obtain rfl:args=#[v0,v1,v2,v3]:=by cases args;simp_all
 obtain⟨rfl,rfl⟩:=trodVars_none hV
 obtain⟨a0,rfl,rfl,rfl,w0⟩:=open_int Tryz.underlying3 (hval 0 3 v0 rfl rfl) h0
 obtain⟨a1,rfl,rfl,rfl,w1⟩:=open_string Tryz.underlying9 (hval 1 9 v1 rfl rfl) h1
 obtain⟨a2,rfl,rfl,rfl,w2⟩:=open_int Tryz.underlying23 (hval 2 23 v2 rfl rfl) h2
 obtain⟨a3,rfl,rfl,rfl,w3⟩:=open_string Tryz.underlying9 (hval 3 9 v3 rfl rfl) h3
 clear hA0 hval0
 refine (cucalls_walk a0 a1 a2 a3 W w0 w1 w2 w3).mono fun e W' ⟨he,bel⟩=>?_
 subst he
 exact⟨_,rfl,_,_,_,[],_,[],hW',trodAll_mk1 (shut_bool Tryz.underlying4 _),(trodAll_cons_mk (shut_int Tryz.underlying3 w0) (trodAll_cons_mk (shut_string Tryz.underlying9 w1) (trodAll_cons_mk (shut_int Tryz.underlying23 w2) (trodAll_cons_mk (shut_string Tryz.underlying9 w3) trodAll_mk0)))),rfl,bel.frame _,fun h=>by cases h⟩

theorem over:Rows.cursorCallsRow.holds Tryz.pinned (OpenSpec.ofChange Rows.cursorCallsSpec) :=
 OpenClaim.holds_of_wide 4 Tryz.f4 rfl rfl rfl rfl rfl rfl rfl ⟨rfl,rfl,rfl,rfl,rfl⟩ rfl rfl rfl rfl rfl (by kernel_rfl) Tryz.func4 (by kernel_rfl)
  (of_decide_eq_true (by kernel_rfl)) (by unfold Func.isWrapper;first | (rw[if_pos (by decide +kernel)];kernel_rfl) | (rw[if_neg (by decide +kernel)];exact⟨rfl,rfl⟩))
  (fun os started H enc _=>lifted os started H enc)

theorem proved:Rows.CursorCallsSaid:=over
#print axioms proved
end Go.Proofs.YtanbbnogdhnikaaGreat.cursorCalls

