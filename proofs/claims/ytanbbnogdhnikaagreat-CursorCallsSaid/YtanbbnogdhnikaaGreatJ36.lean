/-
  Contract of the reference's Follow of layer 11: the pages of a chain.
-/
import Derived.Test.YtanbbnogdhnikaaGreatJ24
set_option linter.unusedVariables false
set_option linter.unusedSimpArgs false
set_option maxRecDepth 300000
set_option maxHeartbeats 25600000
namespace Go.Proofs.YtanbbnogdhnikaaGreat
open Go.RowKit
open Go.Lib hiding intOf
attribute [local go_sem ↓] Go.wp_at_zero Go.wp_at_succ

theorem infoLk:(Tryz.prog.info? 155).map (fun i=>(i.zero,i.size,i.bytes))=some (some (.agg #[.int .i64 0,.int .i64 0,.int .u32 0,.int .u32 0,.int .u64 0,.string .empty,.int .i64 0]),7,56):=by kernel_rfl
theorem lkc_one (l:List Lk) : ∀ u∈lkc l,u.oneCell'=true:=by
 intro u hu
 unfold lkc rowsOf at hu
 obtain⟨b,_,hb⟩:=List.mem_flatMap.1 hu
 simp[Lk.cells] at hb
 rcases hb with rfl | rfl | rfl | rfl | rfl | rfl | rfl<;>rfl
theorem lk_one (b:Lk) : ∀ u∈b.cells,u.oneCell'=true:=fun u hu=>lkc_one [b] u (by simpa [lkc,rowsOf] using hu)
theorem map_lk_at {L:List Pg} {i:Nat} {x:Lk} (h:(L.map (fun p=>(⟨p,0⟩:Lk)))[i]? = some x) : ∃ p,L[i]? = some p∧x=⟨p,0⟩:=by
 rw[List.getElem?_map,Option.map_eq_some_iff] at h
 obtain⟨p,h1,rfl⟩:=h
 exact⟨p,h1,rfl⟩
theorem wasIn_take {L:List Pg} {i h:Nat} {p:Pg} (hp:L[i]? = some p):wasIn (L.take (i+1)) h=(wasIn (L.take i) h || decide (p.pg=h)):=by
 obtain⟨h1,h2⟩:=List.getElem?_eq_some_iff.1 hp
 rw[List.take_succ_eq_append_getElem h1,h2,wasIn_append]
 unfold wasIn
 simp
def sliceLen:Value→Nat
 | .slice _ n _=>n
 | _=>0
theorem rfollow_any (size:Int) (s:ByteArray) (head:Nat) (kd:Int) (w:World) (hs:s.size≤1000000) (hh:head<4294967296) :
  Calls Tryz.prog 89 #[.int .i64 size,.string s,.int .u32 head,.int .i64 kd] w fun e w'=>∃ A n c,e=.returned (.slice A n c)∧Reads w' w'.heap.size 7 A n (lkc (followL size s kd head))∧Below w.heap.size w w':=by
 obtain⟨i0,hi0,hz0,hz1,hz2⟩:=info_parts infoLk
 obtain⟨hzp,hi⟩:=zero_of_info infoPg
 have HI:=Hd hi
 have HS:=Hd hs
 clear hi hs
 go_enter Tryz.func89,Tryz.ntmps89
 go_wp2_with fail
 go_loopw [2,9] (fun h o wr=>∃ (k hd:Nat) (L:List Pg) (A:Option Addr) (c:Nat),Hid (along size s kd head k=(L,hd))∧Hid (L.length=k)∧Hid (k≤s.size)∧hd<4294967296∧h=.int .u32 hd∧o=.slice A k c∧Hid (wr.ownsRow w.heap.size 155 7 (.slice A k c) k (lkc (L.map fun p=>(⟨p,0⟩:Lk))))∧Hid (Below w.heap.size w wr)) (fun _ o _=>s.size-sliceLen o)
 case atStart=>exact⟨0,head,[],none,0,Hd rfl,Hd rfl,Hd (Nat.zero_le _),hh,rfl,rfl,Hd (World.ownsRow_nil _ _ _ _),Hd (Below.refl _ _)⟩
 case round =>
  obtain⟨k,hd,L,A,c,HAl,HLl,HK9,hd9,rfl,rfl,HO,HB⟩:=hrel
  have hk9:k≤1000000:=Nat.le_trans HK9.out HS.out
  by_cases h0:hd=0
  ·subst h0
   obtain⟨hc1,hc2⟩:=chain_end HK9.out HAl.out goes_zero
   have HE:=Hd (show followL size s kd head=L.map fun p=>(⟨p,0⟩:Lk) by rw[followL,hc1,hc2];simp)
   clear hc1 hc2
   go_wp2_with fail
   go_ret
   exact⟨A,k,c,rfl,by rw[HE.out];exact Reads.of_own HO.out,HB.out⟩
  have hn1:((hd:Int) != 0)=true:=by simp;omega
  have hn2:(hd != 0)=true:=by simp;omega
  have HRd:=fun (w:World)=>rread_all size s hd w (Nat.le_trans HS.out (by decide)) hd9
  obtain⟨x,hx⟩ : ∃ x,x=errAt size s hd:=⟨_,rfl⟩
  obtain⟨q,hq⟩ : ∃ q,q=pageOf size s hd:=⟨_,rfl⟩
  have hgo:goes size s kd L hd=(if (decide (x≠0) || (decide (hd<2) || decide (q.kd≠kd))) || wasIn L hd then none else some q):=by
   rcases hr:readAt size s hd with _ | p
   ·rw[goes_bad hr,decide_eq_true (by rw[hx];exact (errAt_none hr).1:x≠0)]
    simp
   ·rw[goes_is hr,hx,hq,(errAt_some hr).1,(errAt_some hr).2]
    simp
  have hql:goes size s kd L hd=some q→q.lk<4294967296:=fun h=>by
   have h2:=readAt_some (goes_some h).2.2.1
   have h3:=h2.2.2.2
   simp only[mayPg,Bool.and_eq_true,decide_eq_true_eq] at h3
   omega
  rw[← hx,← hq] at HRd
  have HGo:=Hd hgo
  have HQl:=Hd hql
  have HQp:=Hd hq
  obtain⟨qk,qc,qp,ql,qt,qb⟩:=q
  simp only[Pg.agg] at HRd
  clear hx hq hgo hql h0
  go_wp2_with fail
  refine (HRd _).mono ?_
  rintro e w2 ⟨rfl,hb⟩
  replace HB:=Hd (HB.out.trans (hb.mono HB.out.size))
  replace HO:=Hd (own_below HO.out hb)
  clear hb HRd
  obtain⟨w3,hw3⟩ : ∃ x,x=w2.alloc (.cells #[.int .i64 qk,.int .i64 qc,.int .u32 qp,.int .u32 ql,.int .u64 qt,.string qb] 41):=⟨_,rfl⟩
  have Qp:=Hd (show Blk w3 w2.heap.size 41 #[.int .i64 qk,.int .i64 qc,.int .u32 qp,.int .u32 ql,.int .u64 qt,.string qb] by rw[hw3];exact Blk.new _ _ _)
  replace HB:=Hd (show Below w.heap.size w w3 by rw[hw3];exact HB.out.alloc HB.out.size _)
  replace HO:=Hd (show w3.ownsRow w.heap.size 155 7 (.slice A k c) k (lkc (L.map fun p=>(⟨p,0⟩:Lk))) by rw[hw3];exact HO.out.alloc _)
  go_upto_region 4 with fail
  rw[← hw3]
  clear hw3
  have RO:=Hd (Reads.of_own HO.out)
  generalize w2.heap.size=gQ at *
  have c0:=Qp.out.cell 0
  have c1:=Qp.out.cell 1
  have c2:=Qp.out.cell 2
  have c3:=Qp.out.cell 3
  have c4:=Qp.out.cell 4
  have c5:=Qp.out.cell 5
  simp at c0 c1 c2 c3 c4 c5
  by_cases hx:x=0
  rotate_left
  ·have hwhy:=hx
   have z1:(x != 0)=true:=by simp[hx]
   have z2:(x==0)=false:=by simp[hx]
   go_wp2_with fail
   obtain⟨wo,hwo⟩ : ∃ wo,wo=wr:=⟨_,rfl⟩
   subst hwo
   go_loopw [12,13] (fun b i wr=>∃ j:Nat,j≤k∧i=.int .i64 j∧b=.bool (true || wasIn (L.take j) hd)∧wr=w3) (fun _ i _=>k-(intOf i).toNat)
   case atStart=>exact⟨0,Nat.zero_le _,rfl,rfl,rfl⟩
   case round =>
    obtain⟨j,hj,rfl,rfl,rfl⟩:=hrel
    by_cases hlt:j<k
    ·obtain⟨ad,y,rfl,hab,hy7,hy8⟩:=link_at RO.out hlt
     obtain⟨p,hp,rfl⟩:=map_lk_at hy7
     obtain⟨⟨_,_,d2,_,_,_⟩,_⟩:=hy8
     have hj0:(0:Int)≤j:=by omega
     have hj1:(j:Int)<k:=by omega
     have HT:=Hd (wasIn_take (h:=hd) hp)
     obtain⟨pp,hpp⟩ : ∃ pp,pp=p.pg:=⟨_,rfl⟩
     replace d2:wr.cell? ⟨(ad.add (j*7)).block,(ad.add (j*7)).off+2,none⟩=some (.int .u32 pp):=by rw[hpp];exact d2
     rw[← hpp] at HT
     clear hab hy7 hpp hp
     simp only[Bool.true_or]
     go_wp2_with fail
     go_roundw
     case rel =>
      first
       | exact⟨j+1,by omega,by go_num,by simp,by trivial⟩
       | ((repeat apply Exists.intro);exact⟨⟨j+1,by omega,by go_num,by simp,by trivial⟩,rfl⟩)
     case measure=>simp[intOf];omega
    ·obtain rfl:j=k:=by omega
     have ht:L.take j=L:=List.take_of_length_le (by rw[HLl.out];exact Nat.le_refl _)
     rw[ht]
     clear ht hlt hj RO
     have HGn:=Hd (show goes size s kd L hd=none by rw[HGo.out];simp[hwhy])
     simp only[Bool.true_or]
     obtain⟨hc1,hc2⟩:=chain_end HK9.out HAl.out HGn.out
     have hhd : ¬ hd=0:=by intro h;rw[h] at hn2;simp at hn2
     have HE:=Hd (show followL size s kd head=(L.map fun p=>(⟨p,0⟩:Lk))++[⟨Pg.zero,4⟩] by rw[followL,hc1,hc2,decide_eq_false hhd];rfl)
     clear hc1 hc2 hhd
     have HX:=Hd (HO.out.alloc (.cells #[.int .i64 0,.int .i64 0,.int .u32 0,.int .u32 0,.int .u64 0,.string .empty,.int .i64 4] 155))
     have HBX:=Hd (HB.out.alloc HB.out.size (.cells #[.int .i64 0,.int .i64 0,.int .u32 0,.int .u32 0,.int .u64 0,.string .empty,.int .i64 4] 155))
     go_wp2_with (at_builtin;refine wpList_append_any _ rfl (.tmp 53) (.tmp 55) _ rfl w.heap.size 155 i0 _ 7 56 Tryz.underlying150 hi0 hz0 hz1 hz2 rfl (by omega) _ j _ rfl HX.out (wr.heap.size+1) (some ⟨wr.heap.size,0,none⟩) 1 1 (Lk.cells ⟨Pg.zero,4⟩) rfl (reads_own (n:=1) (Blk.new _ _ _) rfl) (lk_one _) (by unfold maxLen;omega) (by omega) (by have:=HB.out.size;simp;omega) ?_;intro v5 w5 hown5 hg5 hat)
     clear hat
     go_ret
     rw[lkc_snoc] at hown5
     obtain⟨A5,c5,rfl,_,_,_⟩:=own_form hown5
     exact⟨A5,_,c5,rfl,by rw[HE.out];exact Reads.of_own hown5,HBX.out.grown hg5 HBX.out.size (fun g hg=>(HX.out.lt g hg).1)⟩
  by_cases hy:hd<2
  ·have hwhy:=hy
   have z1:(x != 0)=false:=by simp[hx]
   have z2:(x==0)=true:=by simp[hx]
   have z3:decide ((hd:Int)<2)=true:=by simp;omega
   have z4:decide (hd<2)=true:=decide_eq_true hy
   go_wp2_with fail
   obtain⟨wo,hwo⟩ : ∃ wo,wo=wr:=⟨_,rfl⟩
   subst hwo
   go_loopw [12,13] (fun b i wr=>∃ j:Nat,j≤k∧i=.int .i64 j∧b=.bool (true || wasIn (L.take j) hd)∧wr=w3) (fun _ i _=>k-(intOf i).toNat)
   case atStart=>exact⟨0,Nat.zero_le _,rfl,rfl,rfl⟩
   case round =>
    obtain⟨j,hj,rfl,rfl,rfl⟩:=hrel
    by_cases hlt:j<k
    ·obtain⟨ad,y,rfl,hab,hy7,hy8⟩:=link_at RO.out hlt
     obtain⟨p,hp,rfl⟩:=map_lk_at hy7
     obtain⟨⟨_,_,d2,_,_,_⟩,_⟩:=hy8
     have hj0:(0:Int)≤j:=by omega
     have hj1:(j:Int)<k:=by omega
     have HT:=Hd (wasIn_take (h:=hd) hp)
     obtain⟨pp,hpp⟩ : ∃ pp,pp=p.pg:=⟨_,rfl⟩
     replace d2:wr.cell? ⟨(ad.add (j*7)).block,(ad.add (j*7)).off+2,none⟩=some (.int .u32 pp):=by rw[hpp];exact d2
     rw[← hpp] at HT
     clear hab hy7 hpp hp
     simp only[Bool.true_or]
     go_wp2_with fail
     go_roundw
     case rel =>
      first
       | exact⟨j+1,by omega,by go_num,by simp,by trivial⟩
       | ((repeat apply Exists.intro);exact⟨⟨j+1,by omega,by go_num,by simp,by trivial⟩,rfl⟩)
     case measure=>simp[intOf];omega
    ·obtain rfl:j=k:=by omega
     have ht:L.take j=L:=List.take_of_length_le (by rw[HLl.out];exact Nat.le_refl _)
     rw[ht]
     clear ht hlt hj RO
     have HGn:=Hd (show goes size s kd L hd=none by rw[HGo.out];simp[hwhy])
     simp only[Bool.true_or]
     obtain⟨hc1,hc2⟩:=chain_end HK9.out HAl.out HGn.out
     have hhd : ¬ hd=0:=by intro h;rw[h] at hn2;simp at hn2
     have HE:=Hd (show followL size s kd head=(L.map fun p=>(⟨p,0⟩:Lk))++[⟨Pg.zero,4⟩] by rw[followL,hc1,hc2,decide_eq_false hhd];rfl)
     clear hc1 hc2 hhd
     have HX:=Hd (HO.out.alloc (.cells #[.int .i64 0,.int .i64 0,.int .u32 0,.int .u32 0,.int .u64 0,.string .empty,.int .i64 4] 155))
     have HBX:=Hd (HB.out.alloc HB.out.size (.cells #[.int .i64 0,.int .i64 0,.int .u32 0,.int .u32 0,.int .u64 0,.string .empty,.int .i64 4] 155))
     go_wp2_with (at_builtin;refine wpList_append_any _ rfl (.tmp 53) (.tmp 55) _ rfl w.heap.size 155 i0 _ 7 56 Tryz.underlying150 hi0 hz0 hz1 hz2 rfl (by omega) _ j _ rfl HX.out (wr.heap.size+1) (some ⟨wr.heap.size,0,none⟩) 1 1 (Lk.cells ⟨Pg.zero,4⟩) rfl (reads_own (n:=1) (Blk.new _ _ _) rfl) (lk_one _) (by unfold maxLen;omega) (by omega) (by have:=HB.out.size;simp;omega) ?_;intro v5 w5 hown5 hg5 hat)
     clear hat
     go_ret
     rw[lkc_snoc] at hown5
     obtain⟨A5,c5,rfl,_,_,_⟩:=own_form hown5
     exact⟨A5,_,c5,rfl,by rw[HE.out];exact Reads.of_own hown5,HBX.out.grown hg5 HBX.out.size (fun g hg=>(HX.out.lt g hg).1)⟩
  by_cases hz:qk=kd
  rotate_left
  ·have hwhy:=hz
   have z1:(x != 0)=false:=by simp[hx]
   have z2:(x==0)=true:=by simp[hx]
   have z3:decide ((hd:Int)<2)=false:=by simp;omega
   have z4:decide (hd<2)=false:=decide_eq_false hy
   have z5:(qk != kd)=true:=by simp[hz]
   have z6:(qk==kd)=false:=by simp[hz]
   go_wp2_with fail
   obtain⟨wo,hwo⟩ : ∃ wo,wo=wr:=⟨_,rfl⟩
   subst hwo
   go_loopw [12,13] (fun b i wr=>∃ j:Nat,j≤k∧i=.int .i64 j∧b=.bool (true || wasIn (L.take j) hd)∧wr=w3) (fun _ i _=>k-(intOf i).toNat)
   case atStart=>exact⟨0,Nat.zero_le _,rfl,rfl,rfl⟩
   case round =>
    obtain⟨j,hj,rfl,rfl,rfl⟩:=hrel
    by_cases hlt:j<k
    ·obtain⟨ad,y,rfl,hab,hy7,hy8⟩:=link_at RO.out hlt
     obtain⟨p,hp,rfl⟩:=map_lk_at hy7
     obtain⟨⟨_,_,d2,_,_,_⟩,_⟩:=hy8
     have hj0:(0:Int)≤j:=by omega
     have hj1:(j:Int)<k:=by omega
     have HT:=Hd (wasIn_take (h:=hd) hp)
     obtain⟨pp,hpp⟩ : ∃ pp,pp=p.pg:=⟨_,rfl⟩
     replace d2:wr.cell? ⟨(ad.add (j*7)).block,(ad.add (j*7)).off+2,none⟩=some (.int .u32 pp):=by rw[hpp];exact d2
     rw[← hpp] at HT
     clear hab hy7 hpp hp
     simp only[Bool.true_or]
     go_wp2_with fail
     go_roundw
     case rel =>
      first
       | exact⟨j+1,by omega,by go_num,by simp,by trivial⟩
       | ((repeat apply Exists.intro);exact⟨⟨j+1,by omega,by go_num,by simp,by trivial⟩,rfl⟩)
     case measure=>simp[intOf];omega
    ·obtain rfl:j=k:=by omega
     have ht:L.take j=L:=List.take_of_length_le (by rw[HLl.out];exact Nat.le_refl _)
     rw[ht]
     clear ht hlt hj RO
     have HGn:=Hd (show goes size s kd L hd=none by rw[HGo.out];simp[hwhy])
     simp only[Bool.true_or]
     obtain⟨hc1,hc2⟩:=chain_end HK9.out HAl.out HGn.out
     have hhd : ¬ hd=0:=by intro h;rw[h] at hn2;simp at hn2
     have HE:=Hd (show followL size s kd head=(L.map fun p=>(⟨p,0⟩:Lk))++[⟨Pg.zero,4⟩] by rw[followL,hc1,hc2,decide_eq_false hhd];rfl)
     clear hc1 hc2 hhd
     have HX:=Hd (HO.out.alloc (.cells #[.int .i64 0,.int .i64 0,.int .u32 0,.int .u32 0,.int .u64 0,.string .empty,.int .i64 4] 155))
     have HBX:=Hd (HB.out.alloc HB.out.size (.cells #[.int .i64 0,.int .i64 0,.int .u32 0,.int .u32 0,.int .u64 0,.string .empty,.int .i64 4] 155))
     go_wp2_with (at_builtin;refine wpList_append_any _ rfl (.tmp 53) (.tmp 55) _ rfl w.heap.size 155 i0 _ 7 56 Tryz.underlying150 hi0 hz0 hz1 hz2 rfl (by omega) _ j _ rfl HX.out (wr.heap.size+1) (some ⟨wr.heap.size,0,none⟩) 1 1 (Lk.cells ⟨Pg.zero,4⟩) rfl (reads_own (n:=1) (Blk.new _ _ _) rfl) (lk_one _) (by unfold maxLen;omega) (by omega) (by have:=HB.out.size;simp;omega) ?_;intro v5 w5 hown5 hg5 hat)
     clear hat
     go_ret
     rw[lkc_snoc] at hown5
     obtain⟨A5,c5,rfl,_,_,_⟩:=own_form hown5
     exact⟨A5,_,c5,rfl,by rw[HE.out];exact Reads.of_own hown5,HBX.out.grown hg5 HBX.out.size (fun g hg=>(HX.out.lt g hg).1)⟩
  have hwhy:x=0∧¬ hd<2∧qk=kd:=⟨hx,hy,hz⟩
  have z1:(x != 0)=false:=by simp[hx]
  have z2:(x==0)=true:=by simp[hx]
  have z3:decide ((hd:Int)<2)=false:=by simp;omega
  have z4:decide (hd<2)=false:=decide_eq_false hy
  have z5:(qk != kd)=false:=by simp[hz]
  have z6:(qk==kd)=true:=by simp[hz]
  have HWhy:=Hd hwhy
  clear hx hy hz hwhy
  go_wp2_with fail
  obtain⟨wo,hwo⟩ : ∃ wo,wo=wr:=⟨_,rfl⟩
  subst hwo
  go_loopw [12,13] (fun b i wr=>∃ j:Nat,j≤k∧i=.int .i64 j∧b=.bool (false || wasIn (L.take j) hd)∧wr=w3) (fun _ i _=>k-(intOf i).toNat)
  case atStart=>exact⟨0,Nat.zero_le _,rfl,rfl,rfl⟩
  case round =>
   obtain⟨j,hj,rfl,rfl,rfl⟩:=hrel
   by_cases hlt:j<k
   ·obtain⟨ad,y,rfl,hab,hy7,hy8⟩:=link_at RO.out hlt
    obtain⟨p,hp,rfl⟩:=map_lk_at hy7
    obtain⟨⟨_,_,d2,_,_,_⟩,_⟩:=hy8
    have hj0:(0:Int)≤j:=by omega
    have hj1:(j:Int)<k:=by omega
    have HT:=Hd (wasIn_take (h:=hd) hp)
    obtain⟨pp,hpp⟩ : ∃ pp,pp=p.pg:=⟨_,rfl⟩
    replace d2:wr.cell? ⟨(ad.add (j*7)).block,(ad.add (j*7)).off+2,none⟩=some (.int .u32 pp):=by rw[hpp];exact d2
    rw[← hpp] at HT
    clear hab hy7 hpp hp
    simp only[Bool.false_or]
    rcases hwi:wasIn (L.take j) hd with _ | _
    ·rw[hwi,Bool.false_or] at HT
     have he1:((pp:Int)==(hd:Int))=decide (pp=hd):=by by_cases h:pp=hd<;>simp[h];omega
     have he2:(pp==hd)=decide (pp=hd):=by by_cases h:pp=hd<;>simp[h]
     generalize decide (pp=hd)=bq at *
     clear hwi
     go_wp2_with fail
     go_roundw
     case rel =>
      first
       | exact⟨j+1,by omega,by go_num,by rw[HT.out]<;>rfl,by trivial⟩
       | ((repeat apply Exists.intro);exact⟨⟨j+1,by omega,by go_num,by rw[HT.out]<;>rfl,by trivial⟩,rfl⟩)
     case measure=>simp[intOf];omega
    ·rw[hwi,Bool.true_or] at HT
     clear hwi
     go_wp2_with fail
     go_roundw
     case rel =>
      first
       | exact⟨j+1,by omega,by go_num,by rw[HT.out]<;>rfl,by trivial⟩
       | ((repeat apply Exists.intro);exact⟨⟨j+1,by omega,by go_num,by rw[HT.out]<;>rfl,by trivial⟩,rfl⟩)
     case measure=>simp[intOf];omega
   ·obtain rfl:j=k:=by omega
    have ht:L.take j=L:=List.take_of_length_le (by rw[HLl.out];exact Nat.le_refl _)
    rw[ht]
    clear ht hlt hj RO
    simp only[Bool.false_or]
    rcases hwi:wasIn L hd with _ | _
    rotate_left
    ·have HGn:=Hd (show goes size s kd L hd=none by rw[HGo.out,hwi];simp)
     clear hwi
     obtain⟨hc1,hc2⟩:=chain_end HK9.out HAl.out HGn.out
     have hhd : ¬ hd=0:=by intro h;rw[h] at hn2;simp at hn2
     have HE:=Hd (show followL size s kd head=(L.map fun p=>(⟨p,0⟩:Lk))++[⟨Pg.zero,4⟩] by rw[followL,hc1,hc2,decide_eq_false hhd];rfl)
     clear hc1 hc2 hhd
     have HX:=Hd (HO.out.alloc (.cells #[.int .i64 0,.int .i64 0,.int .u32 0,.int .u32 0,.int .u64 0,.string .empty,.int .i64 4] 155))
     have HBX:=Hd (HB.out.alloc HB.out.size (.cells #[.int .i64 0,.int .i64 0,.int .u32 0,.int .u32 0,.int .u64 0,.string .empty,.int .i64 4] 155))
     go_wp2_with (at_builtin;refine wpList_append_any _ rfl (.tmp 53) (.tmp 55) _ rfl w.heap.size 155 i0 _ 7 56 Tryz.underlying150 hi0 hz0 hz1 hz2 rfl (by omega) _ j _ rfl HX.out (wr.heap.size+1) (some ⟨wr.heap.size,0,none⟩) 1 1 (Lk.cells ⟨Pg.zero,4⟩) rfl (reads_own (n:=1) (Blk.new _ _ _) rfl) (lk_one _) (by unfold maxLen;omega) (by omega) (by have:=HB.out.size;simp;omega) ?_;intro v5 w5 hown5 hg5 hat)
     clear hat
     go_ret
     rw[lkc_snoc] at hown5
     obtain⟨A5,c5,rfl,_,_,_⟩:=own_form hown5
     exact⟨A5,_,c5,rfl,by rw[HE.out];exact Reads.of_own hown5,HBX.out.grown hg5 HBX.out.size (fun g hg=>(HX.out.lt g hg).1)⟩
    have HGs:=Hd (show goes size s kd L hd=some ⟨qk,qc,qp,ql,qt,qb⟩ by rw[HGo.out,hwi];simp[HWhy.out])
    have HN:=Hd (along_next HAl.out HGs.out)
    have HL2:=Hd (along_len HAl.out HLl.out HGs.out)
    have hql:=HQl.out HGs.out
    have HLn:=Hd (show (L++[(⟨qk,qc,qp,ql,qt,qb⟩:Pg)]).length=j+1 by rw[List.length_append,HLl.out];rfl)
    clear hwi
    have HX:=Hd (HO.out.alloc (.cells #[.int .i64 qk,.int .i64 qc,.int .u32 qp,.int .u32 ql,.int .u64 qt,.string qb,.int .i64 0] 155))
    have HBX:=Hd (HB.out.alloc HB.out.size (.cells #[.int .i64 qk,.int .i64 qc,.int .u32 qp,.int .u32 ql,.int .u64 qt,.string qb,.int .i64 0] 155))
    have QX:=Hd (Qp.out.alloc (.cells #[.int .i64 qk,.int .i64 qc,.int .u32 qp,.int .u32 ql,.int .u64 qt,.string qb,.int .i64 0] 155))
    have c0:=Qp.out.cell 0
    have c1:=Qp.out.cell 1
    have c2:=Qp.out.cell 2
    have c3:=Qp.out.cell 3
    have c4:=Qp.out.cell 4
    have c5:=Qp.out.cell 5
    simp at c0 c1 c2 c3 c4 c5
    go_upto_region 12 with (at_builtin;go_loud (refine wpList_append_any _ rfl (.tmp 57) (.tmp 60) _ rfl w.heap.size 155 i0 _ 7 56 Tryz.underlying150 hi0 hz0 hz1 hz2 rfl (by omega) _ j _ rfl HX.out (wr.heap.size+1) (some ⟨wr.heap.size,0,none⟩) 1 1 (Lk.cells ⟨⟨qk,qc,qp,ql,qt,qb⟩,0⟩) rfl (reads_own (n:=1) (Blk.new _ _ _) rfl) (lk_one _) (by unfold maxLen;omega) (by omega) (by have:=HB.out.size;simp;omega) ?_);intro v5 w5 hown5 hg5 hat)
    clear hat c0 c1 c2 c3 c4 c5
    rw[lkc_snoc,show (L.map fun p=>(⟨p,0⟩:Lk))++[⟨⟨qk,qc,qp,ql,qt,qb⟩,0⟩]=(L++[(⟨qk,qc,qp,ql,qt,qb⟩:Pg)]).map fun p=>(⟨p,0⟩:Lk) by simp] at hown5
    obtain⟨A5,c5,rfl,_,_,_⟩:=own_form hown5
    have HO5:=Hd hown5
    have HB5:=Hd (HBX.out.grown hg5 HBX.out.size (fun g hg=>(HX.out.lt g hg).1))
    have Q5:=Hd (Blk.grown QX.out hg5 (own_type HX.out QX.out (by decide)))
    clear hown5 hg5 HX HBX QX
    have c3:=Q5.out.cell 3
    simp at c3
    go_wp2_with fail
    go_roundw
    case rel =>
     first
      | exact⟨j+1,ql,_,A5,c5,HN,HLn,HL2,hql,rfl,rfl,HO5,HB5⟩
      | ((repeat apply Exists.intro);exact⟨⟨j+1,ql,_,A5,c5,HN,HLn,HL2,hql,rfl,rfl,HO5,HB5⟩,rfl⟩)
    case measure =>
     have:=HL2.out
     simp only[sliceLen]
     omega
end Go.Proofs.YtanbbnogdhnikaaGreat

