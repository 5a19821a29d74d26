/-
  chain.Follow: the iterator that it hands back: its contract, over whatever a range over it does.
-/
import Derived.RangeFuncCalls
import Derived.RangeFuncLeaves
import Derived.RangeFuncBox
import Derived.Shelf.Abstract
import Derived.Shelf.RegionOpen
import Derived.OwnWalkIn
import Derived.LoopNIn
import Derived.LoopIn
import Derived.Maps.OwnIn
import Derived.Sort.LoopGhostIn
import Derived.Sort.CutIn
import Derived.Test.YtanbbnogdhnikaaGreatJ24
set_option linter.unusedVariables false
set_option linter.unusedSimpArgs false
set_option maxRecDepth 300000
set_option maxHeartbeats 25600000
namespace Go.Proofs.YtanbbnogdhnikaaGreat
open Go.RowKit Go.Shelf

attribute [local go_sem] Oper.semAt_some

abbrev FLk (size:Int) (s:ByteArray) (kd:Int) (head:Nat) := { x:Lk // x∈followL size s kd head }
def keepO (o:Obj):Bool:=o.isWalk || (match o with | .cells _ t _=>t==3 || t==9 || t==41 | _=>false)
def KpF (W W':World):Prop:=∀ (b:Nat) (o:Obj),W.heap[b]? = some o→keepO o=true→W'.heap[b]? = some o
theorem kpF_t {A B C:World} (h:KpF A B) (k:KpF B C):KpF A C:=fun b o h1 h2=>k b o (h b o h1 h2) h2
theorem kpF_grown {W W':World} {row:Option Nat} (hg:W.grownBy W' row) (hr : ∀ r,row=some r→∃ o,W.heap[r]? = some o∧keepO o=false):KpF W W':=fun b o h1 h2=>by
 refine (hg.block b (Array.getElem?_eq_some_iff.1 h1).1 fun e=>?_).trans h1
 obtain⟨o',h3,h4⟩:=hr b e.symm
 rw[h1] at h3
 injection h3 with h3
 rw[h3,h4] at h2
 cases h2
theorem kpF_alloc (W:World) (o:Obj):KpF W (W.alloc o):=kpF_grown (World.grownBy_alloc W o none) (by simp)
theorem kpF_below {W W':World} (h:Below W.heap.size W W'):KpF W W':=kpF_grown (grown_of_below h) (by simp)
theorem kpF_b {m:Nat} (W:World) (l:Nat) (o o':Obj) (_:m≤l) (h:W.heap[l]? = some o) (hc:o.isCells=false) (hw:o.isWalk=false):KpF W (W.putObj l o') :=
 kpF_grown (grownBy_putObj' W l o') (fun r e=>by cases e;exact⟨o,h,by unfold keepO;rw[hw];cases o<;>first | rfl | cases hc⟩)
theorem KpF.box {W W':World} {b:Nat} {t:TypeId} {v:Value} (h:KpF W W') (hb:Boxed W b t v) (ht:(t==3 || t==9 || t==41)=true):Boxed W' b t v:=h b _ hb (by unfold keepO;simp only[ht,Bool.or_true])
theorem KpF.blk {W W':World} {b:Nat} {cs:Array Value} {fz} (h:KpF W W') (hb:W.heap[b]? = some (.cells cs 41 fz)):W'.heap[b]? = some (.cells cs 41 fz):=h b _ hb (by unfold keepO;simp)
def keysF (L:List Pg):List Lit:=L.map fun p=>.int .u32 (p.pg:Int)
theorem keysF_ok (L:List Pg) : ∀ x∈keysF L,WideAt.IsKeyLit x:=fun x hx=>by
 obtain⟨p,_,rfl⟩:=List.mem_map.1 hx
 simp[WideAt.IsKeyLit]
theorem has_keysF (L:List Pg) (h:Nat):Maps.has (Maps.setOf (H:=Unit) (.agg []) (keysF L)) (.int .u32 (h:Int))=wasIn L h:=by
 rw[Maps.has_setOf _ _ _ (keysF_ok L)]
 unfold keysF wasIn
 rw[List.any_map]
 congr 1
 funext p
 simp only[Function.comp,Lit.sameKey]
 congr 1
 simp only[true_and,eq_iff_iff]
 exact Int.ofNat_inj
theorem along_pre {size:Int} {s:ByteArray} {kd:Int} {head k:Nat} : ∀ d,(along size s kd head k).1 <+: (along size s kd head (k+d)).1
 | 0=>List.prefix_rfl
 | d+1=>by
  refine (along_pre (k:=k) d).trans ?_
  rw[← Nat.add_assoc]
  simp only[along]
  split
  ·exact List.prefix_append _ _
  ·exact List.prefix_rfl
theorem along_in {size:Int} {s:ByteArray} {kd:Int} {head k h:Nat} {L:List Pg} (hk:k≤s.size) (ha:along size s kd head k=(L,h)):L.map (fun p=>(⟨p,0⟩:Lk)) <+: followL size s kd head:=by
 have h1:=along_pre (size:=size) (s:=s) (kd:=kd) (head:=head) (k:=k) (s.size-k)
 rw[ha,show k+(s.size-k)=s.size by omega] at h1
 unfold followL
 exact (h1.map _).trans (List.prefix_append _ _)
theorem mem_last {α:Type} {L M:List α} {x:α} (h:L++[x] <+: M):x∈M:=h.subset (by simp)
theorem map_snoc_val {size:Int} {s:ByteArray} {kd:Int} {head:Nat} {L:List Pg} {pre:List (FLk size s kd head)} (x:FLk size s kd head) (h:pre.map (·.1)=L.map (fun p=>(⟨p,0⟩:Lk))) (p:Pg) (hx:x.1=⟨p,0⟩) :
  (pre++[x]).map (·.1)=(L++[p]).map (fun p=>(⟨p,0⟩:Lk)):=by
 rw[List.map_append,List.map_append,h,List.map_cons,List.map_nil,List.map_cons,List.map_nil,hx]
theorem fiter_in (n:Nat) (hn:1≤n) (l b1 b2 b3 b4:Nat) (size:Int) (s:ByteArray) (head:Nat) (kd:Int) (hs:s.size≤1000000) (hh:head<4294967296) (J Jx:List (FLk size s kd head)→World→Prop) (W0:World)
  (hJg : ∀ pre W W' row,J pre W→W.grownBy W' row→(∀ r,row=some r→W0.heap.size≤r∧∃ o:Obj,W.heap[r]? = some o∧o.isWalk=true)→J pre W')
  (hY : ∀ pre (x:FLk size s kd head) W,J pre W→pre.length<(followL size s kd head).length→YieldAt Fence.wide (n-1) Tryz.prog l #[.agg #[.int .i64 x.1.p.kd,.int .i64 x.1.p.ct,.int .u32 x.1.p.pg,.int .u32 x.1.p.lk,.int .u64 x.1.p.tx,.string x.1.p.bd],.int .i64 x.1.e] W fun e W' =>
   (e=.returned (.bool true)∧J (pre++[x]) W'∧KpF W W')∨(e=.returned (.bool false)∧Jx (pre++[x]) W'))
  (c1:Boxed W0 b1 23 (.int .u32 head)) (c2:Boxed W0 b2 3 (.int .i64 size)) (c3:Boxed W0 b3 9 (.string s)) (c4:Boxed W0 b4 3 (.int .i64 kd)) (h0:J [] W0) :
  CallsIn Fence.wide n Tryz.prog 126 #[.func (.yield l) #[] #[],.pointer (some ⟨b1,0,none⟩),.pointer (some ⟨b2,0,none⟩),.pointer (some ⟨b3,0,none⟩),.pointer (some ⟨b4,0,none⟩)] W0 fun e W'=>(∃ v,e=.returned v) ∧
   ((∃ ys,ys.map (·.1)=followL size s kd head∧J ys W')∨(∃ pre,pre.map (·.1) <+: followL size s kd head∧Jx pre W')):=by
 have hmm:=@run_makeMap Tryz.prog
 refine callsIn_of_wp Tryz.func126 rfl trivial ?_ rfl
 simp only[Tryz.ntmps126,List.size_toArray,List.length_cons,List.length_nil,Nat.reduceAdd,Nat.reduceSub,Array.replicate_succ,Array.replicate_zero,List.push_toArray,List.append_toArray,List.nil_append,List.cons_append]
 have d1:=(c1.alloc (.map #[] 0)).cell
 have HM0:=Hd (World.ownsMap_made W0 Tryz.prog 23 (unitElem (H:=Unit)))
 have HJ0:=Hd (hJg [] W0 (W0.alloc (.map #[] 0)) none h0 (World.grownBy_alloc W0 _ none) (by simp))
 have B2:=Hd c2
 have B3:=Hd c3
 have B4:=Hd c4
 have HY:=Hd hY
 have HJg:=Hd hJg
 have HSz:=Hd hs
 clear hY hJg c1 c2 c3 c4 h0 hs
 gi_wp2
 clear d1
 obtain⟨b,hb⟩ : ∃ b,b=W0.heap.size:=⟨_,rfl⟩
 rw[← hb] at HM0 HJg ⊢
 obtain⟨W1,hW1⟩ : ∃ W1,W1=W0.alloc (.map #[] 0):=⟨_,rfl⟩
 have E2:=Hd (show Boxed W1 b2 3 (.int .i64 size) by rw[hW1];exact B2.out.alloc _)
 have E3:=Hd (show Boxed W1 b3 9 (.string s) by rw[hW1];exact B3.out.alloc _)
 have E4:=Hd (show Boxed W1 b4 3 (.int .i64 kd) by rw[hW1];exact B4.out.alloc _)
 have N2:=Hd (show b2<b by rw[hb];exact B2.out.lt)
 have N3:=Hd (show b3<b by rw[hb];exact B3.out.lt)
 have N4:=Hd (show b4<b by rw[hb];exact B4.out.lt)
 rw[← hW1] at HM0 HJ0 ⊢
 have HBq:=Hd hb
 clear hW1 B2 B3 B4 hmm hb
 gi_loopg [7] (s.size+1) (fun gk v7 wr=>∃ (k hd:Nat) (L:List Pg) (pre:List (FLk size s kd head)),gk+k=s.size+1∧v7=.int .u32 hd∧Hid (along size s kd head k=(L,hd))∧Hid (L.length=k)∧Hid (k≤s.size)∧hd<4294967296 ∧
   Hid (pre.map (·.1)=L.map (fun p=>(⟨p,0⟩:Lk)))∧Hid (J pre wr)∧Hid (wr.ownsMap Tryz.prog 23 (unitElem (H:=Unit)) b k (Maps.setOf (.agg []) (keysF L)))∧Hid (Boxed wr b2 3 (.int .i64 size))∧Hid (Boxed wr b3 9 (.string s))∧Hid (Boxed wr b4 3 (.int .i64 kd)))
 case atStart=>exact⟨0,head,[],[],rfl,rfl,Hd rfl,Hd rfl,Hd (Nat.zero_le _),hh,Hd rfl,HJ0,HM0,E2,E3,E4⟩
 case round =>
  clear HM0 HJ0 E2 E3 E4 hh
  obtain⟨k,hd,L,pre,hgk,rfl,HAl,HLl,HK9,hd9,HPre,HJ,HM,B2,B3,B4⟩:=hrel
  by_cases h0:hd=0
  ·subst h0
   obtain⟨hc1,hc2⟩:=chain_end HK9.out HAl.out goes_zero
   have HE:=Hd (show pre.map (·.1)=followL size s kd head by rw[HPre.out,followL,hc1,hc2];simp)
   clear hc1 hc2
   gi_wp2
   go_end0
   exact⟨⟨_,rfl⟩,.inl ⟨pre,HE.out,HJ.out⟩⟩
  have hn1:((hd:Int) != 0)=true:=by simp;omega
  have hn2:(hd != 0)=true:=by simp;omega
  have HRd:=Hd (fun (w:World)=>fread_all size s hd w (Nat.le_trans HSz.out (by decide)) hd9)
  obtain⟨x,hx⟩ : ∃ x,x=errAt size s hd:=⟨_,rfl⟩
  obtain⟨q,hq⟩ : ∃ q,q=pageOf size s hd:=⟨_,rfl⟩
  have hgo:goes size s kd L hd=(if (decide (hd<2) || wasIn L hd) || (decide (x≠0) || decide (q.kd≠kd)) then none else some q):=by
   rcases hr:readAt size s hd with _ | p
   ·rw[goes_bad hr,decide_eq_true (by rw[hx];exact (errAt_none hr).1:x≠0)]
    simp
   ·rw[goes_is hr,hx,hq,(errAt_some hr).1,(errAt_some hr).2]
    by_cases h1:hd<2<;>by_cases h2:p.kd=kd<;>cases h3:wasIn L hd<;>simp[h1,h2]
  have hql:goes size s kd L hd=some q→q.lk<4294967296:=fun h=>by
   have h2:=readAt_some (goes_some h).2.2.1
   have h3:=h2.2.2.2
   simp only[mayPg,Bool.and_eq_true,decide_eq_true_eq] at h3
   omega
  rw[← hx,← hq] at HRd
  have HGo:=Hd hgo
  have HQl:=Hd hql
  obtain⟨qk,qc,qp,ql,qt,qb⟩:=q
  simp only[Pg.agg] at HRd
  have HNz:=Hd h0
  clear hx hq hgo hql h0
  have hkey:keyOf Tryz.prog 23 (.int .u32 hd)=some (.int .u32 hd):=Maps.keyOf_int_mk Tryz.underlying23 (by simp[Lit.wf,IntKind.min,IntKind.max,IntKind.signed,IntKind.bits];omega)
  have HT:=Hd (has_keysF L hd)
  obtain⟨tw,htw⟩ : ∃ tw,tw=wasIn L hd:=⟨_,rfl⟩
  rw[← htw] at HT HGo
  have HTw:=Hd htw
  clear htw
  have HMl:=Hd (HM.out.alloc (.cells #[] 185))
  have J1:=Hd (HJg.out pre wr _ none HJ.out (World.grownBy_alloc wr (.cells #[] 185) none) (by simp))
  have D2:=Hd (B2.out.alloc (.cells #[] 185))
  have D3:=Hd (B3.out.alloc (.cells #[] 185))
  have D4:=Hd (B4.out.alloc (.cells #[] 185))
  have c2:=D2.out.cell
  have c3:=D3.out.cell
  have c4:=D4.out.cell
  have hown:=HM.out
  gi_upto_region 4 with (first
   | (gi_at_lookup;refine wpListIn_lookup_own_unit _ rfl _ _ 91 rfl 23 185 (Maps.int_keyed Tryz.underlying23) Tryz.underlying91 (Tryz.zeroValue185 _) b k _ rfl hown _ _ rfl hkey ?_;rw[HT.out]))
  clear hown c2 c3 c4
  obtain⟨wa,hwa⟩ : ∃ x,x=wr.alloc (.cells #[] 185):=⟨_,rfl⟩
  rw[← hwa] at HMl J1 D2 D3 D4 ⊢
  clear hwa HJ HM B2 B3 B4 HT hkey
  have c2:=D2.out.cell
  have c3:=D3.out.cell
  gi_upto_region 5 with (refine⟨trivial,?_⟩;gi_at_call 98;refine (callsIn_wide.2 (HRd.out _)).mono ?_;rintro e w2 ⟨rfl,hb2⟩)
  clear c2 c3 HRd
  have HM2:=Hd (HMl.out.kept (grown_of_below hb2) (by simp))
  have J2:=Hd (HJg.out pre wa w2 none J1.out (grown_of_below hb2) (by simp))
  have F2:=Hd (D2.out.kept (grown_of_below hb2) (by simp))
  have F3:=Hd (D3.out.kept (grown_of_below hb2) (by simp))
  have F4:=Hd (D4.out.kept (grown_of_below hb2) (by simp))
  clear hb2 HMl J1 D2 D3 D4
  obtain⟨W3,hW3⟩ : ∃ x,x=w2.alloc (.cells #[.int .i64 qk,.int .i64 qc,.int .u32 qp,.int .u32 ql,.int .u64 qt,.string qb] 41):=⟨_,rfl⟩
  have QP:=Hd (show Blk W3 w2.heap.size 41 #[.int .i64 qk,.int .i64 qc,.int .u32 qp,.int .u32 ql,.int .u64 qt,.string qb] by rw[hW3];exact Blk.new _ _ _)
  have M3:=Hd (show W3.ownsMap Tryz.prog 23 (unitElem (H:=Unit)) b k (Maps.setOf (.agg []) (keysF L)) by rw[hW3];exact HM2.out.alloc _)
  have J3:=Hd (show J pre W3 by rw[hW3];exact HJg.out pre w2 _ none J2.out (World.grownBy_alloc w2 _ none) (by simp))
  have G2:=Hd (show Boxed W3 b2 3 (.int .i64 size) by rw[hW3];exact F2.out.alloc _)
  have G3:=Hd (show Boxed W3 b3 9 (.string s) by rw[hW3];exact F3.out.alloc _)
  have G4:=Hd (show Boxed W3 b4 3 (.int .i64 kd) by rw[hW3];exact F4.out.alloc _)
  have HQb:=Hd (show b≠w2.heap.size from Nat.ne_of_lt HM2.out.lt)
  rw[← hW3]
  clear hW3 HM2 J2 F2 F3 F4
  obtain⟨gQ,hgQ⟩ : ∃ g,g=w2.heap.size:=⟨_,rfl⟩
  rw[← hgQ] at QP HQb ⊢
  clear hgQ
  have c0:=QP.out.cell 0
  have c4:=G4.out.cell
  simp at c0
  have z0:(decide ((hd:Int)<2))=decide (hd<2):=by simp;omega
  by_cases k1:hd<2
  ·have HGn:=Hd (show goes size s kd L hd=none by rw[HGo.out,decide_eq_true k1];simp)
   have k1z:(decide ((hd:Int)<2))=true:=by simp;omega
   obtain⟨hc1,hc2⟩:=chain_end HK9.out HAl.out HGn.out
   have HE:=Hd (show followL size s kd head=(L.map fun p=>(⟨p,0⟩:Lk))++[⟨Pg.zero,4⟩] by rw[followL,hc1,hc2,decide_eq_false HNz.out];rfl)
   clear hc1 hc2
   have hmem:(⟨Pg.zero,4⟩:Lk)∈followL size s kd head:=by rw[HE.out];simp
   have HLen:=Hd (show pre.length<(followL size s kd head).length by have h:=congrArg List.length HPre.out;simp only[List.length_map] at h;rw[HE.out,List.length_append,List.length_map,h];simp)
   obtain⟨fn,tmps,assign,body,hy,hRn⟩:=HY.out pre ⟨⟨Pg.zero,4⟩,hmem⟩ W3 J3.out HLen.out
   simp only[Pg.zero,Int.natCast_zero,show ByteArray.empty=(⟨#[]⟩:ByteArray) from rfl] at hy
   gi_wp2
   refine hRn.mono ?_
   rintro e W4 (⟨rfl,hJ4,hk4⟩ | ⟨rfl,hJx4⟩)
   ·gi_wp2
    refine bodyPost_ret (results_none rfl _ _ _) rfl ?_
    exact⟨⟨_,rfl⟩,.inl ⟨_,(List.map_append ..).trans ((congrArg (· ++ [(⟨Pg.zero,4⟩:Lk)]) HPre.out).trans HE.out.symm),hJ4⟩⟩
   ·gi_wp2
    refine bodyPost_ret (results_none rfl _ _ _) rfl ?_
    exact⟨⟨_,rfl⟩,.inr ⟨_,by rw[(List.map_append ..).trans ((congrArg (· ++ [(⟨Pg.zero,4⟩:Lk)]) HPre.out).trans HE.out.symm)];exact List.prefix_rfl,hJx4⟩⟩
  have k1z:(decide ((hd:Int)<2))=false:=by simp;omega
  rcases tw with _ | _
  rotate_left
  ·have HGn:=Hd (show goes size s kd L hd=none by rw[HGo.out];simp)
   obtain⟨hc1,hc2⟩:=chain_end HK9.out HAl.out HGn.out
   have HE:=Hd (show followL size s kd head=(L.map fun p=>(⟨p,0⟩:Lk))++[⟨Pg.zero,4⟩] by rw[followL,hc1,hc2,decide_eq_false HNz.out];rfl)
   clear hc1 hc2
   have hmem:(⟨Pg.zero,4⟩:Lk)∈followL size s kd head:=by rw[HE.out];simp
   have HLen:=Hd (show pre.length<(followL size s kd head).length by have h:=congrArg List.length HPre.out;simp only[List.length_map] at h;rw[HE.out,List.length_append,List.length_map,h];simp)
   obtain⟨fn,tmps,assign,body,hy,hRn⟩:=HY.out pre ⟨⟨Pg.zero,4⟩,hmem⟩ W3 J3.out HLen.out
   simp only[Pg.zero,Int.natCast_zero,show ByteArray.empty=(⟨#[]⟩:ByteArray) from rfl] at hy
   gi_wp2
   refine hRn.mono ?_
   rintro e W4 (⟨rfl,hJ4,hk4⟩ | ⟨rfl,hJx4⟩)
   ·gi_wp2
    refine bodyPost_ret (results_none rfl _ _ _) rfl ?_
    exact⟨⟨_,rfl⟩,.inl ⟨_,(List.map_append ..).trans ((congrArg (· ++ [(⟨Pg.zero,4⟩:Lk)]) HPre.out).trans HE.out.symm),hJ4⟩⟩
   ·gi_wp2
    refine bodyPost_ret (results_none rfl _ _ _) rfl ?_
    exact⟨⟨_,rfl⟩,.inr ⟨_,by rw[(List.map_append ..).trans ((congrArg (· ++ [(⟨Pg.zero,4⟩:Lk)]) HPre.out).trans HE.out.symm)];exact List.prefix_rfl,hJx4⟩⟩
  by_cases k2:x=0
  rotate_left
  ·have HGn:=Hd (show goes size s kd L hd=none by rw[HGo.out,decide_eq_true k2];simp)
   have k2z:(x != 0)=true:=by simp[k2]
   obtain⟨hc1,hc2⟩:=chain_end HK9.out HAl.out HGn.out
   have HE:=Hd (show followL size s kd head=(L.map fun p=>(⟨p,0⟩:Lk))++[⟨Pg.zero,4⟩] by rw[followL,hc1,hc2,decide_eq_false HNz.out];rfl)
   clear hc1 hc2
   have hmem:(⟨Pg.zero,4⟩:Lk)∈followL size s kd head:=by rw[HE.out];simp
   have HLen:=Hd (show pre.length<(followL size s kd head).length by have h:=congrArg List.length HPre.out;simp only[List.length_map] at h;rw[HE.out,List.length_append,List.length_map,h];simp)
   obtain⟨fn,tmps,assign,body,hy,hRn⟩:=HY.out pre ⟨⟨Pg.zero,4⟩,hmem⟩ W3 J3.out HLen.out
   simp only[Pg.zero,Int.natCast_zero,show ByteArray.empty=(⟨#[]⟩:ByteArray) from rfl] at hy
   gi_wp2
   refine hRn.mono ?_
   rintro e W4 (⟨rfl,hJ4,hk4⟩ | ⟨rfl,hJx4⟩)
   ·gi_wp2
    refine bodyPost_ret (results_none rfl _ _ _) rfl ?_
    exact⟨⟨_,rfl⟩,.inl ⟨_,(List.map_append ..).trans ((congrArg (· ++ [(⟨Pg.zero,4⟩:Lk)]) HPre.out).trans HE.out.symm),hJ4⟩⟩
   ·gi_wp2
    refine bodyPost_ret (results_none rfl _ _ _) rfl ?_
    exact⟨⟨_,rfl⟩,.inr ⟨_,by rw[(List.map_append ..).trans ((congrArg (· ++ [(⟨Pg.zero,4⟩:Lk)]) HPre.out).trans HE.out.symm)];exact List.prefix_rfl,hJx4⟩⟩
  subst k2
  by_cases k3:qk=kd
  rotate_left
  ·have HGn:=Hd (show goes size s kd L hd=none by rw[HGo.out];simp[k3])
   have k3z:(qk != kd)=true:=by simp[k3]
   obtain⟨hc1,hc2⟩:=chain_end HK9.out HAl.out HGn.out
   have HE:=Hd (show followL size s kd head=(L.map fun p=>(⟨p,0⟩:Lk))++[⟨Pg.zero,4⟩] by rw[followL,hc1,hc2,decide_eq_false HNz.out];rfl)
   clear hc1 hc2
   have hmem:(⟨Pg.zero,4⟩:Lk)∈followL size s kd head:=by rw[HE.out];simp
   have HLen:=Hd (show pre.length<(followL size s kd head).length by have h:=congrArg List.length HPre.out;simp only[List.length_map] at h;rw[HE.out,List.length_append,List.length_map,h];simp)
   obtain⟨fn,tmps,assign,body,hy,hRn⟩:=HY.out pre ⟨⟨Pg.zero,4⟩,hmem⟩ W3 J3.out HLen.out
   simp only[Pg.zero,Int.natCast_zero,show ByteArray.empty=(⟨#[]⟩:ByteArray) from rfl] at hy
   gi_wp2
   refine hRn.mono ?_
   rintro e W4 (⟨rfl,hJ4,hk4⟩ | ⟨rfl,hJx4⟩)
   ·gi_wp2
    refine bodyPost_ret (results_none rfl _ _ _) rfl ?_
    exact⟨⟨_,rfl⟩,.inl ⟨_,(List.map_append ..).trans ((congrArg (· ++ [(⟨Pg.zero,4⟩:Lk)]) HPre.out).trans HE.out.symm),hJ4⟩⟩
   ·gi_wp2
    refine bodyPost_ret (results_none rfl _ _ _) rfl ?_
    exact⟨⟨_,rfl⟩,.inr ⟨_,by rw[(List.map_append ..).trans ((congrArg (· ++ [(⟨Pg.zero,4⟩:Lk)]) HPre.out).trans HE.out.symm)];exact List.prefix_rfl,hJx4⟩⟩
  have k3z:(qk != kd)=false:=by simp[k3]
  have HGs:=Hd (show goes size s kd L hd=some ⟨qk,qc,qp,ql,qt,qb⟩ by rw[HGo.out];simp[k1,k3])
  have HK3:=Hd k3
  clear k3 z0
  have hpg:qp=hd:=by
   have h:=(readAt_some (goes_some HGs.out).2.2.1).2.2.1
   exact h
  have hk9:k<maxLen:=Nat.lt_of_le_of_lt (Nat.le_trans HK9.out HSz.out) (by decide)
  have hkey:keyOf Tryz.prog 23 (.int .u32 hd)=some (.int .u32 hd):=Maps.keyOf_int_mk Tryz.underlying23 (by simp[Lit.wf,IntKind.min,IntKind.max,IntKind.signed,IntKind.bits];omega)
  obtain⟨es3,ck3,hh3,hr3⟩:=M3.out
  have HH3:=Hd hh3
  clear hh3 hr3
  have hown:=M3.out
  have HPg:=Hd hpg
  clear hpg
  gi_upto_region 8 with (gi_at_mapUpdate;refine wpListIn_mapUpdate_own _ rfl _ _ _ 91 rfl 23 185 (Maps.int_keyed Tryz.underlying23) Tryz.underlying91 (unitElem (H:=Unit)) b k _ rfl hown hk9 _ _ _ rfl rfl hkey _ [] unitElem_mk ?_;intro w5 hown5 hgrow5)
  clear c0 c4 hown hkey
  have Q5:=Hd (QP.out.grown hgrow5 (fun e=>HQb.out (by cases e;rfl)))
  have J5:=Hd (HJg.out pre W3 w5 (some b) J3.out hgrow5 (fun r e=>by cases e;exact⟨Nat.le_refl _,_,HH3.out,rfl⟩))
  have E2:=Hd (G2.out.kept hgrow5 (fun e=>Nat.ne_of_lt N2.out (by cases e;rfl)))
  have E3:=Hd (G3.out.kept hgrow5 (fun e=>Nat.ne_of_lt N3.out (by cases e;rfl)))
  have E4:=Hd (G4.out.kept hgrow5 (fun e=>Nat.ne_of_lt N4.out (by cases e;rfl)))
  have hks:Maps.setOf (H:=Unit) (.agg []) (keysF (L++[⟨qk,qc,qp,ql,qt,qb⟩]))=(Maps.setOf (.agg []) (keysF L)).put (.int .u32 hd) (.agg []):=by
   unfold keysF
   rw[List.map_append,List.map_cons,List.map_nil,Maps.setOf_snoc,HPg.out]
  have M5:=Hd (show w5.ownsMap Tryz.prog 23 (unitElem (H:=Unit)) b (k+1) (Maps.setOf (.agg []) (keysF (L++[⟨qk,qc,qp,ql,qt,qb⟩]))) by rw[hks];exact hown5)
  clear hks hown5 hgrow5 M3 J3 G2 G3 G4 QP HH3
  have HLn:=Hd (along_len HAl.out HLl.out HGs.out)
  have HAn:=Hd (along_next HAl.out HGs.out)
  have hinn:=along_in HLn.out HAn.out
  rw[List.map_append] at hinn
  have hmem:(⟨⟨qk,qc,qp,ql,qt,qb⟩,0⟩:Lk)∈followL size s kd head:=mem_last hinn
  have HLen:=Hd (show pre.length<(followL size s kd head).length by
   have h:=congrArg List.length HPre.out
   simp only[List.length_map] at h
   have h2:=hinn.length_le
   rw[List.length_append,List.length_map,← h] at h2
   simp at h2
   omega)
  have HPn:=Hd (map_snoc_val (⟨⟨⟨qk,qc,qp,ql,qt,qb⟩,0⟩,hmem⟩:FLk size s kd head) HPre.out ⟨qk,qc,qp,ql,qt,qb⟩ rfl)
  have HIn:=Hd hinn
  obtain⟨fn,tmps,assign,body,hy,hRn⟩:=HY.out pre ⟨⟨⟨qk,qc,qp,ql,qt,qb⟩,0⟩,hmem⟩ w5 J5.out HLen.out
  dsimp only at hy
  have HPx:=Hd (show (pre++[(⟨⟨⟨qk,qc,qp,ql,qt,qb⟩,0⟩,hmem⟩:FLk size s kd head)]).map (·.1) <+: followL size s kd head from HPn.out ▸ along_in HLn.out HAn.out)
  clear hinn
  have c0:=Q5.out.cell 0
  have c1:=Q5.out.cell 1
  have c2:=Q5.out.cell 2
  have c3:=Q5.out.cell 3
  have c4:=Q5.out.cell 4
  have c5:=Q5.out.cell 5
  simp at c0 c1 c2 c3 c4 c5
  gi_wp2
  clear c0 c1 c2 c3 c4 c5 hy
  refine hRn.mono ?_
  rintro e W6 (⟨rfl,hJ6,hk6⟩ | ⟨rfl,hJx6⟩)
  ·have J6:=Hd hJ6
   have B2:=Hd (hk6.box E2.out (by simp))
   have B3:=Hd (hk6.box E3.out (by simp))
   have B4:=Hd (hk6.box E4.out (by simp))
   have Q6:=Hd (show Blk W6 gQ 41 _ from hk6.blk Q5.out)
   have M6:=Hd (show W6.ownsMap Tryz.prog 23 (unitElem (H:=Unit)) b (k+1) (Maps.setOf (.agg []) (keysF (L++[⟨qk,qc,qp,ql,qt,qb⟩]))) by
    obtain⟨es,ck,hh,hr⟩:=M5.out
    exact⟨es,ck,hk6 _ _ hh rfl,hr⟩)
   clear hk6 hJ6 hRn M5 J5 E2 E3 E4
   have c3:=Q6.out.cell 3
   simp at c3
   have HL9:=Hd (show ql<4294967296 from HQl.out HGs.out)
   gi_wp2
   gi_roundg (gk-1)
   case measure=>have:=HLn.out;omega
   case rel=>exact⟨k+1,ql,L++[⟨qk,qc,qp,ql,qt,qb⟩],_,by have:=HLn.out;omega,rfl,HAn,Hd (by rw[List.length_append,HLl.out];rfl),HLn,HL9.out,HPn,J6,M6,B2,B3,B4⟩
  ·gi_wp2
   refine bodyPost_ret (results_none rfl _ _ _) rfl ?_
   exact⟨⟨_,rfl⟩,.inr ⟨_,HPx.out,hJx6⟩⟩
theorem fmake_any (size:Int) (s:ByteArray) (head:Nat) (kd:Int) (w:World) :
  Calls Tryz.prog 101 #[.int .i64 size,.string s,.int .u32 head,.int .i64 kd] w fun e w'=>e=.returned (.func (.func 126) #[] #[.pointer (some ⟨w.heap.size+1+1,0,none⟩),.pointer (some ⟨w.heap.size,0,none⟩),.pointer (some ⟨w.heap.size+1,0,none⟩),.pointer (some ⟨w.heap.size+1+1+1,0,none⟩)]) ∧
   w'=(((w.alloc (.cells #[.int .i64 size] 3)).alloc (.cells #[.string s] 9)).alloc (.cells #[.int .u32 head] 23)).alloc (.cells #[.int .i64 kd] 3):=by
 have hmf : ∀ (fn:Fn) (first cap:Array Value) (w:World),(Instr.makeFunc fn first cap).run Tryz.prog w=.ok (.func fn first cap) w:=fun _ _ _ _=>rfl
 go_enter Tryz.func101,Tryz.ntmps101
 go_wp2_with fail
 go_ret
 exact⟨by simp[Nat.add_assoc],rfl⟩
theorem ffollow_stops (n:Nat) (hn:1≤n) (b1 b2 b3 b4:Nat) (size:Int) (s:ByteArray) (head:Nat) (kd:Int) (hs:s.size≤1000000) (hh:head<4294967296) (w:World)
  (c1:Boxed w b1 23 (.int .u32 head)) (c2:Boxed w b2 3 (.int .i64 size)) (c3:Boxed w b3 9 (.string s)) (c4:Boxed w b4 3 (.int .i64 kd)) :
  SeqStopsK Fence.wide n Tryz.prog 126 #[.pointer (some ⟨b1,0,none⟩),.pointer (some ⟨b2,0,none⟩),.pointer (some ⟨b3,0,none⟩),.pointer (some ⟨b4,0,none⟩)]
   (fun x:FLk size s kd head=>#[.agg #[.int .i64 x.1.p.kd,.int .i64 x.1.p.ct,.int .u32 x.1.p.pg,.int .u32 x.1.p.lk,.int .u64 x.1.p.tx,.string x.1.p.bd],.int .i64 x.1.e]) KpF
   (fun ys=>ys.map (·.1)=followL size s kd head) (fun pre=>pre.map (·.1) <+: followL size s kd head) (followL size s kd head).length w:=fun l J Jx W hW hJ _ hY h0 =>
 fiter_in n hn l b1 b2 b3 b4 size s head kd hs hh J Jx W (fun pre W1 W2 row hj hg hr=>hJ pre W1 W2 row hj hg hr) hY ((hW.block b1 c1.lt).trans c1) ((hW.block b2 c2.lt).trans c2) ((hW.block b3 c3.lt).trans c3) ((hW.block b4 c4.lt).trans c4) h0
end Go.Proofs.YtanbbnogdhnikaaGreat

