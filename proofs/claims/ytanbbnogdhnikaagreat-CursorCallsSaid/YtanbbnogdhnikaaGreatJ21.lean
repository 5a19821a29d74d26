/-
  Texts that the main proof rests on, put together: CnMath, TrMath. No statement is proved here.
-/
import Derived.Test.YtanbbnogdhnikaaGreatJ20
set_option linter.unusedVariables false
set_option linter.unusedSimpArgs false
set_option maxRecDepth 300000
set_option maxHeartbeats 25600000
namespace Go.Proofs.YtanbbnogdhnikaaGreat
open Go.RowKit
open Go.Lib hiding intOf

def nosP (L:List Pg):List Nat:=L.map (·.pg)
theorem nosP_len (L:List Pg):(nosP L).length=L.length:=by simp[nosP]
theorem nthU_out {l:List Nat} {i:Nat} (h:l.length≤i):nthU l i=0:=by unfold nthU;rw[List.getElem?_eq_none h];rfl
theorem nextL_is (l:List Nat) (i:Nat):nextL l i=nthU l (i+1):=by
 unfold nextL
 split
 ·rfl
 ·rw[nthU_out (by omega)]
theorem nosP_at {L:List Pg} {i:Nat} {p:Pg} (h:L[i]? = some p):nthU (nosP L) i=p.pg:=by
 unfold nthU nosP
 rw[List.getElem?_map,h]
 rfl
theorem wasIn_no {L:List Pg} {n:Nat} (h : ∀ p∈L,p.pg≠n):wasIn L n=false:=by
 unfold wasIn
 rw[List.any_eq_false]
 intro p hp
 simpa using h p hp
theorem nodup_front {L:List Pg} {k:Nat} {p:Pg} (hnd:(nosP L).Nodup) (hp:L[k]? = some p) : ∀ q∈L.take k,q.pg≠p.pg:=by
 intro q hq he
 obtain⟨i,hi,rfl⟩:=List.getElem_of_mem hq
 rw[List.length_take] at hi
 obtain⟨hk,rfl⟩:=List.getElem?_eq_some_iff.1 hp
 rw[List.getElem_take] at he
 have h1:=(List.pairwise_iff_getElem.1 hnd) i k (by rw[nosP_len];omega) (by rw[nosP_len];omega) (by omega)
 unfold nosP at h1
 rw[List.getElem_map,List.getElem_map] at h1
 exact h1 he
def linkedL (kd:Int) (L:List Pg):Prop:=(nosP L).Nodup∧∀ i p,L[i]? = some p→p.kd=kd∧2≤p.pg∧p.lk=nthU (nosP L) (i+1)
theorem chain_go {size:Int} {s:ByteArray} {kd:Int} {L:List Pg} {j:Nat} (hl:linkedL kd L) (hj:j≤L.length) (hr : ∀ i p,i<j→L[i]? = some p→readAt size s p.pg=some p) :
  ∀ k,k≤j→along size s kd (nthU (nosP L) 0) k=(L.take k,nthU (nosP L) k)
 | 0,_=>rfl
 | k+1,hk=>by
  have ih:=chain_go hl hj hr k (by omega)
  obtain⟨p,hp⟩ : ∃ p,L[k]? = some p:=⟨L[k],List.getElem?_eq_getElem (by omega)⟩
  obtain⟨h1,h2,h3⟩:=hl.2 k p hp
  have hn:=nosP_at hp
  have hg:goes size s kd (L.take k) (nthU (nosP L) k)=some p:=by
   rw[hn,goes_is (hr k p (by omega) hp),wasIn_no (nodup_front hl.1 hp),decide_eq_false (by omega : ¬ p.pg<2),decide_eq_true h1]
   rfl
  rw[along_next ih hg,take_snoc_at hp,h3]
theorem chain_whole {size:Int} {s:ByteArray} {kd:Int} {L:List Pg} (hl:linkedL kd L) (hr : ∀ p∈L,readAt size s p.pg=some p) :
  chainL size s kd (nthU (nosP L) 0)=L∧chainOk size s kd (nthU (nosP L) 0)=true:=by
 have h1:=chain_go hl (Nat.le_refl _) (fun i p _ hp=>hr p (List.mem_of_getElem? hp)) L.length (Nat.le_refl _)
 rw[List.take_length,nthU_out (l:=nosP L) (i:=L.length) (by rw[nosP_len];exact Nat.le_refl _)] at h1
 have h2:=along_fresh (size:=size) (s:=s) (kd:=kd) (head:=nthU (nosP L) 0) L.length
 rw[h1] at h2
 have h3:=fresh_le h2
 have h4:=chain_end (Nat.le_trans h3 (Nat.div_le_self _ _)) h1 goes_zero
 exact⟨h4.1,by rw[h4.2];rfl⟩
/-! Values. -/
theorem numB_iff {n:Nat}:numB n=true↔2≤n∧n≤2147483647:=by unfold numB;simp
def onPg (z tx:Nat) (ps:List Nat) (v:ByteArray) (i:Nat):Pg:=⟨5,((partsL z v).getD i ⟨#[]⟩).size,nthU ps i,nextL ps i,tx,overBody z ((partsL z v).getD i ⟨#[]⟩)⟩
theorem onL_some {z tx:Nat} {ps:List Nat} {v:ByteArray} {L:List Pg} (h:onL z tx ps v=some L):goodSize z=true∧0<v.size∧v.size≤4096∧ceilD v.size (z-24)=ps.length∧fineL ps=true∧tx≤4611686018427387904∧L=(List.range ps.length).map (onPg z tx ps v):=by
 unfold onL at h
 split at h
 ·rename_i hc
  simp only[Bool.and_eq_true,decide_eq_true_eq] at hc
  obtain⟨h1,h2,h3,h4,h5,h6⟩:=hc
  have hgp:=good_pos h1
  refine⟨h1,h2,h3,?_,h5,h6,?_⟩
  ·rw[← h4]
   unfold partsL
   rw[if_pos h1,chunks_len,show ((z:Int)-24).toNat=z-24 by omega]
  ·injection h with h
   rw[← h]
   rfl
 ·cases h
theorem on_at {z tx:Nat} {ps:List Nat} {v:ByteArray} {L:List Pg} (h:L=(List.range ps.length).map (onPg z tx ps v)) {i:Nat} {p:Pg} (hp:L[i]? = some p):i<ps.length∧p=onPg z tx ps v i:=by
 subst h
 rw[List.getElem?_map,Option.map_eq_some_iff] at hp
 obtain⟨a,ha,rfl⟩:=hp
 obtain⟨h1,h2⟩:=List.getElem?_eq_some_iff.1 ha
 rw[List.getElem_range] at h2
 subst h2
 exact⟨by simpa using h1,rfl⟩
theorem on_nos {z tx:Nat} {ps:List Nat} {v:ByteArray} {L:List Pg} (h:L=(List.range ps.length).map (onPg z tx ps v)):nosP L=ps:=by
 subst h
 unfold nosP
 rw[List.map_map]
 apply List.ext_getElem
 ·simp
 ·intro i h1 h2
  simp[onPg,nthU_get h2]
theorem fine_nodup {ps:List Nat} (h:fineL ps=true):ps.Nodup:=by unfold fineL at h;rw[Bool.and_eq_true,decide_eq_true_eq] at h;exact h.2
theorem fine_num {ps:List Nat} (h:fineL ps=true) {i:Nat} (hi:i<ps.length):numB (nthU ps i)=true:=(fineL_iff.1 h i hi).1
theorem on_linked {z tx:Nat} {ps:List Nat} {v:ByteArray} {L:List Pg} (h:onL z tx ps v=some L):linkedL 5 L:=by
 obtain⟨h1,h2,h3,h4,h5,h6,hL⟩:=onL_some h
 refine⟨by rw[on_nos hL];exact fine_nodup h5,fun i p hp=>?_⟩
 obtain⟨hi,rfl⟩:=on_at hL hp
 refine⟨rfl,(numB_iff.1 (fine_num h5 hi)).1,?_⟩
 rw[on_nos hL]
 exact nextL_is ps i
theorem on_part {z tx:Nat} {ps:List Nat} {v:ByteArray} {L:List Pg} (h:onL z tx ps v=some L) {i:Nat} (hi:i<ps.length):(partsL z v).getD i ⟨#[]⟩=piece (z-24) v i∧mayP9 z (nthU ps i) (nextL ps i) tx (piece (z-24) v i)=true:=by
 obtain⟨h1,h2,h3,h4,h5,h6,hL⟩:=onL_some h
 have hgp:=good_pos h1
 have hr:0<z-24:=by obtain⟨z',hz,hz1,_⟩:=good_nat h1;omega
 have hi':i<ceilD v.size (z-24):=by rw[h4];exact hi
 have hps:=piece_size hr hi'
 have hpl:=piece_lt hr hi'
 constructor
 ·unfold partsL
  rw[if_pos h1,show ((z:Int)-24).toNat=z-24 by omega,List.getD,chunks_at hi']
  rfl
 ·unfold mayP9
  rw[h1,decide_eq_true (show 1≤(piece (z-24) v i).size by omega),decide_eq_true (show ((piece (z-24) v i).size:Int)≤(z:Int)-24 by omega),fine_num h5 hi,decide_eq_true h6]
  unfold nextL
  by_cases hn:i+1<ps.length
  ·rw[if_pos hn,fine_num h5 hn,decide_eq_true (show (z:Int)-24≤(piece (z-24) v i).size by have:=piece_full hr (v:=v) (show i+1<ceilD v.size (z-24) by omega);omega)]
   simp
  ·rw[if_neg hn]
   rfl
theorem may_of_9 {z n next tx:Nat} {s:ByteArray} (h:mayP9 z n next tx s=true):mayPg z 5 s.size n next tx (overBody z s)=true:=by
 obtain⟨h1,h2,h3,h4,h5,h6⟩:=mayP9_parts h
 have hz:=overBody_size z s h3.1
 have hgp:=good_pos h1
 have hn:=numB_iff.1 h4
 have hx:next≤2147483647:=by
  rcases h5 with h5 | ⟨h5,_⟩
  ·omega
  ·exact (numB_iff.1 h5).2
 unfold mayPg
 rw[h1,hz]
 simp
 omega
theorem on_may {z tx:Nat} {ps:List Nat} {v:ByteArray} {L:List Pg} (h:onL z tx ps v=some L) : ∀ p∈L,mayPg z p.kd p.ct p.pg p.lk p.tx p.bd=true:=by
 intro p hp
 obtain⟨i,hi,he⟩:=List.getElem_of_mem hp
 obtain⟨_,_,_,_,_,_,hL⟩:=onL_some h
 obtain⟨hi2,rfl⟩:=on_at hL (by rw[List.getElem?_eq_getElem hi,he])
 obtain⟨h1,h2⟩:=on_part h hi2
 unfold onPg
 rw[h1]
 exact may_of_9 h2
theorem on_val {z tx:Nat} {ps:List Nat} {v:ByteArray} {L:List Pg} (h:onL z tx ps v=some L):valV L=some v:=by
 obtain⟨h1,h2,h3,h4,h5,h6,hL⟩:=onL_some h
 have hr:0<z-24:=by obtain⟨z',hz,hz1,_⟩:=good_nat h1;omega
 have hlen:L.length=ps.length:=by rw[hL];simp
 have key : ∀ k,k≤L.length→valV (L.take k)=some (frontP (z-24) v k):=by
  intro k
  induction k with
  | zero=>intro _;rw[frontP_zero];rfl
  | succ k ih =>
   intro hk
   obtain⟨p,hp⟩ : ∃ p,L[k]? = some p:=⟨L[k],List.getElem?_eq_getElem (by omega)⟩
   obtain⟨hi,hpe⟩:=on_at hL hp
   obtain⟨g1,g2⟩:=on_part h hi
   have ho:p.over=some (piece (z-24) v k):=by
    rw[hpe]
    unfold Pg.over onPg
    rw[g1]
    exact readO_page g2
   rw[take_snoc_at hp,valV_snoc,ih (by omega),ho,frontP_succ hr (by omega)]
 have:=key L.length (Nat.le_refl _)
 rwa [List.take_length,hlen,← h4,frontP_end hr] at this
theorem value_back {z tx:Nat} {ps:List Nat} {v s:ByteArray} {L:List Pg} (h:onL z tx ps v=some L) (hr : ∀ p∈L,readAt z s p.pg=some p) (len:Int) :
  readV z s (nthU ps 0) len=if (v.size:Int)=len then some (v,ps) else none:=by
 obtain⟨h1,h2,h3,h4,h5,h6,hL⟩:=onL_some h
 have hn:=on_nos hL
 have hc:=chain_whole (on_linked h) hr
 rw[hn] at hc
 unfold readV
 rw[hc.1,hc.2,on_val h]
 simp only[if_true]
 have hn':L.map (fun x=>x.pg)=ps:=hn
 rw[hn']
 by_cases hl:(v.size:Int)=len
 ·rw[if_pos hl,if_pos ⟨by omega,hl⟩]
 ·rw[if_neg hl,if_neg (fun hh=>hl hh.2)]
/-! Lists. -/
/-! Images. -/
theorem layL_cons (size:Int) (img:ByteArray) (p:Pg) (L:List Pg) (h:mayPg size p.kd p.ct p.pg p.lk p.tx p.bd=true):layL size img (p::L)=layL size (writeB size.toNat p.pg p.block img) L:=by
 unfold layL
 rw[List.foldl_cons]
 simp only[h,if_true]
theorem write_size {z c:Nat} {p:Pg} {img:ByteArray} (h:mayPg z p.kd p.ct p.pg p.lk p.tx p.bd=true) (hl:img.size=c*z):(writeB z p.pg p.block img).size=max c (p.pg+1)*z:=by
 obtain⟨hbs,_,_⟩:=block_right h
 rw[← size_list,writeB_list]
 exact bWrite_pages z p.pg c _ _ (by rw[size_list,hl]) (by rw[size_list,hbs])
theorem lay_reads {z:Nat} : ∀ (L:List Pg) (c:Nat) (img:ByteArray),(∀ p∈L,mayPg z p.kd p.ct p.pg p.lk p.tx p.bd=true)→img.size=c*z →
  ∃ im C,layL z img L=some im∧im.size=C*z∧c≤C∧(∀ p∈L,p.pg<C)∧(∀ D,c≤D→(∀ p∈L,p.pg<D)→C≤D)∧(∀ n,(∀ p∈L,p.pg≠n)→readAt z im n=readAt z img n)∧((nosP L).Nodup→∀ p∈L,readAt z im p.pg=some p)
 | [],c,img,_,hl=>⟨img,c,rfl,hl,Nat.le_refl _,(by simp),(fun D h _=>h),(fun n _=>rfl),(by simp)⟩
 | p::L,c,img,hm,hl=>by
  have hp:=hm p List.mem_cons_self
  obtain⟨im,C,h1,h2,h3,h4,h5,h6,h7⟩:=lay_reads L (max c (p.pg+1)) (writeB z p.pg p.block img) (fun q hq=>hm q (List.mem_cons_of_mem _ hq)) (write_size hp hl)
  refine⟨im,C,?_,h2,by omega,?_,?_,?_,?_⟩
  ·rw[layL_cons _ _ _ _ hp,Int.toNat_natCast,h1]
  ·intro q hq
   rcases List.mem_cons.1 hq with rfl | hq
   ·omega
   ·exact h4 q hq
  ·intro D hD hq
   exact h5 D (by have:=hq p List.mem_cons_self;omega) (fun q hq'=>hq q (List.mem_cons_of_mem _ hq'))
  ·intro n hn
   rw[h6 n (fun q hq=>hn q (List.mem_cons_of_mem _ hq)),readAt_write hp hl,if_neg (fun e=>hn p List.mem_cons_self e.symm)]
  ·intro hnd q hq
   rw[show nosP (p::L)=p.pg::nosP L from rfl,List.nodup_cons] at hnd
   rcases List.mem_cons.1 hq with rfl | hq
   ·rw[h6 q.pg (fun r hr e=>hnd.1 (by rw[← e];exact List.mem_map_of_mem hr)),readAt_write hp hl,if_pos rfl]
   ·exact h7 hnd.2 q hq
def stepsV (t:Tv):List (Pr×Int):=t.1.map (fun p=>(p,0))++(if t.2.isSome then [] else [(Pr.zero,4)])
theorem stepsV_none (xs:List Pr):stepsV (xs,none)=xs.map (fun p=>(p,0))++[(Pr.zero,4)]:=rfl
theorem stepsV_some (xs:List Pr) (M:List Nat):stepsV (xs,some M)=xs.map (fun p=>(p,0)):=by simp[stepsV]
theorem forksT_append (f:Nat→List Nat→Tv) : ∀ (a b:List Fk) (L:List Nat),forksT f (a++b) L=match (forksT f a L).2 with
  | none=>((forksT f a L).1,none)
  | some M=>((forksT f a L).1++(forksT f b M).1,(forksT f b M).2)
 | [],b,L=>by simp[forksT]
 | x::a,b,L=>by
  simp only[List.cons_append,forksT]
  rcases h:(f x.rt L).2 with _ | M
  ·rfl
  ·simp only
   rw[forksT_append f a b M]
   rcases h2:(forksT f a M).2 with _ | M2
   ·rfl
   ·simp
theorem itemsT_append (size:Int) (s:ByteArray) : ∀ (a b:List It) (L:List Nat),itemsT size s (a++b) L=match (itemsT size s a L).2 with
  | none=>((itemsT size s a L).1,none)
  | some M=>((itemsT size s a L).1++(itemsT size s b M).1,(itemsT size s b M).2)
 | [],b,L=>by simp[itemsT]
 | x::a,b,L=>by
  simp only[List.cons_append,itemsT]
  rcases h:valN size s x with _ | ⟨v,ps⟩
  ·rfl
  ·simp only
   rcases h1:visitL L ps with _ | M
   ·rfl
   ·simp only
    rw[itemsT_append size s a b M]
    rcases h2:(itemsT size s a M).2 with _ | M2
    ·rfl
    ·simp
theorem mid_at {α:Type} {l:List α} {k:Nat} {b:α} (h:l[k]? = some b):l=l.take k++b::l.drop (k+1):=by
 obtain⟨h1,h2⟩:=List.getElem?_eq_some_iff.1 h
 conv=>lhs;rw[← List.take_append_drop k l]
 rw[List.drop_eq_getElem_cons h1,h2]
section
variable {size:Int} {s:ByteArray} {f:Nat→List Nat→Tv} {k:Nat} {L M:List Nat} {xs:List Pr}
theorem forksT_one {l:List Fk} {b:Fk} (h:forksT f (l.take k) L=(xs,some M)) (hb:l[k]? = some b) :
  forksT f l L=match (f b.rt M).2 with
   | none=>(xs++(f b.rt M).1,none)
   | some N=>(xs++(f b.rt M).1++(forksT f (l.drop (k+1)) N).1,(forksT f (l.drop (k+1)) N).2):=by
 conv=>lhs;rw[mid_at hb]
 rw[forksT_append,h]
 simp only[forksT]
 rcases h2:(f b.rt M).2 with _ | N
 ·rfl
 ·simp
theorem forksT_none {l:List Fk} {b:Fk} (h:forksT f (l.take k) L=(xs,some M)) (hb:l[k]? = some b) (hn:(f b.rt M).2=none):forksT f l L=(xs++(f b.rt M).1,none):=by
 rw[forksT_one h hb,hn]
theorem forksT_next {l:List Fk} {b:Fk} {N:List Nat} (h:forksT f (l.take k) L=(xs,some M)) (hb:l[k]? = some b) (hn:(f b.rt M).2=some N):forksT f (l.take (k+1)) L=(xs++(f b.rt M).1,some N):=by
 rw[take_snoc_at hb,forksT_append,h]
 simp only[forksT,hn]
 simp
theorem forksT_pre {l:List Fk} {b:Fk} (h:forksT f (l.take k) L=(xs,some M)) (hb:l[k]? = some b):xs.map (fun p=>(p,(0:Int)))++stepsV (f b.rt M) <+: stepsV (forksT f l L):=by
 rw[forksT_one h hb]
 rcases h2:(f b.rt M).2 with _ | N
 ·simp only
  rw[stepsV_none]
  unfold stepsV
  rw[h2]
  simp
 ·simp only
  unfold stepsV
  rw[h2]
  simp only[Option.isSome_some,if_true,List.append_nil,List.map_append,List.append_assoc]
  rw[← List.append_assoc]
  exact List.prefix_append _ _
theorem itemsT_one {l:List It} {b:It} (h:itemsT size s (l.take k) L=(xs,some M)) (hb:l[k]? = some b) :
  itemsT size s l L=match valN size s b with
   | none=>(xs,none)
   | some (v,ps)=>match visitL M ps with
    | none=>(xs,none)
    | some N=>(xs++⟨b.ky,v⟩::(itemsT size s (l.drop (k+1)) N).1,(itemsT size s (l.drop (k+1)) N).2):=by
 conv=>lhs;rw[mid_at hb]
 rw[itemsT_append,h]
 simp only[itemsT]
 rcases h2:valN size s b with _ | ⟨v,ps⟩
 ·simp
 ·simp only
  rcases h3:visitL M ps with _ | N
  ·simp
  ·simp
theorem itemsT_bad {l:List It} {b:It} (h:itemsT size s (l.take k) L=(xs,some M)) (hb:l[k]? = some b) (hn:valN size s b=none):itemsT size s l L=(xs,none):=by
 rw[itemsT_one h hb,hn]
theorem itemsT_twice {l:List It} {b:It} {v:ByteArray} {ps:List Nat} (h:itemsT size s (l.take k) L=(xs,some M)) (hb:l[k]? = some b) (hn:valN size s b=some (v,ps)) (hv:visitL M ps=none):itemsT size s l L=(xs,none):=by
 rw[itemsT_one h hb,hn]
 simp only[hv]
theorem itemsT_next {l:List It} {b:It} {v:ByteArray} {ps N:List Nat} (h:itemsT size s (l.take k) L=(xs,some M)) (hb:l[k]? = some b) (hn:valN size s b=some (v,ps)) (hv:visitL M ps=some N):itemsT size s (l.take (k+1)) L=(xs++[⟨b.ky,v⟩],some N):=by
 rw[take_snoc_at hb,itemsT_append,h]
 simp only[itemsT,hn,hv]
theorem itemsT_pre {l:List It} {b:It} {v:ByteArray} {ps N:List Nat} (h:itemsT size s (l.take k) L=(xs,some M)) (hb:l[k]? = some b) (hn:valN size s b=some (v,ps)) (hv:visitL M ps=some N):xs.map (fun p=>(p,(0:Int)))++[(⟨b.ky,v⟩,0)] <+: stepsV (itemsT size s l L):=by
 rw[itemsT_one h hb,hn]
 simp only[hv]
 unfold stepsV
 simp only[List.map_append,List.map_cons,List.append_assoc,List.cons_append,List.nil_append]
 exact⟨List.map (fun p=>(p,0)) (itemsT size s (List.drop (k+1) l) N).fst++(if (itemsT size s (List.drop (k+1) l) N).snd.isSome=true then [] else [(Pr.zero,4)]),by simp⟩
end
def InL (s:ByteArray) (L:List Nat):Prop:=L.Nodup∧∀ x∈L,x<s.size
theorem nodup_le : ∀ {P:Nat} {L:List Nat},L.Nodup→(∀ x∈L,x<P)→L.length≤P
 | 0,[],_,_=>Nat.le_refl _
 | 0,x::t,_,h=>absurd (h x (by simp)) (by omega)
 | P+1,L,hn,h=>by
  by_cases hp:P∈L
  ·have h1:=nodup_le (P:=P) (hn.erase P) fun x hx=>by
    have h2:=(hn.mem_erase_iff.1 hx)
    have h3:=h x h2.2
    have h4:=h2.1
    omega
   have h2:=List.length_erase_of_mem hp
   omega
  ·have h1:=nodup_le (P:=P) hn fun x hx=>by
    have h2:=h x hx
    have h3:x≠P:=fun e=>hp (e ▸ hx)
    omega
   omega
theorem InL.len {s:ByteArray} {L:List Nat} (h:InL s L):L.length≤s.size:=nodup_le h.1 h.2
theorem InL.nil (s:ByteArray):InL s []:=⟨by simp,by simp⟩
theorem readAt_lt {size:Int} {s:ByteArray} {n:Nat} {p:Pg} (h:readAt size s n=some p):n<s.size:=Nat.lt_of_lt_of_le (readAt_some h).2.1 (Nat.div_le_self _ _)
theorem InL.visit {s:ByteArray} {L ps M:List Nat} (h:InL s L) (hp : ∀ x∈ps,x<s.size) (hv:visitL L ps=some M):InL s M:=by
 refine⟨visitL_nodup h.1 hv,fun x hx=>?_⟩
 rw[visitL_some hv] at hx
 rcases List.mem_append.1 hx with hx | hx
 ·exact h.2 x hx
 ·exact hp x hx
theorem chain_mem_read {size:Int} {s:ByteArray} {kd:Int} {head:Nat} {p:Pg} (h:p∈chainL size s kd head):readAt size s p.pg=some p:=by
 have : ∀ k,∀ p∈(along size s kd head k).1,readAt size s p.pg=some p:=fun k=>by
  induction k with
  | zero=>intro p hp;cases hp
  | succ k ih =>
   intro p hp
   simp only[along] at hp
   split at hp
   ·rename_i q hq
    rcases List.mem_append.1 hp with hp | hp
    ·exact ih p hp
    ·rw[List.mem_singleton] at hp
     subst hp
     have h1:=(goes_some hq).2.2.1
     rw[(readAt_some h1).2.2.1]
     exact h1
   ·exact ih p hp
 exact this _ p h
theorem readV_pages {size:Int} {s:ByteArray} {head:Nat} {len:Int} {v:ByteArray} {ps:List Nat} (h:readV size s head len=some (v,ps)) : ∀ x∈ps,x<s.size:=by
 unfold readV at h
 split at h
 ·split at h
  ·split at h
   ·injection h with h
    injection h with _ h
    subst h
    intro x hx
    obtain⟨p,hp,rfl⟩:=List.mem_map.1 hx
    exact readAt_lt (chain_mem_read hp)
   ·cases h
  ·cases h
 ·cases h
theorem valN_pages {size:Int} {s:ByteArray} {i:It} {v:ByteArray} {ps:List Nat} (h:valN size s i=some (v,ps)) : ∀ x∈ps,x<s.size:=by
 unfold valN at h
 split at h
 ·exact readV_pages h
 ·injection h with h
  injection h with _ h
  subst h
  intro x hx
  cases hx
theorem itemsT_in {size:Int} {s:ByteArray} : ∀ {l:List It} {L M:List Nat},InL s L→(itemsT size s l L).2=some M→InL s M
 | [],L,M,h,he=>by simp[itemsT] at he;exact he ▸ h
 | i::t,L,M,h,he=>by
  simp only[itemsT] at he
  rcases hv:valN size s i with _ | ⟨v,ps⟩
  ·rw[hv] at he;cases he
  ·rw[hv] at he
   simp only at he
   rcases hw:visitL L ps with _ | N
   ·rw[hw] at he;cases he
   ·rw[hw] at he
    exact itemsT_in (h.visit (valN_pages hv) hw) he
theorem forksT_in {s:ByteArray} {f:Nat→List Nat→Tv} (hf : ∀ n L M,InL s L→(f n L).2=some M→InL s M) : ∀ {l:List Fk} {L M:List Nat},InL s L→(forksT f l L).2=some M→InL s M
 | [],L,M,h,he=>by simp[forksT] at he;exact he ▸ h
 | b::t,L,M,h,he=>by
  simp only[forksT] at he
  rcases hv:(f b.rt L).2 with _ | N
  ·rw[hv] at he;cases he
  ·rw[hv] at he
   exact forksT_in hf (hf _ _ _ h hv) he
theorem node_lt {size:Int} {s:ByteArray} {n:Nat} (h:nodeN size s n ≠ .none):n<s.size:=by
 unfold nodeN at h
 split at h
 ·rename_i p hp
  exact readAt_lt hp
 ·exact absurd rfl h
theorem InL.snoc {s:ByteArray} {L:List Nat} {n:Nat} (h:InL s L) (hn:n ∉ L) (hs:n<s.size):InL s (L++[n]):=by
 refine h.visit (ps:=[n]) (by simpa using hs) ?_
 simp[visitL,hn]
theorem trav_in {size:Int} {s:ByteArray} : ∀ {d n:Nat} {L M:List Nat},InL s L→(trav size s d n L).2=some M→InL s M
 | 0,n,L,M,h,he=>by simp[trav] at he
 | d+1,n,L,M,h,he=>by
  simp only[trav] at he
  split at he
  ·cases he
  ·rename_i hn
   rcases hk:nodeN size s n with _ | l | l
   ·rw[hk] at he;cases he
   ·rw[hk] at he
    exact forksT_in (fun n L M h he=>trav_in h he) (h.snoc hn (node_lt (by rw[hk];simp))) he
   ·rw[hk] at he
    exact itemsT_in (h.snoc hn (node_lt (by rw[hk];simp))) he
end Go.Proofs.YtanbbnogdhnikaaGreat

