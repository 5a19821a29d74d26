/-
  Texts that the main proof rests on, put together: SrtMath, LaTree, LaPick, LaGet. No statement is proved here.
-/
import Derived.Test.YtanbbnogdhnikaaGreatJ46
import Derived.Test.YtanbbnogdhnikaaGreatJ44
set_option linter.unusedVariables false
set_option linter.unusedSimpArgs false
set_option maxRecDepth 300000
set_option maxHeartbeats 25600000
namespace Go.Proofs.YtanbbnogdhnikaaGreat
open Go.RowKit
open Go.Lib hiding intOf

theorem lessB_trans {a b c:ByteArray} (h1:lessB a b) (h2:lessB b c):lessB a c:=by
 unfold lessB at *
 rw[bytesLess_eq,decide_eq_true_eq] at *
 exact List.lt_trans h1 h2
theorem lessB_irrefl {a:ByteArray} (h:lessB a a):False:=by
 unfold lessB at h
 rw[bytesLess_eq,decide_eq_true_eq] at h
 exact List.lt_irrefl _ h
theorem lessB_tri {a b:ByteArray} (h:Op.bytesLess a.toList b.toList=false) (hne:a≠b):lessB b a:=by
 unfold lessB
 rw[bytesLess_eq,decide_eq_false_iff_not] at h
 rw[bytesLess_eq,decide_eq_true_eq]
 rcases Std.lt_trichotomy (α:=List UInt8) a.toList b.toList with h1 | h1 | h1
 ·exact absurd h1 h
 ·exact absurd (bytesP_inj h1) hne
 ·exact h1
theorem levels_pages : ∀ {f:Nat} {L:List Pg} {F:List Fk},Num L→(∀ q∈L,mayPg 128 q.kd q.ct q.pg q.lk q.tx q.bd=true)→LevOk f L F→Num (levelsY 128 f L F).1∧(∀ q∈(levelsY 128 f L F).1,mayPg 128 q.kd q.ct q.pg q.lk q.tx q.bd=true)∧(levelsY 128 f L F).1.length≤L.length+2*F.length
 | 0,L,F,hn,hm,hv=>⟨hn,hm,by show L.length≤_;omega⟩
 | f+1,L,F,hn,hm,hv=>by
  by_cases h1:F.length≤1
  ·rw[levelsY_one h1]
   exact⟨hn,hm,by show L.length≤_;omega⟩
  ·rcases hv with hv | ⟨hv1,hv2,hv3,hv4,hv5,hv6⟩
   ·exact absurd hv.1 h1
   rw[levelsY_more hv1]
   have hfl:(cutG sizeF 104 F.length F).flatten=F:=cutG_flat _ _ (Nat.le_refl _)
   have hkeys:=brMay_keys hv2
   rw[hfl] at hkeys
   have hhalf:=cutG_half (two_fit hkeys) F.length F (fun x hx=>hx)
   obtain⟨g1,g2,g3⟩:=levels_pages (hn.append (by rw[brPgs_nos,brPgs_len])) (fun q hq=>by
    rcases List.mem_append.1 hq with h | h
    ·exact hm q h
    ·exact brPgs_may hv2 q h) hv6
   refine⟨g1,g2,Nat.le_trans g3 ?_⟩
   rw[brFks_len,List.length_append,brPgs_len]
   omega
theorem num_nodup {L:List Pg} (h:Num L):(nosP L).Nodup:=by rw[h];exact List.nodup_range'
theorem laid_tree {l:List Pr} (h0:l ≠ []) (h60:l.length≤60) (hs : ∀ p∈l,p.ky.size≤2500∧p.vl.size≤2500) (hasc:(l.map (·.ky)).Pairwise lessB) (hok:okY l=true) :
  ∃ im d ns,layStr 128 ⟨#[]⟩ (topY l).1=im∧layErr 128 ⟨#[]⟩ (topY l).1=0∧im.size=(2+(topY l).1.length)*128∧1≤d∧d≤7∧TreeR (readAt 128 im) d (rootY l) l ns∧ns.Perm (List.range' 2 (topY l).1.length)∧(topY l).1.length≤2600:=by
 have hlay:=layOk_light h60 hs hasc
 have hlev:=hlay.lev hok
 obtain⟨C,e1,e2,e3,e4,e5,e6⟩:=itemsY_is (l:=l) num_nil (fun p hp=>by have:=(hs p hp).2;omega) (by simp;omega)
 rw[List.nil_append] at e1 e2
 have hil:(itemsY 128 [] l).2.length=l.length:=itemsY_len 128 l []
 have hfl:(ptsY l).flatten=(itemsY 128 [] l).2:=cutG_flat _ _ (by rw[hil];exact Nat.le_refl _)
 have hpl:(ptsY l).length≤l.length:=by have:=cutG_len (sz:=sizeI) (room:=104) l.length (itemsY 128 [] l).2;rw[hil] at this;exact this
 have hne:=cutG_ne (sz:=sizeI) (room:=104) l.length (itemsY 128 [] l).2
 have hnum:Num (pgsY l):=by
  unfold pgsY
  rw[e1]
  exact e2.append (by rw[leafPgs_nos,leafPgs_len])
 have hmay : ∀ q∈pgsY l,mayPg 128 q.kd q.ct q.pg q.lk q.tx q.bd=true:=by
  intro q hq
  unfold pgsY at hq
  rcases List.mem_append.1 hq with h | h
  ·rw[e1] at h;exact e4 q h
  ·exact leafPgs_may hok q h
 obtain⟨t1,t2,t3⟩:=levels_pages (f:=l.length) hnum hmay hlev
 have hfll:(fksY l).length=(ptsY l).length:=leafFks_len _ _
 have hpgl:(pgsY l).length≤2460:=by unfold pgsY;rw[List.length_append,leafPgs_len,e1];omega
 have hnd:=num_nodup t1
 obtain⟨im,K,l1,l2,l3,l4,l5,l6,l7⟩:=lay_reads (z:=128) (topY l).1 0 ⟨#[]⟩ t2 rfl
 have hrd:=l7 hnd
 have hr0 : ∀ q∈pgsY l,readAt 128 im q.pg=some q:=fun q hq=>hrd q (levels_keep hq)
 have hI:=e6 (readAt 128 im) (fun q hq=>hr0 q (by unfold pgsY;rw[e1];exact List.mem_append_left _ hq))
 obtain⟨ms,m1,m2⟩:=leaves_tree (parts:=ptsY l) (by rw[hfl];exact hI) hne hok (fun q hq=>hr0 q (by unfold pgsY;exact List.mem_append_right _ hq))
 obtain⟨d,ns,d1,d2,d3,d4,d5,d6,d7⟩:=levels_tree (rd:=readAt 128 im) (f:=l.length) (k:=6) (L:=pgsY l) (F:=fksY l) m1 (by
  unfold pgsY
  rw[nos_append,e1]
  rw[e1] at m2
  exact m2.trans List.perm_append_comm) hnum hmay hlev (by omega) hrd
 obtain⟨y1,y2⟩:=lay_yes (size:=128) (img:=⟨#[]⟩) (L:=(topY l).1) l1
 have hT:(levelsY 128 l.length (pgsY l) (fksY l))=topY l:=rfl
 rw[hT] at d3 d4 d5
 have hlen:ns.length=(topY l).1.length:=by rw[d5.length_eq,nosP_len]
 have hroot : ∃ b,(topY l).2=[b]:=by
  cases hF:(topY l).2 with
  | nil=>rw[hF] at d4;exact absurd d4.1 h0
  | cons b t =>
   rw[hF] at d3
   simp only[List.length_cons] at d3
   cases t with
   | nil=>exact⟨b,rfl⟩
   | cons _ _=>simp at d3
 obtain⟨b,hb⟩:=hroot
 rw[hb] at d4
 obtain⟨p1,p2,n1,n2,g1,g2,g3,g4,g5,g6⟩:=d4
 subst g5 g6
 rw[List.append_nil] at g1 g2
 subst g1 g2
 have hrt:rootY l=b.rt:=by unfold rootY;rw[hb];rfl
 have t1':nosP (topY l).1=List.range' 2 (topY l).1.length:=t1
 have hd5:ns.Perm (List.range' 2 (topY l).1.length):=t1' ▸ d5
 have hKs:K=2+(topY l).1.length:=by
  have hpos:0<(topY l).1.length:=by
   rw[← hlen]
   cases d with
   | zero=>exact g3.elim
   | succ d=>obtain⟨p,ms,_,h2,_⟩:=g3;rw[h2];simp
  have hmem : ∀ n,n∈nosP (topY l).1↔2≤n∧n<2+(topY l).1.length:=fun n=>by
   rw[show nosP (topY l).1=List.range' 2 (topY l).1.length from t1,List.mem_range'_1]
  refine Nat.le_antisymm (l5 _ (by omega) (fun p hp=>((hmem p.pg).1 (List.mem_map_of_mem hp)).2)) ?_
  obtain⟨p,hp,hpn⟩:=List.mem_map.1 ((hmem (1+(topY l).1.length)).2 ⟨by omega,by omega⟩)
  have:=l4 p hp
  have hpn:p.pg=1+(topY l).1.length:=hpn
  omega
 refine⟨im,d,ns,y1,y2,by rw[l2,hKs],d2,by omega,by rw[hrt];exact g3,hd5,?_⟩
 show (levelsY 128 l.length (pgsY l) (fksY l)).1.length≤2600
 omega
theorem pickF_one (b:Fk) (key:ByteArray):pickF [b] key=0:=by
 have:=pickN_le [b] key
 unfold pickF
 simp at this
 omega
theorem pickF_cons {b c:Fk} {t:List Fk} {key:ByteArray} (hbc:lessB b.nm c.nm):pickF (b::c::t) key=if Op.bytesLess key.toList c.nm.toList then 0 else pickF (c::t) key+1:=by
 rcases hb:Op.bytesLess key.toList b.nm.toList with _ | _
 ·have e1:pickN (b::c::t) key=pickN (c::t) key+1:=by simp[pickN,List.takeWhile_cons,hb]
  rcases hc:Op.bytesLess key.toList c.nm.toList with _ | _
  ·have e2:pickN (c::t) key=(t.takeWhile fun f => !Op.bytesLess key.toList f.nm.toList).length+1:=by simp[pickN,List.takeWhile_cons,hc]
   simp only[Bool.false_eq_true,if_false]
   unfold pickF
   omega
  ·have e2:pickN (c::t) key=0:=by simp[pickN,List.takeWhile_cons,hc]
   simp only[if_true]
   unfold pickF
   omega
 ·have hc:Op.bytesLess key.toList c.nm.toList=true:=lessB_trans hb hbc
  rw[hc,if_pos rfl]
  have e1:pickN (b::c::t) key=0:=by simp[pickN,List.takeWhile_cons,hb]
  unfold pickF
  omega
theorem asc_head {x:Pr} {t:List Pr} {key:ByteArray} (h:((x::t).map (·.ky)).Pairwise lessB) (hk:lessB key x.ky) : ∀ p∈x::t,lessB key p.ky:=by
 rw[List.map_cons,List.pairwise_cons] at h
 intro p hp
 rcases List.mem_cons.1 hp with rfl | hp
 ·exact hk
 ·exact lessB_trans hk (h.1 p.ky (List.mem_map_of_mem hp))
theorem ForksR.pick {T:Nat→List Pr→List Nat→Prop} {key:ByteArray} : ∀ {F:List Fk} {ps:List Pr} {ns:List Nat},F ≠ []→ForksR T F ps ns→(ps.map (·.ky)).Pairwise lessB →
  ∃ b pa pc pb na nc nb,F[pickF F key]? = some b∧T b.rt pc nc∧ps=pa++(pc++pb)∧ns=na++(nc++nb)∧(∀ p∈pa,lessB p.ky key)∧(∀ p∈pb,lessB key p.ky)
 | [],ps,ns,h0,_,_=>absurd rfl h0
 | [b],ps,ns,_,⟨p1,p2,n1,n2,h1,h2,h3,h4,h5,h6⟩,_=>by
  subst h1 h2 h5 h6
  exact⟨b,[],p1,[],[],n1,[],by rw[pickF_one];rfl,h3,by simp,by simp,by simp,by simp⟩
 | b::c::t,ps,ns,_,⟨p1,p2,n1,n2,h1,h2,h3,h4,h5⟩,hasc=>by
  subst h1 h2
  rw[List.map_append,List.pairwise_append] at hasc
  obtain⟨a1,a2,a3⟩:=hasc
  have h5':=h5
  obtain⟨q1,q2,m1,m2,g1,g2,g3,g4,g5⟩:=h5'
  obtain⟨x,t2,hx,hxc⟩ : ∃ x t2,p2=x::t2∧x.ky=c.nm:=by
   subst g1
   cases q1 with
   | nil=>simp at g4
   | cons x q=>exact⟨x,q++q2,rfl,by simpa using g4⟩
  obtain⟨y,t1,hy,hyb⟩ : ∃ y t1,p1=y::t1∧y.ky=b.nm:=by
   cases p1 with
   | nil=>simp at h4
   | cons y q=>exact⟨y,q,rfl,by simpa using h4⟩
  have hlt : ∀ p∈p1,lessB p.ky c.nm:=fun p hp=>by rw[← hxc];exact a3 p.ky (List.mem_map_of_mem hp) x.ky (by rw[hx];simp)
  have hbc:lessB b.nm c.nm:=by rw[← hyb];exact hlt y (by rw[hy];simp)
  rcases hk:Op.bytesLess key.toList c.nm.toList with _ | _
  ·obtain⟨d,pa,pc,pb,na,nc,nb,e1,e2,e3,e4,e5,e6⟩:=ForksR.pick (key:=key) (by simp) h5 a2
   refine⟨d,p1++pa,pc,pb,n1++na,nc,nb,?_,e2,by rw[e3,List.append_assoc],by rw[e4,List.append_assoc],?_,e6⟩
   ·rw[pickF_cons hbc,hk]
    simpa using e1
   ·intro p hp
    rcases List.mem_append.1 hp with h | h
    ·by_cases he:key=c.nm
     ·rw[he];exact hlt p h
     ·exact lessB_trans (hlt p h) (lessB_tri hk he)
    ·exact e5 p h
  ·refine⟨b,[],p1,p2,[],n1,n2,by rw[pickF_cons hbc,hk];rfl,h3,by simp,by simp,by simp,?_⟩
   rw[hx] at a2 ⊢
   exact asc_head a2 (by rw[hxc];exact hk)
theorem nodup_mid {P na nc nb:List Nat} {n:Nat} (h:(P++(n::(na++(nc++nb)))).Nodup):((P++[n])++nc).Nodup:=by
 refine h.sublist ?_
 rw[List.append_assoc,List.singleton_append]
 refine List.Sublist.append_left (List.Sublist.cons_cons _ ?_) P
 exact (List.sublist_append_left nc nb).trans (List.sublist_append_right na _)
theorem TreeR.desc {s key:ByteArray} : ∀ {d f n:Nat} {ps:List Pr} {ns P:List Nat},d≤f→TreeR (readAt 128 s) d n ps ns→(ps.map (·.ky)).Pairwise lessB→(P++ns).Nodup →
  ∃ way l q ms,descT 128 s key f n P=some (P++way,l)∧way.length=d∧way.head? = some n∧(∀ x∈way,x∈ns)∧(∃ z,way.getLast? = some z∧nodeN 128 s z=.lf l)∧ItemsR (readAt 128 s) l q ms∧l ≠ []∧q.Sublist ps∧∀ p∈ps,p.ky=key→p∈q
 | 0,_,_,_,_,_,_,h,_,_=>h.elim
 | d+1,0,_,_,_,_,hf,_,_,_=>by omega
 | d+1,f+1,n,ps,ns,P,hf,⟨p,ms,h1,h2,h3⟩,hasc,hn=>by
  subst h2
  have hnm:n ∉ P:=fun hm=>(List.nodup_append.1 hn).2.2 n hm n (by simp) rfl
  have hnode:nodeN 128 s n=p.node:=by unfold nodeN;rw[h1]
  simp only[descT,if_neg hnm,hnode]
  rcases h3 with ⟨hd,l,h4,h5,h6⟩ | ⟨F,h4,h5,h6⟩
  ·subst hd
   rw[h4]
   exact⟨[n],l,ps,ms,rfl,rfl,rfl,by simp,⟨n,rfl,by rw[hnode,h4]⟩,h6,h5,List.Sublist.refl _,fun p hp _=>hp⟩
  ·obtain⟨b,pa,pc,pb,na,nc,nb,e1,e2,e3,e4,e5,e6⟩:=ForksR.pick (key:=key) h5 h6 hasc
   subst e3 e4
   have hasc2:(pc.map (·.ky)).Pairwise lessB:=hasc.sublist (((List.sublist_append_left pc pb).trans (List.sublist_append_right pa _)).map _)
   obtain⟨way,l,q,ms2,g1,g2,g3,g4,⟨z,g5,g6⟩,g7,g8,g9,g10⟩:=TreeR.desc (s:=s) (key:=key) (f:=f) (by omega) e2 hasc2 (nodup_mid hn)
   rw[h4]
   refine⟨n::way,l,q,ms2,?_,by simp[g2],rfl,?_,⟨z,?_,g6⟩,g7,g8,g9.trans ((List.sublist_append_left pc pb).trans (List.sublist_append_right pa _)),?_⟩
   ·simp only[e1,Option.map_some,Option.getD_some]
    rw[g1]
    simp
   ·intro x hx
    rcases List.mem_cons.1 hx with rfl | hx
    ·simp
    ·exact List.mem_cons_of_mem _ (List.mem_append_right _ (List.mem_append_left _ (g4 x hx)))
   ·cases way with
    | nil=>cases g3
    | cons a t=>rw[List.getLast?_cons_cons];exact g5
   ·intro x hx hk
    rcases List.mem_append.1 hx with h | h
    ·exact absurd (e5 x h) (by rw[hk];exact lessB_irrefl)
    ·rcases List.mem_append.1 h with h | h
     ·exact g10 x h hk
     ·exact absurd (e6 x h) (by rw[hk];exact lessB_irrefl)
theorem lessB_self (a:ByteArray):Op.bytesLess a.toList a.toList=false:=by
 rcases h:Op.bytesLess a.toList a.toList with _ | _
 ·rfl
 ·exact (lessB_irrefl h).elim
theorem items_get {s:ByteArray} : ∀ {l:List It} {q:List Pr} {ms:List Nat},ItemsR (readAt 128 s) l q ms→(q.map (·.ky)).Pairwise lessB→∀ p∈q,findB l p.ky=true∧∃ i ns,l[findN l p.ky]? = some i∧valN 128 s i=some (p.vl,ns)
 | [],q,ms,⟨h1,h2⟩,_,p,hp=>by subst h1;cases hp
 | i::t,q,ms,⟨v,n1,p2,n2,h1,h2,h3,h4⟩,hasc,p,hp=>by
  subst h1 h2
  rw[List.map_cons,List.pairwise_cons] at hasc
  rcases List.mem_cons.1 hp with rfl | hp
  ·have e:findN (i::t) i.ky=0:=by simp[findN,List.takeWhile_cons,lessB_self]
   exact⟨by unfold findB;rw[e];simp,i,n1,by rw[e];rfl,h3.val⟩
  ·obtain⟨g1,j,ns,g2,g3⟩:=items_get h4 hasc.2 p hp
   have hl:Op.bytesLess i.ky.toList p.ky.toList=true:=hasc.1 p.ky (List.mem_map_of_mem hp)
   have e:findN (i::t) p.ky=findN t p.ky+1:=by simp[findN,List.takeWhile_cons,hl]
   refine⟨?_,j,ns,by rw[e];simpa using g2,g3⟩
   unfold findB at g1 ⊢
   rw[e]
   simpa using g1
theorem items_keys {rd:Nat→Option Pg} : ∀ {l:List It} {q:List Pr} {ms:List Nat},ItemsR rd l q ms→q.map (·.ky)=l.map (·.ky)
 | [],q,ms,⟨h1,_⟩=>by subst h1;rfl
 | i::t,q,ms,⟨v,n1,p2,n2,h1,h2,h3,h4⟩=>by subst h1;simp[items_keys h4]
theorem items_none {rd:Nat→Option Pg} {l:List It} {q:List Pr} {ms:List Nat} {key:ByteArray} (h:ItemsR rd l q ms) (hn : ∀ p∈q,p.ky≠key):findB l key=false:=by
 unfold findB
 cases hb:l[findN l key]? with
 | none=>rfl
 | some b =>
  show (b.ky.toList==key.toList)=false
  rw[beq_eq_false_iff_ne]
  intro he
  have hk:=bytesP_inj he
  have hm:b.ky∈q.map (·.ky):=by rw[items_keys h];exact List.mem_map_of_mem (List.mem_of_getElem? hb)
  obtain⟨p,hp,hpk⟩:=List.mem_map.1 hm
  exact hn p hp (hpk.trans hk)
theorem TreeR.get {s:ByteArray} {root d:Nat} {ps:List Pr} {ns:List Nat} (h:TreeR (readAt 128 s) d root ps ns) (hd:d≤16) (hr:root≠0) (hasc:(ps.map (·.ky)).Pairwise lessB) (hn:ns.Nodup) (key:ByteArray) :
  (∀ p∈ps,p.ky=key→getV 128 s root key=(p.vl,0))∧((∀ p∈ps,p.ky≠key)→getV 128 s root key=(⟨#[]⟩,5)):=by
 obtain⟨way,l,q,ms,g1,g2,g3,g4,g5,g6,g7,g8,g9⟩:=h.desc (key:=key) (P:=[]) hd hasc (by simpa using hn)
 have hp:pathV 128 s root key=some (way,l):=by
  unfold pathV
  rw[show goodSize 128=true from rfl,if_pos rfl,if_neg hr,g1]
  rfl
 have hE:pathE 128 s root key=0:=by unfold pathE;rw[hp];rfl
 have hI:pathI 128 s root key=l:=by unfold pathI;rw[hp];rfl
 have hqa:(q.map (·.ky)).Pairwise lessB:=hasc.sublist (g8.map _)
 refine⟨fun p hpm hk=>?_,fun hno=>?_⟩
 ·obtain⟨e1,i,ns',e2,e3⟩:=items_get g6 hqa p (g9 p hpm hk)
  rw[hk] at e1 e2
  unfold getV
  rw[hE,hI,e1,e2]
  simp[e3]
 ·have:=items_none g6 (key:=key) (fun p hp=>hno p (g8.subset hp))
  unfold getV
  rw[hE,hI,this]
  simp
end Go.Proofs.YtanbbnogdhnikaaGreat

