/-
  Texts that the main proof rests on, put together: LaMath, LaOk. No statement is proved here.
-/
import Derived.Test.YtanbbnogdhnikaaGreatJ43
set_option linter.unusedVariables false
set_option linter.unusedSimpArgs false
set_option maxRecDepth 300000
set_option maxHeartbeats 25600000
namespace Go.Proofs.YtanbbnogdhnikaaGreat
open Go.RowKit
open Go.Lib hiding intOf

theorem len8 {z n tx:Nat} {l:List It} (h:mayP8 z n tx l=true):l.length≤65535:=by
 obtain⟨hall,hl0,hg,hroom,hnb,htx⟩:=mayP8_parts h
 have h1:=three_le l
 have h2:=good_pos hg
 omega
theorem may_of_8 {z n tx:Nat} {l:List It} (h:mayP8 z n tx l=true):mayPg z 4 l.length n 0 tx (itemBody z l)=true:=by
 have hlen:=len8 h
 obtain⟨hall,hl0,hg,hroom,hnb,htx⟩:=mayP8_parts h
 have hz:=itemBody_size z l hroom.1
 have hgp:=good_pos hg
 unfold mayPg
 rw[hg,hz]
 simp
 omega
theorem len7 (l:List Fk):5*l.length≤sizeF l:=by
 induction l with
 | nil=>simp[sizeF]
 | cons b l ih=>simp only[sizeF,List.length_cons];omega
theorem may_of_7 {z n tx:Nat} {l:List Fk} (h:mayP7 z n tx l=true):mayPg z 3 l.length n 0 tx (forkBody z l)=true:=by
 have hlen:=len7 l
 obtain⟨hall,hl0,hg,hroom,hnb,htx⟩:=mayP7_parts h
 have hz:=forkBody_size z l hroom.1
 have hgp:=good_pos hg
 unfold mayPg
 rw[hg,hz]
 simp
 omega
theorem leaf_node {n:Nat} {l:List It} (h:mayP8 128 n 3 l=true):(leafPg 128 n l).node=.lf l:=by
 have h1:=readI_page (z:=128) h
 have h0:readF 4 l.length n 0 3 (itemBody 128 l)=none:=by
  cases hr:readF 4 l.length n 0 3 (itemBody 128 l) with
  | none=>rfl
  | some F=>have:=(readF_some hr).2.1;omega
 unfold Pg.node leafPg
 simp only[h0,h1]
theorem br_node {n:Nat} {l:List Fk} (h:mayP7 128 n 3 l=true):(brPg 128 n l).node=.br l:=by
 have h1:=readF_page (z:=128) h
 unfold Pg.node brPg
 simp only[h1]
theorem runW_range {f n:Nat} (h:f+n≤1000000):runW f n=List.range' f n:=by
 unfold runW
 rw[List.range'_eq_map_range]
 refine List.map_congr_left fun i hi=>?_
 have:=List.mem_range.1 hi
 show (f+i)%4294967296=f+i
 omega
theorem need_few {n:Nat} (h:n≤4096):needN 128 (n:Int)≤40:=by
 unfold needN
 split
 ·show ((n:Int).toNat-1)/104+1≤40
  omega
 ·omega
theorem pages_yes {f:Nat} {v:ByteArray} (h1:0<v.size) (h2:v.size≤4096) (hf:2≤f) (hb:f≤900000) : ∃ C,pagesL 128 3 f v=some C∧onL 128 3 (runW f (needN 128 v.size)) v=some C∧nosP C=List.range' f C.length∧C.length≤40∧0<C.length:=by
 have hnf:=need_few h2
 have hps:(runW f (needN 128 v.size)).length=needN 128 v.size:=runW_len _ _
 have hon:=onL_yesN (tx:=3) (ps:=runW f (needN 128 v.size)) h1 h2 (by rw[parts_need,hps]) (fine_run hf (by omega)) (by omega)
 refine⟨_,hon,hon,?_,?_,?_⟩
 ·rw[on_nos rfl,runW_range (by omega),List.length_map,List.length_range,List.length_range']
 ·rw[List.length_map,List.length_range,hps];exact hnf
 ·rw[List.length_map,List.length_range,hps]
  unfold needN
  rw[show goodSize 128=true from rfl,decide_eq_true (show (1:Int)≤v.size by omega)]
  simp
theorem nos_append (a b:List Pg):nosP (a++b)=nosP a++nosP b:=by simp[nosP]
def Num (L:List Pg):Prop:=nosP L=List.range' 2 L.length
theorem Num.append {L C:List Pg} (h:Num L) (hc:nosP C=List.range' (2+L.length) C.length):Num (L++C):=by
 unfold Num at h ⊢
 rw[nos_append,h,hc,List.length_append,← List.range'_append_1]
theorem itemY_is {L:List Pg} {p:Pr} (hL:Num L) (hv:p.vl.size≤4096) (hb:L.length≤100000) : ∃ C,(itemY 128 L p).1=L++C∧Num (L++C)∧C.length≤40∧(∀ q∈C,mayPg 128 q.kd q.ct q.pg q.lk q.tx q.bd=true)∧(itemY 128 L p).2.ky=p.ky∧∀ rd:Nat→Option Pg,(∀ q∈C,rd q.pg=some q)→ItemR rd (itemY 128 L p).2 p.vl (nosP C):=by
 by_cases hin:inB 128 p.vl.size=true
 ·refine⟨[],by unfold itemY;rw[if_pos hin];simp,by simpa using hL,by simp,by simp,by unfold itemY;rw[if_pos hin],fun rd _=>.inl ?_⟩
  unfold itemY
  rw[if_pos hin]
  exact⟨rfl,rfl,rfl⟩
 ·have h1:0<p.vl.size:=by
   rcases Nat.eq_zero_or_pos p.vl.size with h0 | h0
   ·rw[h0] at hin;exact absurd (by decide) hin
   ·exact h0
  obtain⟨C,e1,e2,e3,e4,e5⟩:=pages_yes (f:=2+L.length) h1 hv (by omega) (by omega)
  have hi:itemY 128 L p=(L++C,⟨p.ky,⟨#[]⟩,true,p.vl.size,2+L.length⟩):=by
   unfold itemY
   rw[if_neg hin]
   show (L++(pagesL 128 3 (2+L.length) p.vl).getD [],_)=_
   rw[e1]
   rfl
  rw[hi]
  refine⟨C,rfl,hL.append e3,e4,on_may (z:=128) e2,rfl,fun rd hr=>.inr ⟨rfl,rfl,3,C,?_,?_,hr⟩⟩
  ·rw[on_nos (onL_some (z:=128) e2).2.2.2.2.2.2];exact e2
  ·rw[e3]
   cases hc:C.length with
   | zero=>omega
   | succ k=>rfl
theorem itemsY_is : ∀ {l:List Pr} {L:List Pg},Num L→(∀ p∈l,p.vl.size≤4096)→L.length+40*l.length≤100000→∃ C,(itemsY 128 L l).1=L++C∧Num (L++C)∧C.length≤40*l.length∧(∀ q∈C,mayPg 128 q.kd q.ct q.pg q.lk q.tx q.bd=true)∧(itemsY 128 L l).2.map (·.ky)=l.map (·.ky)∧∀ rd:Nat→Option Pg,(∀ q∈C,rd q.pg=some q)→ItemsR rd (itemsY 128 L l).2 l (nosP C)
 | [],L,hL,_,_=>⟨[],by simp[itemsY],by simpa using hL,by simp,by simp,rfl,fun rd _=>⟨rfl,rfl⟩⟩
 | p::l,L,hL,hv,hb=>by
  simp only[List.length_cons] at hb
  obtain⟨C,e1,e2,e3,e4,e5,e6⟩:=itemY_is hL (hv p (by simp)) (by omega)
  obtain⟨D,f1,f2,f3,f4,f5,f6⟩:=itemsY_is (l:=l) (L:=L++C) e2 (fun q hq=>hv q (List.mem_cons_of_mem _ hq)) (by rw[List.length_append];omega)
  refine⟨C++D,?_,by rw[← List.append_assoc];exact f2,by simp only[List.length_append,List.length_cons];omega,?_,?_,?_⟩
  ·simp only[itemsY,e1,f1,List.append_assoc]
  ·intro q hq
   rcases List.mem_append.1 hq with h | h
   ·exact e4 q h
   ·exact f4 q h
  ·simp only[itemsY,List.map_cons,e5,e1,f5]
  ·intro rd hr
   have h1:=e6 rd (fun q hq=>hr q (List.mem_append_left _ hq))
   have h2:=f6 rd (fun q hq=>hr q (List.mem_append_right _ hq))
   simp only[itemsY,e1]
   exact⟨p.vl,nosP C,l,nosP D,by rw[e5],by rw[nos_append],h1,h2⟩
theorem ItemsR.split {rd:Nat→Option Pg} : ∀ {a b:List It} {ps:List Pr} {ns:List Nat},ItemsR rd (a++b) ps ns→∃ p1 p2 n1 n2,ps=p1++p2∧ns=n1++n2∧ItemsR rd a p1 n1∧ItemsR rd b p2 n2
 | [],b,ps,ns,h=>⟨[],ps,[],ns,rfl,rfl,⟨rfl,rfl⟩,h⟩
 | i::a,b,ps,ns,⟨v,n1,p2,n2,h1,h2,h3,h4⟩=>by
  obtain⟨q1,q2,m1,m2,e1,e2,e3,e4⟩:=ItemsR.split h4
  subst h1 h2 e1 e2
  exact⟨_::q1,q2,n1++m1,m2,rfl,by rw[List.append_assoc],⟨v,n1,q1,m1,rfl,rfl,h3,e3⟩,e4⟩
theorem ForksR.split {T:Nat→List Pr→List Nat→Prop} : ∀ {a b:List Fk} {ps:List Pr} {ns:List Nat},ForksR T (a++b) ps ns→∃ p1 p2 n1 n2,ps=p1++p2∧ns=n1++n2∧ForksR T a p1 n1∧ForksR T b p2 n2
 | [],b,ps,ns,h=>⟨[],ps,[],ns,rfl,rfl,⟨rfl,rfl⟩,h⟩
 | i::a,b,ps,ns,⟨p1,p2,n1,n2,h1,h2,h3,h4,h5⟩=>by
  obtain⟨q1,q2,m1,m2,e1,e2,e3,e4⟩:=ForksR.split h5
  subst h1 h2 e1 e2
  exact⟨p1++q1,q2,n1++m1,m2,by rw[List.append_assoc],by rw[List.append_assoc],⟨p1,q1,n1,m1,rfl,rfl,h3,h4,e3⟩,e4⟩
theorem leaves_tree {rd:Nat→Option Pg} : ∀ {parts:List (List It)} {N:Nat} {ps:List Pr} {ns:List Nat},ItemsR rd parts.flatten ps ns→(∀ q∈parts,q ≠ [])→leafMay 128 N parts=true→(∀ q∈leafPgs 128 N parts,rd q.pg=some q) →
  ∃ ms,ForksR (TreeR rd 1) (leafFks N parts) ps ms∧ms.Perm (nosP (leafPgs 128 N parts)++ns)
 | [],N,ps,ns,⟨h1,h2⟩,_,_,_=>⟨[],⟨h1,rfl⟩,by subst h2;exact List.Perm.refl _⟩
 | p::parts,N,ps,ns,h,hne,hm,hr=>by
  rw[List.flatten_cons] at h
  obtain⟨p1,p2,n1,n2,h1,h2,h3,h4⟩:=h.split
  simp only[leafMay,Bool.and_eq_true] at hm
  obtain⟨ms,e1,e2⟩:=leaves_tree h4 (fun q hq=>hne q (List.mem_cons_of_mem _ hq)) hm.2 (fun q hq=>hr q (by unfold leafPgs;exact List.mem_cons_of_mem _ hq))
  have hp:=hne p (by simp)
  have hrd:rd N=some (leafPg 128 N p):=hr (leafPg 128 N p) (by unfold leafPgs;simp)
  subst h1 h2
  refine⟨(N::n1)++ms,⟨p1,p2,N::n1,ms,rfl,rfl,⟨leafPg 128 N p,n1,hrd,rfl,.inl ⟨rfl,p,leaf_node hm.1,hp,h3⟩⟩,?_,e1⟩,?_⟩
  ·cases p with
   | nil=>exact absurd rfl hp
   | cons i t =>
    obtain⟨v,m1,q2,m2,f1,_⟩:=h3
    subst f1
    rfl
  ·show (N::(n1++ms)).Perm (N::(nosP (leafPgs 128 (N+1) parts)++(n1++n2)))
   refine List.Perm.cons N ?_
   refine (List.Perm.append_left n1 e2).trans ?_
   rw[← List.append_assoc,← List.append_assoc]
   exact List.Perm.append_right n2 List.perm_append_comm
theorem branches_tree {rd:Nat→Option Pg} {d:Nat} : ∀ {parts:List (List Fk)} {N:Nat} {ps:List Pr} {ns:List Nat},ForksR (TreeR rd d) parts.flatten ps ns→(∀ q∈parts,q ≠ [])→brMay 128 N parts=true→(∀ q∈brPgs 128 N parts,rd q.pg=some q) →
  ∃ ms,ForksR (TreeR rd (d+1)) (brFks N parts) ps ms∧ms.Perm (nosP (brPgs 128 N parts)++ns)
 | [],N,ps,ns,⟨h1,h2⟩,_,_,_=>⟨[],⟨h1,rfl⟩,by subst h2;exact List.Perm.refl _⟩
 | p::parts,N,ps,ns,h,hne,hm,hr=>by
  rw[List.flatten_cons] at h
  obtain⟨p1,p2,n1,n2,h1,h2,h3,h4⟩:=h.split
  simp only[brMay,Bool.and_eq_true] at hm
  obtain⟨ms,e1,e2⟩:=branches_tree h4 (fun q hq=>hne q (List.mem_cons_of_mem _ hq)) hm.2 (fun q hq=>hr q (by unfold brPgs;exact List.mem_cons_of_mem _ hq))
  have hp:=hne p (by simp)
  have hrd:rd N=some (brPg 128 N p):=hr (brPg 128 N p) (by unfold brPgs;simp)
  subst h1 h2
  refine⟨(N::n1)++ms,⟨p1,p2,N::n1,ms,rfl,rfl,⟨brPg 128 N p,n1,hrd,rfl,.inr ⟨p,br_node hm.1,hp,h3⟩⟩,?_,e1⟩,?_⟩
  ·cases p with
   | nil=>exact absurd rfl hp
   | cons i t =>
    obtain⟨q1,q2,m1,m2,f1,f2,f3,f4,f5⟩:=h3
    subst f1
    show (q1++q2).head?.map (·.ky)=some i.nm
    cases q1 with
    | nil=>simp at f4
    | cons a b=>simpa using f4
  ·show (N::(n1++ms)).Perm (N::(nosP (brPgs 128 (N+1) parts)++(n1++n2)))
   refine List.Perm.cons N ?_
   refine (List.Perm.append_left n1 e2).trans ?_
   rw[← List.append_assoc,← List.append_assoc]
   exact List.Perm.append_right n2 List.perm_append_comm
theorem leafPgs_nos (z:Nat) : ∀ (parts:List (List It)) (N:Nat),nosP (leafPgs z N parts)=List.range' N parts.length
 | [],N=>rfl
 | p::t,N=>by
  show N::nosP (leafPgs z (N+1) t)=_
  rw[leafPgs_nos z t (N+1)]
  rfl
theorem brPgs_nos (z:Nat) : ∀ (parts:List (List Fk)) (N:Nat),nosP (brPgs z N parts)=List.range' N parts.length
 | [],N=>rfl
 | p::t,N=>by
  show N::nosP (brPgs z (N+1) t)=_
  rw[brPgs_nos z t (N+1)]
  rfl
theorem leafPgs_may : ∀ {parts:List (List It)} {N:Nat},leafMay 128 N parts=true→∀ q∈leafPgs 128 N parts,mayPg 128 q.kd q.ct q.pg q.lk q.tx q.bd=true
 | [],N,_,q,hq=>by simp[leafPgs] at hq
 | p::t,N,hm,q,hq=>by
  simp only[leafMay,Bool.and_eq_true] at hm
  unfold leafPgs at hq
  rcases List.mem_cons.1 hq with rfl | hq
  ·exact may_of_8 (z:=128) hm.1
  ·exact leafPgs_may hm.2 q hq
theorem brPgs_may : ∀ {parts:List (List Fk)} {N:Nat},brMay 128 N parts=true→∀ q∈brPgs 128 N parts,mayPg 128 q.kd q.ct q.pg q.lk q.tx q.bd=true
 | [],N,_,q,hq=>by simp[brPgs] at hq
 | p::t,N,hm,q,hq=>by
  simp only[brMay,Bool.and_eq_true] at hm
  unfold brPgs at hq
  rcases List.mem_cons.1 hq with rfl | hq
  ·exact may_of_7 (z:=128) hm.1
  ·exact brPgs_may hm.2 q hq
theorem cutG_half {α:Type} {sz:List α→Nat} {room:Nat} {l0:List α} (h2 : ∀ l':List α,l'.length≤2→(∀ x∈l',x∈l0)→sz l'≤room) : ∀ (d:Nat) (l:List α),(∀ x∈l,x∈l0)→2*(cutG sz room d l).length≤l.length+1
 | 0,l,_=>by simp[cutG]
 | d+1,l,hl=>by
  by_cases h0:l=[]
  ·subst h0;simp[cutG]
  ·have hpos:0<l.length:=List.length_pos_iff.2 h0
   have ih:=cutG_half h2 d (l.drop (growT sz room l l.length 1)) (fun x hx=>hl x (List.mem_of_mem_drop hx))
   have hg1:=growT_ge (sz:=sz) (room:=room) l l.length 1
   rw[List.length_drop] at ih
   rw[cutG_cons h0,List.length_cons]
   by_cases h1:l.length=1
   ·have hn:l.drop (growT sz room l l.length 1)=[]:=List.drop_eq_nil_of_le (by omega)
    rw[hn,cutG_nil]
    simp
    omega
   ·have h3:2≤growT sz room l l.length 1:=by
     obtain⟨m,hm⟩ : ∃ m,l.length=m+1:=⟨l.length-1,by omega⟩
     rw[hm,growT_step l ⟨by omega,h2 _ (by rw[List.length_take];omega) (fun x hx=>hl x (List.mem_of_mem_take hx))⟩]
     exact growT_ge _ _ _
    omega
theorem brMay_keys : ∀ {parts:List (List Fk)} {N:Nat},brMay 128 N parts=true→∀ b∈parts.flatten,b.nm.size≤40
 | [],N,_,b,hb=>by simp at hb
 | p::t,N,hm,b,hb=>by
  simp only[brMay,Bool.and_eq_true] at hm
  rw[List.flatten_cons] at hb
  rcases List.mem_append.1 hb with h | h
  ·have hall:=(mayP7_parts hm.1).1
   obtain⟨i,hi,hib⟩:=List.mem_iff_getElem.1 h
   rw[allOkF,List.all_eq_true] at hall
   have:=hall i (List.mem_range.2 hi)
   unfold okAtF at this
   rw[List.getElem?_eq_getElem hi,hib] at this
   simp only[Bool.and_eq_true] at this
   have h3:=this.1
   have h4:b.nm.size≤40∧numB b.rt=true:=by simpa [okFk,keyF] using h3
   exact h4.1
  ·exact brMay_keys hm.2 b h
theorem two_fit {F:List Fk} (h : ∀ b∈F,b.nm.size≤40) : ∀ l':List Fk,l'.length≤2→(∀ x∈l',x∈F)→sizeF l'≤104
 | [],_,_=>by simp[sizeF]
 | [a],_,hx=>by have:=h a (hx a (by simp));simp only[sizeF];omega
 | [a,b],_,hx=>by have:=h a (hx a (by simp));have:=h b (hx b (by simp));simp only[sizeF];omega
 | a::b::c::t,hl,_=>by simp at hl
theorem levels_keep {q:Pg} : ∀ {f:Nat} {L:List Pg} {F:List Fk},q∈L→q∈(levelsY 128 f L F).1
 | 0,L,F,h=>h
 | f+1,L,F,h=>by
  unfold levelsY
  split
  ·exact h
  ·exact levels_keep (List.mem_append_left _ h)
theorem levels_tree {rd:Nat→Option Pg} : ∀ {f d k:Nat} {L:List Pg} {F:List Fk} {ps:List Pr} {ns:List Nat},ForksR (TreeR rd d) F ps ns→ns.Perm (nosP L)→Num L→(∀ q∈L,mayPg 128 q.kd q.ct q.pg q.lk q.tx q.bd=true)→LevOk f L F→F.length≤2 ^ k→(∀ q∈(levelsY 128 f L F).1,rd q.pg=some q) →
  ∃ d' ns',d'≤d+k∧d≤d'∧(levelsY 128 f L F).2.length≤1∧ForksR (TreeR rd d') (levelsY 128 f L F).2 ps ns'∧ns'.Perm (nosP (levelsY 128 f L F).1)∧Num (levelsY 128 f L F).1∧(∀ q∈(levelsY 128 f L F).1,mayPg 128 q.kd q.ct q.pg q.lk q.tx q.bd=true)
 | 0,d,k,L,F,ps,ns,h,hp,hn,hm,hv,hk,hr=>⟨d,ns,by omega,by omega,hv.1,h,hp,hn,hm⟩
 | f+1,d,k,L,F,ps,ns,h,hp,hn,hm,hv,hk,hr=>by
  by_cases h1:F.length≤1
  ·rw[levelsY_one h1] at hr ⊢
   exact⟨d,ns,by omega,by omega,h1,h,hp,hn,hm⟩
  ·rcases hv with hv | ⟨hv1,hv2,hv3,hv4,hv5,hv6⟩
   ·exact absurd hv.1 h1
   rw[levelsY_more hv1] at hr ⊢
   have hfl:(cutG sizeF 104 F.length F).flatten=F:=cutG_flat _ _ (Nat.le_refl _)
   have hkeys:=brMay_keys hv2
   rw[hfl] at hkeys
   have hhalf:=cutG_half (two_fit hkeys) F.length F (fun x hx=>hx)
   obtain⟨k',rfl⟩ : ∃ k',k=k'+1:=by
    cases k with
    | zero=>simp at hk;omega
    | succ k=>exact⟨k,rfl⟩
   have hk':(brFks (2+L.length) (cutG sizeF 104 F.length F)).length≤2 ^ k':=by
    rw[brFks_len]
    rw[Nat.pow_succ] at hk
    omega
   have hrb : ∀ q∈brPgs 128 (2+L.length) (cutG sizeF 104 F.length F),rd q.pg=some q:=fun q hq=>hr q (levels_keep (List.mem_append_right _ hq))
   obtain⟨ms,e1,e2⟩:=branches_tree (by rw[hfl];exact h) (cutG_ne _ _) hv2 hrb
   obtain⟨d',ns',g1,g2,g3⟩:=levels_tree e1 (e2.trans (by rw[nos_append];exact (List.perm_append_comm).trans (List.Perm.append_right _ hp))) (hn.append (by rw[brPgs_nos,brPgs_len])) (fun q hq=>by
    rcases List.mem_append.1 hq with h | h
    ·exact hm q h
    ·exact brPgs_may hv2 q h) hv6 hk' hr
   exact⟨d',ns',by omega,by omega,g3⟩
def lessB (a b:ByteArray):Prop:=Op.bytesLess a.toList b.toList=true
structure FkGood (F:List Fk):Prop where
 all : ∀ b∈F,b.nm.size≤40∧numB b.rt=true
 asc:(F.map (·.nm)).Pairwise lessB
theorem FkGood.part {F p:List Fk} (h:FkGood F) (hs:p.Sublist F):FkGood p:=⟨fun b hb=>h.all b (hs.subset hb),h.asc.sublist (hs.map _)⟩
theorem FkGood.ok {F:List Fk} (h:FkGood F):allOkF F=true:=by
 rw[allOkF,List.all_eq_true]
 intro i hi
 have hi:=List.mem_range.1 hi
 unfold okAtF
 rw[List.getElem?_eq_getElem hi]
 have h1:=h.all F[i] (List.getElem_mem hi)
 have h2:okFk F[i]=true:=by simp[okFk,keyF,h1.1,h1.2]
 simp only[h2,Bool.true_and]
 cases i with
 | zero=>simp
 | succ i =>
  have h3:=List.pairwise_iff_getElem.1 h.asc i (i+1) (by simpa using Nat.lt_of_succ_lt hi) (by simpa using hi) (by omega)
  simp only[List.getElem_map] at h3
  simp only[Nat.add_sub_cancel]
  rw[List.getElem?_eq_getElem (Nat.lt_of_succ_lt hi)]
  simpa [lessB] using h3
theorem brMay_good : ∀ {parts:List (List Fk)} {N:Nat},FkGood parts.flatten→(∀ p∈parts,p ≠ [])→(∀ p∈parts,sizeF p≤104)→2≤N→N+parts.length≤2147483647→brMay 128 N parts=true
 | [],N,_,_,_,_,_=>rfl
 | p::t,N,h,hne,hs,hN,hb=>by
  rw[List.flatten_cons] at h
  simp only[List.length_cons] at hb
  have hp:=h.part (List.sublist_append_left p t.flatten)
  have ht:=brMay_good (N:=N+1) (h.part (List.sublist_append_right p t.flatten)) (fun q hq=>hne q (List.mem_cons_of_mem _ hq)) (fun q hq=>hs q (List.mem_cons_of_mem _ hq)) (by omega) (by omega)
  have h0:0<p.length:=List.length_pos_iff.2 (hne p (by simp))
  have hz:=hs p (by simp)
  simp only[brMay,ht,Bool.and_true]
  unfold mayP7 mayF
  rw[hp.ok,decide_eq_true h0]
  have hn:numB N=true:=by simp[numB];omega
  rw[hn]
  have hg:goodSize ((128:Nat):Int)=true:=rfl
  rw[hg]
  simp
  omega
theorem brFks_sub : ∀ (parts:List (List Fk)) (N:Nat),(∀ p∈parts,p ≠ [])→((brFks N parts).map (·.nm)).Sublist (parts.flatten.map (·.nm))
 | [],N,_=>by simp[brFks]
 | p::t,N,hne=>by
  rw[List.flatten_cons,List.map_append]
  cases p with
  | nil=>exact absurd rfl (hne [] (by simp))
  | cons b p =>
   show (b.nm::(brFks (N+1) t).map (·.nm)).Sublist (b.nm::(p.map (·.nm)++t.flatten.map (·.nm)))
   exact ((brFks_sub t (N+1) (fun q hq=>hne q (List.mem_cons_of_mem _ hq))).trans (List.sublist_append_right _ _)).cons_cons _
theorem brFks_rt : ∀ (parts:List (List Fk)) (N:Nat),∀ b∈brFks N parts,N≤b.rt∧b.rt<N+parts.length
 | [],N,b,hb=>by simp[brFks] at hb
 | p::t,N,b,hb=>by
  unfold brFks at hb
  rcases List.mem_cons.1 hb with rfl | hb
  ·simp
  ·have:=brFks_rt t (N+1) b hb
   simp only[List.length_cons]
   omega
theorem brFks_good {parts:List (List Fk)} {N:Nat} (h:FkGood parts.flatten) (hne : ∀ p∈parts,p ≠ []) (hN:2≤N) (hb:N+parts.length≤2147483647):FkGood (brFks N parts):=by
 have hs:=brFks_sub parts N hne
 refine⟨fun b hbm=>⟨?_,?_⟩,h.asc.sublist hs⟩
 ·obtain⟨c,hc,he⟩:=List.mem_map.1 (hs.subset (List.mem_map_of_mem hbm))
  have he:c.nm=b.nm:=he
  rw[← he]
  exact (h.all c hc).1
 ·have:=brFks_rt parts N b hbm
  simp[numB]
  omega
theorem sizeF_le {F:List Fk} (h : ∀ b∈F,b.nm.size≤40):sizeF F≤45*F.length:=by
 induction F with
 | nil=>simp[sizeF]
 | cons b F ih =>
  have h1:=h b (by simp)
  have h2:=ih (fun c hc=>h c (List.mem_cons_of_mem _ hc))
  simp only[sizeF,List.length_cons]
  omega
theorem levOk_good : ∀ {f:Nat} {L:List Pg} {F:List Fk},FkGood F→F.length≤f+1→F.length≤1000→L.length+f*F.length≤100000→LevOk f L F
 | 0,L,F,h,hf,hl,hb=>⟨by omega,by omega⟩
 | f+1,L,F,h,hf,hl,hb=>by
  have hmul:(f+1)*F.length=f*F.length+F.length:=by rw[Nat.add_mul,Nat.one_mul]
  by_cases h1:F.length≤1
  ·exact .inl ⟨h1,by omega⟩
  ·have hfl:(cutG sizeF 104 F.length F).flatten=F:=cutG_flat _ _ (Nat.le_refl _)
   have hcl:=cutG_len (sz:=sizeF) (room:=104) F.length F
   have hkeys : ∀ b∈F,b.nm.size≤40:=fun b hb=>(h.all b hb).1
   have hhalf:=cutG_half (two_fit hkeys) F.length F (fun x hx=>hx)
   have hg:FkGood (cutG sizeF 104 F.length F).flatten:=by rw[hfl];exact h
   have hne:=cutG_ne (sz:=sizeF) (room:=104) F.length F
   have hfit:=cutG_fits (sz:=sizeF) (room:=104) F.length F (fun x hx=>two_fit hkeys [x] (by simp) (fun y hy=>by simp at hy;subst hy;exact hx))
   have hsz:=sizeF_le hkeys
   refine .inr ⟨by omega,brMay_good hg hne hfit (by omega) (by omega),hl,by omega,by omega,?_⟩
   refine levOk_good (brFks_good hg hne (by omega) (by omega)) (by rw[brFks_len];omega) (by rw[brFks_len];omega) ?_
   rw[brFks_len,List.length_append,brPgs_len]
   have:f*(cutG sizeF 104 F.length F).length≤f*F.length:=Nat.mul_le_mul_left f hcl
   omega
theorem leafMay_keys : ∀ {parts:List (List It)} {N:Nat},leafMay 128 N parts=true→∀ b∈parts.flatten,b.ky.size≤40
 | [],N,_,b,hb=>by simp at hb
 | p::t,N,hm,b,hb=>by
  simp only[leafMay,Bool.and_eq_true] at hm
  rw[List.flatten_cons] at hb
  rcases List.mem_append.1 hb with h | h
  ·have hall:=(mayP8_parts hm.1).1
   obtain⟨i,hi,hib⟩:=List.mem_iff_getElem.1 h
   rw[allOkI,List.all_eq_true] at hall
   have:=hall i (List.mem_range.2 hi)
   unfold okAtI at this
   rw[List.getElem?_eq_getElem hi,hib] at this
   simp only[Bool.and_eq_true] at this
   have h3:=okIt_key this.1
   exact h3
  ·exact leafMay_keys hm.2 b h
theorem leafFks_sub : ∀ (parts:List (List It)) (N:Nat),(∀ p∈parts,p ≠ [])→((leafFks N parts).map (·.nm)).Sublist (parts.flatten.map (·.ky))
 | [],N,_=>by simp[leafFks]
 | p::t,N,hne=>by
  rw[List.flatten_cons,List.map_append]
  cases p with
  | nil=>exact absurd rfl (hne [] (by simp))
  | cons b p =>
   show (b.ky::(leafFks (N+1) t).map (·.nm)).Sublist (b.ky::(p.map (·.ky)++t.flatten.map (·.ky)))
   exact ((leafFks_sub t (N+1) (fun q hq=>hne q (List.mem_cons_of_mem _ hq))).trans (List.sublist_append_right _ _)).cons_cons _
theorem leafFks_rt : ∀ (parts:List (List It)) (N:Nat),∀ b∈leafFks N parts,N≤b.rt∧b.rt<N+parts.length
 | [],N,b,hb=>by simp[leafFks] at hb
 | p::t,N,b,hb=>by
  unfold leafFks at hb
  rcases List.mem_cons.1 hb with rfl | hb
  ·simp
  ·have:=leafFks_rt t (N+1) b hb
   simp only[List.length_cons]
   omega
theorem leafFks_good {parts:List (List It)} {N:Nat} (hm:leafMay 128 N parts=true) (hasc:(parts.flatten.map (·.ky)).Pairwise lessB) (hne : ∀ p∈parts,p ≠ []) (hN:2≤N) (hb:N+parts.length≤2147483647):FkGood (leafFks N parts):=by
 have hs:=leafFks_sub parts N hne
 refine⟨fun b hbm=>⟨?_,?_⟩,hasc.sublist hs⟩
 ·obtain⟨c,hc,he⟩:=List.mem_map.1 (hs.subset (List.mem_map_of_mem hbm))
  have he:c.ky=b.nm:=he
  rw[← he]
  exact leafMay_keys hm c hc
 ·have:=leafFks_rt parts N b hbm
  simp[numB]
  omega
theorem itemsY_mem : ∀ {l:List Pr} {L:List Pg} {x:It},x∈(itemsY 128 L l).2→∃ p∈l,x.ky=p.ky∧x.vl.size≤p.vl.size
 | [],L,x,h=>by simp[itemsY] at h
 | p::l,L,x,h=>by
  simp only[itemsY] at h
  rcases List.mem_cons.1 h with rfl | h
  ·refine⟨p,by simp,?_⟩
   unfold itemY
   split
   ·exact⟨rfl,Nat.le_refl _⟩
   ·exact⟨rfl,Nat.zero_le _⟩
  ·obtain⟨q,hq,h2⟩:=itemsY_mem h
   exact⟨q,List.mem_cons_of_mem _ hq,h2⟩
theorem sizeI_bound : ∀ {l:List It} {m:Nat},(∀ x∈l,oneI x≤m)→sizeI l≤m*l.length
 | [],m,_=>by simp[sizeI]
 | b::l,m,h=>by
  have h1:=h b (by simp)
  have h2:=sizeI_bound (l:=l) (m:=m) (fun c hc=>h c (List.mem_cons_of_mem _ hc))
  simp only[sizeI,List.length_cons,Nat.mul_add,Nat.mul_one]
  omega
theorem num_nil:Num []:=rfl
theorem layOk_light {l:List Pr} (h60:l.length≤60) (hs : ∀ p∈l,p.ky.size≤2500∧p.vl.size≤2500) (hasc:(l.map (·.ky)).Pairwise lessB):LayOk l:=by
 have hpgs : ∀ k,(itemsY 128 [] (l.take k)).1.length≤2400:=fun k=>by
  obtain⟨C,e1,_,e3,_⟩:=itemsY_is (l:=l.take k) num_nil (fun p hp=>by have:=(hs p (List.mem_of_mem_take hp)).2;omega) (by simp;omega)
  rw[e1,List.nil_append]
  have:(l.take k).length≤l.length:=by simp;omega
  omega
 obtain⟨C,e1,e2,e3,e4,e5,e6⟩:=itemsY_is (l:=l) num_nil (fun p hp=>by have:=(hs p hp).2;omega) (by simp;omega)
 have hil:(itemsY 128 [] l).2.length=l.length:=itemsY_len 128 l []
 have hfl:(ptsY l).flatten=(itemsY 128 [] l).2:=cutG_flat _ _ (by rw[hil];exact Nat.le_refl _)
 have hpl:(ptsY l).length≤l.length:=by have:=cutG_len (sz:=sizeI) (room:=104) l.length (itemsY 128 [] l).2;rw[hil] at this;exact this
 have hp0:=hpgs l.length
 rw[List.take_length] at hp0
 refine⟨by omega,fun p hp=>by have:=(hs p hp).2;omega,fun k=>by have:=hpgs k;omega,?_,?_,?_⟩
 ·intro x hx
  obtain⟨p,hp,h1,h2⟩:=itemsY_mem hx
  have:=hs p hp
  rw[h1]
  omega
 ·have:=sizeI_bound (l:=(itemsY 128 [] l).2) (m:=6000) (fun x hx=>by
   obtain⟨p,hp,h1,h2⟩:=itemsY_mem hx
   have:=hs p hp
   unfold oneI
   rw[h1]
   split<;>omega)
  rw[hil] at this
  omega
 ·intro hok
  have hne:=cutG_ne (sz:=sizeI) (room:=104) l.length (itemsY 128 [] l).2
  have hg:FkGood (fksY l):=leafFks_good hok (by rw[hfl,e5];exact hasc) hne (by omega) (by omega)
  have hfll:(fksY l).length=(ptsY l).length:=leafFks_len _ _
  have hpgl:(pgsY l).length≤2500:=by unfold pgsY;rw[List.length_append,leafPgs_len];omega
  refine levOk_good hg (by omega) (by omega) ?_
  have:l.length*(fksY l).length≤60*60:=Nat.mul_le_mul h60 (by omega)
  omega
end Go.Proofs.YtanbbnogdhnikaaGreat

