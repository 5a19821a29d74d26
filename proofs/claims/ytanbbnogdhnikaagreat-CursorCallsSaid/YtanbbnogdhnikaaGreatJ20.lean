/-
  Texts that the main proof rests on, put together: CnV, Tr, Lay, Ref11S, Ref10Page, Ref10Of, BrRead, FnRow. No statement is proved here.
-/
import Derived.Test.YtanbbnogdhnikaaGreatJ15
import Derived.Test.YtanbbnogdhnikaaGreatJ19
import Derived.Test.YtanbbnogdhnikaaGreatJ11
set_option linter.unusedVariables false
set_option linter.unusedSimpArgs false
set_option maxRecDepth 300000
set_option maxHeartbeats 25600000
namespace Go.Proofs.YtanbbnogdhnikaaGreat
open Go.RowKit
open Go.Lib hiding intOf

def Pg.over (p:Pg):Option ByteArray:=readO p.kd p.ct p.pg p.lk p.tx p.bd
def valV (L:List Pg):Option ByteArray:=L.foldl (fun a p=>match a,p.over with | some v,some s=>some (v++s) | _,_=>none) (some ⟨#[]⟩)
theorem valV_snoc (L:List Pg) (p:Pg):valV (L++[p])=match valV L,p.over with | some v,some s=>some (v++s) | _,_=>none:=by unfold valV;rw[List.foldl_append];rfl
theorem valV_none {L:List Pg} (h:valV L=none) : ∀ M,valV (L++M)=none:=by
 intro M
 induction M generalizing L with
 | nil=>simpa using h
 | cons p t ih =>
  rw[show L++p::t=(L++[p])++t by simp]
  exact ih (by rw[valV_snoc,h])
theorem take_snoc_at {α:Type} {L:List α} {k:Nat} {p:α} (h:L[k]? = some p):L.take (k+1)=L.take k++[p]:=by
 obtain⟨h1,h2⟩:=List.getElem?_eq_some_iff.1 h
 rw[List.take_succ_eq_append_getElem h1,h2]
def readV (size:Int) (s:ByteArray) (head:Nat) (len:Int):Option (ByteArray×List Nat) :=
 if chainOk size s 5 head then (match valV (chainL size s 5 head) with
  | some v=>if 1≤len∧(v.size:Int)=len then some (v,(chainL size s 5 head).map (·.pg)) else none
  | none=>none) else none
def fineL (l:List Nat):Bool:=l.all numB&&decide l.Nodup
def nextL (l:List Nat) (i:Nat):Nat:=if i+1<l.length then nthU l (i+1) else 0
def onL (size:Int) (tx:Nat) (ps:List Nat) (v:ByteArray):Option (List Pg) :=
 if goodSize size&&(decide (0<v.size)&&(decide (v.size≤4096)&&(decide ((partsL size v).length=ps.length)&&(fineL ps&&decide (tx≤4611686018427387904))))) then
  some ((List.range ps.length).map fun i=>⟨5,((partsL size v).getD i ⟨#[]⟩).size,nthU ps i,nextL ps i,tx,overBody size.toNat ((partsL size v).getD i ⟨#[]⟩)⟩)
 else none
structure Pr where
 ky:ByteArray
 vl:ByteArray
def Pr.cells (b:Pr):List Value:=[.string b.ky,.string b.vl]
theorem Pr.cells_len (b:Pr):b.cells.length=2:=rfl
def Pr.zero:Pr:=⟨⟨#[]⟩,⟨#[]⟩⟩
def prc (l:List Pr):List Value:=rowsOf Pr.cells l
theorem prc_snoc (l:List Pr) (b:Pr):prc l++b.cells=prc (l++[b]):=by simp[prc,rowsOf]
theorem prc_append (l m:List Pr):prc (l++m)=prc l++prc m:=rowsOf_append l m
inductive Nd where
 | none
 | br (l:List Fk)
 | lf (l:List It)
def Pg.node (p:Pg):Nd:=match readF p.kd p.ct p.pg p.lk p.tx p.bd with
 | some l=>.br l
 | none=>match readI p.kd p.ct p.pg p.lk p.tx p.bd with
  | some l=>.lf l
  | none=>.none
def nodeN (size:Int) (s:ByteArray) (n:Nat):Nd:=match readAt size s n with
 | some p=>p.node
 | none=>.none
def valN (size:Int) (s:ByteArray) (i:It):Option (ByteArray×List Nat):=if i.ov then readV size s i.hd i.ln else some (i.vl,[])
def visitL (L:List Nat):List Nat→Option (List Nat)
 | []=>some L
 | n::t=>if n∈L then none else visitL (L++[n]) t
theorem visitL_some : ∀ {t L M:List Nat},visitL L t=some M→M=L++t
 | [],L,M,h=>by simp[visitL] at h;simp[h]
 | n::t,L,M,h=>by
  simp only[visitL] at h
  split at h
  ·cases h
  ·rw[visitL_some h];simp
theorem visitL_snoc : ∀ (t:List Nat) (L:List Nat) (n:Nat),visitL L (t++[n])=match visitL L t with | some M=>if n∈M then none else some (M++[n]) | none=>none
 | [],L,n=>by simp only[List.nil_append,visitL]
 | m::t,L,n=>by
  simp only[List.cons_append,visitL]
  split
  ·rfl
  ·exact visitL_snoc t _ n
theorem visitL_none {t:List Nat} {L:List Nat} (h:visitL L t=none) : ∀ u,visitL L (t++u)=none:=by
 intro u
 induction u generalizing t with
 | nil=>simpa using h
 | cons n u ih =>
  rw[show t++n::u=(t++[n])++u by simp]
  exact ih (by rw[visitL_snoc,h])
theorem visitL_front {t:List Nat} {L:List Nat} {k:Nat} (h:visitL L (t.take k)=none):visitL L t=none:=by
 have:=visitL_none h (t.drop k)
 rwa [List.take_append_drop] at this
theorem visitL_nodup : ∀ {t L M:List Nat},L.Nodup→visitL L t=some M→M.Nodup
 | [],L,M,hn,h=>by simp[visitL] at h;exact h ▸ hn
 | n::t,L,M,hn,h=>by
  simp only[visitL] at h
  split at h
  ·cases h
  ·rename_i hm
   refine visitL_nodup ?_ h
   rw[List.nodup_append]
   exact⟨hn,by simp,fun a ha b hb=>by simp at hb;subst hb;exact fun e=>hm (e ▸ ha)⟩
theorem visitL_ok : ∀ {t L:List Nat},(L++t).Nodup→visitL L t=some (L++t)
 | [],L,_=>by simp[visitL]
 | n::t,L,h=>by
  have h1:n ∉ L:=fun hm=>by
   rw[List.nodup_append] at h
   exact h.2.2 n hm n (by simp) rfl
  simp only[visitL,if_neg h1]
  rw[visitL_ok (by simpa using h)]
  simp
abbrev Tv:=List Pr×Option (List Nat)
def itemsT (size:Int) (s:ByteArray):List It→List Nat→Tv
 | [],L=>([],some L)
 | i::t,L=>match valN size s i with
  | none=>([],none)
  | some (v,ps)=>match visitL L ps with
   | none=>([],none)
   | some M=>(⟨i.ky,v⟩::(itemsT size s t M).1,(itemsT size s t M).2)
def forksT (f:Nat→List Nat→Tv):List Fk→List Nat→Tv
 | [],L=>([],some L)
 | b::t,L=>match (f b.rt L).2 with
  | none=>((f b.rt L).1,none)
  | some M=>((f b.rt L).1++(forksT f t M).1,(forksT f t M).2)
def trav (size:Int) (s:ByteArray):Nat→Nat→List Nat→Tv
 | 0,_,_=>([],none)
 | d+1,n,L=>if n∈L then ([],none) else match nodeN size s n with
  | .none=>([],none)
  | .lf l=>itemsT size s l (L++[n])
  | .br l=>forksT (trav size s d) l (L++[n])
def treeV (size:Int) (s:ByteArray) (root:Nat):Tv:=if goodSize size then (if root=0 then ([],some []) else trav size s 16 root []) else ([],none)
def treeE (size:Int) (s:ByteArray) (root:Nat):Int:=if goodSize size then (if (treeV size s root).2.isSome then 0 else 4) else 2
def descT (size:Int) (s:ByteArray) (key:ByteArray):Nat→Nat→List Nat→Option (List Nat×List It)
 | 0,_,_=>none
 | d+1,n,P=>if n∈P then none else match nodeN size s n with
  | .none=>none
  | .lf l=>some (P++[n],l)
  | .br l=>descT size s key d ((l[pickF l key]?.map (·.rt)).getD 0) (P++[n])
def pathV (size:Int) (s:ByteArray) (root:Nat) (key:ByteArray):Option (List Nat×List It):=if goodSize size then (if root=0 then some ([],[]) else descT size s key 16 root []) else none
def pathE (size:Int) (s:ByteArray) (root:Nat) (key:ByteArray):Int:=if goodSize size then (if (pathV size s root key).isSome then 0 else 4) else 2
def pathL (size:Int) (s:ByteArray) (root:Nat) (key:ByteArray):List Nat:=((pathV size s root key).map (·.1)).getD []
def pathI (size:Int) (s:ByteArray) (root:Nat) (key:ByteArray):List It:=((pathV size s root key).map (·.2)).getD []
def getV (size:Int) (s:ByteArray) (root:Nat) (key:ByteArray):ByteArray×Int :=
 if pathE size s root key≠0 then (⟨#[]⟩,pathE size s root key)
 else if findB (pathI size s root key) key then (match (pathI size s root key)[findN (pathI size s root key) key]? with
  | some i=>match valN size s i with
   | some (v,_)=>(v,0)
   | none=>(⟨#[]⟩,4)
  | none=>(⟨#[]⟩,5))
 else (⟨#[]⟩,5)
def stepsT (l:List Pr) (e:Int):List (Pr×Int):=l.map (fun p=>(p,0))++(if e=0 then [] else [(Pr.zero,e)])

theorem node_some {size:Int} {s:ByteArray} {n:Nat} {l:List Fk} (h:nodeN size s n=.br l) : ∃ p,readAt size s n=some p∧readF p.kd p.ct p.pg p.lk p.tx p.bd=some l:=by
 unfold nodeN at h
 split at h
 ·rename_i p hp
  refine⟨p,hp,?_⟩
  unfold Pg.node at h
  split at h
  ·rename_i l' hl
   injection h with h
   rw[hl,h]
  ·split at h<;>cases h
 ·cases h
theorem leaf_some {size:Int} {s:ByteArray} {n:Nat} {l:List It} (h:nodeN size s n=.lf l) : ∃ p,readAt size s n=some p∧readF p.kd p.ct p.pg p.lk p.tx p.bd=none∧readI p.kd p.ct p.pg p.lk p.tx p.bd=some l:=by
 unfold nodeN at h
 split at h
 ·rename_i p hp
  refine⟨p,hp,?_⟩
  unfold Pg.node at h
  split at h
  ·cases h
  ·rename_i h1
   split at h
   ·rename_i l' hl
    injection h with h
    exact⟨h1,by rw[hl,h]⟩
   ·cases h
 ·cases h
theorem readF_kd {kd ct:Int} {pg lk ty:Nat} {bd:ByteArray} {l:List Fk} (h:readF kd ct pg lk ty bd=some l):kd=3∧2≤pg∧0<l.length∧allOkF l=true:=by
 unfold readF at h
 split at h
 ·cases h
 ·split at h
  ·rename_i hc
   injection h with h
   subst h
   simp only[Bool.and_eq_true,decide_eq_true_eq] at hc
   obtain⟨h1,h2,_,_,h5,_⟩:=mayP7_parts hc.1
   exact⟨hc.2.1,h5.1,h2,h1⟩
  ·cases h
theorem readI_kd {kd ct:Int} {pg lk ty:Nat} {bd:ByteArray} {l:List It} (h:readI kd ct pg lk ty bd=some l):kd=4∧2≤pg∧0<l.length∧allOkI l=true∧sizeI l≤bd.size:=by
 obtain⟨h1,h2,_,_,_⟩:=readI_some h
 obtain⟨a1,a2,_,a4,a5,_⟩:=mayP8_parts h1
 exact⟨h2,a5.1,a2,a1,by omega⟩
theorem node_two {size:Int} {s:ByteArray} {n:Nat} (h:n<2):nodeN size s n=.none:=by
 rcases hn:nodeN size s n with _ | l | l
 ·rfl
 ·obtain⟨p,hp,hf⟩:=node_some hn
  have h1:=(readAt_some hp).2.2.1
  have h2:=(readF_kd hf).2.1
  omega
 ·obtain⟨p,hp,_,hf⟩:=leaf_some hn
  have h1:=(readAt_some hp).2.2.1
  have h2:=(readI_kd hf).2.1
  omega
def pieceL (z n:Nat) (img:List UInt8):List UInt8:=(img.drop (n*z)).take z
theorem pieceL_write (size p c n:Nat) (b img:List UInt8) (hl:img.length=c*size) (hb:b.length=size) (hn:n<max c (p+1)) :
  pieceL size n (bWrite size p b img)=if n=p then b else if n<c then pieceL size n img else List.replicate size 0:=by
 obtain⟨E,hE⟩ : ∃ E,E=img++List.replicate (p*size+size-img.length) (0:UInt8):=⟨_,rfl⟩
 have hEl:p*size+size≤E.length:=by rw[hE,List.length_append,List.length_replicate];omega
 have hT:(E.take (p*size)).length=p*size:=by rw[List.length_take];omega
 unfold bWrite pieceL
 rw[← hE]
 rcases Nat.lt_trichotomy n p with h | h | h
 ·have h1:n*size+size≤p*size:=by rw[← Nat.succ_mul];exact Nat.mul_le_mul_right _ h
  rw[if_neg (by omega),List.append_assoc,List.drop_append_of_le_length (by rw[hT];omega),List.take_append_of_le_length (by rw[List.length_drop,hT];omega),List.drop_take,List.take_take,Nat.min_eq_left (by omega)]
  by_cases hc:n<c
  ·have h2:n*size+size≤c*size:=by rw[← Nat.succ_mul];exact Nat.mul_le_mul_right _ hc
   rw[if_pos hc,hE,List.drop_append_of_le_length (by rw[hl];omega),List.take_append_of_le_length (by rw[List.length_drop,hl];omega)]
  ·have h2:c*size≤n*size:=Nat.mul_le_mul_right _ (by omega)
   rw[if_neg hc,hE,List.drop_append,List.drop_of_length_le (by rw[hl];exact h2),List.nil_append,List.drop_replicate,List.take_replicate]
   congr 1
   omega
 ·subst h
  rw[if_pos rfl,List.append_assoc,List.drop_append,hT,Nat.sub_self,List.drop_zero,List.drop_of_length_le (by rw[hT];exact Nat.le_refl _),List.nil_append,List.take_append_of_le_length (by omega),List.take_of_length_le (by omega)]
 ·have hc:n<c:=by omega
  have h1:p*size+size≤n*size:=by rw[← Nat.succ_mul];exact Nat.mul_le_mul_right _ h
  rw[if_neg (by omega),if_pos hc,List.drop_append,List.drop_of_length_le (by rw[List.length_append,hT,hb];exact h1),List.nil_append,List.length_append,hT,hb,List.drop_drop]
  congr 2
  omega
theorem bWrite_pages (size p c:Nat) (b img:List UInt8) (hl:img.length=c*size) (hb:b.length=size):(bWrite size p b img).length=max c (p+1)*size:=by
 rw[bWrite_len _ _ _ _ hb,hl,show p*size+size=(p+1)*size by rw[Nat.add_mul];omega]
 by_cases h:c≤p+1
 ·rw[Nat.max_eq_right h,Nat.max_eq_right (Nat.mul_le_mul_right _ h)]
 ·have h':p+1≤c:=by omega
  rw[Nat.max_eq_left h',Nat.max_eq_left (Nat.mul_le_mul_right size h')]
def Pg.block (p:Pg):ByteArray:=pageB p.kd.toNat p.ct.toNat p.pg p.lk p.tx p.bd
def writeB (z n:Nat) (b img:ByteArray):ByteArray:=⟨(bWrite z n b.data.toList img.data.toList).toArray⟩
theorem writeB_list (z n:Nat) (b img:ByteArray):(writeB z n b img).data.toList=bWrite z n b.data.toList img.data.toList:=by simp[writeB]
theorem blkOf_list (z n:Nat) (s:ByteArray):(blkOf z s n).data.toList=pieceL z n s.data.toList:=by
 unfold blkOf pieceL
 rw[ByteArray.data_extract,Array.toList_extract,List.extract_eq_take_drop]
 congr 1
 omega
theorem block_right {z:Nat} {p:Pg} (h:mayPg z p.kd p.ct p.pg p.lk p.tx p.bd=true):p.block.size=z∧blockOk z p.pg p.block=true ∧
  p=⟨numAt p.block 4 1,numAt p.block 6 2,numAt p.block 8 4,numAt p.block 12 4,numAt p.block 16 8,p.block.extract 24 p.block.size⟩:=by
 have hm:=h
 simp only[mayPg,Bool.and_eq_true,decide_eq_true_eq] at hm
 obtain⟨kd,ct,pg,lk,tx,bd⟩:=p
 simp only at hm h
 obtain⟨k,rfl⟩:=Int.eq_ofNat_of_zero_le (by omega:0≤kd)
 obtain⟨c,rfl⟩:=Int.eq_ofNat_of_zero_le (by omega:0≤ct)
 have hgz:goodSize z=true:=hm.1
 have hgp:=good_pos hgz
 have hs:(pageB k c pg lk tx bd).size=z:=by rw[pageB_size];omega
 obtain⟨a1,a2,a3,a4,a5,a6,a7⟩:=pageB_at k c pg lk tx bd (by omega) (by omega) (by omega) (by omega) (by omega)
 have hb:Pg.block ⟨(k:Int),(c:Int),pg,lk,tx,bd⟩=pageB k c pg lk tx bd:=rfl
 rw[hb]
 have b1:numAt (pageB k c pg lk tx bd) 4 1=k:=a1
 have b2:numAt (pageB k c pg lk tx bd) 5 1=1:=a2
 have b3:numAt (pageB k c pg lk tx bd) 6 2=c:=a3
 have b4:numAt (pageB k c pg lk tx bd) 8 4=pg:=a4
 have b5:numAt (pageB k c pg lk tx bd) 12 4=lk:=a5
 have b6:numAt (pageB k c pg lk tx bd) 16 8=tx:=a6
 refine⟨hs,?_,by rw[b1,b3,b4,b5,b6,a7]⟩
 unfold blockOk
 rw[b1,b2,b3,b4,b5,b6,a7,hs,pageB_sum]
 simp
 exact h
theorem zeros_wrong (z n:Nat) (h:24≤z):blockOk z n ⟨(List.replicate z (0:UInt8)).toArray⟩=false:=by
 have h1:numAt ⟨(List.replicate z (0:UInt8)).toArray⟩ 5 1=0:=by
  unfold numAt
  simp only[List.drop_replicate,List.take_replicate]
  rw[show min 1 (z-5)=1 by omega]
  rfl
 unfold blockOk
 rw[h1]
 simp
theorem readAt_write {z c:Nat} {img:ByteArray} {p:Pg} (hp:mayPg z p.kd p.ct p.pg p.lk p.tx p.bd=true) (hl:img.size=c*z) (n:Nat) :
  readAt z (writeB z p.pg p.block img) n=if n=p.pg then some p else readAt z img n:=by
 have hg:goodSize z=true:=by simp only[mayPg,Bool.and_eq_true] at hp;exact hp.1
 have hgp:=good_pos hg
 obtain⟨z',hzz,hz1,_⟩:=good_nat hg
 have hz0:0<z:=by omega
 obtain⟨hbs,hok,hpe⟩:=block_right hp
 have hil:img.data.toList.length=c*z:=by rw[size_list,hl]
 have hbl:p.block.data.toList.length=z:=by rw[size_list,hbs]
 have hws:(writeB z p.pg p.block img).size=max c (p.pg+1)*z:=by rw[← size_list,writeB_list];exact bWrite_pages z p.pg c _ _ hil hbl
 have hd1:(writeB z p.pg p.block img).size/z=max c (p.pg+1):=by rw[hws,Nat.mul_div_cancel _ hz0]
 have hd2:img.size/z=c:=by rw[hl,Nat.mul_div_cancel _ hz0]
 have hzn:((z:Nat):Int).toNat=z:=by omega
 have hblk:n<max c (p.pg+1)→blkOf z (writeB z p.pg p.block img) n=if n=p.pg then p.block else if n<c then blkOf z img n else ⟨(List.replicate z (0:UInt8)).toArray⟩:=fun hn=>by
  apply bytes_ext
  rw[blkOf_list,writeB_list,pieceL_write z p.pg c n _ _ hil hbl hn]
  split
  ·rfl
  ·split
   ·rw[blkOf_list]
   ·simp
 unfold readAt
 rw[hzn,hd1,hd2,hg]
 by_cases hn:n<max c (p.pg+1)
 ·rw[hblk hn,decide_eq_true hn]
  by_cases h1:n=p.pg
  ·rw[if_pos h1,if_pos h1,h1,hok]
   simp only[Bool.and_self,if_true]
   rw[← hpe]
  ·rw[if_neg h1,if_neg h1]
   by_cases h2:n<c
   ·rw[if_pos h2,decide_eq_true h2]
   ·rw[if_neg h2,decide_eq_false h2,zeros_wrong z n (by omega)]
    simp
 ·rw[decide_eq_false hn,decide_eq_false (by omega : ¬ n<c),if_neg (by omega : ¬ n=p.pg)]
  simp
def layL (size:Int) (img:ByteArray) (L:List Pg):Option ByteArray:=L.foldl (fun a p=>match a with | some i=>if mayPg size p.kd p.ct p.pg p.lk p.tx p.bd then some (writeB size.toNat p.pg p.block i) else none | none=>none) (some img)
theorem layL_snoc (size:Int) (img:ByteArray) (L:List Pg) (p:Pg):layL size img (L++[p])=match layL size img L with | some i=>if mayPg size p.kd p.ct p.pg p.lk p.tx p.bd then some (writeB size.toNat p.pg p.block i) else none | none=>none:=by unfold layL;rw[List.foldl_append];rfl
theorem layL_none {size:Int} {img:ByteArray} {L:List Pg} (h:layL size img L=none) : ∀ M,layL size img (L++M)=none:=by
 intro M
 induction M generalizing L with
 | nil=>simpa using h
 | cons p t ih =>
  rw[show L++p::t=(L++[p])++t by simp]
  exact ih (by rw[layL_snoc,h])
theorem layL_front {size:Int} {img:ByteArray} {L:List Pg} {k:Nat} (h:layL size img (L.take k)=none):layL size img L=none:=by
 have:=layL_none h (L.drop k)
 rwa [List.take_append_drop] at this
def layStr (size:Int) (img:ByteArray) (L:List Pg):ByteArray:=(layL size img L).getD ⟨#[]⟩
def layErr (size:Int) (img:ByteArray) (L:List Pg):Int:=if (layL size img L).isSome then 0 else 2
theorem lay_no {size:Int} {img:ByteArray} {L:List Pg} (h:layL size img L=none):layStr size img L=⟨#[]⟩∧layErr size img L=2:=by unfold layStr layErr;rw[h];exact⟨rfl,rfl⟩
theorem lay_yes {size:Int} {img im:ByteArray} {L:List Pg} (h:layL size img L=some im):layStr size img L=im∧layErr size img L=0:=by unfold layStr layErr;rw[h];exact⟨rfl,rfl⟩
theorem writeB_size (z n:Nat) (b img:ByteArray) (hb:b.size=z):(writeB z n b img).size=max img.size (n*z+z):=by
 rw[← size_list,writeB_list,bWrite_len _ _ _ _ (by rw[size_list];exact hb),size_list]
end Go.Proofs.YtanbbnogdhnikaaGreat

namespace Go.Proofs.YtanbbnogdhnikaaGreat
open Go.RowKit
open Go.Lib hiding intOf
attribute [local go_sem ↓] Go.wp_at_zero Go.wp_at_succ

theorem nthU_get {l:List Nat} {i:Nat} (h:i<l.length):nthU l i=l[i]:=nthU_of (List.getElem?_eq_getElem h)
theorem fineL_iff {l:List Nat}:fineL l=true ↔ ∀ j,j<l.length→numB (nthU l j)=true∧∀ m,m<j→nthU l m≠nthU l j:=by
 unfold fineL
 rw[Bool.and_eq_true,decide_eq_true_eq]
 constructor
 ·rintro ⟨h1,h2⟩ j hj
  refine⟨allU_at.1 h1 j hj,fun m hm=>?_⟩
  have h3:=(List.pairwise_iff_getElem.1 h2) m j (by omega) hj hm
  rw[nthU_get (by omega),nthU_get hj]
  exact h3
 ·intro h
  refine⟨allU_at.2 fun i hi=>(h i hi).1,List.pairwise_iff_getElem.2 fun i j hi hj hij=>?_⟩
  have:=(h j hj).2 i hij
  rw[nthU_get hi,nthU_get hj] at this
  exact this
theorem fineL_no {l:List Nat} {j:Nat} (hj:j<l.length) (h:numB (nthU l j)=false∨∃ m,m<j∧nthU l m=nthU l j):fineL l=false:=by
 rw[Bool.eq_false_iff]
 intro hf
 obtain⟨h1,h2⟩:=fineL_iff.1 hf j hj
 rcases h with h | ⟨m,hm,he⟩
 ·rw[h] at h1;cases h1
 ·exact h2 m hm he
theorem rnext_any (A:Option Addr) (n c:Nat) (l:List Nat) (i:Nat) (w:World) {B:Nat} (hr:Reads w B 1 A n (ucells l)) (hn:n≤1000000) (hi:i≤1000000) :
  Calls Tryz.prog 114 #[.slice A n c,.int .i64 i] w fun e w'=>e=.returned (.int .u32 (nextL l i))∧w=w':=by
 have hl:=ulen hr
 by_cases h:i+1<n
 ·obtain⟨ad,rfl,_,hc⟩:=ureads_at hr h
  have hc1:w.cell? { block:=ad.block,off:=ad.off+(i+1) }=some (.int .u32 (nthU l (i+1))):=by have h:=hc;simpa [Addr.add] using h
  have HE:=Hd (show nextL l i=nthU l (i+1) by unfold nextL;rw[if_pos (by omega)])
  generalize nthU l (i+1)=a at *
  have h1:(i:Int)+1<n:=by omega
  have h2:(0:Int)≤(i:Int)+1:=by omega
  clear hr hl h
  go_enter Tryz.func114,Tryz.ntmps114
  go_wp2_with fail
  go_ret
  exact⟨by rw[HE.out]<;>rfl,rfl⟩
 ·have HE:=Hd (show nextL l i=0 by unfold nextL;rw[if_neg (by omega)])
  have h1 : ¬ (i:Int)+1<n:=by omega
  clear hr hl h
  go_enter Tryz.func114,Tryz.ntmps114
  go_wp2_with fail
  go_ret
  exact⟨by rw[HE.out]<;>rfl,rfl⟩
theorem rfine_any (A:Option Addr) (n c:Nat) (l:List Nat) (w:World) {B:Nat} (hr:Reads w B 1 A n (ucells l)) (hn:n≤1000000) :
  Calls Tryz.prog 113 #[.slice A n c] w fun e w'=>e=.returned (.bool (fineL l))∧∃ q,w'=w.drewN q:=by
 have HL:=Hd (ulen hr)
 have HR:=Hd hr
 clear hr
 go_enter Tryz.func113,Tryz.ntmps113
 go_wp2_with fail
 go_loopw [3] (fun i wr=>∃ k:Nat,k≤n∧i=.int .i64 k∧Hid (∀ j,j<k→numB (nthU l j)=true∧∀ m,m<j→nthU l m≠nthU l j)∧∃ q,wr=w.drewN q) (fun i _=>n-(intOf i).toNat)
 case atStart=>exact⟨0,Nat.zero_le _,rfl,Hd (fun j hj=>absurd hj (by omega)),0,rfl⟩
 case round =>
  obtain⟨k,hk,rfl,HU,q,hq⟩:=hrel
  have HQ:=Hd hq
  by_cases hlt:k<n
  ·obtain⟨ad,rfl,hab,hc0⟩:=ureads_at HR.out hlt
   obtain⟨a,ha⟩ : ∃ a,a=nthU l k:=⟨_,rfl⟩
   rw[← ha] at hc0
   have hc0:wr.cell? (ad.add k)=some (.int .u32 a):=by rw[hq];exact hc0
   have hk0:(0:Int)≤k:=by omega
   have hk1:(k:Int)<n:=by omega
   have HA:=Hd ha
   have HNm:=fun w=>(rnumB_any a w).mono (R':=fun e w'=>e=.returned (.bool (numB a))∧w=w') fun _ _ ⟨a,b⟩=>⟨a,b.symm⟩
   clear ha hab hq
   rcases hnb:numB a with _ | _
   ·rw[hnb] at HNm
    have HE:=Hd (show fineL l=false from fineL_no (j:=k) (by rw[HL.out];exact hlt) (.inl (by rw[← HA.out];exact hnb)))
    clear hnb
    go_wp2_with (go_at_call 50;refine (HNm _).mono ?_;rintro e w' ⟨rfl,rfl⟩)
    go_ret
    exact⟨by rw[HE.out]<;>rfl,q,HQ.out⟩
   ·rw[hnb] at HNm
    have HNb:=Hd hnb
    clear hnb
    go_wp2_with (go_at_call 50;refine (HNm _).mono ?_;rintro e w' ⟨rfl,rfl⟩)
    clear hc0
    obtain⟨wo,hwo⟩ : ∃ wo,wo=wr:=⟨_,rfl⟩
    subst hwo
    go_loopw [4] (fun i wr=>∃ t:Nat,t≤k∧i=.int .i64 t∧Hid (∀ m,m<t→nthU l m≠nthU l k)∧∃ q,wr=w.drewN q) (fun i _=>k-(intOf i).toNat)
    case atStart=>exact⟨0,Nat.zero_le _,rfl,Hd (fun m hm=>absurd hm (by omega)),q,HQ.out⟩
    case round =>
     obtain⟨t,ht,rfl,HM,q2,hq2⟩:=hrel
     have HQ2:=Hd hq2
     by_cases hlt2:t<k
     ·obtain⟨ad2,he2,_,hc1⟩:=ureads_at HR.out (show t<n by omega)
      injection he2 with he2
      subst he2
      obtain⟨ad3,he3,_,hc2⟩:=ureads_at HR.out hlt
      injection he3 with he3
      subst he3
      rw[← HA.out] at hc2
      obtain⟨b,hb⟩ : ∃ b,b=nthU l t:=⟨_,rfl⟩
      rw[← hb] at hc1
      have hc1:wr.cell? (ad.add t)=some (.int .u32 b):=by rw[hq2];exact hc1
      have hc2:wr.cell? (ad.add k)=some (.int .u32 a):=by rw[hq2];exact hc2
      have ht0:(0:Int)≤t:=by omega
      have ht1:(t:Int)<k:=by omega
      have ht2:(t:Int)<n:=by omega
      have HBb:=Hd hb
      clear hb hq2
      by_cases hab:b=a
      ·have hd1:((b:Int)==(a:Int))=true:=by simp[hab]
       have hd2:(b==a)=true:=by simp[hab]
       have HE:=Hd (show fineL l=false from fineL_no (j:=k) (by rw[HL.out];exact hlt) (.inr ⟨t,hlt2,by rw[← HA.out,← HBb.out,hab]⟩))
       clear hab
       go_wp2_with fail
       go_quiet (fail)
       go_wp2_with fail
       go_ret
       exact⟨by rw[HE.out]<;>rfl,q2+nq,by rw[HQ2.out,World.drewN_drewN]⟩
      ·have hd1:((b:Int)==(a:Int))=false:=by simp;omega
       have hd2:(b==a)=false:=by simp[hab]
       have HM2:=Hd (show ∀ m,m<t+1→nthU l m≠nthU l k from fun m hm=>by
        rcases Nat.lt_or_ge m t with h | h
        ·exact HM.out m h
        ·obtain rfl:m=t:=by omega
         rw[← HA.out,← HBb.out]
         exact hab)
       clear hab
       go_wp2_with fail
       go_quiet (fail)
       go_wp2_with fail
       go_roundw
       case rel =>
        have hqq : ∃ q',wr.drewN nq=w.drewN q':=⟨q2+nq,by rw[HQ2.out,World.drewN_drewN]⟩
        first
         | exact⟨t+1,by omega,by go_num,HM2,hqq⟩
         | ((repeat apply Exists.intro);exact⟨⟨t+1,by omega,by go_num,HM2,hqq⟩,rfl⟩)
       case measure=>simp[intOf];omega
     ·obtain rfl:t=k:=by omega
      have hU : ∀ j,j<t+1→numB (nthU l j)=true∧∀ m,m<j→nthU l m≠nthU l j:=fun j hj=>by
       rcases Nat.lt_or_ge j t with h | h
       ·exact HU.out j h
       ·obtain rfl:j=t:=by omega
        exact⟨by rw[← HA.out];exact HNb.out,HM.out⟩
      have HU2:=Hd hU
      clear hlt2 ht hq2 hU
      go_wp2_with fail
      go_roundw
      case rel =>
       first
        | exact⟨t+1,by omega,by go_num,HU2,q2,HQ2.out⟩
        | ((repeat apply Exists.intro);exact⟨⟨t+1,by omega,by go_num,HU2,q2,HQ2.out⟩,rfl⟩)
      case measure=>simp[intOf];omega
  ·obtain rfl:k=n:=by omega
   have HE:=Hd (show fineL l=true from fineL_iff.2 (fun j hj=>HU.out j (by rw[HL.out] at hj;exact hj)))
   clear hlt hk hq
   go_wp2_with fail
   go_ret
   exact⟨by rw[HE.out]<;>rfl,q,HQ.out⟩
theorem infoU32:(Tryz.prog.info? 23).map (fun i=>(i.zero,i.size,i.bytes))=some (some (.int .u32 0),1,4):=by kernel_rfl
theorem grown_below' {w w':World} {r:Option Nat} (h:Below w.heap.size w w'):w.grownBy w' r:=⟨h.os,h.tape,h.output,h.size,fun k hk _=>h.block k hk⟩
theorem bnumr_tot {w:World} {g:Nat} {t:ByteArray} (h:IsRd w g t) (k:Nat) (h1:1≤k) (h2:k≤8) :
  Calls Tryz.prog 158 #[.agg #[.pointer (some ⟨g,0,none⟩)],.int .i64 k] w fun e w'=>w.grownBy w' (some g)∧((∃ (v:Nat) (t':ByteArray),e=.returned (.int .u64 v)∧IsRd w' g t'∧v<2 ^ (8*k)∧tookN k t v 0 t')∨(DiesB e∧t.size<k)):=by
 obtain⟨w0,hw0⟩ : ∃ x,x=w.alloc (.cells #[.pointer (some ⟨g,0,none⟩)] 192):=⟨_,rfl⟩
 have Bx:=Hd (show Blk w0 w.heap.size 192 #[.pointer (some ⟨g,0,none⟩)] by rw[hw0];exact Blk.new _ _ _)
 have HF:=Hd (show IsRd w0 g t by rw[hw0];exact Blk.alloc h _)
 have HG:=Hd (show w.grownBy w0 (some g) by rw[hw0];exact World.grownBy_alloc _ _ _)
 clear h
 go_enter Tryz.func158,Tryz.ntmps158
 go_upto_region 1 with fail
 rw[← hw0]
 clear hw0
 have b0:=Bx.out.cell 0
 simp at b0
 by_cases hk:k≤t.size
 ·go_wp2_with fail
  refine (number_ok' HF.out k h1 h2 hk).mono ?_
  rintro e w1 ⟨rfl,hr,hg⟩
  have HR:=Hd hr
  have HG1:=Hd (grown_trans HG.out hg)
  have HV:=Hd (show leNat (t.data.toList.take k)<2 ^ (8*k) by
   have h3:=leNat_lt (t.data.toList.take k)
   have h4:(t.data.toList.take k).length≤k:=by rw[List.length_take];omega
   exact Nat.lt_of_lt_of_le h3 (Nat.pow_le_pow_right (by omega) (by omega)))
  obtain⟨v,hv⟩ : ∃ v,v=leNat (t.data.toList.take k):=⟨_,rfl⟩
  rw[← hv] at HV ⊢
  have HVe:=Hd hv
  clear hv hr hg
  go_wp2_with (go_at_call 118;refine (bneed_yes _).mono ?_;rintro e w' ⟨rfl,rfl⟩)
  go_ret
  exact⟨HG1.out,.inl ⟨_,_,rfl,HR.out,HV.out,.inl ⟨hk,rfl,HVe.out,rfl⟩⟩⟩
 ·go_wp2_with fail
  refine (number_more HF.out k (by omega) (by omega) (by omega)).mono ?_
  rintro e w1 ⟨rfl,rfl⟩
  go_wp2_with fail
  refine (bneed_no _).mono ?_
  rintro e w' ⟨rfl,rfl⟩
  exact⟨rfl,HG.out,.inr ⟨rfl,by omega⟩⟩
theorem btext_tot {w:World} {g:Nat} {t:ByteArray} (h:IsRd w g t) (k:Nat) (hs:t.size≤100000) :
  Calls Tryz.prog 157 #[.agg #[.pointer (some ⟨g,0,none⟩)],.int .i64 k] w fun e w'=>w.grownBy w' (some g)∧((∃ v t':ByteArray,e=.returned (.string v)∧IsRd w' g t'∧tookB k t v 0 t')∨(DiesB e∧t.size<k)):=by
 obtain⟨w0,hw0⟩ : ∃ x,x=w.alloc (.cells #[.pointer (some ⟨g,0,none⟩)] 192):=⟨_,rfl⟩
 have Bx:=Hd (show Blk w0 w.heap.size 192 #[.pointer (some ⟨g,0,none⟩)] by rw[hw0];exact Blk.new _ _ _)
 have HF:=Hd (show IsRd w0 g t by rw[hw0];exact Blk.alloc h _)
 have HG:=Hd (show w.grownBy w0 (some g) by rw[hw0];exact World.grownBy_alloc _ _ _)
 clear h
 go_enter Tryz.func157,Tryz.ntmps157
 go_upto_region 1 with fail
 rw[← hw0]
 clear hw0
 have b0:=Bx.out.cell 0
 simp at b0
 by_cases hk:k≤t.size
 ·go_wp2_with fail
  refine (bytes_ok' HF.out k hk).mono ?_
  rintro e w1 ⟨rfl,hr,hg⟩
  have HR:=Hd hr
  have HG1:=Hd (grown_trans HG.out hg)
  obtain⟨v,hv⟩ : ∃ v,v=t.extract 0 k:=⟨_,rfl⟩
  have hvs:v.size≤281474976710656:=by rw[hv,ByteArray.size_extract];omega
  rw[← hv]
  have HVe:=Hd hv
  clear hv hr hg
  go_wp2_with (go_at_call 118;refine (bneed_yes _).mono ?_;rintro e w' ⟨rfl,rfl⟩)
  refine (sclone_any v _ hvs).mono ?_
  rintro e w2 ⟨rfl,hb⟩
  replace HR:=Hd (HR.out.below hb HR.out.lt)
  replace HG1:=Hd (grown_trans HG1.out (grown_below' hb))
  clear hb
  go_wp2_with fail
  go_ret
  exact⟨HG1.out,.inl ⟨_,_,rfl,HR.out,.inl ⟨hk,rfl,HVe.out,rfl⟩⟩⟩
 ·go_wp2_with fail
  refine (bytes_more HF.out k (by omega)).mono ?_
  rintro e w1 ⟨rfl,rfl⟩
  go_wp2_with fail
  refine (bneed_no _).mono ?_
  rintro e w' ⟨rfl,rfl⟩
  exact⟨rfl,HG.out,.inr ⟨rfl,by omega⟩⟩
end Go.Proofs.YtanbbnogdhnikaaGreat

