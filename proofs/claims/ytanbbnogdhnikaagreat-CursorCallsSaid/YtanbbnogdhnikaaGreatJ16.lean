/-
  Texts that the main proof rests on, put together: FkParse, FkMath, Its, FkBack, RdTot, Or, BrSmall, BrValid, BrPage. No statement is proved here.
-/
import Derived.Test.YtanbbnogdhnikaaGreatJ14
import Derived.WalkMore
import Derived.Lib.AppendStr
set_option linter.unusedVariables false
set_option linter.unusedSimpArgs false
set_option maxRecDepth 300000
set_option maxHeartbeats 25600000
namespace Go.Proofs.YtanbbnogdhnikaaGreat
open Go.RowKit
open Go.Lib hiding intOf

def stepF:List UInt8→Option (Fk×List UInt8)
 | []=>none
 | n::r=>if r.length<n.toNat+4 then none else some (⟨⟨(r.take n.toNat).toArray⟩,leNat ((r.drop n.toNat).take 4)⟩,(r.drop n.toNat).drop 4)
def parseF:Nat→List UInt8→Option (List Fk×List UInt8)
 | 0,bs=>some ([],bs)
 | k+1,bs=>match parseF k bs with
  | none=>none
  | some (l,r)=>match stepF r with
   | none=>none
   | some (b,r')=>some (l++[b],r')
theorem parseF_len : ∀ {k:Nat} {bs:List UInt8} {l:List Fk} {r:List UInt8},parseF k bs=some (l,r)→l.length=k
 | 0,bs,l,r,h=>by simp[parseF] at h;obtain⟨rfl,_⟩:=h;rfl
 | k+1,bs,l,r,h=>by
  simp only[parseF] at h
  split at h
  ·cases h
  ·rename_i l0 r0 h0
   split at h
   ·cases h
   ·rename_i b r1 _
    injection h with h
    injection h with h1 _
    rw[← h1,List.length_append,parseF_len h0]
    rfl
theorem stepF_size {bs r:List UInt8} {b:Fk} (h:stepF bs=some (b,r)):5+b.nm.size+r.length=bs.length:=by
 cases bs with
 | nil=>simp[stepF] at h
 | cons n t =>
  simp only[stepF] at h
  split at h
  ·cases h
  ·injection h with h
   injection h with h1 h2
   rw[← h1,← h2]
   show 5+(t.take n.toNat).toArray.size+_=_
   simp
   omega
theorem parseF_size : ∀ {k:Nat} {bs:List UInt8} {l:List Fk} {r:List UInt8},parseF k bs=some (l,r)→sizeF l+r.length=bs.length
 | 0,bs,l,r,h=>by simp[parseF] at h;obtain⟨rfl,rfl⟩:=h;simp[sizeF]
 | k+1,bs,l,r,h=>by
  simp only[parseF] at h
  split at h
  ·cases h
  ·rename_i l0 r0 h0
   split at h
   ·cases h
   ·rename_i b r1 hs
    injection h with h
    injection h with h1 h2
    have e1:=parseF_size h0
    have e2:=stepF_size hs
    rw[← h1,← h2,sizeF_snoc]
    omega
theorem parseF_none {k:Nat} {bs:List UInt8} (h:parseF k bs=none) : ∀ d,parseF (k+d) bs=none
 | 0=>h
 | d+1=>by rw[← Nat.add_assoc];simp only[parseF,parseF_none h d]
theorem parseF_step {k:Nat} {bs r r':List UInt8} {l:List Fk} {b:Fk} (h:parseF k bs=some (l,r)) (hs:stepF r=some (b,r')):parseF (k+1) bs=some (l++[b],r'):=by simp only[parseF,h,hs]
theorem parseF_stop {k:Nat} {bs r:List UInt8} {l:List Fk} (h:parseF k bs=some (l,r)) (hs:stepF r=none):parseF (k+1) bs=none:=by simp only[parseF,h,hs]
def fitsF (b:Fk):Prop:=b.nm.size<256∧b.rt<4294967296
theorem okFk_fitsF {b:Fk} (h:okFk b=true):fitsF b:=by
 simp only[okFk,keyF,numB,Bool.and_eq_true,decide_eq_true_eq] at h
 exact⟨by omega,by omega⟩
theorem stepF_bytes (b:Fk) (t:List UInt8) (h:fitsF b):stepF (b.bytes++t)=some (b,t):=by
 obtain⟨h1,h2⟩:=h
 have e1:Go.leBytes 1 b.nm.size=[UInt8.ofNat b.nm.size]:=by
  have:=leBytes_snoc 0 b.nm.size
  rw[show 0+1=1 from rfl] at this
  rw[this]
  simp only[Go.leBytes,List.nil_append,Nat.mul_zero,Nat.pow_zero,Nat.div_one,Nat.mod_eq_of_lt h1]
 have hn:(UInt8.ofNat b.nm.size).toNat=b.nm.size:=by simp;omega
 simp only[Fk.bytes,e1,List.cons_append,List.nil_append,List.append_assoc,stepF,hn]
 have hl:b.nm.data.toList.length=b.nm.size:=size_list _
 have l4 : ∀ v,(Go.leBytes 4 v).length=4:=fun v=>leB_len 4 v
 rw[if_neg (by simp only[List.length_append,l4,hl];omega)]
 rw[List.take_left' hl,List.drop_left' hl,List.take_left' (l4 _),List.drop_left' (l4 _)]
 have hr:leNat (Go.leBytes 4 b.rt)=b.rt:=by rw[leNat_leBytes_mod];omega
 congr 2
 exact Fk.ext_ (by apply bytes_ext;simp) hr
theorem parseF_bytes (l:List Fk) (t:List UInt8) (h : ∀ b,b∈l→fitsF b) : ∀ k,k≤l.length→parseF k (bytesF l++t)=some (l.take k,bytesF (l.drop k)++t)
 | 0,_=>by simp[parseF]
 | k+1,hk=>by
  have ih:=parseF_bytes l t h k (by omega)
  have hx:l.drop k=l[k]::l.drop (k+1):=List.drop_eq_getElem_cons (by omega)
  have hs:stepF (bytesF (l.drop k)++t)=some (l[k],bytesF (l.drop (k+1))++t):=by
   rw[hx]
   simp only[bytesF,List.flatMap_cons,List.append_assoc]
   exact stepF_bytes l[k] _ (h _ (List.getElem_mem _))
  simp only[parseF,ih,hs]
  rw[List.take_succ_eq_append_getElem (by omega)]
theorem parseF_all (l:List Fk) (t:List UInt8) (h : ∀ b,b∈l→fitsF b):parseF l.length (bytesF l++t)=some (l,t):=by
 have:=parseF_bytes l t h l.length (Nat.le_refl _)
 simpa [bytesF] using this
def mayP7 (size:Int) (n tx:Nat) (l:List Fk):Bool:=goodSize size&&(mayF l&&(decide ((sizeF l:Int)≤size-24)&&(numB n&&decide (tx≤4611686018427387904))))
def readF (kd ct:Int) (pg lk ty:Nat) (bd:ByteArray):Option (List Fk) :=
 match parseF ct.toNat bd.data.toList with
 | none=>none
 | some (l,_)=>if mayP7 ((bd.size+24:Nat):Int) pg ty l&&decide (kd=3∧ct=l.length∧lk=0∧bd=forkBody (bd.size+24) l) then some l else none
theorem mayP7_parts {z n tx:Nat} {l:List Fk} (h:mayP7 z n tx l=true):allOkF l=true∧0<l.length∧goodSize z=true∧(sizeF l≤z-24∧24≤z)∧(2≤n∧n≤2147483647)∧tx≤4611686018427387904:=by
 simp only[mayP7,mayF,numB,Bool.and_eq_true,decide_eq_true_eq] at h
 obtain⟨h1,⟨h2,h3⟩,h4,h5,h6⟩:=h
 have:=good_pos h1
 exact⟨h2,h3,h1,by omega,h5,h6⟩
theorem forkBody_size (z:Nat) (l:List Fk) (h:sizeF l≤z-24):(forkBody z l).size=z-24:=by
 show (bytesF l++List.replicate (z-24-sizeF l) 0).toArray.size=_
 rw[List.size_toArray,List.length_append,List.length_replicate,bytesF_len]
 omega
theorem readF_page {z n tx:Nat} {l:List Fk} (h:mayP7 z n tx l=true):readF 3 l.length n 0 tx (forkBody z l)=some l:=by
 obtain⟨hall,h0,hg,hroom,hn,htx⟩:=mayP7_parts h
 have hgp:=good_pos hg
 have hsz:=forkBody_size z l hroom.1
 have hz:(forkBody z l).size+24=z:=by omega
 unfold readF
 have hp:parseF (l.length:Int).toNat (forkBody z l).data.toList=some (l,List.replicate (z-24-sizeF l) 0):=by
  show parseF l.length _=_
  have:(forkBody z l).data.toList=bytesF l++List.replicate (z-24-sizeF l) 0:=by simp[forkBody]
  rw[this]
  refine parseF_all l _ fun b hb=>?_
  obtain⟨i,hi,rfl⟩:=List.mem_iff_getElem.1 hb
  exact okFk_fitsF (allOkF_ok hall (List.getElem?_eq_getElem hi))
 simp only[hp,hz]
 rw[if_pos (by rw[h];simp)]
theorem readF_some {kd ct:Int} {pg lk ty:Nat} {bd:ByteArray} {l:List Fk} (h:readF kd ct pg lk ty bd=some l):mayP7 ((bd.size+24:Nat):Int) pg ty l=true∧kd=3∧ct=l.length∧lk=0∧bd=forkBody (bd.size+24) l:=by
 unfold readF at h
 split at h
 ·cases h
 ·split at h
  ·rename_i hc
   injection h with h
   subst h
   rw[Bool.and_eq_true,decide_eq_true_eq] at hc
   exact⟨hc.1,hc.2⟩
  ·cases h
theorem takeWhile_len_le {α:Type} (p:α→Bool) (l:List α):(l.takeWhile p).length≤l.length:=by
 induction l with
 | nil=>simp
 | cons x l ih =>
  rw[List.takeWhile_cons]
  split
  ·simp only[List.length_cons];omega
  ·simp
theorem pickN_le (l:List Fk) (key:ByteArray):pickN l key≤l.length:=takeWhile_len_le _ _
theorem pickF_lt {l:List Fk} (h0:0<l.length) (key:ByteArray):pickF l key<l.length:=by
 have:=pickN_le l key
 unfold pickF
 omega
def okIt (b:It):Bool:=if b.ov then keyF b.ky&&(decide (b.vl.size=0)&&(decide (1≤b.ln)&&(decide (b.ln≤4096)&&numB b.hd))) else keyF b.ky&&(decide (b.vl.size≤255)&&(decide (b.ln=0)&&decide (b.hd=0)))
def okAtI (l:List It) (i:Nat):Bool :=
 match l[i]? with
 | none=>false
 | some b=>okIt b&&(decide (i=0) || match l[i-1]? with | some a=>Op.bytesLess a.ky.toList b.ky.toList | none=>true)
def allOkI (l:List It):Bool:=(List.range l.length).all (okAtI l)
def mayI (l:List It):Bool:=allOkI l&&decide (0<l.length)
theorem allOkI_no {l:List It} {k:Nat} (hk:k<l.length) (h:okAtI l k=false):allOkI l=false:=by
 rw[Bool.eq_false_iff]
 intro ha
 rw[allOkI,List.all_eq_true] at ha
 rw[ha k (List.mem_range.2 hk)] at h
 cases h
theorem allOkI_yes {l:List It} (h : ∀ j,j<l.length→okAtI l j=true):allOkI l=true:=by
 rw[allOkI,List.all_eq_true]
 exact fun j hj=>h j (List.mem_range.1 hj)
theorem okAtI_of {l:List It} {k:Nat} {x:It} (hx:l[k]? = some x):okAtI l k=(okIt x&&(decide (k=0) || match l[k-1]? with | some a=>Op.bytesLess a.ky.toList x.ky.toList | none=>true)):=by
 rw[okAtI,hx]
def oneI (b:It):Nat:=if b.ov then 10+b.ky.size else 3+b.ky.size+b.vl.size
def sizeI:List It→Nat
 | []=>0
 | b::l=>oneI b+sizeI l
theorem sizeI_snoc (l:List It) (b:It):sizeI (l++[b])=sizeI l+oneI b:=by
 induction l with
 | nil=>simp[sizeI]
 | cons c l ih=>simp only[List.cons_append,sizeI,ih];omega
theorem sizeI_take_succ {l:List It} {k:Nat} {x:It} (h:l[k]? = some x):sizeI (l.take (k+1))=sizeI (l.take k)+oneI x:=by
 obtain⟨hk,rfl⟩:=List.getElem?_eq_some_iff.1 h
 rw[List.take_succ_eq_append_getElem hk,sizeI_snoc]
theorem sizeI_take_le (l:List It) : ∀ k,sizeI (l.take k)≤sizeI l:=by
 intro k
 induction l generalizing k with
 | nil=>simp[sizeI]
 | cons c l ih=>cases k with
  | zero=>simp[sizeI]
  | succ k=>simp only[List.take_succ_cons,sizeI];have:=ih k;omega
theorem three_oneI (b:It):3≤oneI b:=by unfold oneI;split<;>omega
theorem three_le (l:List It):l.length*3≤sizeI l:=by
 induction l with
 | nil=>simp[sizeI]
 | cons b l ih=>simp only[sizeI,List.length_cons];have:=three_oneI b;omega
theorem okIt_one {b:It} (h:okIt b=true):oneI b≤298:=by
 unfold okIt at h
 unfold oneI
 split at h<;>rename_i hb<;>simp only[keyF,Bool.and_eq_true,decide_eq_true_eq] at h
 ·rw[if_pos hb];omega
 ·rw[if_neg hb];omega
theorem okAtI_ok {l:List It} {k:Nat} {x:It} (hx:l[k]? = some x) (h:okAtI l k=true):okIt x=true:=by
 rw[okAtI_of hx,Bool.and_eq_true] at h
 exact h.1
theorem allOkI_at {l:List It} (h:allOkI l=true) {k:Nat} (hk:k<l.length):okAtI l k=true:=by
 rw[allOkI,List.all_eq_true] at h
 exact h k (List.mem_range.2 hk)
theorem allOkI_ok {l:List It} (h:allOkI l=true) {k:Nat} {x:It} (hx:l[k]? = some x):okIt x=true:=okAtI_ok hx (allOkI_at h (List.getElem?_eq_some_iff.1 hx).1)
theorem sizeI_ok {l:List It} (h:allOkI l=true) : ∀ k,k≤l.length→sizeI (l.take k)≤298*k
 | 0,_=>by simp[sizeI]
 | k+1,hk=>by
  have hx:l[k]? = some l[k]:=List.getElem?_eq_getElem (by omega)
  have ih:=sizeI_ok h k (by omega)
  have hn:=okIt_one (allOkI_ok h hx)
  rw[sizeI_take_succ hx]
  omega
theorem sizeI_all {l:List It} (h:allOkI l=true):sizeI l≤298*l.length:=by
 have:=sizeI_ok h l.length (Nat.le_refl _)
 rwa [List.take_length] at this
def findN (l:List It) (key:ByteArray):Nat:=(l.takeWhile fun b=>Op.bytesLess b.ky.toList key.toList).length
def findB (l:List It) (key:ByteArray):Bool:=match l[findN l key]? with | none=>false | some b=>b.ky.toList==key.toList
theorem findN_le (l:List It) (key:ByteArray):findN l key≤l.length:=takeWhile_len_le _ _
theorem leBytes_leNat : ∀ l:List UInt8,Go.leBytes l.length (leNat l)=l
 | []=>rfl
 | b::t=>by
  have hb:=b.toNat_lt
  have h1:(leNat (b::t))/256=leNat t:=by simp only[leNat];omega
  have h2:(leNat (b::t))%256=b.toNat:=by simp only[leNat];omega
  rw[List.length_cons,Go.leBytes,h1,leBytes_leNat t]
  congr 1
  apply UInt8.toNat_inj.1
  first
   | (rw[h2];simp)
   | (simp[h2])
theorem stepF_back {bs r:List UInt8} {b:Fk} (h:stepF bs=some (b,r)):bs=b.bytes++r:=by
 cases bs with
 | nil=>simp[stepF] at h
 | cons n t =>
  simp only[stepF] at h
  split at h
  ·cases h
  ·rename_i hl
   injection h with h
   injection h with h1 h2
   subst h1 h2
   have hs:(t.take n.toNat).toArray.size=n.toNat:=by simp;omega
   have e1:Go.leBytes 1 n.toNat=[n]:=by
    have:=leBytes_leNat [n]
    simpa [leNat] using this
   have e4:Go.leBytes 4 (leNat ((t.drop n.toNat).take 4))=(t.drop n.toNat).take 4:=by
    have:=leBytes_leNat ((t.drop n.toNat).take 4)
    rwa [show ((t.drop n.toNat).take 4).length=4 by simp;omega] at this
   have hz:(⟨(t.take n.toNat).toArray⟩:ByteArray).size=n.toNat:=hs
   simp only[Fk.bytes,e4]
   rw[hz,e1]
   simp only[List.cons_append,List.nil_append,List.append_assoc,List.take_append_drop]
theorem parseF_back : ∀ {k:Nat} {bs:List UInt8} {l:List Fk} {r:List UInt8},parseF k bs=some (l,r)→bs=bytesF l++r
 | 0,bs,l,r,h=>by simp[parseF] at h;obtain⟨rfl,rfl⟩:=h;simp[bytesF]
 | k+1,bs,l,r,h=>by
  simp only[parseF] at h
  split at h
  ·cases h
  ·rename_i l0 r0 h0
   split at h
   ·cases h
   ·rename_i b r1 hs
    injection h with h
    injection h with h1 h2
    subst h1 h2
    rw[parseF_back h0,stepF_back hs]
    simp[bytesF]
theorem zeros_rep : ∀ {l:List UInt8},zeros l=true→l=List.replicate l.length 0
 | [],_=>rfl
 | b::t,h=>by
  simp only[zeros,List.all_cons,Bool.and_eq_true,beq_iff_eq] at h
  rw[List.length_cons,List.replicate_succ,← zeros_rep (l:=t) h.2,h.1]
theorem zeros_of_rep (n:Nat):zeros (List.replicate n (0:UInt8))=true:=by simp[zeros]
def forksF (ct:Int) (bd:List UInt8):Option (List Fk) :=
 match parseF ct.toNat bd with
 | none=>none
 | some (l,r)=>if mayF l&&zeros r then some l else none
def headF (kd:Int) (pg lk ty:Nat) (bd:ByteArray):Bool:=decide (kd=3)&&(decide (lk=0)&&(numB pg&&(decide (ty≤4611686018427387904)&&goodSize ((bd.size+24:Nat):Int))))
theorem readF_is (kd ct:Int) (pg lk ty:Nat) (bd:ByteArray):readF kd ct pg lk ty bd=if headF kd pg lk ty bd then forksF ct bd.data.toList else none:=by
 rw[readF,forksF]
 rcases hp:parseF ct.toNat bd.data.toList with _ | ⟨l,r⟩
 ·simp
 ·have hs:=parseF_size hp
  have hb:=parseF_back hp
  have hl:=parseF_len hp
  rw[size_list] at hs
  have key:(mayP7 ((bd.size+24:Nat):Int) pg ty l&&decide (kd=3∧ct=l.length∧lk=0∧bd=forkBody (bd.size+24) l))=(headF kd pg lk ty bd&&(mayF l&&zeros r)):=by
   have hfit:decide ((sizeF l:Int)≤((bd.size+24:Nat):Int)-24)=true:=by simp;omega
   rw[mayP7,hfit,headF]
   rcases hm:mayF l with _ | _
   ·simp
   ·have hpos:0<l.length:=by simp only[mayF,Bool.and_eq_true,decide_eq_true_eq] at hm;exact hm.2
    have hct:ct=l.length:=by omega
    have hbd:(bd=forkBody (bd.size+24) l)↔zeros r=true:=by
     have hr:bd.size+24-24-sizeF l=r.length:=by omega
     constructor
     ·intro h
      have h1:bd.data.toList=bytesF l++List.replicate (bd.size+24-24-sizeF l) 0:=by
       have:(forkBody (bd.size+24) l).data.toList=bytesF l++List.replicate (bd.size+24-24-sizeF l) 0:=by simp[forkBody]
       rw[← this,← h]
      rw[hb] at h1
      rw[List.append_cancel_left h1]
      exact zeros_of_rep _
     ·intro h
      apply bytes_ext
      have:(forkBody (bd.size+24) l).data.toList=bytesF l++List.replicate (bd.size+24-24-sizeF l) 0:=by simp[forkBody]
      rw[this,hb,hr,← zeros_rep h]
    rw[Bool.eq_iff_iff]
    simp only[Bool.and_eq_true,decide_eq_true_eq,Bool.true_and,true_and]
    rw[hbd]
    constructor
    ·rintro ⟨⟨a1,a2,a3⟩,a4,a5,a6,a7⟩
     exact⟨⟨a4,a6,a2,a3,a1⟩,a7⟩
    ·rintro ⟨⟨a4,a6,a2,a3,a1⟩,a7⟩
     exact⟨⟨a1,a2,a3⟩,a4,hct,a6,a7⟩
  simp only[key]
  rcases headF kd pg lk ty bd with _ | _<;>simp
end Go.Proofs.YtanbbnogdhnikaaGreat

namespace Go.Proofs.YtanbbnogdhnikaaGreat
open Go.RowKit
open Go.Lib

def tookN (k:Nat) (t:ByteArray) (v:Nat) (x:Int) (t':ByteArray):Prop:=(k≤t.size∧x=0∧v=leNat (t.data.toList.take k)∧t'=t.extract k t.size)∨(t.size<k∧x=7∧t'=t)
theorem cnum_tot {w:World} {g:Nat} {t:ByteArray} (h:IsRd w g t) (k:Nat) (h1:1≤k) (h2:k≤8) :
  Calls Tryz.prog 139 #[.pointer (some ⟨g,0,none⟩),.int .i64 k] w fun e w'=>∃ (v:Nat) (x:Int) (t':ByteArray),e=.returned (.tuple #[.int .u64 v,.int .i64 x])∧IsRd w' g t'∧w.grownBy w' (some g)∧v<2 ^ (8*k)∧tookN k t v x t':=by
 by_cases hk:k≤t.size
 ·refine (number_ok' h k h1 h2 hk).mono ?_
  rintro e w' ⟨rfl,hr,hg⟩
  refine⟨_,_,_,rfl,hr,hg,?_,.inl ⟨hk,rfl,rfl,rfl⟩⟩
  have h3:=leNat_lt (t.data.toList.take k)
  have h4:(t.data.toList.take k).length≤k:=by rw[List.length_take];omega
  exact Nat.lt_of_lt_of_le h3 (Nat.pow_le_pow_right (by omega) (by omega))
 ·refine (number_more h k (by omega) (by omega) (by omega)).mono ?_
  rintro e w' ⟨rfl,rfl⟩
  exact⟨0,7,t,rfl,h,World.grownBy.refl _ _,Nat.two_pow_pos _,.inr ⟨by omega,rfl,rfl⟩⟩
def tookB (k:Nat) (t v:ByteArray) (x:Int) (t':ByteArray):Prop:=(k≤t.size∧x=0∧v=t.extract 0 k∧t'=t.extract k t.size)∨(t.size<k∧x=7∧t'=t)
theorem ext_take (t:ByteArray) (k:Nat):(t.extract 0 k).data.toList=t.data.toList.take k:=by simp
theorem ext_drop (t:ByteArray) (k:Nat):(t.extract k t.size).data.toList=t.data.toList.drop k:=by
 have h:t.data.size=t.data.toList.length:=by simp
 rw[ByteArray.data_extract,Array.toList_extract,List.extract_eq_take_drop,List.take_of_length_le]
 rw[List.length_drop]
 show _≤t.data.size-k
 omega
theorem leNat_one (n:UInt8):leNat [n]=n.toNat:=by simp[leNat]
theorem rnum_tot {w:World} {g:Nat} {t:ByteArray} (h:IsRf w g t) (k:Nat) (h1:1≤k) (h2:k≤8) :
  Calls Tryz.prog 64 #[.pointer (some ⟨g,0,none⟩),.int .i64 k] w fun e w'=>∃ (v:Nat) (x:Int) (t':ByteArray),e=.returned (.tuple #[.int .u64 v,.int .i64 x])∧IsRf w' g t'∧w.grownBy w' (some g)∧v<2 ^ (8*k)∧tookN k t v x t':=by
 by_cases hk:k≤t.size
 ·refine (rnumber_ok' h k h1 h2 hk).mono ?_
  rintro e w' ⟨rfl,hr,hg⟩
  refine⟨_,_,_,rfl,hr,hg,?_,.inl ⟨hk,rfl,rfl,rfl⟩⟩
  have h3:=leNat_lt (t.data.toList.take k)
  have h4:(t.data.toList.take k).length≤k:=by rw[List.length_take];omega
  exact Nat.lt_of_lt_of_le h3 (Nat.pow_le_pow_right (by omega) (by omega))
 ·refine (rnumber_more h k (by omega) (by omega) (by omega)).mono ?_
  rintro e w' ⟨rfl,rfl⟩
  exact⟨0,7,t,rfl,h,World.grownBy.refl _ _,Nat.two_pow_pos _,.inr ⟨by omega,rfl,rfl⟩⟩
theorem rby_tot {w:World} {g:Nat} {t:ByteArray} (h:IsRf w g t) (k:Nat) :
  Calls Tryz.prog 65 #[.pointer (some ⟨g,0,none⟩),.int .i64 k] w fun e w'=>∃ (v:ByteArray) (x:Int) (t':ByteArray),e=.returned (.tuple #[.string v,.int .i64 x])∧IsRf w' g t'∧w.grownBy w' (some g)∧tookB k t v x t':=by
 by_cases hk:k≤t.size
 ·refine (rbytes_ok' h k hk).mono ?_
  rintro e w' ⟨rfl,hr,hg⟩
  exact⟨_,_,_,rfl,hr,hg,.inl ⟨hk,rfl,rfl,rfl⟩⟩
 ·refine (rbytes_more h k (by omega)).mono ?_
  rintro e w' ⟨rfl,rfl⟩
  exact⟨_,_,t,rfl,h,World.grownBy.refl _ _,.inr ⟨by omega,rfl,rfl⟩⟩
end Go.Proofs.YtanbbnogdhnikaaGreat

namespace Go.Proofs.YtanbbnogdhnikaaGreat
open Go.RowKit
open Go.Lib
attribute [local go_sem ↓] Go.wp_at_zero Go.wp_at_succ

def orL:List Int→Int
 | []=>0
 | x::l=>if x=0 then orL l else x
theorem orL_drop {l:List Int} {k:Nat} (h : ∀ j y,j<k→l[j]? = some y→y=0):orL l=orL (l.drop k):=by
 induction k generalizing l with
 | zero=>rfl
 | succ k ih =>
  cases l with
  | nil=>rfl
  | cons x l =>
   rw[orL,if_pos (h 0 x (by omega) rfl),List.drop_succ_cons]
   exact ih fun j y hj hy=>h (j+1) y (by omega) (by simpa using hy)
def ecells (l:List Int):List Value:=l.map fun x=>.int .i64 x
theorem cor_any (A:Option Addr) (n c:Nat) (l:List Int) (w:World) (hr:Reads w w.heap.size 1 A n (ecells l)) (hn:n≤1000000) :
  Calls Tryz.prog 143 #[.slice A n c] w fun e w'=>e=.returned (.int .i64 (orL l))∧w'=w:=by
 have hl:l.length=n:=by have:=hr.1;rw[ecells,List.length_map] at this;omega
 have HL:=Hd hl
 have HR:=Hd hr
 clear hr hl
 go_enter Tryz.func143,Tryz.ntmps143
 go_wp2_with fail
 go_loop [5,8] (fun _ i=>∃ k:Nat,k≤n∧i=.int .i64 k∧Hid (∀ j y,j<k→l[j]? = some y→y=0)) (fun _ i=>n-(RowKit.intOf i).toNat)
 case atStart=>exact⟨0,Nat.zero_le _,rfl,Hd fun j y hj=>absurd hj (by omega)⟩
 case round =>
  obtain⟨k,hk,rfl,HF⟩:=hrel
  by_cases hlt:k<n
  ·obtain⟨ad,hA,hb,hcell⟩:=HR.out.2 (by omega)
   subst hA
   have hkl:k<l.length:=by rw[HL.out];exact hlt
   obtain⟨x,hx⟩ : ∃ x,l[k]? = some x:=⟨l[k],List.getElem?_eq_getElem hkl⟩
   have hc:=hcell k (.int .i64 x) (by rw[ecells,List.getElem?_map,hx];rfl)
   have hc1:w.cell? (ad.add (k*1))=some (.int .i64 x):=by rw[Nat.mul_one];exact hc
   have hk0:(0:Int)≤k:=by omega
   have hk1:(k:Int)<n:=by omega
   have HX:=Hd hx
   clear hx hcell hb hkl
   by_cases h0:x=0
   ·have h0':(x==0)=true:=by simp[h0]
    have HF2:=Hd (fun j y (hj:j<k+1) (hy:l[j]? = some y)=>show y=0 from by
     by_cases hjk:j<k
     ·exact HF.out j y hjk hy
     ·have e:j=k:=by omega
      rw[e,HX.out] at hy
      injection hy with hy
      rw[← hy];exact h0)
    go_wp2_with fail
    go_round
    case rel =>
     first
      | exact⟨k+1,by omega,by go_num,HF2⟩
      | ((repeat apply Exists.intro);exact⟨⟨k+1,by omega,by go_num,HF2⟩,rfl⟩)
    case measure=>simp[RowKit.intOf];omega
   ·have h0':(x==0)=false:=by simp[h0]
    have HE:=Hd (show orL l=x by
     rw[orL_drop HF.out]
     have hkl:k<l.length:=(List.getElem?_eq_some_iff.1 HX.out).1
     have e:l[k]=x:=(List.getElem?_eq_some_iff.1 HX.out).2
     rw[List.drop_eq_getElem_cons hkl,orL,e,if_neg h0])
    go_wp2_with fail
    go_ret
    exact⟨by rw[HE.out];rfl,rfl⟩
  ·obtain rfl:k=n:=by omega
   have HE:=Hd (show orL l=0 by
    rw[orL_drop HF.out,List.drop_of_length_le (by rw[HL.out];exact Nat.le_refl _)];rfl)
   clear hlt
   go_wp2_with fail
   go_ret
   exact⟨by rw[HE.out];rfl,rfl⟩
end Go.Proofs.YtanbbnogdhnikaaGreat

namespace Go.Proofs.YtanbbnogdhnikaaGreat
open Go.RowKit
open Go.Lib hiding intOf
attribute [local go_sem ↓] Go.wp_at_zero Go.wp_at_succ

theorem bkey_any (s:ByteArray) (w:World):Calls Tryz.prog 159 #[.string s] w fun e w'=>e=.returned (.bool (keyF s))∧w'=w:=by
 by_cases h1:s.size≤40
 ·have h1':(s.size:Int)≤40:=by omega
  have HE:=Hd (show keyF s=true by simp[keyF,h1])
  go_enter Tryz.func159,Tryz.ntmps159
  go_wp2
  go_ret
  exact⟨by rw[HE.out];rfl,rfl⟩
 ·have h1' : ¬ (s.size:Int)≤40:=by omega
  have HE:=Hd (show keyF s=false by simp[keyF,h1])
  go_enter Tryz.func159,Tryz.ntmps159
  go_wp2
  go_ret
  exact⟨by rw[HE.out];rfl,rfl⟩
theorem bnum_any (n:Nat) (w:World):Calls Tryz.prog 134 #[.int .u32 n] w fun e w'=>e=.returned (.bool (numB n))∧w'=w:=by
 by_cases h1:2≤n
 ·have h1':(2:Int)≤n:=by omega
  by_cases h2:n≤2147483647
  ·have h2':(n:Int)≤2147483647:=by omega
   have HE:=Hd (show numB n=true by simp[numB,h1,h2])
   go_enter Tryz.func134,Tryz.ntmps134
   go_wp2
   go_ret
   exact⟨by rw[HE.out];rfl,rfl⟩
  ·have h2' : ¬ (n:Int)≤2147483647:=by omega
   have HE:=Hd (show numB n=false by simp[numB,h1,h2])
   go_enter Tryz.func134,Tryz.ntmps134
   go_wp2
   go_ret
   exact⟨by rw[HE.out];rfl,rfl⟩
 ·have h1' : ¬ (2:Int)≤n:=by omega
  have HE:=Hd (show numB n=false by simp[numB,h1])
  go_enter Tryz.func134,Tryz.ntmps134
  go_wp2
  go_ret
  exact⟨by rw[HE.out];rfl,rfl⟩
def DiesB (e:Ending):Prop:=e=.panicked [{ v:=.iface 186 (.agg #[]),recovered:=false }]
theorem bneed_yes (w:World):Calls Tryz.prog 118 #[.bool true] w fun e w'=>e=.returned (.tuple #[])∧w'=w:=by
 go_enter Tryz.func118,Tryz.ntmps118
 go_wp2
 go_end0
 exact⟨rfl,rfl⟩
theorem bneed_no (w:World):Calls Tryz.prog 118 #[.bool false] w fun e w'=>DiesB e∧w'=w:=by
 go_enter Tryz.func118,Tryz.ntmps118
 go_wp2
 exact⟨rfl,rfl,rfl⟩
theorem bpick_any (A:Option Addr) (n c:Nat) (l:List Fk) (key:ByteArray) (w:World) (hr:Reads w w.heap.size 2 A n (fkc l)) (hn:n≤1000000) :
  Calls Tryz.prog 74 #[.slice A n c,.string key] w fun e w'=>e=.returned (.int .i64 (pickF l key))∧Below w.heap.size w w':=by
 have HL:=Hd (fk_len hr)
 have HR:=Hd hr
 clear hr
 go_enter Tryz.func74,Tryz.ntmps74
 go_wp2_with fail
 go_step3
 go_wp2_with fail
 go_step3
 go_wp2_with fail
 go_loopw [5,6,7,10] (fun s _ _ i wr=>∃ k:Nat,k≤n∧i=.int .i64 k∧s=.int .i64 ((k-1:Nat):Int)∧Hid (∀ j y,j<k→l[j]? = some y→(!Op.bytesLess key.toList y.nm.toList)=true)∧Hid (Below w.heap.size w wr)) (fun _ _ _ i _=>n-(intOf i).toNat)
 case atStart=>exact⟨0,Nat.zero_le _,rfl,rfl,Hd fun j y hj=>absurd hj (by omega),Hd (Below.refl _ _)⟩
 case round =>
  obtain⟨k,hk,rfl,rfl,HF,HB⟩:=hrel
  by_cases hlt:k<n
  ·obtain⟨ad,x,rfl,_,hp,hx,hc⟩:=fk_at HR.out hlt
   obtain⟨hc0,hc1⟩:=hc.below HB.out hp
   have hk0:(0:Int)≤k:=by omega
   have hk1:(k:Int)<n:=by omega
   have HX:=Hd hx
   have HB2:=Hd (HB.out.alloc HB.out.size (.cells #[.string x.nm,.int .u32 x.rt] 45))
   clear hx hc hp
   rcases he:Op.bytesLess key.toList x.nm.toList with _ | _
   ·have HF':=Hd (fun i y (hi:i<k+1) (hy:l[i]? = some y)=>show (!Op.bytesLess key.toList y.nm.toList)=true from by
     by_cases hjk:i<k
     ·exact HF.out i y hjk hy
     ·obtain rfl:i=k:=by omega
      rw[HX.out] at hy
      injection hy with hy
      subst hy
      rw[he];rfl)
    have hle:(!Op.bytesLess x.nm.toList key.toList && !x.nm.toList==key.toList)=false:=by rw[← Bool.not_or,leq_not,he];rfl
    go_wp2_with fail
    go_roundw
    case rel =>
     refine⟨k+1,by omega,by go_num,rfl,HF',HB2⟩
    case measure=>simp[intOf];omega
   ·have hN:pickN l key=k:=takeWhile_at HF.out (by rw[HL.out];omega) (fun y hy=>by rw[HX.out] at hy;injection hy with hy;subst hy;rw[he];rfl)
    have HE:=Hd (show pickF l key=k-1 by rw[pickF,hN])
    have hle:(!Op.bytesLess x.nm.toList key.toList && !x.nm.toList==key.toList)=true:=by rw[← Bool.not_or,leq_not,he];rfl
    clear hN
    go_wp2_with fail
    (try rw[Exit.noGoto_ret])
    go_ret
    exact⟨by rw[HE.out];rfl,HB2.out⟩
  ·obtain rfl:k=n:=by omega
   have hN:pickN l key=k:=takeWhile_at HF.out (by rw[HL.out];exact Nat.le_refl _) (fun y hy=>by
    have:=(List.getElem?_eq_some_iff.1 hy).1
    rw[HL.out] at this
    omega)
   have HE:=Hd (show pickF l key=k-1 by rw[pickF,hN])
   clear hN hlt
   go_wp2_with fail
   (try rw[Exit.noGoto_ret])
   go_ret
   exact⟨by rw[HE.out];rfl,HB.out⟩
theorem bvalid_any (A:Option Addr) (n c:Nat) (l:List Fk) (w:World) (hr:Reads w w.heap.size 2 A n (fkc l)) (hn:n≤5864062014805) :
  Calls Tryz.prog 136 #[.slice A n c] w fun e w'=>e=.returned (.bool (mayF l))∧Below w.heap.size w w':=by
 have HL:=Hd (fk_len hr)
 have HR:=Hd hr
 clear hr
 go_enter Tryz.func136,Tryz.ntmps136
 go_wp2_with fail
 go_loopw [3,4,7] (fun _ _ i wr=>∃ k:Nat,k≤n∧i=.int .i64 k∧Hid (∀ j,j<k→okAtF l j=true)∧Hid (Below w.heap.size w wr)) (fun _ _ i _=>n-(intOf i).toNat)
 case atStart=>exact⟨0,Nat.zero_le _,rfl,Hd fun j hj=>absurd hj (by omega),Hd (Below.refl _ _)⟩
 case round =>
  obtain⟨k,hk,rfl,HF,HB⟩:=hrel
  by_cases hlt:k<n
  ·obtain⟨ad,x,rfl,_,hp,hx,hc⟩:=fk_at HR.out hlt
   obtain⟨c0,c1⟩:=hc.below HB.out hp
   have hk0:(0:Int)≤k:=by omega
   have hk1:(k:Int)<n:=by omega
   have HX:=Hd hx
   have hkl:k<l.length:=by rw[HL.out];exact hlt
   have HK:=fun w=>bkey_any x.nm w
   have HN:=fun w=>bnum_any x.rt w
   obtain⟨w1,hw1⟩ : ∃ x1,x1=wr.alloc (.cells #[.string x.nm,.int .u32 x.rt] 45):=⟨_,rfl⟩
   have M:=Hd (show Blk w1 wr.heap.size 45 #[.string x.nm,.int .u32 x.rt] by rw[hw1];exact Blk.new _ _ _)
   replace HB:=Hd (show Below w.heap.size w w1 by rw[hw1];exact HB.out.alloc HB.out.size _)
   clear hx hc hp
   go_upto_region 4 with fail
   rw[← hw1]
   clear hw1 c0 c1
   generalize wr.heap.size=gM at *
   have m0:=M.out.cell 0
   have m1:=M.out.cell 1
   simp at m0 m1
   rcases hnm:keyF x.nm with _ | _
   ·have HE:=Hd (show mayF l=false by rw[mayF,allOkF_no hkl (by rw[okAtF_of HX.out,okFk,hnm];rfl)];rfl)
    rw[hnm] at HK
    clear hkl hnm
    go_quiet ((go_at_call 159;exact Calls.quiet_of_same (HK _)))
    go_wp2_with fail
    go_ret
    exact⟨by rw[HE.out];rfl,below_drewN HB.out _⟩
   rw[hnm] at HK
   rcases hnb:numB x.rt with _ | _
   ·have HE:=Hd (show mayF l=false by rw[mayF,allOkF_no hkl (by rw[okAtF_of HX.out,okFk,hnm,hnb];rfl)];rfl)
    rw[hnb] at HN
    clear hkl hnm hnb
    go_quiet (first | (go_at_call 159;exact Calls.quiet_of_same (HK _)) | (go_at_call 134;exact Calls.quiet_of_same (HN _)))
    go_wp2_with fail
    go_ret
    exact⟨by rw[HE.out];rfl,below_drewN HB.out _⟩
   rw[hnb] at HN
   have hok:okFk x=true:=by rw[okFk,hnm,hnb];rfl
   clear hnm hnb
   by_cases hk00:k=0
   ·have HE:=Hd (show okAtF l k=true by rw[okAtF_of HX.out,hok,hk00];rfl)
    have hk3:decide ((k:Int) > 0)=false:=by simp;omega
    have hk4:decide (0<k)=false:=by simp;omega
    clear hk00 hok hkl
    go_quiet (first | (go_at_call 159;exact Calls.quiet_of_same (HK _)) | (go_at_call 134;exact Calls.quiet_of_same (HN _)))
    go_wp2_with fail
    have HF':=Hd (fun j (hj:j<k+1)=>show okAtF l j=true from by
     by_cases hjk:j<k
     ·exact HF.out j hjk
     ·have e:j=k:=by omega
      rw[e];exact HE.out)
    have HB':=Hd (below_drewN HB.out nq)
    go_roundw
    case rel =>
     first
      | exact⟨k+1,by omega,by go_num,HF',HB'⟩
      | ((repeat apply Exists.intro);exact⟨⟨k+1,by omega,by go_num,HF',HB'⟩,rfl⟩)
    case measure=>simp[intOf];omega
   obtain⟨j,hkj⟩ : ∃ j,k=j+1:=⟨k-1,by omega⟩
   obtain⟨ad',y,had,_,hpy,hy,hcy⟩:=fk_at HR.out (show j<n by omega)
   injection had with had
   subst had
   obtain⟨y0,_⟩:=hcy.below HB.out hpy
   have hj1:IntKind.i64.wrap ((k:Int)-1)=(j:Int):=by rw[IntKind.wrap_i64];omega
   have hj2:(k:Int)-1=(j:Int):=by omega
   have hj5:IntKind.i64.wrap (j:Int)=(j:Int):=by rw[IntKind.wrap_i64];omega
   have hj3:(0:Int)≤j:=by omega
   have hj4:(j:Int)<n:=by omega
   have hk3:decide ((k:Int) > 0)=true:=by simp;omega
   have hk4:decide (0<k)=true:=by simp;omega
   have hat:okAtF l k=Op.bytesLess y.nm.toList x.nm.toList:=by rw[okAtF_of HX.out,hok,hkj];simp[hy]
   have hle:(Op.bytesLess x.nm.toList y.nm.toList || x.nm.toList==y.nm.toList) = !Op.bytesLess y.nm.toList x.nm.toList:=leq_not _ _
   rcases hless:Op.bytesLess y.nm.toList x.nm.toList with _ | _
   ·have HE:=Hd (show mayF l=false by rw[mayF,allOkF_no hkl (by rw[hat,hless])];rfl)
    rw[hless] at hle
    clear hat hkl hok hy hkj hk00 hcy
    go_quiet (first | (go_at_call 159;exact Calls.quiet_of_same (HK _)) | (go_at_call 134;exact Calls.quiet_of_same (HN _)))
    go_wp2_with fail
    go_ret
    exact⟨by rw[HE.out];rfl,below_drewN HB.out _⟩
   ·have HE:=Hd (show okAtF l k=true by rw[hat,hless])
    rw[hless] at hle
    clear hat hkl hok hy hkj hk00 hcy
    go_quiet (first | (go_at_call 159;exact Calls.quiet_of_same (HK _)) | (go_at_call 134;exact Calls.quiet_of_same (HN _)))
    clear hj1 hj2 hj5
    go_wp2_with fail
    have HF':=Hd (fun j (hj:j<k+1)=>show okAtF l j=true from by
     by_cases hjk:j<k
     ·exact HF.out j hjk
     ·have e:j=k:=by omega
      rw[e];exact HE.out)
    have HB':=Hd (below_drewN HB.out nq)
    go_roundw
    case rel =>
     first
      | exact⟨k+1,by omega,by go_num,HF',HB'⟩
      | ((repeat apply Exists.intro);exact⟨⟨k+1,by omega,by go_num,HF',HB'⟩,rfl⟩)
    case measure=>simp[intOf];omega
  ·obtain rfl:k=n:=by omega
   have ha:allOkF l=true:=allOkF_yes fun j hj=>HF.out j (by rw[← HL.out];exact hj)
   have HE:=Hd (show mayF l=decide (0<k) by rw[mayF,ha,HL.out];rfl)
   clear ha hlt
   go_wp2_with fail
   go_ret
   exact⟨by rw[HE.out];simp,HB.out⟩
end Go.Proofs.YtanbbnogdhnikaaGreat

