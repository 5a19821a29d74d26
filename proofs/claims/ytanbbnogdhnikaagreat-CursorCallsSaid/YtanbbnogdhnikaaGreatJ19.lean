/-
  Texts that the main proof rests on, put together: ItParse, LeSmall. No statement is proved here.
-/
import Derived.Test.YtanbbnogdhnikaaGreatJ18
set_option linter.unusedVariables false
set_option linter.unusedSimpArgs false
set_option maxRecDepth 300000
set_option maxHeartbeats 25600000
namespace Go.Proofs.YtanbbnogdhnikaaGreat
open Go.RowKit
open Go.Lib hiding intOf

def It.tail (b:It):List UInt8:=if b.ov then Go.leBytes 4 b.ln.toNat++Go.leBytes 4 b.hd else Go.leBytes 1 b.vl.size++b.vl.data.toList
def It.bytes (b:It):List UInt8:=Go.leBytes 1 (if b.ov then 1 else 0)++(Go.leBytes 1 b.ky.size++(b.ky.data.toList++b.tail))
def bytesI (l:List It):List UInt8:=l.flatMap It.bytes
theorem It.bytes_len (b:It):b.bytes.length=oneI b:=by
 unfold It.bytes It.tail oneI
 split
 ·simp only[List.length_append,leB_len,size_list];omega
 ·simp only[List.length_append,leB_len,size_list];omega
theorem bytesI_len (l:List It):(bytesI l).length=sizeI l:=by
 induction l with
 | nil=>rfl
 | cons b l ih =>
  simp only[bytesI,List.flatMap_cons,List.length_append,It.bytes_len,sizeI] at ih ⊢
  rw[ih]
theorem bytesI_take_succ {l:List It} {k:Nat} {x:It} (h:l[k]? = some x):bytesI (l.take (k+1))=bytesI (l.take k)++x.bytes:=by
 obtain⟨hk,rfl⟩:=List.getElem?_eq_some_iff.1 h
 rw[List.take_succ_eq_append_getElem hk]
 simp only[bytesI,List.flatMap_append,List.flatMap_cons,List.flatMap_nil,List.append_nil]
def itemBody (size:Nat) (l:List It):ByteArray:=⟨(bytesI l++List.replicate (size-24-sizeI l) 0).toArray⟩
def tailI (o:UInt8) (ky:ByteArray) (r:List UInt8):Option (It×List UInt8) :=
 if o=0 then (match r with
  | []=>none
  | m::t=>if t.length<m.toNat then none else some (⟨ky,⟨(t.take m.toNat).toArray⟩,false,0,0⟩,t.drop m.toNat))
 else if o=1 then (if r.length<8 then none else some (⟨ky,⟨#[]⟩,true,(leNat (r.take 4):Nat),leNat ((r.drop 4).take 4)⟩,(r.drop 4).drop 4))
 else none
def stepI:List UInt8→Option (It×List UInt8)
 | []=>none
 | [_]=>none
 | o::n::r=>if r.length<n.toNat then none else tailI o ⟨(r.take n.toNat).toArray⟩ (r.drop n.toNat)
def parseI:Nat→List UInt8→Option (List It×List UInt8)
 | 0,bs=>some ([],bs)
 | k+1,bs=>match parseI k bs with
  | none=>none
  | some (l,r)=>match stepI r with
   | none=>none
   | some (b,r')=>some (l++[b],r')
theorem parseI_len : ∀ {k:Nat} {bs:List UInt8} {l:List It} {r:List UInt8},parseI k bs=some (l,r)→l.length=k
 | 0,bs,l,r,h=>by simp[parseI] at h;obtain⟨rfl,_⟩:=h;rfl
 | k+1,bs,l,r,h=>by
  simp only[parseI] at h
  split at h
  ·cases h
  ·rename_i l0 r0 h0
   split at h
   ·cases h
   ·rename_i b r1 _
    injection h with h
    injection h with h1 _
    rw[← h1,List.length_append,parseI_len h0]
    rfl
theorem leBytes_one (n:UInt8):Go.leBytes 1 n.toNat=[n]:=by
 have:=leBytes_leNat [n]
 simpa [leNat] using this
theorem tailI_back {o:UInt8} {ky:ByteArray} {r r':List UInt8} {b:It} (h:tailI o ky r=some (b,r')):b.ky=ky∧o.toNat=(if b.ov then 1 else 0)∧r=b.tail++r':=by
 unfold tailI at h
 split at h
 ·rename_i ho
  split at h
  ·cases h
  ·rename_i m t
   split at h
   ·cases h
   ·rename_i hl
    injection h with h
    injection h with h1 h2
    subst h1 h2
    refine⟨rfl,by rw[ho];rfl,?_⟩
    have hz:(⟨(t.take m.toNat).toArray⟩:ByteArray).size=m.toNat:=by
     show (t.take m.toNat).toArray.size=m.toNat
     simp;omega
    simp only[It.tail,Bool.false_eq_true,if_false]
    rw[hz,leBytes_one]
    simp only[List.cons_append,List.nil_append,List.append_assoc,List.take_append_drop]
 ·split at h
  ·rename_i ho
   split at h
   ·cases h
   ·rename_i hl
    injection h with h
    injection h with h1 h2
    subst h1 h2
    refine⟨rfl,by rw[ho];rfl,?_⟩
    have e1:Go.leBytes 4 (leNat (r.take 4))=r.take 4:=by
     have:=leBytes_leNat (r.take 4)
     rwa [show (r.take 4).length=4 by simp;omega] at this
    have e2:Go.leBytes 4 (leNat ((r.drop 4).take 4))=(r.drop 4).take 4:=by
     have:=leBytes_leNat ((r.drop 4).take 4)
     rwa [show ((r.drop 4).take 4).length=4 by simp;omega] at this
    simp only[It.tail,if_true,Int.toNat_natCast,e1,e2,List.append_assoc,List.take_append_drop]
  ·cases h
theorem stepI_back {bs r:List UInt8} {b:It} (h:stepI bs=some (b,r)):bs=b.bytes++r:=by
 match bs,h with
 | [],h=>simp[stepI] at h
 | [_],h=>simp[stepI] at h
 | o::n::t,h =>
  simp only[stepI] at h
  split at h
  ·cases h
  ·rename_i hl
   obtain⟨h1,h2,h3⟩:=tailI_back h
   have hz:(⟨(t.take n.toNat).toArray⟩:ByteArray).size=n.toNat:=by
    show (t.take n.toNat).toArray.size=n.toNat
    simp;omega
   simp only[It.bytes,h1,← h2]
   rw[hz,leBytes_one,leBytes_one]
   simp only[List.cons_append,List.nil_append,List.append_assoc,← h3,List.take_append_drop]
theorem parseI_back : ∀ {k:Nat} {bs:List UInt8} {l:List It} {r:List UInt8},parseI k bs=some (l,r)→bs=bytesI l++r
 | 0,bs,l,r,h=>by simp[parseI] at h;obtain⟨rfl,rfl⟩:=h;simp[bytesI]
 | k+1,bs,l,r,h=>by
  simp only[parseI] at h
  split at h
  ·cases h
  ·rename_i l0 r0 h0
   split at h
   ·cases h
   ·rename_i b r1 hs
    injection h with h
    injection h with h1 h2
    subst h1 h2
    rw[parseI_back h0,stepI_back hs]
    simp[bytesI]
theorem parseI_size {k:Nat} {bs:List UInt8} {l:List It} {r:List UInt8} (h:parseI k bs=some (l,r)):sizeI l+r.length=bs.length:=by
 rw[parseI_back h,List.length_append,bytesI_len]
theorem parseI_none {k:Nat} {bs:List UInt8} (h:parseI k bs=none) : ∀ d,parseI (k+d) bs=none
 | 0=>h
 | d+1=>by rw[← Nat.add_assoc];simp only[parseI,parseI_none h d]
theorem parseI_step {k:Nat} {bs r r':List UInt8} {l:List It} {b:It} (h:parseI k bs=some (l,r)) (hs:stepI r=some (b,r')):parseI (k+1) bs=some (l++[b],r'):=by simp only[parseI,h,hs]
theorem parseI_stop {k:Nat} {bs r:List UInt8} {l:List It} (h:parseI k bs=some (l,r)) (hs:stepI r=none):parseI (k+1) bs=none:=by simp only[parseI,h,hs]
theorem sizeI_mem {l:List It} {b:It} (h:b∈l):oneI b≤sizeI l:=by
 induction l with
 | nil=>cases h
 | cons c l ih =>
  simp only[sizeI]
  rcases List.mem_cons.1 h with rfl | h
  ·omega
  ·have:=ih h;omega
theorem tailI_vl {o:UInt8} {ky:ByteArray} {r r':List UInt8} {b:It} (h:tailI o ky r=some (b,r')):b.ov=true→b.vl.size=0:=by
 unfold tailI at h
 split at h
 ·split at h
  ·cases h
  ·split at h
   ·cases h
   ·injection h with h
    injection h with h1 h2
    subst h1
    intro hb
    cases hb
 ·split at h
  ·split at h
   ·cases h
   ·injection h with h
    injection h with h1 h2
    subst h1
    intro _
    rfl
  ·cases h
theorem stepI_vl {bs r:List UInt8} {b:It} (h:stepI bs=some (b,r)):b.ov=true→b.vl.size=0:=by
 match bs,h with
 | [],h=>simp[stepI] at h
 | [_],h=>simp[stepI] at h
 | o::n::t,h =>
  simp only[stepI] at h
  split at h
  ·cases h
  ·exact tailI_vl h
theorem parseI_vl : ∀ {k:Nat} {bs:List UInt8} {l:List It} {r:List UInt8},parseI k bs=some (l,r)→∀ b,b∈l→b.ov=true→b.vl.size=0
 | 0,bs,l,r,h,b,hb=>by simp[parseI] at h;obtain⟨rfl,_⟩:=h;cases hb
 | k+1,bs,l,r,h,b,hb=>by
  simp only[parseI] at h
  split at h
  ·cases h
  ·rename_i l0 r0 h0
   split at h
   ·cases h
   ·rename_i x r1 hs
    injection h with h
    injection h with h1 _
    rw[← h1] at hb
    rcases List.mem_append.1 hb with hb | hb
    ·exact parseI_vl h0 b hb
    ·simp only[List.mem_singleton] at hb
     subst hb
     exact stepI_vl hs
theorem parseI_near {k:Nat} {bs:List UInt8} {l:List It} {r:List UInt8} (h:parseI k bs=some (l,r)) (hs:bs.length≤100000):NearI l:=fun b hb=>by
 have h1:=parseI_back h
 have h2:sizeI l+r.length=bs.length:=by rw[h1,List.length_append,bytesI_len]
 have h3:=sizeI_mem hb
 have h4:=parseI_vl h b hb
 unfold oneI at h3
 split at h3
 ·rename_i hov
  have:=h4 hov
  exact⟨by omega,by omega⟩
 ·exact⟨by omega,by omega⟩
theorem parseI_keeps {k:Nat} {bs r:List UInt8} {l:List It} {b:It} (h:parseI k bs=some (l,r)) (hb:b∈l) : ∀ d l' r',parseI (k+d) bs=some (l',r')→b∈l'
 | 0,l',r',h'=>by rw[Nat.add_zero,h] at h';injection h' with h';injection h' with h1 _;rw[← h1];exact hb
 | d+1,l',r',h'=>by
  rw[← Nat.add_assoc] at h'
  simp only[parseI] at h'
  split at h'
  ·cases h'
  ·rename_i l0 r0 h0
   split at h'
   ·cases h'
   ·injection h' with h'
    injection h' with h1 _
    rw[← h1]
    exact List.mem_append_left _ (parseI_keeps h hb d _ _ h0)
theorem tailI_bytes (b:It) (t:List UInt8) (h:okIt b=true):tailI (if b.ov then 1 else 0) b.ky (b.tail++t)=some (b,t):=by
 obtain⟨ky,vl,ov,ln,hd⟩:=b
 cases ov
 ·simp only[okIt,keyF,Bool.false_eq_true,if_false,Bool.and_eq_true,decide_eq_true_eq] at h
  obtain⟨_,hv,hln,hhd⟩:=h
  subst hln hhd
  have e1:Go.leBytes 1 vl.size=[UInt8.ofNat vl.size]:=by
   have:=leBytes_one (UInt8.ofNat vl.size)
   rwa [show (UInt8.ofNat vl.size).toNat=vl.size by simp;omega] at this
  have hn:(UInt8.ofNat vl.size).toNat=vl.size:=by simp;omega
  have hl:vl.data.toList.length=vl.size:=size_list _
  simp only[It.tail,tailI,Bool.false_eq_true,if_false,e1,List.cons_append,List.nil_append,hn,if_true]
  rw[if_neg (by simp only[List.length_append,hl];omega),List.take_left' hl,List.drop_left' hl]
 ·simp only[okIt,keyF,numB,if_true,Bool.and_eq_true,decide_eq_true_eq] at h
  obtain⟨_,hv,hl1,hl2,hh⟩:=h
  have l4 : ∀ v,(Go.leBytes 4 v).length=4:=fun v=>leB_len 4 v
  have hve:vl=⟨#[]⟩:=by
   apply bytes_ext
   have:vl.data.toList.length=0:=by rw[size_list];exact hv
   rw[List.eq_nil_of_length_eq_zero this]
  subst hve
  have r1:leNat (Go.leBytes 4 ln.toNat)=ln.toNat:=by rw[leNat_leBytes_mod];omega
  have r2:leNat (Go.leBytes 4 hd)=hd:=by rw[leNat_leBytes_mod];omega
  simp only[It.tail,tailI,if_true,List.append_assoc]
  rw[if_neg (by decide),if_neg (by simp only[List.length_append,l4];omega),List.take_left' (l4 _),List.drop_left' (l4 _),List.take_left' (l4 _),List.drop_left' (l4 _),r1,r2]
  congr 2
  exact It.ext_ rfl rfl rfl (by show ((ln.toNat:Nat):Int)=ln;omega) rfl
theorem okIt_key {b:It} (h:okIt b=true):b.ky.size≤40:=by
 unfold okIt at h
 split at h<;>simp only[keyF,Bool.and_eq_true,decide_eq_true_eq] at h<;>exact h.1
theorem stepI_bytes (b:It) (t:List UInt8) (h:okIt b=true):stepI (b.bytes++t)=some (b,t):=by
 have hk:=okIt_key h
 have e1:Go.leBytes 1 b.ky.size=[UInt8.ofNat b.ky.size]:=by
  have:=leBytes_one (UInt8.ofNat b.ky.size)
  rwa [show (UInt8.ofNat b.ky.size).toNat=b.ky.size by simp;omega] at this
 have e0:Go.leBytes 1 (if b.ov then 1 else 0)=[if b.ov then 1 else 0]:=by cases b.ov<;>rfl
 have hn:(UInt8.ofNat b.ky.size).toNat=b.ky.size:=by simp;omega
 have hl:b.ky.data.toList.length=b.ky.size:=size_list _
 have hkk:(⟨b.ky.data.toList.toArray⟩:ByteArray)=b.ky:=by apply bytes_ext;simp
 simp only[It.bytes,e0,e1,List.cons_append,List.nil_append,List.append_assoc,stepI,hn]
 rw[if_neg (by simp only[List.length_append,hl];omega),List.take_left' hl,List.drop_left' hl,hkk,tailI_bytes b t h]
theorem parseI_bytes (l:List It) (t:List UInt8) (h : ∀ b,b∈l→okIt b=true) : ∀ k,k≤l.length→parseI k (bytesI l++t)=some (l.take k,bytesI (l.drop k)++t)
 | 0,_=>by simp[parseI]
 | k+1,hk=>by
  have ih:=parseI_bytes l t h k (by omega)
  have hx:l.drop k=l[k]::l.drop (k+1):=List.drop_eq_getElem_cons (by omega)
  have hs:stepI (bytesI (l.drop k)++t)=some (l[k],bytesI (l.drop (k+1))++t):=by
   rw[hx]
   simp only[bytesI,List.flatMap_cons,List.append_assoc]
   exact stepI_bytes l[k] _ (h _ (List.getElem_mem _))
  simp only[parseI,ih,hs]
  rw[List.take_succ_eq_append_getElem (by omega)]
theorem parseI_all (l:List It) (t:List UInt8) (h : ∀ b,b∈l→okIt b=true):parseI l.length (bytesI l++t)=some (l,t):=by
 have:=parseI_bytes l t h l.length (Nat.le_refl _)
 simpa [bytesI] using this
def mayP8 (size:Int) (n tx:Nat) (l:List It):Bool:=goodSize size&&(mayI l&&(decide ((sizeI l:Int)≤size-24)&&(numB n&&decide (tx≤4611686018427387904))))
def readI (kd ct:Int) (pg lk ty:Nat) (bd:ByteArray):Option (List It) :=
 match parseI ct.toNat bd.data.toList with
 | none=>none
 | some (l,_)=>if mayP8 ((bd.size+24:Nat):Int) pg ty l&&decide (kd=4∧ct=l.length∧lk=0∧bd=itemBody (bd.size+24) l) then some l else none
theorem mayP8_parts {z n tx:Nat} {l:List It} (h:mayP8 z n tx l=true):allOkI l=true∧0<l.length∧goodSize z=true∧(sizeI l≤z-24∧24≤z)∧(2≤n∧n≤2147483647)∧tx≤4611686018427387904:=by
 simp only[mayP8,mayI,numB,Bool.and_eq_true,decide_eq_true_eq] at h
 obtain⟨h1,⟨h2,h3⟩,h4,h5,h6⟩:=h
 have:=good_pos h1
 exact⟨h2,h3,h1,by omega,h5,h6⟩
theorem itemBody_size (z:Nat) (l:List It) (h:sizeI l≤z-24):(itemBody z l).size=z-24:=by
 show (bytesI l++List.replicate (z-24-sizeI l) 0).toArray.size=_
 rw[List.size_toArray,List.length_append,List.length_replicate,bytesI_len]
 omega
theorem allOkI_mem {l:List It} (h:allOkI l=true) {b:It} (hb:b∈l):okIt b=true:=by
 obtain⟨i,hi,rfl⟩:=List.mem_iff_getElem.1 hb
 exact allOkI_ok h (List.getElem?_eq_getElem hi)
theorem readI_page {z n tx:Nat} {l:List It} (h:mayP8 z n tx l=true):readI 4 l.length n 0 tx (itemBody z l)=some l:=by
 obtain⟨hall,h0,hg,hroom,hn,htx⟩:=mayP8_parts h
 have hgp:=good_pos hg
 have hsz:=itemBody_size z l hroom.1
 have hz:(itemBody z l).size+24=z:=by omega
 unfold readI
 have hp:parseI (l.length:Int).toNat (itemBody z l).data.toList=some (l,List.replicate (z-24-sizeI l) 0):=by
  show parseI l.length _=_
  have:(itemBody z l).data.toList=bytesI l++List.replicate (z-24-sizeI l) 0:=by simp[itemBody]
  rw[this]
  exact parseI_all l _ fun b hb=>allOkI_mem hall hb
 simp only[hp,hz]
 rw[if_pos (by rw[h];simp)]
theorem readI_some {kd ct:Int} {pg lk ty:Nat} {bd:ByteArray} {l:List It} (h:readI kd ct pg lk ty bd=some l):mayP8 ((bd.size+24:Nat):Int) pg ty l=true∧kd=4∧ct=l.length∧lk=0∧bd=itemBody (bd.size+24) l:=by
 unfold readI at h
 split at h
 ·cases h
 ·split at h
  ·rename_i hc
   injection h with h
   subst h
   rw[Bool.and_eq_true,decide_eq_true_eq] at hc
   exact⟨hc.1,hc.2⟩
  ·cases h
theorem mayP8_bad {size:Int} {n tx:Nat} {l:List It} {b:It} (hb:b∈l) (h:okIt b=false):mayP8 size n tx l=false:=by
 rw[Bool.eq_false_iff]
 intro hm
 have:allOkI l=true:=by simp only[mayP8,mayI,Bool.and_eq_true] at hm;exact hm.2.1.1
 rw[allOkI_mem this hb] at h
 cases h
theorem readI_bad {kd ct:Int} {pg lk ty:Nat} {bd:ByteArray} {k:Nat} {l:List It} {r:List UInt8} {b:It} (hk:k≤ct.toNat) (hp:parseI k bd.data.toList=some (l,r)) (hb:b∈l) (h:okIt b=false):readI kd ct pg lk ty bd=none:=by
 unfold readI
 split
 ·rfl
 ·rename_i l' r' hp'
  rw[← Nat.add_sub_cancel' hk] at hp'
  rw[mayP8_bad (parseI_keeps hp hb _ _ _ hp') h]
  rfl
end Go.Proofs.YtanbbnogdhnikaaGreat

namespace Go.Proofs.YtanbbnogdhnikaaGreat
open Go.RowKit
open Go.Lib hiding intOf
attribute [local go_sem ↓] Go.wp_at_zero Go.wp_at_succ

theorem lnum_any (n:Nat) (w:World):Calls Tryz.prog 146 #[.int .u32 n] w fun e w'=>e=.returned (.bool (numB n))∧w'=w:=by
 by_cases h1:2≤n
 ·have h1':(2:Int)≤n:=by omega
  by_cases h2:n≤2147483647
  ·have h2':(n:Int)≤2147483647:=by omega
   have HE:=Hd (show numB n=true by simp[numB,h1,h2])
   go_enter Tryz.func146,Tryz.ntmps146
   go_wp2
   go_ret
   exact⟨by rw[HE.out];rfl,rfl⟩
  ·have h2' : ¬ (n:Int)≤2147483647:=by omega
   have HE:=Hd (show numB n=false by simp[numB,h1,h2])
   go_enter Tryz.func146,Tryz.ntmps146
   go_wp2
   go_ret
   exact⟨by rw[HE.out];rfl,rfl⟩
 ·have h1' : ¬ (2:Int)≤n:=by omega
  have HE:=Hd (show numB n=false by simp[numB,h1])
  go_enter Tryz.func146,Tryz.ntmps146
  go_wp2
  go_ret
  exact⟨by rw[HE.out];rfl,rfl⟩
theorem litem_any (b:It) (w:World):Calls Tryz.prog 164 #[.agg #[.string b.ky,.string b.vl,.bool b.ov,.int .i64 b.ln,.int .u32 b.hd]] w fun e w'=>e=.returned (.bool (okIt b))∧Below w.heap.size w w':=by
 obtain⟨ky,vl,ov,ln,hd⟩:=b
 have HN:=fun w=>lnum_any hd w
 have HB:=Hd ((Below.refl w.heap.size w).alloc (Nat.le_refl _) (.cells #[.string ky,.string vl,.bool ov,.int .i64 ln,.int .u32 hd] 76))
 have hvz:vl.toList.isEmpty=decide (vl.size=0):=by
  rw[Bool.eq_iff_iff,List.isEmpty_iff_length_eq_zero,ByteArray.toList_eq,size_list,decide_eq_true_eq]
 cases ov
 ·clear hvz
  have hE:=okIt_in (b:=⟨ky,vl,false,ln,hd⟩) rfl
  dsimp only at hE
  rcases hk:keyF ky with _ | _
  ·have hkd:decide ((ky.size:Int) > 40)=true:=by simp[keyF] at hk;simp;omega
   rw[hk] at hE
   have HE:=Hd hE
   clear hE hk
   go_enter Tryz.func164,Tryz.ntmps164
   go_wp2_with fail
   go_ret
   exact⟨by rw[HE.out];rfl,HB.out⟩
  have hkd:decide ((ky.size:Int) > 40)=false:=by simp[keyF] at hk;simp;omega
  rw[hk] at hE
  by_cases h1:vl.size≤255
  rotate_left
  ·have h1':decide ((vl.size:Int)≤255)=false:=by simp;omega
   rw[decide_eq_false h1] at hE
   have HE:=Hd hE
   clear hE hk h1
   go_enter Tryz.func164,Tryz.ntmps164
   go_wp2_with fail
   go_ret
   exact⟨by rw[HE.out];rfl,HB.out⟩
  have h1':decide ((vl.size:Int)≤255)=true:=by simp;omega
  rw[decide_eq_true h1] at hE
  by_cases h2:ln=0
  rotate_left
  ·have h2':(ln==0)=false:=by simpa using h2
   rw[decide_eq_false h2] at hE
   have HE:=Hd hE
   clear hE hk h1 h2
   go_enter Tryz.func164,Tryz.ntmps164
   go_wp2_with fail
   go_ret
   exact⟨by rw[HE.out];rfl,HB.out⟩
  have h2':(ln==0)=true:=by simpa using h2
  rw[decide_eq_true h2] at hE
  have h3':((hd:Int)==0)=decide (hd=0):=by
   by_cases h3:hd=0
   ·simp[h3]
   ·simp[h3]
  have HE:=Hd hE
  have H3:=Hd h3'
  clear hE hk h1 h2 h3'
  go_enter Tryz.func164,Tryz.ntmps164
  go_wp2_with fail
  go_ret
  exact⟨by rw[HE.out,← H3.out];rfl,HB.out⟩
 ·have hE:=okIt_ov (b:=⟨ky,vl,true,ln,hd⟩) rfl
  dsimp only at hE
  rcases hk:keyF ky with _ | _
  ·have hkd:decide ((ky.size:Int) > 40)=true:=by simp[keyF] at hk;simp;omega
   rw[hk] at hE
   have HE:=Hd hE
   clear hE hk hvz
   go_enter Tryz.func164,Tryz.ntmps164
   go_wp2_with fail
   go_ret
   exact⟨by rw[HE.out];rfl,HB.out⟩
  have hkd:decide ((ky.size:Int) > 40)=false:=by simp[keyF] at hk;simp;omega
  rw[hk] at hE
  by_cases h1:vl.size=0
  rotate_left
  ·rw[decide_eq_false h1] at hE hvz
   have HE:=Hd hE
   clear hE hk h1
   go_enter Tryz.func164,Tryz.ntmps164
   go_wp2_with fail
   go_ret
   exact⟨by rw[HE.out];rfl,HB.out⟩
  rw[decide_eq_true h1] at hE hvz
  have hvn:vl.toList=[]:=List.isEmpty_iff.1 hvz
  clear hvz
  by_cases h2:1≤ln
  rotate_left
  ·have h2':decide (1≤ln)=false:=decide_eq_false h2
   rw[h2'] at hE
   have HE:=Hd hE
   clear hE hk h1 h2
   go_enter Tryz.func164,Tryz.ntmps164
   go_wp2_with fail
   go_ret
   exact⟨by rw[HE.out];rfl,HB.out⟩
  rw[decide_eq_true h2] at hE
  by_cases h3:ln≤4096
  rotate_left
  ·have h3':decide (ln≤4096)=false:=decide_eq_false h3
   rw[h3'] at hE
   have HE:=Hd hE
   clear hE hk h1
   go_enter Tryz.func164,Tryz.ntmps164
   go_wp2_with fail
   go_ret
   exact⟨by rw[HE.out];rfl,HB.out⟩
  rw[decide_eq_true h3] at hE
  have HE:=Hd hE
  clear hE hk h1
  go_enter Tryz.func164,Tryz.ntmps164
  go_wp2_with (go_at_call 146;refine (HN _).mono ?_;rintro e w' ⟨rfl,rfl⟩)
  go_ret
  exact⟨by rw[HE.out];rfl,HB.out⟩
theorem lsize_big (A:Option Addr) (n c:Nat) (l:List It) (w:World) (hr:Reads w w.heap.size 5 A n (itc l)) (hn:n≤2513169434916) (hx:NearI l) (hs:sizeI l≤9007199254740992) :
  Calls Tryz.prog 145 #[.slice A n c] w fun e w'=>e=.returned (.int .i64 (sizeI l))∧Below w.heap.size w w':=by
 have hl:=it_len hr
 have HR:=Hd hr
 have HL:=Hd hl
 have HX:=Hd hx
 clear hr hl hx
 go_enter Tryz.func145,Tryz.ntmps145
 go_wp2_with fail
 go_loopw [3,5,8] (fun s p i wr=>∃ k:Nat,k≤n∧i=.int .i64 k∧s=.int .i64 (sizeI (l.take k))∧Hid (Below w.heap.size w wr)) (fun _ _ i _=>n-(intOf i).toNat)
 case atStart=>exact⟨0,Nat.zero_le _,rfl,by simp[sizeI],Hd (Below.refl _ _)⟩
 case round =>
  obtain⟨k,hk,rfl,rfl,HB⟩:=hrel
  by_cases hlt:k<n
  ·obtain⟨ad,x,rfl,_,hp,hx,hc⟩:=it_at HR.out hlt
   obtain⟨c0,c1,c2,c3,c4⟩:=hc.below HB.out hp
   have hk0:(0:Int)≤k:=by omega
   have hk1:(k:Int)<n:=by omega
   have hsz:=sizeI_take_succ hx
   have hle:=sizeI_take_le l (k+1)
   have hks:sizeI (l.take k)+oneI x≤9007199254740992:=by omega
   have HS:=Hd hsz
   have HB2:=Hd (HB.out.alloc HB.out.size (.cells x.cells.toArray 76))
   obtain⟨ky,vl,ov,ln,hd⟩:=x
   dsimp only[It.cells] at HB2
   clear hx hsz hle hc hp
   cases ov
   ·have ho:oneI ⟨ky,vl,false,ln,hd⟩=3+ky.size+vl.size:=rfl
    have hadd:((sizeI (l.take k):Nat):Int)+(2+(ky.size:Int))+(1+(vl.size:Int))=((sizeI (l.take (k+1)):Nat):Int):=by rw[HS.out,ho];omega
    rw[ho] at hks
    have HA:=Hd hadd
    clear hadd ho HS
    go_wp2_with fail
    go_roundw
    case rel =>
     have hadd:=HA.out
     first
      | exact⟨k+1,by omega,by go_num,by rw[hadd],HB2⟩
      | ((repeat apply Exists.intro);exact⟨⟨k+1,by omega,by go_num,by rw[hadd],HB2⟩,rfl⟩)
    case measure=>simp[intOf];omega
   ·have ho:oneI ⟨ky,vl,true,ln,hd⟩=10+ky.size:=rfl
    have hadd:((sizeI (l.take k):Nat):Int)+(2+(ky.size:Int))+8=((sizeI (l.take (k+1)):Nat):Int):=by rw[HS.out,ho];omega
    rw[ho] at hks
    have HA:=Hd hadd
    clear hadd ho HS
    go_wp2_with fail
    go_roundw
    case rel =>
     have hadd:=HA.out
     first
      | exact⟨k+1,by omega,by go_num,by rw[hadd],HB2⟩
      | ((repeat apply Exists.intro);exact⟨⟨k+1,by omega,by go_num,by rw[hadd],HB2⟩,rfl⟩)
    case measure=>simp[intOf];omega
  ·obtain rfl:k=n:=by omega
   have ht:l.take k=l:=List.take_of_length_le (by rw[HL.out];exact Nat.le_refl _)
   rw[ht]
   clear hlt
   go_wp2
   go_ret
   exact⟨rfl,HB.out⟩
def foundL (n k:Nat):Int:=if k<n then (k:Int) else -1
theorem lidx_any (p:It→Bool) (g:Nat) (lb:Array Value) (eg : ∀ args w,(callFunc g args).run Tryz.prog w=.ok (.enter g args) w) (A:Option Addr) (n c:Nat) (l:List It) (w:World)
  (hr:Reads w w.heap.size 5 A n (itc l)) (hn:n≤maxLen)
  (hp : ∀ (W:World) (x:It),Below w.heap.size w W→Calls Tryz.prog g (#[.agg #[.string x.ky,.string x.vl,.bool x.ov,.int .i64 x.ln,.int .u32 x.hd]]++lb) W fun e w'=>e=.returned (.bool (p x))∧Below w.heap.size w w') :
  Calls Tryz.prog 75 #[.slice A n c,.func (.func g) #[] lb] w fun e w'=>e=.returned (.int .i64 (foundL n (l.takeWhile fun x => !p x).length))∧Below w.heap.size w w':=by
 have hl:=it_len hr
 have HR:=Hd hr
 have HL:=Hd hl
 have HP:=Hd hp
 unfold maxLen at hn
 clear hr hl hp
 go_enter Tryz.func75,Tryz.ntmps75
 go_wp2_with fail
 go_loopw [5,8] (fun s i wr=>∃ k:Nat,k≤n∧i=.int .i64 k∧Hid (Below w.heap.size w wr)∧Hid (∀ j y,j<k→l[j]? = some y→(!p y)=true)) (fun _ i _=>n-(intOf i).toNat)
 case atStart=>exact⟨0,Nat.zero_le _,rfl,Hd (Below.refl _ _),Hd fun j y hj=>absurd hj (by omega)⟩
 case round =>
  obtain⟨k,hk,rfl,HB,HF⟩:=hrel
  by_cases hlt:k<n
  ·obtain⟨ad,x,rfl,_,hp,hx,hc⟩:=it_at HR.out hlt
   obtain⟨hc0,hc1,hc2,hc3,hc4⟩:=hc.below HB.out hp
   have hk0:(0:Int)≤k:=by omega
   have hk1:(k:Int)<n:=by omega
   have HX:=Hd hx
   have hcall:=HP.out wr x HB.out
   clear hx hc hp
   rcases he:p x with _ | _
   ·rw[he] at hcall
    go_wp2_with fail
    refine hcall.mono ?_
    rintro e w' ⟨rfl,hb'⟩
    go_wp2_with fail
    go_roundw
    case rel =>
     have hrel2 : ∀ j y,j<k+1→l[j]? = some y→(!p y)=true:=fun j y hj hy=>by
      by_cases hjk:j<k
      ·exact HF.out j y hjk hy
      ·obtain rfl:j=k:=by omega
       rw[HX.out] at hy
       injection hy with hy
       subst hy
       rw[he];rfl
     first
      | exact⟨k+1,by omega,by go_num,Hd hb',Hd hrel2⟩
      | ((repeat apply Exists.intro);exact⟨⟨k+1,by omega,by go_num,Hd hb',Hd hrel2⟩,rfl⟩)
    case measure=>simp[intOf];omega
   ·have HN:=Hd (show (l.takeWhile fun x => !p x).length=k from takeWhile_at (p:=fun x => !p x) HF.out (by rw[HL.out];omega) (fun y hy=>by rw[HX.out] at hy;injection hy with hy;subst hy;rw[he];rfl))
    rw[he] at hcall
    go_wp2_with fail
    refine hcall.mono ?_
    rintro e w' ⟨rfl,hb'⟩
    go_wp2_with fail
    go_ret
    refine⟨?_,hb'⟩
    rw[HN.out]
    simp[foundL,hlt]
  ·obtain rfl:k=n:=by omega
   have HN:=Hd (show (l.takeWhile fun x => !p x).length=k from takeWhile_at (p:=fun x => !p x) HF.out (by rw[HL.out];exact Nat.le_refl _) (fun y hy=>by
    have:=(List.getElem?_eq_some_iff.1 hy).1
    rw[HL.out] at this
    omega))
   clear hlt
   go_wp2
   go_ret
   refine⟨?_,HB.out⟩
   rw[HN.out]
   simp[foundL]
theorem lge_clo (nm:ByteArray) (b:Nat) (x:It) (w:World) (hb:b<w.heap.size) (hc:w.cell? ⟨b,0,none⟩=some (.string nm)) :
  Calls Tryz.prog 76 #[.agg #[.string x.ky,.string x.vl,.bool x.ov,.int .i64 x.ln,.int .u32 x.hd],.pointer (some ⟨b,0,none⟩)] w fun e w'=>e=.returned (.bool (!Op.bytesLess x.ky.toList nm.toList))∧Below w.heap.size w w':=by
 have hne : ¬ b=w.heap.size:=by omega
 go_enter Tryz.func76,Tryz.ntmps76
 go_wp2_with fail
 go_ret
 exact⟨rfl,(Below.refl _ _).alloc (Nat.le_refl _) _⟩
theorem foundL_eq (n k:Nat):foundL n k=if k<n then (k:Int) else -1:=rfl
theorem lfind_any (A:Option Addr) (n c:Nat) (l:List It) (key:ByteArray) (w:World) (hr:Reads w w.heap.size 5 A n (itc l)) (hn:n≤1000000) :
  Calls Tryz.prog 40 #[.slice A n c,.string key] w fun e w'=>e=.returned (.tuple #[.int .i64 (findN l key),.bool (findB l key)])∧Below w.heap.size w w':=by
 have hmf : ∀ (fn:Fn) (first cap:Array Value) (w:World),(Instr.makeFunc fn first cap).run Tryz.prog w=.ok (.func fn first cap) w:=fun _ _ _ _=>rfl
 have HL:=Hd (it_len hr)
 obtain⟨w0,hw0⟩ : ∃ x,x=w.alloc (.cells #[.string key] 9):=⟨_,rfl⟩
 have HB0:=Hd (show Below w.heap.size w w0 by rw[hw0];exact (Below.refl _ _).alloc (Nat.le_refl _) _)
 have hlt0:w.heap.size<w0.heap.size:=by rw[hw0];simp
 have N0:=Hd (show w0.cell? ⟨w.heap.size,0,none⟩=some (.string key) by rw[hw0];simp)
 have HR:=Hd ((hr.below HB0.out).more (Nat.le_of_lt hlt0))
 have eg1 : ∀ args w,(callFunc 76 args).run Tryz.prog w=.ok (.enter 76 args) w:=fun _ _=>by first | rfl | kernel_rfl
 have C1:=lidx_any (fun b => !Op.bytesLess b.ky.toList key.toList) 76 #[.pointer (some ⟨w.heap.size,0,none⟩)] eg1 A n c l w0 HR.out (by unfold maxLen;omega) (fun W x hb =>
  (lge_clo key w.heap.size x W (Nat.lt_of_lt_of_le hlt0 hb.size) ((hb.cell (p:=⟨w.heap.size,0,none⟩) hlt0).trans N0.out)).mono fun e w' ⟨h1,h2⟩=>⟨h1,hb.trans (h2.mono hb.size)⟩)
 have hk:(l.takeWhile fun x:It => !!Op.bytesLess x.ky.toList key.toList).length=findN l key:=by simp only[Bool.not_not];rfl
 rw[hk] at C1
 have hle:findN l key≤n:=by rw[← HL.out];exact findN_le l key
 obtain⟨k,hkn⟩ : ∃ k,k=findN l key:=⟨_,rfl⟩
 have HK:=Hd (show findB l key=match l[k]? with | none=>false | some b=>b.ky.toList==key.toList by rw[hkn];rfl)
 rw[← hkn] at C1 hle ⊢
 clear hk hkn hr
 by_cases h1:k<n
 ·obtain⟨ad,x,rfl,_,hp,hx,hc⟩:=it_at HR.out h1
  have HE:=Hd (show findB l key=(x.ky.toList==key.toList) by rw[HK.out,hx])
  rw[foundL_eq,if_pos h1] at C1
  have HC:=Hd hc
  have hk0:(0:Int)≤k:=by omega
  have hk1:(k:Int)<n:=by omega
  clear hx hc hle
  go_enter Tryz.func40,Tryz.ntmps40
  go_wp2_with fail
  rw[← hw0]
  clear hw0
  refine C1.mono ?_
  rintro e w1 ⟨rfl,hb1⟩
  obtain⟨c0,_⟩:=HC.out.below hb1 hp
  have n0:=(hb1.cell (p:=⟨w.heap.size,0,none⟩) hlt0).trans N0.out
  have HB1:=Hd (HB0.out.trans (hb1.mono HB0.out.size))
  clear hb1 C1 hp
  go_wp2_with fail
  go_quiet (fail)
  go_wp2_with fail
  go_ret2
  rw[HE.out]
  exact⟨rfl,below_drewN HB1.out _⟩
 ·have hnone:l[k]? = none:=List.getElem?_eq_none (by rw[HL.out];omega)
  have HE:=Hd (show findB l key=false by rw[HK.out,hnone])
  rw[foundL_eq,if_neg h1] at C1
  obtain rfl:k=n:=by omega
  clear hnone hle
  go_enter Tryz.func40,Tryz.ntmps40
  go_wp2_with fail
  rw[← hw0]
  refine C1.mono ?_
  rintro e w1 ⟨rfl,hb1⟩
  go_wp2_with fail
  go_ret2
  rw[HE.out]
  exact⟨rfl,HB0.out.trans (hb1.mono HB0.out.size)⟩
end Go.Proofs.YtanbbnogdhnikaaGreat

