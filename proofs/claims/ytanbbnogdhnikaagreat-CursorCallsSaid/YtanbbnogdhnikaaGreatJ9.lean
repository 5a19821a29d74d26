/-
  Texts that the main proof rests on, put together: Ref6May, Ov, Fn, CatPlain, CatParse, OvMath, OvMath3, FnMath, OvSmall, CuHas. No statement is proved here.
-/
import Derived.Test.YtanbbnogdhnikaaGreatJ8
set_option linter.unusedVariables false
set_option linter.unusedSimpArgs false
set_option maxRecDepth 300000
set_option maxHeartbeats 25600000
namespace Go.Proofs.YtanbbnogdhnikaaGreat
open Go.RowKit
open Go.Lib hiding intOf
attribute [local go_sem ↓] Go.wp_at_zero Go.wp_at_succ

def numB (n:Nat):Bool:=decide (2≤n∧n≤2147483647)
theorem rnumB_any (n:Nat) (w:World):Calls Tryz.prog 50 #[.int .u32 n] w fun e w'=>e=.returned (.bool (numB n))∧w'=w:=by
 by_cases h1:2≤n
 ·have h1':(2:Int)≤n:=by omega
  by_cases h2:n≤2147483647
  ·have h2':(n:Int)≤2147483647:=by omega
   have HE:=Hd (show numB n=true by simp[numB,h1,h2])
   go_enter Tryz.func50,Tryz.ntmps50
   go_wp2
   go_ret
   exact⟨by rw[HE.out];rfl,rfl⟩
  ·have h2' : ¬ (n:Int)≤2147483647:=by omega
   have HE:=Hd (show numB n=false by simp[numB,h1,h2])
   go_enter Tryz.func50,Tryz.ntmps50
   go_wp2
   go_ret
   exact⟨by rw[HE.out];rfl,rfl⟩
 ·have h1' : ¬ (2:Int)≤n:=by omega
  have HE:=Hd (show numB n=false by simp[numB,h1])
  go_enter Tryz.func50,Tryz.ntmps50
  go_wp2
  go_ret
  exact⟨by rw[HE.out];rfl,rfl⟩
end Go.Proofs.YtanbbnogdhnikaaGreat

namespace Go.Proofs.YtanbbnogdhnikaaGreat
open Go.RowKit
open Go.Lib hiding intOf

def ceilD (n r:Nat):Nat:=(n+r-1)/r
def piece (r:Nat) (v:ByteArray) (i:Nat):ByteArray:=v.extract (i*r) (min ((i+1)*r) v.size)
def chunks (r:Nat) (v:ByteArray):List ByteArray:=(List.range (ceilD v.size r)).map (piece r v)
def partsL (size:Int) (v:ByteArray):List ByteArray:=if goodSize size then chunks (size-24).toNat v else []
def needN (size n:Int):Nat:=if goodSize size&&decide (1≤n) then (n.toNat-1)/(size-24).toNat+1 else 0
theorem ceilD_pos {n r:Nat} (hr:0<r) (hn:0<n):ceilD n r=(n-1)/r+1:=by
 unfold ceilD
 rw[show n+r-1=(n-1)+r by omega,Nat.add_div_right _ hr]
theorem ceilD_zero {r:Nat} (hr:0<r):ceilD 0 r=0:=by
 unfold ceilD
 exact Nat.div_eq_of_lt (by omega)
theorem chunks_len (r:Nat) (v:ByteArray):(chunks r v).length=ceilD v.size r:=by simp[chunks]
theorem parts_need (size:Int) (v:ByteArray):(partsL size v).length=needN size v.size:=by
 unfold partsL needN
 rcases hg:goodSize size with _ | _
 ·simp
 ·obtain⟨z,rfl,h1,h2,_⟩:=good_nat hg
  have hr:((z:Int)-24).toNat=z-24:=by omega
  simp only[if_true,Bool.true_and]
  rw[chunks_len,hr]
  by_cases hv:v.size=0
  ·rw[hv,ceilD_zero (by omega)]
   simp
  ·rw[ceilD_pos (by omega) (by omega)]
   have h3:decide ((1:Int)≤(v.size:Int))=true:=by simp;omega
   rw[h3,if_pos rfl]
   simp
theorem piece_lt {n r i:Nat} (hr:0<r) (hi:i<ceilD n r):i*r<n:=by
 unfold ceilD at hi
 have h1:=(Nat.le_div_iff_mul_le hr).1 (show i+1≤(n+r-1)/r by omega)
 rw[Nat.add_mul,Nat.one_mul] at h1
 omega
theorem piece_end {n r i:Nat} (hr:0<r) (hi : ¬ i<ceilD n r):n≤i*r:=by
 unfold ceilD at hi
 have h1 : ¬ (i+1)*r≤n+r-1:=fun h=>hi ((Nat.le_div_iff_mul_le hr).2 h)
 rw[Nat.add_mul,Nat.one_mul] at h1
 omega
theorem piece_size {r:Nat} {v:ByteArray} {i:Nat} (hr:0<r) (hi:i<ceilD v.size r):(piece r v i).size=min r (v.size-i*r):=by
 have h:=piece_lt hr hi
 unfold piece
 rw[ByteArray.size_extract,Nat.add_mul,Nat.one_mul]
 omega
def mayP9 (size:Int) (n next tx:Nat) (s:ByteArray):Bool:=goodSize size&&(decide (1≤s.size)&&(decide ((s.size:Int)≤size-24)&&(numB n&&((decide (next=0) || (numB next&&decide ((size-24:Int)≤s.size)))&&decide (tx≤4611686018427387904)))))
def overBody (z:Nat) (s:ByteArray):ByteArray:=⟨(s.data.toList++List.replicate (z-24-s.size) 0).toArray⟩
theorem mayP9_parts {z n next tx:Nat} {s:ByteArray} (h:mayP9 z n next tx s=true):goodSize z=true∧1≤s.size∧(s.size≤z-24∧24≤z)∧numB n=true∧(next=0∨numB next=true∧s.size=z-24)∧tx≤4611686018427387904:=by
 simp only[mayP9,Bool.and_eq_true,Bool.or_eq_true,decide_eq_true_eq] at h
 obtain⟨h1,h2,h3,h4,h5,h6⟩:=h
 have:=good_pos h1
 refine⟨h1,h2,by omega,h4,?_,h6⟩
 rcases h5 with h5 | ⟨h5,h7⟩
 ·exact .inl h5
 ·exact .inr ⟨h5,by omega⟩
theorem overBody_size (z:Nat) (s:ByteArray) (h:s.size≤z-24):(overBody z s).size=z-24:=by
 show (s.data.toList++List.replicate (z-24-s.size) 0).toArray.size=_
 rw[List.size_toArray,List.length_append,List.length_replicate,size_list]
 omega
def readO (kd ct:Int) (pg lk ty:Nat) (bd:ByteArray):Option ByteArray :=
 if decide (0≤ct)&&(decide (ct≤bd.size)&&(mayP9 ((bd.size+24:Nat):Int) pg lk ty (bd.extract 0 ct.toNat)&&decide (kd=5∧bd=overBody (bd.size+24) (bd.extract 0 ct.toNat)))) then some (bd.extract 0 ct.toNat) else none
theorem overBody_take (z:Nat) (s:ByteArray):(overBody z s).extract 0 s.size=s:=by
 apply bytes_ext
 have hs:s.data.toList.length=s.size:=size_list s
 rw[ByteArray.data_extract,Array.toList_extract,List.extract_eq_take_drop]
 show List.take _ (List.drop 0 (s.data.toList++_))=_
 rw[List.drop_zero,Nat.sub_zero,← hs,List.take_left]
theorem readO_page {z n next tx:Nat} {s:ByteArray} (h:mayP9 z n next tx s=true):readO 5 s.size n next tx (overBody z s)=some s:=by
 obtain⟨h1,h2,h3,h4,h5,h6⟩:=mayP9_parts h
 have hz:=overBody_size z s h3.1
 have hz2:(overBody z s).size+24=z:=by omega
 have ht:(overBody z s).extract 0 ((s.size:Nat):Int).toNat=s:=overBody_take z s
 unfold readO
 rw[ht,hz2,h]
 rw[if_pos]
 simp
 omega
theorem readO_some {kd ct:Int} {pg lk ty:Nat} {bd s:ByteArray} (h:readO kd ct pg lk ty bd=some s):mayP9 ((bd.size+24:Nat):Int) pg lk ty s=true∧kd=5∧ct=s.size∧bd=overBody (bd.size+24) s:=by
 unfold readO at h
 split at h
 ·rename_i hc
  injection h with h
  subst h
  simp only[Bool.and_eq_true,decide_eq_true_eq] at hc
  obtain⟨h1,h2,h3,h4,h5⟩:=hc
  refine⟨h3,h4,?_,h5⟩
  rw[ByteArray.size_extract]
  omega
 ·cases h
def nthU (l:List Nat) (i:Nat):Nat:=(l[i]?).getD 0
def ucells (l:List Nat):List Value:=l.map fun (n:Nat)=>Value.int .u32 (n:Int)
def allU (l:List Nat):Bool:=l.all numB
theorem ucells_length (l:List Nat):(ucells l).length=l.length:=by simp[ucells]
theorem ucells_append (l m:List Nat):ucells (l++m)=ucells l++ucells m:=by simp[ucells]
theorem ucells_one (l:List Nat) : ∀ u∈ucells l,u.oneCell'=true:=by
 intro u hu
 obtain⟨s,_,rfl⟩:=List.mem_map.1 hu
 rfl
theorem ucells_at {l:List Nat} {k:Nat} {n:Nat} (h:l[k]? = some n):(ucells l)[k]? = some (.int .u32 n):=by
 unfold ucells;rw[List.getElem?_map,h];rfl
theorem nthU_of {l:List Nat} {k n:Nat} (h:l[k]? = some n):nthU l k=n:=by unfold nthU;rw[h];rfl
theorem nthU_at {l:List Nat} {k:Nat} (h:k<l.length):l[k]? = some (nthU l k):=by unfold nthU;rw[List.getElem?_eq_getElem h];rfl
theorem allU_iff {l:List Nat}:allU l=true ↔ ∀ n,n∈l→numB n=true:=by unfold allU;rw[List.all_eq_true]
theorem allU_at {l:List Nat}:allU l=true ↔ ∀ i,i<l.length→numB (nthU l i)=true:=by
 rw[allU_iff]
 constructor
 ·intro h i hi
  exact h _ (List.mem_of_getElem? (nthU_at hi))
 ·intro h n hn
  obtain⟨i,hi,rfl⟩:=List.getElem_of_mem hn
  have:=h i hi
  rwa [nthU_of (List.getElem?_eq_getElem hi)] at this
def fits (b:Bk):Prop:=b.nm.size<256∧b.rt<4294967296∧0≤b.ks∧b.ks<4294967296
theorem ext_list9 (t:ByteArray) (a b:Nat):(t.extract a b).data.toList=(t.data.toList.drop a).take (b-a):=by
 rw[ByteArray.data_extract,Array.toList_extract,List.extract_eq_take_drop]
def frontP (r:Nat) (v:ByteArray) (k:Nat):ByteArray:=v.extract 0 (min (k*r) v.size)
theorem frontP_zero (r:Nat) (v:ByteArray):frontP r v 0=⟨#[]⟩:=by
 apply bytes_ext
 unfold frontP
 rw[ext_list9]
 simp
theorem frontP_succ {r k:Nat} {v:ByteArray} (hr:0<r) (hk:k<ceilD v.size r):frontP r v (k+1)=frontP r v k++piece r v k:=by
 have h:=piece_lt hr hk
 apply bytes_ext
 unfold frontP piece
 rw[ByteArray.data_append,Array.toList_append,ext_list9,ext_list9,ext_list9,List.drop_zero,Nat.sub_zero,Nat.sub_zero,Nat.add_mul,Nat.one_mul,Nat.min_eq_left (by omega:k*r≤v.size)]
 rw[← List.take_add]
 congr 1
 omega
theorem frontP_end {r:Nat} {v:ByteArray} (hr:0<r):frontP r v (ceilD v.size r)=v:=by
 have h:=piece_end hr (Nat.lt_irrefl (ceilD v.size r))
 apply bytes_ext
 unfold frontP
 rw[ext_list9,Nat.min_eq_right h,List.drop_zero,Nat.sub_zero]
 exact List.take_of_length_le (by rw[size_list];exact Nat.le_refl _)
theorem chunks_at {r i:Nat} {v:ByteArray} (hi:i<ceilD v.size r):(chunks r v)[i]? = some (piece r v i):=by
 unfold chunks
 rw[List.getElem?_map,List.getElem?_range hi]
 rfl
theorem piece_full {r i:Nat} {v:ByteArray} (hr:0<r) (hi:i+1<ceilD v.size r):(piece r v i).size=r:=by
 have h:=piece_lt hr hi
 rw[piece_size hr (by omega)]
 rw[Nat.add_mul,Nat.one_mul] at h
 omega
end Go.Proofs.YtanbbnogdhnikaaGreat

namespace Go.Proofs.YtanbbnogdhnikaaGreat
open Go.RowKit
open Go.Lib hiding intOf
attribute [local go_sem ↓] Go.wp_at_zero Go.wp_at_succ

theorem onum_any (n:Nat) (w:World):Calls Tryz.prog 149 #[.int .u32 n] w fun e w'=>e=.returned (.bool (numB n))∧w'=w:=by
 by_cases h1:2≤n
 ·have h1':(2:Int)≤n:=by omega
  by_cases h2:n≤2147483647
  ·have h2':(n:Int)≤2147483647:=by omega
   have HE:=Hd (show numB n=true by simp[numB,h1,h2])
   go_enter Tryz.func149,Tryz.ntmps149
   go_wp2
   go_ret
   exact⟨by rw[HE.out];rfl,rfl⟩
  ·have h2' : ¬ (n:Int)≤2147483647:=by omega
   have HE:=Hd (show numB n=false by simp[numB,h1,h2])
   go_enter Tryz.func149,Tryz.ntmps149
   go_wp2
   go_ret
   exact⟨by rw[HE.out];rfl,rfl⟩
 ·have h1' : ¬ (2:Int)≤n:=by omega
  have HE:=Hd (show numB n=false by simp[numB,h1])
  go_enter Tryz.func149,Tryz.ntmps149
  go_wp2
  go_ret
  exact⟨by rw[HE.out];rfl,rfl⟩
end Go.Proofs.YtanbbnogdhnikaaGreat

namespace Go.Proofs.YtanbbnogdhnikaaGreat
open Go.RowKit
open Go.Lib hiding intOf

theorem uread {w:World} {B:Nat} {A:Option Addr} {n k:Nat} {l:List Nat} (hr:Reads w B 1 A n (ucells l)) (hk:k<n) : ∃ ad x,A=some ad∧ad.block<B∧l[k]? = some x∧w.cell? (ad.add k)=some (.int .u32 (x:Int)):=by
 obtain⟨ad,u,hA,hb,hu,hc⟩:=hr.at_ hk
 unfold ucells at hu
 rw[List.getElem?_map] at hu
 rcases hp:l[k]? with _ | x
 ·rw[hp] at hu;cases hu
 ·rw[hp] at hu
  injection hu with hu
  subst hu
  exact⟨ad,x,hA,hb,rfl,hc⟩
def TellsU (l:List Nat) (x:Nat) (r:Int):Prop:=decide (0≤r)=decide (x∈l)
theorem uindex_any {w:World} {B:Nat} {A:Option Addr} {n:Nat} {l:List Nat} (c:Nat) (x:Nat) (hr:Reads w B 1 A n (ucells l)) (hn:n≤1000000) :
  Calls Tryz.prog 97 #[.slice A n c,.int .u32 x] w fun e w'=>(∃ r:Int,e=.returned (.int .i64 r)∧TellsU l x r)∧w=w':=by
 have hl:l.length=n:=by have:=hr.1;simpa [ucells] using this
 have HR:=Hd hr
 have HL:=Hd hl
 clear hr hl
 go_enter Tryz.func97,Tryz.ntmps97
 go_wp2
 go_loop [8] (fun i=>∃ k:Nat,k≤n∧i=.int .i64 k∧Hid (x ∉ l.take k)) (fun i=>n-(intOf i).toNat)
 case atStart=>exact⟨0,Nat.zero_le _,rfl,Hd (by simp)⟩
 case round =>
  obtain⟨k,hk,rfl,HZ⟩:=hrel
  by_cases hlt:k<n
  ·obtain⟨ad,z,rfl,hb,hz,hc⟩:=uread HR.out hlt
   have HK:=Hd hz
   clear hz hb
   by_cases he:x=z
   ·subst he
    have HT:=Hd (show TellsU l x k by unfold TellsU;rw[decide_eq_true (List.mem_of_getElem? HK.out)];simp)
    go_wp2
    go_ret
    exact⟨⟨k,rfl,HT.out⟩,rfl⟩
   ·have he1:((x:Int)==(z:Int))=false:=by simp;omega
    have he2:(x==z)=false:=by simpa using he
    have he3:((z:Int)==(x:Int))=false:=by simp;omega
    have he4:(z==x)=false:=by simpa using fun h=>he h.symm
    have HN:=Hd (show x ∉ l.take (k+1) by
     have h0:=HZ.out
     obtain⟨h1,h2⟩:=List.getElem?_eq_some_iff.1 HK.out
     rw[List.take_succ_eq_append_getElem h1,h2]
     simp only[List.mem_append,List.mem_singleton,not_or]
     exact⟨h0,he⟩)
    clear he
    go_wp2
    go_round
    case rel=>exact⟨k+1,by omega,by go_num,HN⟩
    case measure=>simp[intOf];omega
  ·have HT:=Hd (show TellsU l x (-1) by
    have h0:=HZ.out
    rw[List.take_of_length_le (by have:=HL.out;omega)] at h0
    unfold TellsU
    rw[decide_eq_false h0]
    decide)
   go_wp2
   go_ret
   exact⟨⟨-1,rfl,HT.out⟩,rfl⟩
theorem ucontains_any {w:World} {B:Nat} {A:Option Addr} {n:Nat} {l:List Nat} (c:Nat) (x:Nat) (hr:Reads w B 1 A n (ucells l)) (hn:n≤1000000) :
  Calls Tryz.prog 72 #[.slice A n c,.int .u32 x] w fun e w'=>e=.returned (.bool (decide (x∈l)))∧w=w':=by
 go_enter Tryz.func72,Tryz.ntmps72
 go_wp2_with (go_at_call 97;refine (uindex_any _ x hr hn).mono ?_;rintro e w' ⟨⟨r,rfl,hres⟩,rfl⟩)
 go_ret
 refine⟨?_,rfl⟩
 rw[← hres]
 rfl
end Go.Proofs.YtanbbnogdhnikaaGreat

