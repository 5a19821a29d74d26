/-
  Texts that the main proof rests on, put together: FrameTurn, Ref7May, FkPlain, Ref9Of, OvOf, IterU. No statement is proved here.
-/
import Derived.Test.YtanbbnogdhnikaaGreatJ12
import Derived.Test.YtanbbnogdhnikaaGreatJ13
import Derived.RangeFuncBound
set_option linter.unusedVariables false
set_option linter.unusedSimpArgs false
set_option maxRecDepth 300000
set_option maxHeartbeats 25600000
namespace Go.Proofs.YtanbbnogdhnikaaGreat
open Go.Lib

def Parts (b p k a c:Nat):Prop:=(a=0→lowAt b p k%4294967296=0)∧(c=0→lowAt b p k<4294967296)
end Go.Proofs.YtanbbnogdhnikaaGreat

namespace Go.Proofs.YtanbbnogdhnikaaGreat
open Go.RowKit
open Go.Lib hiding intOf
attribute [local go_sem ↓] Go.wp_at_zero Go.wp_at_succ

def keyF (s:ByteArray):Bool:=decide (s.size≤40)
def okFk (b:Fk):Bool:=keyF b.nm&&numB b.rt
def okAtF (l:List Fk) (i:Nat):Bool :=
 match l[i]? with
 | none=>false
 | some b=>okFk b&&(decide (i=0) || match l[i-1]? with | some a=>Op.bytesLess a.nm.toList b.nm.toList | none=>true)
def allOkF (l:List Fk):Bool:=(List.range l.length).all (okAtF l)
def mayF (l:List Fk):Bool:=allOkF l&&decide (0<l.length)
theorem allOkF_no {l:List Fk} {k:Nat} (hk:k<l.length) (h:okAtF l k=false):allOkF l=false:=by
 rw[Bool.eq_false_iff]
 intro ha
 rw[allOkF,List.all_eq_true] at ha
 rw[ha k (List.mem_range.2 hk)] at h
 cases h
theorem allOkF_yes {l:List Fk} (h : ∀ j,j<l.length→okAtF l j=true):allOkF l=true:=by
 rw[allOkF,List.all_eq_true]
 exact fun j hj=>h j (List.mem_range.1 hj)
theorem okAtF_of {l:List Fk} {k:Nat} {x:Fk} (hx:l[k]? = some x):okAtF l k=(okFk x&&(decide (k=0) || match l[k-1]? with | some a=>Op.bytesLess a.nm.toList x.nm.toList | none=>true)):=by
 rw[okAtF,hx]
def sizeF:List Fk→Nat
 | []=>0
 | b::l=>5+b.nm.size+sizeF l
theorem sizeF_snoc (l:List Fk) (b:Fk):sizeF (l++[b])=sizeF l+(5+b.nm.size):=by
 induction l with
 | nil=>simp[sizeF]
 | cons c l ih=>simp only[List.cons_append,sizeF,ih];omega
theorem sizeF_take_succ {l:List Fk} {k:Nat} {x:Fk} (h:l[k]? = some x):sizeF (l.take (k+1))=sizeF (l.take k)+(5+x.nm.size):=by
 obtain⟨hk,rfl⟩:=List.getElem?_eq_some_iff.1 h
 rw[List.take_succ_eq_append_getElem hk,sizeF_snoc]
theorem sizeF_take_le (l:List Fk) : ∀ k,sizeF (l.take k)≤sizeF l:=by
 intro k
 induction l generalizing k with
 | nil=>simp[sizeF]
 | cons c l ih=>cases k with
  | zero=>simp[sizeF]
  | succ k=>simp only[List.take_succ_cons,sizeF];have:=ih k;omega
theorem five_le (l:List Fk):l.length*5≤sizeF l:=by
 induction l with
 | nil=>simp[sizeF]
 | cons b l ih=>simp only[sizeF,List.length_cons];omega
def pickN (l:List Fk) (key:ByteArray):Nat:=(l.takeWhile fun f => !Op.bytesLess key.toList f.nm.toList).length
def pickF (l:List Fk) (key:ByteArray):Nat:=pickN l key-1
theorem takeWhile_at {α:Type} {p:α→Bool} {l:List α} {k:Nat} (h : ∀ j y,j<k→l[j]? = some y→p y=true) (hk:k≤l.length) (hs : ∀ x,l[k]? = some x→p x=false):(l.takeWhile p).length=k:=by
 induction k generalizing l with
 | zero =>
  cases l with
  | nil=>rfl
  | cons x l=>simp[List.takeWhile,hs x rfl]
 | succ k ih =>
  cases l with
  | nil=>simp at hk
  | cons x l =>
   have h0:=h 0 x (by omega) rfl
   rw[List.takeWhile_cons,if_pos h0,List.length_cons,ih (fun j y hj hy=>h (j+1) y (by omega) (by simpa using hy)) (by simpa using hk) (fun y hy=>hs y (by simpa using hy))]
theorem less_tot7 : ∀ (a b:List UInt8),Op.bytesLess a b=false→Op.bytesLess b a=false→a=b
 | [],[],_,_=>rfl
 | [],b::y,h,_=>by simp[Op.bytesLess] at h
 | a::x,[],_,h=>by simp[Op.bytesLess] at h
 | a::x,b::y,h1,h2=>by
  simp only[Op.bytesLess,Bool.or_eq_false_iff,Bool.and_eq_false_iff,decide_eq_false_iff_not,beq_eq_false_iff_ne] at h1 h2
  have hab:a=b:=by
   have e1:=h1.1
   have e2:=h2.1
   rw[UInt8.lt_iff_toNat_lt] at e1 e2
   exact UInt8.toNat_inj.1 (by omega)
  subst hab
  rw[less_tot7 x y (by simpa using h1.2) (by simpa using h2.2)]
theorem leq_not (a b:List UInt8):(Op.bytesLess a b || a==b) = !Op.bytesLess b a:=by
 rcases h1:Op.bytesLess a b with _ | _
 ·rcases h2:Op.bytesLess b a with _ | _
  ·rw[less_tot7 a b h1 h2];simp
  ·have h3:(a==b)=false:=by
    rw[Bool.eq_false_iff]
    intro he
    rw[beq_iff_eq] at he
    rw[he,bytesLess_eq,decide_eq_true_eq] at h2
    exact List.lt_irrefl _ h2
   rw[h3];rfl
 ·rcases h2:Op.bytesLess b a with _ | _
  ·rfl
  ·rw[bytesLess_eq,decide_eq_true_eq] at h1 h2
   exact absurd (List.lt_trans h1 h2) (List.lt_irrefl _)
theorem rkey_any (s:ByteArray) (w:World):Calls Tryz.prog 81 #[.string s] w fun e w'=>e=.returned (.bool (keyF s))∧w'=w:=by
 by_cases h1:s.size≤40
 ·have h1':(s.size:Int)≤40:=by omega
  have HE:=Hd (show keyF s=true by simp[keyF,h1])
  go_enter Tryz.func81,Tryz.ntmps81
  go_wp2
  go_ret
  exact⟨by rw[HE.out];rfl,rfl⟩
 ·have h1' : ¬ (s.size:Int)≤40:=by omega
  have HE:=Hd (show keyF s=false by simp[keyF,h1])
  go_enter Tryz.func81,Tryz.ntmps81
  go_wp2
  go_ret
  exact⟨by rw[HE.out];rfl,rfl⟩
theorem rone7_any (b:Fk) (w:World) (hs:b.nm.size≤9007199254740992):Calls Tryz.prog 82 #[.agg #[.string b.nm,.int .u32 b.rt]] w fun e w'=>e=.returned (.int .i64 (5+(b.nm.size:Int)))∧Below w.heap.size w w':=by
 go_enter Tryz.func82,Tryz.ntmps82
 go_wp2
 go_ret
 exact⟨rfl,(Below.refl _ _).alloc (Nat.le_refl _) _⟩
theorem rsize7_any (A:Option Addr) (n c:Nat) (l:List Fk) (w:World) (hr:Reads w w.heap.size 2 A n (fkc l)) (hn:n≤maxLen) (hs:sizeF l≤9007199254740992) :
  Calls Tryz.prog 48 #[.slice A n c] w fun e w'=>e=.returned (.int .i64 (sizeF l))∧Below w.heap.size w w':=by
 have hl:=fk_len hr
 have HR:=Hd hr
 have HL:=Hd hl
 unfold maxLen at hn
 clear hr hl
 go_enter Tryz.func48,Tryz.ntmps48
 go_wp2_with fail
 go_loopw [3,4] (fun s i wr=>∃ k:Nat,k≤n∧i=.int .i64 k∧s=.int .i64 (sizeF (l.take k))∧Hid (Below w.heap.size w wr)) (fun _ i _=>n-(intOf i).toNat)
 case atStart=>exact⟨0,Nat.zero_le _,rfl,by simp[sizeF],Hd (Below.refl _ _)⟩
 case round =>
  obtain⟨k,hk,rfl,rfl,HB⟩:=hrel
  by_cases hlt:k<n
  ·obtain⟨ad,x,rfl,_,hp,hx,hc⟩:=fk_at HR.out hlt
   obtain⟨hc0,hc1⟩:=hc.below HB.out hp
   have hk0:(0:Int)≤k:=by omega
   have hk1:(k:Int)<n:=by omega
   have hsz:=sizeF_take_succ hx
   have hle:=sizeF_take_le l (k+1)
   have HX:=Hd hsz
   have hxs:x.nm.size≤9007199254740992:=by omega
   have hks:sizeF (l.take k)+(5+x.nm.size)≤9007199254740992:=by omega
   have HO:=fun w=>rone7_any x w hxs
   clear hx hsz hle
   go_wp2_with fail
   refine (HO _).mono ?_
   rintro e w1 ⟨rfl,hb⟩
   replace HB:=Hd (HB.out.trans (hb.mono HB.out.size))
   clear hb hc hc0 hc1 HO
   have hadd:((sizeF (l.take k):Nat):Int)+(5+(x.nm.size:Int))=((sizeF (l.take (k+1)):Nat):Int):=by rw[HX.out];omega
   go_wp2
   go_roundw
   case rel =>
    first
     | exact⟨k+1,by omega,by go_num,by first | rfl | (rw[← hadd];go_num),HB⟩
     | ((repeat apply Exists.intro);exact⟨⟨k+1,by omega,by go_num,by first | rfl | (rw[← hadd];go_num),HB⟩,rfl⟩)
   case measure=>simp[intOf];omega
  ·obtain rfl:k=n:=by omega
   have ht:l.take k=l:=List.take_of_length_le (by rw[HL.out];exact Nat.le_refl _)
   rw[ht]
   clear hlt
   go_wp2
   go_ret
   exact⟨rfl,HB.out⟩
end Go.Proofs.YtanbbnogdhnikaaGreat

namespace Go.Proofs.YtanbbnogdhnikaaGreat
open Go.RowKit
open Go.Lib hiding intOf

def Fk.bytes (b:Fk):List UInt8:=Go.leBytes 1 b.nm.size++(b.nm.data.toList++Go.leBytes 4 b.rt)
def bytesF (l:List Fk):List UInt8:=l.flatMap Fk.bytes
theorem Fk.bytes_len (b:Fk):b.bytes.length=5+b.nm.size:=by
 simp only[Fk.bytes,List.length_append,leB_len,size_list]
 omega
theorem bytesF_len (l:List Fk):(bytesF l).length=sizeF l:=by
 induction l with
 | nil=>rfl
 | cons b l ih =>
  simp only[bytesF,List.flatMap_cons,List.length_append,Fk.bytes_len,sizeF] at ih ⊢
  rw[ih]
theorem bytesF_take_succ {l:List Fk} {k:Nat} {x:Fk} (h:l[k]? = some x):bytesF (l.take (k+1))=bytesF (l.take k)++x.bytes:=by
 obtain⟨hk,rfl⟩:=List.getElem?_eq_some_iff.1 h
 rw[List.take_succ_eq_append_getElem hk]
 simp only[bytesF,List.flatMap_append,List.flatMap_cons,List.flatMap_nil,List.append_nil]
def forkBody (size:Nat) (l:List Fk):ByteArray:=⟨(bytesF l++List.replicate (size-24-sizeF l) 0).toArray⟩
theorem allOkF_at {l:List Fk} (h:allOkF l=true) {k:Nat} (hk:k<l.length):okAtF l k=true:=by
 rw[allOkF,List.all_eq_true] at h
 exact h k (List.mem_range.2 hk)
theorem allOkF_ok {l:List Fk} (h:allOkF l=true) {k:Nat} {x:Fk} (hx:l[k]? = some x):okFk x=true:=by
 have:=allOkF_at h (List.getElem?_eq_some_iff.1 hx).1
 rw[okAtF_of hx,Bool.and_eq_true] at this
 exact this.1
end Go.Proofs.YtanbbnogdhnikaaGreat

namespace Go.Proofs.YtanbbnogdhnikaaGreat
open Go.RowKit
open Go.Lib hiding intOf
attribute [local go_sem ↓] Go.wp_at_zero Go.wp_at_succ

theorem page9_neq_no (a0 a1 a2 a3 a4:Int) (a5:ByteArray) (w:World):(binOp .neq 41 (.agg #[.int .i64 a0,.int .i64 a1,.int .u32 a2,.int .u32 a3,.int .u64 a4,.string a5]) (.agg #[.int .i64 a0,.int .i64 a1,.int .u32 a2,.int .u32 a3,.int .u64 a4,.string a5])).run Tryz.prog w=.ok (.bool false) w:=by
 simp[go_sem]
theorem page9_neq_yes (a0 a1 a2 a3 a4:Int) (a5:ByteArray) (b0 b1 b2 b3 b4:Int) (b5:ByteArray) (w:World) (h : ¬ (a0=b0∧a1=b1∧a2=b2∧a3=b3∧a4=b4∧a5=b5)):(binOp .neq 41 (.agg #[.int .i64 a0,.int .i64 a1,.int .u32 a2,.int .u32 a3,.int .u64 a4,.string a5]) (.agg #[.int .i64 b0,.int .i64 b1,.int .u32 b2,.int .u32 b3,.int .u64 b4,.string b5])).run Tryz.prog w=.ok (.bool true) w:=by
 have h1:(((((a0==b0&&a1==b1)&&a2==b2)&&a3==b3)&&a4==b4)&&a5.toList==b5.toList)=false:=by
  rw[Bool.eq_false_iff]
  intro ht
  simp only[Bool.and_eq_true,beq_iff_eq] at ht
  obtain⟨⟨⟨⟨⟨h0,h1⟩,h2⟩,h3⟩,h4⟩,h5⟩:=ht
  rw[ByteArray.toList_eq,ByteArray.toList_eq] at h5
  exact h ⟨h0,h1,h2,h3,h4,bytes_ext h5⟩
 simp[go_sem] at h1 ⊢
 exact h1
def OfPost9 (o:Option ByteArray) (lk:Nat) (w:World) (e:Ending) (w':World):Prop :=
 match o with
 | none=>e=.returned (.tuple #[.string ⟨#[]⟩,.int .u32 0,.int .i64 4])∧Below w.heap.size w w'
 | some s=>e=.returned (.tuple #[.string s,.int .u32 lk,.int .i64 0])∧Below w.heap.size w w'
theorem rof9_any (kd ct:Int) (pg lk ty:Nat) (bd:ByteArray) (w:World) (hbd:bd.size≤100000) :
  Calls Tryz.prog 90 #[.agg #[.int .i64 kd,.int .i64 ct,.int .u32 pg,.int .u32 lk,.int .u64 ty,.string bd]] w (OfPost9 (readO kd ct pg lk ty bd) lk w):=by
 obtain⟨w0,hw0⟩ : ∃ x,x=w.alloc (.cells #[.int .i64 kd,.int .i64 ct,.int .u32 pg,.int .u32 lk,.int .u64 ty,.string bd] 41):=⟨_,rfl⟩
 have Pp:=Hd (show Blk w0 w.heap.size 41 #[.int .i64 kd,.int .i64 ct,.int .u32 pg,.int .u32 lk,.int .u64 ty,.string bd] by rw[hw0];exact Blk.new _ _ _)
 have HB:=Hd (show Below w.heap.size w w0 by rw[hw0];exact (Below.refl _ _).alloc (Nat.le_refl _) _)
 obtain⟨hzp,hi⟩:=zero_of_info infoPg
 have HI:=Hd hi
 clear hi
 obtain⟨o,ho⟩ : ∃ o,o=readO kd ct pg lk ty bd:=⟨_,rfl⟩
 rw[← ho]
 have HO:=Hd ho
 clear ho
 by_cases h1:ct<0
 ·have q1:decide (ct<0)=true:=decide_eq_true h1
  obtain rfl:o=none:=by rw[HO.out,readO,decide_eq_false (show ¬ 0≤ct by omega)];rfl
  go_enter Tryz.func90,Tryz.ntmps90
  go_upto_region 1 with fail
  rw[← hw0]
  clear hw0
  have p1:=Pp.out.cell 1
  have p5:=Pp.out.cell 5
  simp at p1 p5
  go_wp2_with fail
  go_ret3
  exact⟨rfl,HB.out⟩
 obtain⟨c,rfl⟩:=Int.eq_ofNat_of_zero_le (by omega:0≤ct)
 by_cases h2:c≤bd.size
 rotate_left
 ·have q2:decide ((bd.size:Int)<(c:Int))=true:=by simp;omega
  have q3:decide (bd.size<c)=true:=by simp;omega
  obtain rfl:o=none:=by rw[HO.out,readO,decide_eq_false (show ¬ (c:Int)≤bd.size by omega),Bool.false_and,Bool.and_false];rfl
  go_enter Tryz.func90,Tryz.ntmps90
  go_upto_region 1 with fail
  rw[← hw0]
  clear hw0
  have p1:=Pp.out.cell 1
  have p5:=Pp.out.cell 5
  simp at p1 p5
  go_wp2_with fail
  go_ret3
  exact⟨rfl,HB.out⟩
 have q2:decide ((bd.size:Int)<(c:Int))=false:=by simp;omega
 have q3:decide (bd.size<c)=false:=by simp;omega
 obtain⟨z,hz⟩ : ∃ z:Nat,z=bd.size+24:=⟨_,rfl⟩
 have hwz:wrap64 (z:Int)=(z:Int):=wrap64_nat z (by omega)
 have hws2:((bd.size:Int)+24)=(z:Int):=by omega
 obtain⟨s,hs⟩ : ∃ s,s=bd.extract 0 c:=⟨_,rfl⟩
 have hss:s.size=c:=by rw[hs,ByteArray.size_extract];omega
 have hO2:o=if mayP9 z pg lk ty s&&decide (kd=5∧bd=overBody z s) then some s else none:=by
  rw[HO.out,readO,decide_eq_true (show (0:Int)≤c by omega),decide_eq_true (show (c:Int)≤bd.size by omega),hz,hs]
  simp
 have HO2:=Hd hO2
 have hse:bd.extract 0 c=s:=hs.symm
 have HSS:=Hd hss
 have HPn:=fun (w:World) (h:mayP9 z pg lk ty s=false)=>rpage9_no z pg lk ty s w (by omega) h
 have HPy:=fun (w:World) (h:mayP9 z pg lk ty s=true)=>rpage9_yes z pg lk ty s w h
 rw[hss] at HPy
 have hc9:c≤100000:=by omega
 clear hO2 hz hs HO hss
 go_enter Tryz.func90,Tryz.ntmps90
 go_upto_region 1 with fail
 rw[← hw0]
 clear hw0
 have p1:=Pp.out.cell 1
 have p2:=Pp.out.cell 2
 have p3:=Pp.out.cell 3
 have p4:=Pp.out.cell 4
 have p5:=Pp.out.cell 5
 simp at p1 p2 p3 p4 p5
 rcases hy:mayP9 z pg lk ty s with _ | _
 ·have HP:=fun w=>HPn w hy
  obtain rfl:o=none:=by rw[HO2.out,hy];rfl
  clear hy HPn HPy
  go_wp2_with fail
  refine (HP _).mono ?_
  rintro e w2 ⟨rfl,hb⟩
  replace HB:=Hd (HB.out.trans (hb.mono HB.out.size))
  clear hb HP
  go_wp2_with fail
  go_ret3
  exact⟨rfl,HB.out.alloc HB.out.size _⟩
 ·have HP:=fun w=>HPy w hy
  obtain⟨B,hB⟩ : ∃ B,B=overBody z s:=⟨_,rfl⟩
  rw[← hB] at HP
  have HQ:=Hd (show o=if decide (kd=5∧bd=B) then some s else none by rw[HO2.out,hy,Bool.true_and,hB])
  clear hy HPn HPy hB HO2
  go_wp2_with fail
  refine (HP _).mono ?_
  rintro e w2 ⟨rfl,hb⟩
  replace Pp:=Hd (Pp.out.below hb Pp.out.lt)
  replace HB:=Hd (HB.out.trans (hb.mono HB.out.size))
  clear hb HP p1 p2 p3 p4 p5
  obtain⟨w3,hw3⟩ : ∃ x,x=w2.alloc (.cells #[.int .i64 5,.int .i64 c,.int .u32 pg,.int .u32 lk,.int .u64 ty,.string B] 41):=⟨_,rfl⟩
  have Q:=Hd (show Blk w3 w2.heap.size 41 #[.int .i64 5,.int .i64 c,.int .u32 pg,.int .u32 lk,.int .u64 ty,.string B] by rw[hw3];exact Blk.new _ _ _)
  replace Pp:=Hd (show Blk w3 w.heap.size 41 #[.int .i64 kd,.int .i64 c,.int .u32 pg,.int .u32 lk,.int .u64 ty,.string bd] by rw[hw3];exact Pp.out.alloc _)
  replace HB:=Hd (show Below w.heap.size w w3 by rw[hw3];exact HB.out.alloc HB.out.size _)
  go_upto_region 5 with fail
  rw[← hw3]
  clear hw3 hws2 hwz
  generalize w2.heap.size=gQ at *
  have c0:=Pp.out.cell 0
  have c1:=Pp.out.cell 1
  have c2:=Pp.out.cell 2
  have c3:=Pp.out.cell 3
  have c4:=Pp.out.cell 4
  have c5:=Pp.out.cell 5
  have q0:=Q.out.cell 0
  have q1:=Q.out.cell 1
  have q2':=Q.out.cell 2
  have q3':=Q.out.cell 3
  have q4:=Q.out.cell 4
  have q5:=Q.out.cell 5
  simp at c0 c1 c2 c3 c4 c5 q0 q1 q2' q3' q4 q5
  by_cases hd:kd=5∧bd=B
  ·obtain⟨rfl,rfl⟩:=hd
   obtain rfl:o=some s:=by rw[HQ.out];simp
   have hpq:=fun w=>page9_neq_no 5 c pg lk ty bd w
   go_wp2_with fail
   go_quiet (fail)
   go_wp2_with fail
   go_ret3
   exact⟨rfl,below_drewN HB.out _⟩
  ·obtain rfl:o=none:=by rw[HQ.out,decide_eq_false hd];rfl
   have hpq:=fun w=>page9_neq_yes 5 c pg lk ty B kd c pg lk ty bd w (by intro ⟨e1,_,_,_,_,e6⟩;exact hd ⟨e1.symm,e6.symm⟩)
   clear hd
   go_wp2_with fail
   go_ret3
   exact⟨rfl,HB.out⟩
theorem oof9_any (kd ct:Int) (pg lk ty:Nat) (bd:ByteArray) (w:World) (hbd:bd.size≤100000) :
  Calls Tryz.prog 102 #[.agg #[.int .i64 kd,.int .i64 ct,.int .u32 pg,.int .u32 lk,.int .u64 ty,.string bd]] w (OfPost9 (readO kd ct pg lk ty bd) lk w):=by
 obtain⟨w0,hw0⟩ : ∃ x,x=w.alloc (.cells #[.int .i64 kd,.int .i64 ct,.int .u32 pg,.int .u32 lk,.int .u64 ty,.string bd] 41):=⟨_,rfl⟩
 have Pp:=Hd (show Blk w0 w.heap.size 41 #[.int .i64 kd,.int .i64 ct,.int .u32 pg,.int .u32 lk,.int .u64 ty,.string bd] by rw[hw0];exact Blk.new _ _ _)
 have HB:=Hd (show Below w.heap.size w w0 by rw[hw0];exact (Below.refl _ _).alloc (Nat.le_refl _) _)
 obtain⟨hzp,hi⟩:=zero_of_info infoPg
 have HI:=Hd hi
 clear hi
 obtain⟨o,ho⟩ : ∃ o,o=readO kd ct pg lk ty bd:=⟨_,rfl⟩
 rw[← ho]
 have HO:=Hd ho
 clear ho
 by_cases h1:ct<0
 ·have q1:decide (ct<0)=true:=decide_eq_true h1
  obtain rfl:o=none:=by rw[HO.out,readO,decide_eq_false (show ¬ 0≤ct by omega)];rfl
  go_enter Tryz.func102,Tryz.ntmps102
  go_upto_region 1 with fail
  rw[← hw0]
  clear hw0
  have p1:=Pp.out.cell 1
  have p5:=Pp.out.cell 5
  simp at p1 p5
  go_wp2_with fail
  go_ret3
  exact⟨rfl,HB.out⟩
 obtain⟨c,rfl⟩:=Int.eq_ofNat_of_zero_le (by omega:0≤ct)
 by_cases h2:c≤bd.size
 rotate_left
 ·have q2:decide ((bd.size:Int)<(c:Int))=true:=by simp;omega
  have q3:decide (bd.size<c)=true:=by simp;omega
  obtain rfl:o=none:=by rw[HO.out,readO,decide_eq_false (show ¬ (c:Int)≤bd.size by omega),Bool.false_and,Bool.and_false];rfl
  go_enter Tryz.func102,Tryz.ntmps102
  go_upto_region 1 with fail
  rw[← hw0]
  clear hw0
  have p1:=Pp.out.cell 1
  have p5:=Pp.out.cell 5
  simp at p1 p5
  go_wp2_with fail
  go_ret3
  exact⟨rfl,HB.out⟩
 have q2:decide ((bd.size:Int)<(c:Int))=false:=by simp;omega
 have q3:decide (bd.size<c)=false:=by simp;omega
 obtain⟨z,hz⟩ : ∃ z:Nat,z=bd.size+24:=⟨_,rfl⟩
 have hwz:wrap64 (z:Int)=(z:Int):=wrap64_nat z (by omega)
 have hws2:((bd.size:Int)+24)=(z:Int):=by omega
 obtain⟨s,hs⟩ : ∃ s,s=bd.extract 0 c:=⟨_,rfl⟩
 have hss:s.size=c:=by rw[hs,ByteArray.size_extract];omega
 have hO2:o=if mayP9 z pg lk ty s&&decide (kd=5∧bd=overBody z s) then some s else none:=by
  rw[HO.out,readO,decide_eq_true (show (0:Int)≤c by omega),decide_eq_true (show (c:Int)≤bd.size by omega),hz,hs]
  simp
 have HO2:=Hd hO2
 have hse:bd.extract 0 c=s:=hs.symm
 have HSS:=Hd hss
 have HPn:=fun (w:World) (h:mayP9 z pg lk ty s=false)=>opage9_no z pg lk ty s w (by omega) h
 have HPy:=fun (w:World) (h:mayP9 z pg lk ty s=true)=>opage9_yes z pg lk ty s w h
 rw[hss] at HPy
 have hc9:c≤100000:=by omega
 clear hO2 hz hs HO hss
 go_enter Tryz.func102,Tryz.ntmps102
 go_upto_region 1 with fail
 rw[← hw0]
 clear hw0
 have p1:=Pp.out.cell 1
 have p2:=Pp.out.cell 2
 have p3:=Pp.out.cell 3
 have p4:=Pp.out.cell 4
 have p5:=Pp.out.cell 5
 simp at p1 p2 p3 p4 p5
 rcases hy:mayP9 z pg lk ty s with _ | _
 ·have HP:=fun w=>HPn w hy
  obtain rfl:o=none:=by rw[HO2.out,hy];rfl
  clear hy HPn HPy
  go_wp2_with fail
  refine (HP _).mono ?_
  rintro e w2 ⟨rfl,hb⟩
  replace HB:=Hd (HB.out.trans (hb.mono HB.out.size))
  clear hb HP
  go_wp2_with fail
  go_ret3
  exact⟨rfl,HB.out.alloc HB.out.size _⟩
 ·have HP:=fun w=>HPy w hy
  obtain⟨B,hB⟩ : ∃ B,B=overBody z s:=⟨_,rfl⟩
  rw[← hB] at HP
  have HQ:=Hd (show o=if decide (kd=5∧bd=B) then some s else none by rw[HO2.out,hy,Bool.true_and,hB])
  clear hy HPn HPy hB HO2
  go_wp2_with fail
  refine (HP _).mono ?_
  rintro e w2 ⟨rfl,hb⟩
  replace Pp:=Hd (Pp.out.below hb Pp.out.lt)
  replace HB:=Hd (HB.out.trans (hb.mono HB.out.size))
  clear hb HP p1 p2 p3 p4 p5
  obtain⟨w3,hw3⟩ : ∃ x,x=w2.alloc (.cells #[.int .i64 5,.int .i64 c,.int .u32 pg,.int .u32 lk,.int .u64 ty,.string B] 41):=⟨_,rfl⟩
  have Q:=Hd (show Blk w3 w2.heap.size 41 #[.int .i64 5,.int .i64 c,.int .u32 pg,.int .u32 lk,.int .u64 ty,.string B] by rw[hw3];exact Blk.new _ _ _)
  replace Pp:=Hd (show Blk w3 w.heap.size 41 #[.int .i64 kd,.int .i64 c,.int .u32 pg,.int .u32 lk,.int .u64 ty,.string bd] by rw[hw3];exact Pp.out.alloc _)
  replace HB:=Hd (show Below w.heap.size w w3 by rw[hw3];exact HB.out.alloc HB.out.size _)
  go_upto_region 5 with fail
  rw[← hw3]
  clear hw3 hws2 hwz
  generalize w2.heap.size=gQ at *
  have c0:=Pp.out.cell 0
  have c1:=Pp.out.cell 1
  have c2:=Pp.out.cell 2
  have c3:=Pp.out.cell 3
  have c4:=Pp.out.cell 4
  have c5:=Pp.out.cell 5
  have q0:=Q.out.cell 0
  have q1:=Q.out.cell 1
  have q2':=Q.out.cell 2
  have q3':=Q.out.cell 3
  have q4:=Q.out.cell 4
  have q5:=Q.out.cell 5
  simp at c0 c1 c2 c3 c4 c5 q0 q1 q2' q3' q4 q5
  by_cases hd:kd=5∧bd=B
  ·obtain⟨rfl,rfl⟩:=hd
   obtain rfl:o=some s:=by rw[HQ.out];simp
   have hpq:=fun w=>page9_neq_no 5 c pg lk ty bd w
   go_upto_region 7 with fail
   clear c0 c1 c2 c3 c4 c5 q0 q1 q2' q3' q4 q5 Q
   have c3:=Pp.out.cell 3
   simp at c3
   have d3:=Pp.out.drew.cell 3
   simp at d3
   replace HB:=Hd HB.out.drew
   replace Pp:=Hd Pp.out.drew
   have HX9:=Hd (show s.size≤281474976710656 by rw[HSS.out];omega)
   go_region_with (go_at_call 128;refine (sclone_any _ _ HX9.out).mono ?_;rintro e W2 ⟨rfl,hb2⟩;replace HB:=Hd (HB.out.trans (hb2.mono HB.out.size));have e3:=(Pp.out.below hb2 Pp.out.lt).cell 3;simp at e3;clear hb2)
   all_goals (go_wp2_with fail;go_ret3;exact⟨rfl,HB.out⟩)
  ·obtain rfl:o=none:=by rw[HQ.out,decide_eq_false hd];rfl
   have hpq:=fun w=>page9_neq_yes 5 c pg lk ty B kd c pg lk ty bd w (by intro ⟨e1,_,_,_,_,e6⟩;exact hd ⟨e1.symm,e6.symm⟩)
   clear hd
   go_wp2_with fail
   go_ret3
   exact⟨rfl,HB.out⟩
end Go.Proofs.YtanbbnogdhnikaaGreat

namespace Go.Proofs.YtanbbnogdhnikaaGreat
open Go.RowKit

structure KeepsU (U:Nat→Prop) (W W':World):Prop where
 os:W'.os=W.os
 tape:W'.tape=W.tape
 output:W'.output=W.output
 size:W.heap.size≤W'.heap.size
 block : ∀ k,k<W.heap.size→U k→W'.heap[k]? = W.heap[k]?
theorem KeepsU.mono {U V:Nat→Prop} {A B:World} (h:KeepsU U A B) (hv : ∀ k,V k→U k):KeepsU V A B:=⟨h.os,h.tape,h.output,h.size,fun i hi hu=>h.block i hi (hv i hu)⟩
theorem KeepsU.of_kept {U F:Nat→Prop} {A B:World} (h:Kept F A B) (hd : ∀ k,U k→¬ F k):KeepsU U A B:=⟨h.os,h.tape,h.output,h.size,fun i hi hu=>h.block i hi (hd i hu)⟩
theorem KeepsU.of_grown {U:Nat→Prop} {A B:World} {row:Option Nat} (h:A.grownBy B row) (hr : ∀ k,row=some k→¬ U k):KeepsU U A B:=⟨h.os,h.tape,h.output,h.size,fun i hi hu=>h.block i hi fun e=>hr i e.symm hu⟩
theorem KeepsU.of_below {U:Nat→Prop} {A B:World} (h:Below A.heap.size A B):KeepsU U A B:=⟨h.os,h.tape,h.output,h.size,fun i hi _=>h.block i hi⟩
theorem KeepsU.alloc (U:Nat→Prop) (A:World) (o:Obj):KeepsU U A (A.alloc o):=KeepsU.of_below ((Below.refl _ _).alloc (Nat.le_refl _) o)
def StabU {β:Type} (J:β→(Nat→Prop)→World→Prop):Prop:=∀ s U W W',J s U W→KeepsU U W W'→J s U W'
def LtU {β:Type} (J:β→(Nat→Prop)→World→Prop):Prop:=∀ s U W,J s U W→∀ k,U k→k<W.heap.size
def RoundU {β:Type} (J:β→(Nat→Prop)→World→Prop) (xs:β) (U:Nat→Prop) (W W':World):Prop:=∃ U':Nat→Prop,(∀ k,U' k→U k∨W.heap.size≤k)∧Kept U W W'∧J xs U' W'
def AfterU {β:Type} (J Jx:β→(Nat→Prop)→World→Prop) (U:Nat→Prop) (W:World) (xs:β) (e:Ending) (W':World):Prop :=
 (e=.returned (.bool true)∧RoundU J xs U W W')∨(e=.returned (.bool false)∧RoundU Jx xs U W W')
def SeqU {α:Type} (P:Program) (g:Nat) (lb:Array Value) (encs:α→Array Value) (XS:List α) (M:Nat→Prop) (w:World):Prop :=
 ∀ (l n:Nat) (J Jx:List α→(Nat→Prop)→World→Prop) (U0:Nat→Prop) (W:World),Below w.heap.size w W→StabU J→StabU Jx→LtU J→LtU Jx→(∀ k,M k→¬ U0 k) →
  (∀ m pre x U W1,J pre U W1→pre++[x] <+: XS→YieldAt Fence.wide m P l (encs x) W1 (AfterU J Jx U W1 (pre++[x]))) →
  J [] U0 W →
  CallsIn Fence.wide n P g (#[.func (.yield l) #[] #[]]++lb) W fun e W'=>(∃ v,e=.returned v)∧∃ U',(J XS U' W'∨∃ pre,pre <+: XS∧Jx pre U' W')
def postU {β:Type} (I:β→(Nat→Prop)→World→Prop) (Ix:Code→β→(Nat→Prop)→World→Prop) (xs:β) (U:Nat→Prop) (W:World):Exit→Act→World→Prop
 | .normal,_,W'=>RoundU I xs U W W'
 | .ret,_,W'=>RoundU (Ix .ret) xs U W W'
 | .exit id,_,W'=>RoundU (Ix (.exit id)) xs U W W'
 | .goto t,_,W'=>RoundU (Ix (.goto t)) xs U W W'
 | .panic _,_,_=>False
 | .outgrown,_,_=>False
theorem keepsU_put {U:Nat→Prop} (W:World) {l:Nat} (o:Obj) (hl : ¬ U l):KeepsU U W (W.putObj l o):=KeepsU.of_grown (grownBy_putObj' W l o) (fun k e=>by cases e;exact hl)
theorem kept_put {U:Nat→Prop} (W:World) {l:Nat} (o:Obj) (hl:U l):Kept U W (W.putObj l o):=Kept.of_grown (grownBy_putObj' W l o) (fun k e=>by cases e;exact hl)
theorem wpIn_rangeFunc_U {α:Type} {P:Program} {g:Operand} {ps:Array Tmp} {assign body:Code} {Q:Exit→Act→World→Prop} {a:Act} {w:World} {n:Nat}
  {gf:Nat} {lb:Array Value} (hg:a.eval g=.func (.func gf) #[] lb) (eg : ∀ args w,(callFunc gf args).run P w=.ok (.enter gf args) w)
  {encs:α→Array Value} {XS:List α} {M:Nat→Prop} {w0:World} (hseq:SeqU P gf lb encs XS M w0) (hb0:Below w0.heap.size w0 w) (hM : ∀ k,M k→k<w.heap.size) (hps : ∀ x,(encs x).size=ps.size)
  (I:List α→(Nat→Prop)→World→Prop) (Ix:Code→List α→(Nat→Prop)→World→Prop) (A:List α→α→Act→(Nat→Prop)→World→Prop)
  (hI:StabU I) (hIx : ∀ c,StabU (Ix c)) (hA : ∀ pre x a',StabU (fun (_:Unit)=>A pre x a')) (lI:LtU I) (lIx : ∀ c,LtU (Ix c))
  (U0:Nat→Prop) (hMU : ∀ k,M k→¬ U0 k) (h0:I [] U0 w)
  (hassign : ∀ (m l:Nat) (pre:List α) (x:α) (U:Nat→Prop) (W:World) (K:Act→World→Prop),I pre U W→pre++[x] <+: XS →
   (∀ (a':Act) (U':Nat→Prop) (W':World),(∀ k,U' k→U k∨W.heap.size≤k)→Kept U W W'→A pre x a' U' W'→K a' W') →
   assign.wpIn (Fence.wide.inRound l) m P (Exit.then K (fun _ _ _=>False)) { tmps:=(ps.zip (encs x)).foldl (fun t (p,v)=>t.setIfInBounds p v) a.tmps,defers:=[] } W)
  (hbody : ∀ (m l:Nat) (pre:List α) (x:α) (a':Act) (U:Nat→Prop) (W:World),A pre x a' U W→pre++[x] <+: XS→body.wpIn (Fence.wide.inRound l) m P (postU I Ix (pre++[x]) U W) a' W)
  (hdone : ∀ (D:Nat) (U:Nat→Prop) (W:World),w.heap.size≤D→¬ U D→I XS U W→W.heap[D]? = some (.deferred (some []))→Q .normal { a with defers := { target:=.collected D,args:=#[] }::a.defers } W)
  (hstop : ∀ (D:Nat) (c:Code) (pre:List α) (U:Nat→Prop) (W:World),w.heap.size≤D→¬ U D→pre <+: XS→Ix c pre U W→W.heap[D]? = some (.deferred (some []))→c.wpIn Fence.wide n P Q { a with defers := { target:=.collected D,args:=#[] }::a.defers } W) :
  (Code.rangeFunc g ps assign body).wpIn Fence.wide n P Q a w:=by
 refine wpIn_rangeFunc ?_
 intro fn hfn
 obtain⟨rec,hrec⟩ : ∃ rec:LoopState→Option Code→Loop,rec=fun st pe => { state:=st,pending:=pe,fn,tmps:=a.tmps,params:=ps,assign,body,defers:=w.heap.size }:=⟨_,rfl⟩
 obtain⟨W1,hW1⟩ : ∃ W1,(w.alloc (.deferred (some []))).alloc (.loop (rec .ready none))=W1:=⟨_,rfl⟩
 have hL1:W1.heap[w.heap.size+1]? = some (.loop (rec .ready none)):=by
  rw[← hW1];have:=World.alloc_heap_new (w.alloc (.deferred (some []))) (.loop (rec .ready none));rwa [World.size_alloc] at this
 have hK1:W1.heap[w.heap.size]? = some (.deferred (some [])):=by
  rw[← hW1];exact (Below.heap_alloc _ _ _ (by simp)).trans (World.alloc_heap_new w _)
 have hI1:I [] U0 W1:=by rw[← hW1];exact hI _ _ _ _ (hI _ _ _ _ h0 (KeepsU.alloc _ _ _)) (KeepsU.alloc _ _ _)
 have hb1:Below w0.heap.size w0 W1:=by
  rw[← hW1];exact hb0.trans ((((Below.refl _ w).alloc (Nat.le_refl _) _).alloc (by simp) _).mono hb0.size)
 obtain⟨D,hD⟩ : ∃ D,D=w.heap.size:=⟨_,rfl⟩
 refine⟨w.heap.size+1,[{ target:=.collected w.heap.size,args:=#[] }],W1,{ target:=.fn (.func gf) lb,args:=#[.func (.yield (w.heap.size+1)) #[] #[]] },W1,gf,
  #[.func (.yield (w.heap.size+1)) #[] #[]]++lb,W1,?_,?_,?_,?_,fun h=>by simp[Fence.wide] at h,?_⟩
 ·rw[← hW1,hrec];exact run_enterLoop_outer _ _ _ _ _
 ·simp only[resolve,hg]
  simp[go_sem]
 ·intro f' _;trivial
 ·simp[invoke,go_sem,eg]
 ·rw[← hD] at hL1 hK1 ⊢
  have hU0D : ∀ k,U0 k→k<D:=fun k hk=>hD ▸ lI _ _ _ h0 k hk
  have hext : ∀ {J:List α→(Nat→Prop)→World→Prop} (st:LoopState) (pe:Option Code→Prop),StabU J→StabU (fun (pre:List α) (U:Nat→Prop) (W:World)=>∃ (V:Nat→Prop) (c:Option Code),pe c∧(∀ k,U k↔V k∨k=D∨k=D+1)∧¬ V D∧¬ V (D+1)∧J pre V W∧W.heap[D+1]? = some (.loop (rec st c))∧W.heap[D]? = some (.deferred (some []))) :=
   fun st pe hs pre U W W' h hk=>by
    obtain⟨V,c,hc,hU,n1,n2,hj,hl,hd⟩:=h
    exact⟨V,c,hc,hU,n1,n2,hs _ _ _ _ hj (hk.mono fun k hv=>(hU k).2 (.inl hv)),(hk.block _ (Array.getElem?_eq_some_iff.1 hl).1 ((hU _).2 (.inr (.inr rfl)))).trans hl,(hk.block _ (Array.getElem?_eq_some_iff.1 hd).1 ((hU _).2 (.inr (.inl rfl)))).trans hd⟩
  have hlt : ∀ {J:List α→(Nat→Prop)→World→Prop} (st:LoopState) (pe:Option Code→Prop),LtU J→LtU (fun (pre:List α) (U:Nat→Prop) (W:World)=>∃ (V:Nat→Prop) (c:Option Code),pe c∧(∀ k,U k↔V k∨k=D∨k=D+1)∧¬ V D∧¬ V (D+1)∧J pre V W∧W.heap[D+1]? = some (.loop (rec st c))∧W.heap[D]? = some (.deferred (some []))) :=
   fun st pe hs pre U W h k hk=>by
    obtain⟨V,c,hc,hU,n1,n2,hj,hl,hd⟩:=h
    rcases (hU k).1 hk with h1 | rfl | rfl
    ·exact hs _ _ _ hj k h1
    ·exact (Array.getElem?_eq_some_iff.1 hd).1
    ·exact (Array.getElem?_eq_some_iff.1 hl).1
  have hIxS:StabU (fun (pre:List α) (V:Nat→Prop) (W:World)=>True):=fun _ _ _ _ _ _=>trivial
  refine (hseq (D+1) (n-1)
   (fun pre U W=>∃ (V:Nat→Prop) (c:Option Code),c=none∧(∀ k,U k↔V k∨k=D∨k=D+1)∧¬ V D∧¬ V (D+1)∧I pre V W∧W.heap[D+1]? = some (.loop (rec .ready c))∧W.heap[D]? = some (.deferred (some [])))
   (fun pre U W=>∃ c0:Code,∃ (V:Nat→Prop) (c:Option Code),c=some c0∧(∀ k,U k↔V k∨k=D∨k=D+1)∧¬ V D∧¬ V (D+1)∧Ix c0 pre V W∧W.heap[D+1]? = some (.loop (rec .done c))∧W.heap[D]? = some (.deferred (some [])))
   (fun k=>U0 k∨k=D∨k=D+1) W1 hb1 (hext .ready (fun c=>c=none) hI) (fun pre U W W' ⟨c0,h⟩ hk=>⟨c0,hext .done (fun c=>c=some c0) (hIx c0) pre U W W' h hk⟩) (hlt .ready (fun c=>c=none) lI) (fun pre U W ⟨c0,h⟩=>hlt .done (fun c=>c=some c0) (lIx c0) pre U W h)
   (fun k hk h=>by
    have h1:=hM k hk
    rcases h with h | h | h
    ·exact hMU k hk h
    ·omega
    ·omega)
   ?_ ⟨U0,none,rfl,fun _=>Iff.rfl,fun h=>by have:=hU0D _ h;omega,fun h=>by have:=hU0D _ h;omega,hI1,hL1,hK1⟩).mono ?_
  ·-- one round
   rintro m pre x U W ⟨V,c,rfl,hU,n1,n2,hi,hl,hk⟩ hpre
   have hlW:D+1<W.heap.size:=(Array.getElem?_eq_some_iff.1 hl).1
   have hy:=run_yield (P:=P) (args:=encs x) hl (by rw[hrec];exact hps x)
   rw[hrec] at hy
   refine⟨fn,_,assign,body,hy,roundIn_of_wpIn trivial (hassign m _ pre x V W _ hi hpre ?_)⟩
   clear hy
   intro a' V1 Wa hV1 hka hAx
   have hsa:=hka.size
   have hla:Wa.heap[D+1]? = some (.loop (rec .ready none)):=(hka.block _ hlW n2).trans hl
   have hda:Wa.heap[D]? = some (.deferred (some [])):=(hka.block _ (by omega) n1).trans hk
   have m1 : ¬ V1 D:=fun h=>by rcases hV1 _ h with h1 | h1;exact n1 h1;omega
   have m2 : ¬ V1 (D+1):=fun h=>by rcases hV1 _ h with h1 | h1;exact n2 h1;omega
   refine⟨_,run_beginRound hla (by rw[hrec]),?_⟩
   obtain⟨Wb,hWb⟩ : ∃ Wb,Wb=Wa.putObj (D+1) (.loop { rec .ready none with state:=.busy }):=⟨_,rfl⟩
   rw[← hWb]
   have hAb:A pre x a' V1 Wb:=by rw[hWb];exact hA pre x a' () V1 _ _ hAx (keepsU_put _ _ m2)
   have hlb:Wb.heap[D+1]? = some (.loop { rec .ready none with state:=.busy }):=by rw[hWb];exact World.putObj_heap_same (by omega)
   have hdb:Wb.heap[D]? = some (.deferred (some [])):=by rw[hWb];exact (World.putObj_heap_other (by omega)).trans hda
   have hkb:Kept U W Wb:=by rw[hWb];exact (hka.mono fun k h=>(hU k).2 (.inl h)).trans (kept_put _ _ ((hU _).2 (.inr (.inr rfl))))
   have hsb:W.heap.size≤Wb.heap.size:=hkb.size
   refine wpIn_mono (hbody m _ pre x a' V1 Wb hAb hpre) ?_
   have fin : ∀ {J:List α→(Nat→Prop)→World→Prop} (hs:StabU J) (jump:Option Code) (W3:World),RoundU J (pre++[x]) V1 Wb W3 →
     (Instr.endRound (D+1) jump).run P W3=.ok (.bool jump.isNone) (W3.putObj (D+1) (.loop (rec (if jump.isNone then .ready else .done) jump))) ∧
     ∃ U':Nat→Prop,(∀ k,U' k→U k∨W.heap.size≤k)∧Kept U W (W3.putObj (D+1) (.loop (rec (if jump.isNone then .ready else .done) jump))) ∧
     ∃ V':Nat→Prop,(∀ k,U' k↔V' k∨k=D∨k=D+1)∧¬ V' D∧¬ V' (D+1)∧J (pre++[x]) V' (W3.putObj (D+1) (.loop (rec (if jump.isNone then .ready else .done) jump))) ∧
     (W3.putObj (D+1) (.loop (rec (if jump.isNone then .ready else .done) jump))).heap[D+1]? = some (.loop (rec (if jump.isNone then .ready else .done) jump)) ∧
     (W3.putObj (D+1) (.loop (rec (if jump.isNone then .ready else .done) jump))).heap[D]? = some (.deferred (some [])):=fun {J} hs jump W3 hp=>by
    obtain⟨V2,hV2,hk3,hj3⟩:=hp
    have hs3:=hk3.size
    have hl3:W3.heap[D+1]? = some (.loop { rec .ready none with state:=.busy }):=(hk3.block _ (by omega) m2).trans hlb
    have hd3:W3.heap[D]? = some (.deferred (some [])):=(hk3.block _ (by omega) m1).trans hdb
    have p1 : ¬ V2 D:=fun h=>by rcases hV2 _ h with h1 | h1;exact m1 h1;omega
    have p2 : ¬ V2 (D+1):=fun h=>by rcases hV2 _ h with h1 | h1;exact m2 h1;omega
    have he:=run_endRound (P:=P) jump hl3
    rw[hrec] at he ⊢
    refine⟨he,fun k=>V2 k∨k=D∨k=D+1,?_,?_,V2,fun _=>Iff.rfl,p1,p2,hs _ _ _ _ hj3 (keepsU_put _ _ p2),World.putObj_heap_same (by omega),(World.putObj_heap_other (by omega)).trans hd3⟩
    ·rintro k (h | rfl | rfl)
     ·rcases hV2 k h with h1 | h1
      ·rcases hV1 k h1 with h2 | h2
       ·exact .inl ((hU k).2 (.inl h2))
       ·exact .inr h2
      ·right;omega
     ·exact .inl ((hU _).2 (.inr (.inl rfl)))
     ·exact .inl ((hU _).2 (.inr (.inr rfl)))
    ·refine (hkb.then hk3 fun k h=>?_).trans (kept_put _ _ ((hU _).2 (.inr (.inr rfl))))
     rcases hV1 k h with h1 | h1
     ·exact .inl ((hU k).2 (.inl h1))
     ·exact .inr h1
   rintro e a3 W3 hp
   cases e with
   | normal =>
    obtain⟨hr,U',hU',hkp,V',q1,q2,q3,q4,q5,q6⟩:=fin hI none W3 hp
    exact⟨_,_,hr,.inl ⟨rfl,U',hU',hkp,V',none,rfl,q1,q2,q3,q4,q5,q6⟩⟩
   | ret =>
    obtain⟨hr,U',hU',hkp,V',q1,q2,q3,q4,q5,q6⟩:=fin (hIx _) (some .ret) W3 hp
    exact⟨_,_,hr,.inr ⟨rfl,U',hU',hkp,.ret,V',_,rfl,q1,q2,q3,q4,q5,q6⟩⟩
   | exit id =>
    obtain⟨hr,U',hU',hkp,V',q1,q2,q3,q4,q5,q6⟩:=fin (hIx _) (some (.exit id)) W3 hp
    exact⟨_,_,hr,.inr ⟨rfl,U',hU',hkp,.exit id,V',_,rfl,q1,q2,q3,q4,q5,q6⟩⟩
   | goto t =>
    obtain⟨hr,U',hU',hkp,V',q1,q2,q3,q4,q5,q6⟩:=fin (hIx _) (some (.goto t)) W3 hp
    exact⟨_,_,hr,.inr ⟨rfl,U',hU',hkp,.goto t,V',_,rfl,q1,q2,q3,q4,q5,q6⟩⟩
   | panic ch=>exact hp.elim
   | outgrown=>exact hp.elim
  ·-- behind the iterator
   rintro e W2 ⟨⟨v,rfl⟩,U',(⟨V,c,rfl,hU,n1,n2,hi,hl,hk⟩ | ⟨pre,hpre,c0,V,c,rfl,hU,n1,n2,hi,hl,hk⟩)⟩
   ·exact⟨none,_,by have:=run_endLoop (P:=P) hl (by rw[hrec];simp);rw[hrec] at this;exact this,hdone _ V _ (by omega) n1 (hI _ _ _ _ hi (keepsU_put _ _ n2)) ((World.putObj_heap_other (by omega)).trans hk)⟩
   ·exact⟨some c0,_,by have:=run_endLoop (P:=P) hl (by rw[hrec];simp);rw[hrec] at this;exact this,hstop _ c0 pre V _ (by omega) n1 hpre (hIx c0 _ _ _ _ hi (keepsU_put _ _ n2)) ((World.putObj_heap_other (by omega)).trans hk)⟩
end Go.Proofs.YtanbbnogdhnikaaGreat

