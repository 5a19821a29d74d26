/-
  Texts that the main proof rests on, put together: Ref11R, Ref11O, BrForks, CuYield. No statement is proved here.
-/
import Derived.Test.YtanbbnogdhnikaaGreatJ21
import Derived.Test.YtanbbnogdhnikaaGreatJ26
import Derived.RangeFuncCalls
import Derived.RangeFuncLeaves
import Derived.RangeFuncBox
import Derived.Shelf.Abstract
import Derived.Shelf.RegionOpen
import Derived.OwnWalkIn
import Derived.LoopNIn
import Derived.LoopIn
import Derived.Test.YtanbbnogdhnikaaGreatJ23
set_option linter.unusedVariables false
set_option linter.unusedSimpArgs false
set_option maxRecDepth 300000
set_option maxHeartbeats 25600000
namespace Go.Proofs.YtanbbnogdhnikaaGreat
open Go.RowKit
open Go.Lib hiding intOf
attribute [local go_sem ↓] Go.wp_at_zero Go.wp_at_succ

def runW (f n:Nat):List Nat:=(List.range n).map fun i=>(f+i)%4294967296
theorem runW_len (f n:Nat):(runW f n).length=n:=by simp[runW]
theorem runW_succ (f n:Nat):runW f (n+1)=runW f n++[(f+n)%4294967296]:=by unfold runW;rw[List.range_succ,List.map_append];rfl
theorem rrun_any (f n:Nat) (w:World) (hf:f<4294967296) (hn:n≤1000000) :
  Calls Tryz.prog 94 #[.int .u32 f,.int .i64 n] w fun e w'=>∃ A c,e=.returned (.slice A n c)∧w'.ownsRow w.heap.size 23 1 (.slice A n c) n (ucells (runW f n))∧Below w.heap.size w w':=by
 obtain⟨i0,hi0,hz0,hz1,hz2⟩:=info_parts infoU32
 go_enter Tryz.func94,Tryz.ntmps94
 go_wp2_with fail
 go_loopw [5,6] (fun b i wr=>∃ (k:Nat) (A':Option Addr) (c':Nat),k≤n∧i=.int .i64 k∧b=.slice A' k c'∧Hid (wr.ownsRow w.heap.size 23 1 (.slice A' k c') k (ucells (runW f k)))∧Hid (Below w.heap.size w wr)) (fun _ i _=>n-(intOf i).toNat)
 case atStart=>exact⟨0,none,0,Nat.zero_le _,rfl,rfl,Hd (World.ownsRow_nil _ _ _ _),Hd (Below.refl _ _)⟩
 case round =>
  obtain⟨k,A',c',hk,rfl,rfl,HO,HB⟩:=hrel
  by_cases hlt:k<n
  ·have hk0:(0:Int)≤k:=by omega
   have hk1:(k:Int)<n:=by omega
   have hw1:IntKind.u32.wrap (k:Int)=(k:Int):=by rw[IntKind.wrap_u32];omega
   obtain⟨a,ha⟩ : ∃ a,a=(f+k)%4294967296:=⟨_,rfl⟩
   have ha1:((f:Int)+(k:Int))%4294967296=(a:Int):=by omega
   have ha2:IntKind.u32.wrap ((f:Int)+(k:Int))=(a:Int):=by rw[IntKind.wrap_u32];omega
   have HA:=Hd ha
   clear ha
   have HX:=Hd (HO.out.alloc (.cells #[.int .u32 a] 23))
   have HB3:=Hd (HB.out.alloc HB.out.size (.cells #[.int .u32 a] 23))
   go_wp2_with (at_builtin;refine wpList_append_any _ rfl (.tmp 12) (.tmp 17) _ rfl w.heap.size 23 i0 _ 1 4 Tryz.underlying31 hi0 hz0 hz1 hz2 rfl (by omega) _ k _ rfl HX.out (wr.heap.size+1) (some ⟨wr.heap.size,0,none⟩) 1 1 (ucells [a]) rfl (reads_own (n:=1) (Blk.new _ _ _) rfl) (ucells_one _) (by unfold maxLen;omega) (by omega) (by have:=HB.out.size;simp;omega) ?_;intro v5 w5 hown4 hg4 hat;clear hat;rw[← ucells_append,HA.out,← runW_succ] at hown4;obtain⟨A4,c4,rfl,_,_,_⟩:=own_form hown4;have HO4:=Hd hown4;have HB4:=Hd (HB3.out.grown hg4 HB3.out.size (fun j hj=>(HX.out.lt j hj).1));clear hown4 hg4)
   go_roundw
   case rel =>
    first
     | exact⟨k+1,A4,c4,by omega,by go_num,rfl,HO4,HB4⟩
     | ((repeat apply Exists.intro);exact⟨⟨k+1,A4,c4,by omega,by go_num,rfl,HO4,HB4⟩,rfl⟩)
   case measure=>simp[intOf];omega
  ·obtain rfl:k=n:=by omega
   clear hlt hk
   go_wp2_with fail
   go_ret
   first
    | exact⟨A',c',rfl,HO.out,HB.out⟩
    | exact⟨A',c',rfl,HO.out,HB.out⟩
def PgsPost (o:Option (List Pg)) (w:World) (e:Ending) (w':World):Prop :=
 match o with
 | none=>e=.returned (.tuple #[.slice none 0 0,.int .i64 2])∧Below w.heap.size w w'
 | some L=>∃ A n c,e=.returned (.tuple #[.slice A n c,.int .i64 0])∧Reads w' w'.heap.size 6 A n (pgcs L)∧Below w.heap.size w w'
theorem onL_no {size:Int} {tx:Nat} {ps:List Nat} {v:ByteArray} (h:goodSize size=false∨v.size=0∨4096<v.size∨(partsL size v).length≠ps.length∨fineL ps=false∨4611686018427387904<tx):onL size tx ps v=none:=by
 unfold onL
 rw[if_neg]
 simp only[Bool.and_eq_true,decide_eq_true_eq]
 rintro ⟨h1,h2,h3,h4,h5,h6⟩
 rcases h with h | h | h | h | h | h
 ·rw[h1] at h;cases h
 ·omega
 ·omega
 ·exact h h4
 ·rw[h5] at h;cases h
 ·omega
theorem onL_yes {size:Int} {tx:Nat} {ps:List Nat} {v:ByteArray} (h1:goodSize size=true) (h2:0<v.size) (h3:v.size≤4096) (h4:(partsL size v).length=ps.length) (h5:fineL ps=true) (h6:tx≤4611686018427387904):onL size tx ps v=some ((List.range ps.length).map (onPg size.toNat tx ps v)):=by
 obtain⟨z,rfl,_⟩:=good_nat h1
 unfold onL
 rw[h1,decide_eq_true h2,decide_eq_true h3,decide_eq_true h4,h5,decide_eq_true h6]
 rfl
theorem strc_at {w:World} {B n k:Nat} {A:Option Addr} {l:List ByteArray} (h:Reads w B 1 A n (strc l)) (hk:k<n) : ∃ ad,A=some ad∧ad.block<B∧w.cell? (ad.add k)=some (.string (l.getD k ⟨#[]⟩)):=by
 obtain⟨ad,u,ha,hb,hx,hc⟩:=h.at_ hk
 refine⟨ad,ha,hb,?_⟩
 rw[hc]
 unfold strc at hx
 rw[List.getElem?_map,Option.map_eq_some_iff] at hx
 obtain⟨b,hb,rfl⟩:=hx
 rw[List.getD,hb]
 rfl

theorem ron_0 (size:Int) (tx:Nat) (A:Option Addr) (n c:Nat) (ps:List Nat) (v:ByteArray) (w:World) (hr:Reads w w.heap.size 1 A n (ucells ps)) (hn:n≤1000000) (hv:v.size≤1000000) (hg:goodSize size=false):Calls Tryz.prog 93 #[.int .i64 size,.int .u64 tx,.slice A n c,.string v] w (PgsPost (onL size tx ps v) w):=by
 rw[onL_no (size:=size) (tx:=tx) (ps:=ps) (v:=v) (.inl hg)]
 have HG:=fun w=>rgood_any size w
 rw[hg] at HG
 clear hg
 have hl:=ulen hr
 go_enter Tryz.func93,Tryz.ntmps93
 go_wp2_with fail
 refine (rparts9_any size v w hv).mono ?_
 rintro e w1 ⟨Ap,np,cp,rfl,hrp,_,_,hb⟩
 have hnp:np=(partsL size v).length:=by have:=hrp.1;simpa [strc] using this.symm
 have HB:=Hd hb
 have HR:=Hd ((hr.below hb).more hb.size)
 have HRp:=Hd hrp
 clear hb hrp hr
 clear hnp
 go_wp2_with (go_at_call 32;refine (HG _).mono ?_;rintro e w' ⟨rfl,rfl⟩)
 go_ret2
 exact⟨rfl,HB.out⟩
theorem ron_1 (size:Int) (tx:Nat) (A:Option Addr) (n c:Nat) (ps:List Nat) (v:ByteArray) (w:World) (hr:Reads w w.heap.size 1 A n (ucells ps)) (hn:n≤1000000) (hv:v.size≤1000000) (hg:goodSize size=true) (h1:v.size=0):Calls Tryz.prog 93 #[.int .i64 size,.int .u64 tx,.slice A n c,.string v] w (PgsPost (onL size tx ps v) w):=by
 rw[onL_no (size:=size) (tx:=tx) (ps:=ps) (v:=v) (.inr (.inl h1))]
 have HG:=fun w=>rgood_any size w
 rw[hg] at HG
 have he:(v.toList == [])=true:=by rw[List.eq_nil_of_length_eq_zero (show v.toList.length=0 by rw[ByteArray.toList_eq,size_list];exact h1)];rfl
 clear hg h1
 have hl:=ulen hr
 go_enter Tryz.func93,Tryz.ntmps93
 go_wp2_with fail
 refine (rparts9_any size v w hv).mono ?_
 rintro e w1 ⟨Ap,np,cp,rfl,hrp,_,_,hb⟩
 have hnp:np=(partsL size v).length:=by have:=hrp.1;simpa [strc] using this.symm
 have HB:=Hd hb
 have HR:=Hd ((hr.below hb).more hb.size)
 have HRp:=Hd hrp
 clear hb hrp hr
 clear hnp
 go_wp2_with (go_at_call 32;refine (HG _).mono ?_;rintro e w' ⟨rfl,rfl⟩)
 go_ret2
 exact⟨rfl,HB.out⟩
theorem ron_2 (size:Int) (tx:Nat) (A:Option Addr) (n c:Nat) (ps:List Nat) (v:ByteArray) (w:World) (hr:Reads w w.heap.size 1 A n (ucells ps)) (hn:n≤1000000) (hv:v.size≤1000000) (hg:goodSize size=true) (h1:0<v.size) (h2:4096<v.size):Calls Tryz.prog 93 #[.int .i64 size,.int .u64 tx,.slice A n c,.string v] w (PgsPost (onL size tx ps v) w):=by
 rw[onL_no (size:=size) (tx:=tx) (ps:=ps) (v:=v) (.inr (.inr (.inl h2)))]
 have HG:=fun w=>rgood_any size w
 rw[hg] at HG
 have he:(v.toList == [])=false:=by rw[Bool.eq_false_iff];intro h;rw[beq_iff_eq] at h;have h2:=size_list v;rw[← ByteArray.toList_eq,h] at h2;simp at h2;omega
 have hbg:decide ((4096:Int)<(v.size:Int))=true:=by simp;omega
 have hbg2:decide (4096<v.size)=true:=by simp;omega
 clear hg h1 h2
 have hl:=ulen hr
 go_enter Tryz.func93,Tryz.ntmps93
 go_wp2_with fail
 refine (rparts9_any size v w hv).mono ?_
 rintro e w1 ⟨Ap,np,cp,rfl,hrp,_,_,hb⟩
 have hnp:np=(partsL size v).length:=by have:=hrp.1;simpa [strc] using this.symm
 have HB:=Hd hb
 have HR:=Hd ((hr.below hb).more hb.size)
 have HRp:=Hd hrp
 clear hb hrp hr
 clear hnp
 go_wp2_with (go_at_call 32;refine (HG _).mono ?_;rintro e w' ⟨rfl,rfl⟩)
 go_ret2
 exact⟨rfl,HB.out⟩
theorem ron_3 (size:Int) (tx:Nat) (A:Option Addr) (n c:Nat) (ps:List Nat) (v:ByteArray) (w:World) (hr:Reads w w.heap.size 1 A n (ucells ps)) (hn:n≤1000000) (hv:v.size≤1000000) (hg:goodSize size=true) (h1:0<v.size) (h2:v.size≤4096) (h3:(partsL size v).length≠ps.length):Calls Tryz.prog 93 #[.int .i64 size,.int .u64 tx,.slice A n c,.string v] w (PgsPost (onL size tx ps v) w):=by
 rw[onL_no (size:=size) (tx:=tx) (ps:=ps) (v:=v) (.inr (.inr (.inr (.inl h3))))]
 have HG:=fun w=>rgood_any size w
 rw[hg] at HG
 have he:(v.toList == [])=false:=by rw[Bool.eq_false_iff];intro h;rw[beq_iff_eq] at h;have h2:=size_list v;rw[← ByteArray.toList_eq,h] at h2;simp at h2;omega
 have hbg:decide ((4096:Int)<(v.size:Int))=false:=by simp;omega
 have hbg2:decide (4096<v.size)=false:=by simp;omega
 clear hg h1 h2
 have hl:=ulen hr
 go_enter Tryz.func93,Tryz.ntmps93
 go_wp2_with fail
 refine (rparts9_any size v w hv).mono ?_
 rintro e w1 ⟨Ap,np,cp,rfl,hrp,_,_,hb⟩
 have hnp:np=(partsL size v).length:=by have:=hrp.1;simpa [strc] using this.symm
 have HB:=Hd hb
 have HR:=Hd ((hr.below hb).more hb.size)
 have HRp:=Hd hrp
 clear hb hrp hr
 have hne:((np:Int) != (n:Int))=true:=by simp;omega
 have hne2:(np != n)=true:=by simp;omega
 clear hnp
 go_wp2_with (go_at_call 32;refine (HG _).mono ?_;rintro e w' ⟨rfl,rfl⟩)
 go_ret2
 exact⟨rfl,HB.out⟩
theorem ron_4 (size:Int) (tx:Nat) (A:Option Addr) (n c:Nat) (ps:List Nat) (v:ByteArray) (w:World) (hr:Reads w w.heap.size 1 A n (ucells ps)) (hn:n≤1000000) (hv:v.size≤1000000) (hg:goodSize size=true) (h1:0<v.size) (h2:v.size≤4096) (h3:(partsL size v).length=ps.length) (h4:fineL ps=false):Calls Tryz.prog 93 #[.int .i64 size,.int .u64 tx,.slice A n c,.string v] w (PgsPost (onL size tx ps v) w):=by
 rw[onL_no (size:=size) (tx:=tx) (ps:=ps) (v:=v) (.inr (.inr (.inr (.inr (.inl h4)))))]
 have HG:=fun w=>rgood_any size w
 rw[hg] at HG
 have he:(v.toList == [])=false:=by rw[Bool.eq_false_iff];intro h;rw[beq_iff_eq] at h;have h2:=size_list v;rw[← ByteArray.toList_eq,h] at h2;simp at h2;omega
 have hbg:decide ((4096:Int)<(v.size:Int))=false:=by simp;omega
 have hbg2:decide (4096<v.size)=false:=by simp;omega
 have HFi:=Hd h4
 clear hg h1 h2
 have hl:=ulen hr
 go_enter Tryz.func93,Tryz.ntmps93
 go_wp2_with fail
 refine (rparts9_any size v w hv).mono ?_
 rintro e w1 ⟨Ap,np,cp,rfl,hrp,_,_,hb⟩
 have hnp:np=(partsL size v).length:=by have:=hrp.1;simpa [strc] using this.symm
 have HB:=Hd hb
 have HR:=Hd ((hr.below hb).more hb.size)
 have HRp:=Hd hrp
 clear hb hrp hr
 have hne:((np:Int) != (n:Int))=false:=by simp;omega
 have hne2:(np != n)=false:=by simp;omega
 clear hnp
 go_wp2_with (go_at_call 32;refine (HG _).mono ?_;rintro e w' ⟨rfl,rfl⟩)
 refine (rfine_any A n c ps _ HR.out hn).mono ?_
 rw[HFi.out]
 rintro e w2 ⟨rfl,q,hq⟩
 have HB2:=Hd (show Below w.heap.size w w2 by rw[hq];exact below_drewN HB.out q)
 clear hq
 go_wp2_with fail
 go_ret2
 exact⟨rfl,HB2.out⟩
theorem ron_5 (size:Int) (tx:Nat) (A:Option Addr) (n c:Nat) (ps:List Nat) (v:ByteArray) (w:World) (hr:Reads w w.heap.size 1 A n (ucells ps)) (hn:n≤1000000) (hv:v.size≤1000000) (hg:goodSize size=true) (h1:0<v.size) (h2:v.size≤4096) (h3:(partsL size v).length=ps.length) (h4:fineL ps=true) (h5:4611686018427387904<tx):Calls Tryz.prog 93 #[.int .i64 size,.int .u64 tx,.slice A n c,.string v] w (PgsPost (onL size tx ps v) w):=by
 rw[onL_no (size:=size) (tx:=tx) (ps:=ps) (v:=v) (.inr (.inr (.inr (.inr (.inr h5)))))]
 have HG:=fun w=>rgood_any size w
 rw[hg] at HG
 have he:(v.toList == [])=false:=by rw[Bool.eq_false_iff];intro h;rw[beq_iff_eq] at h;have h2:=size_list v;rw[← ByteArray.toList_eq,h] at h2;simp at h2;omega
 have hbg:decide ((4096:Int)<(v.size:Int))=false:=by simp;omega
 have hbg2:decide (4096<v.size)=false:=by simp;omega
 have HFi:=Hd h4
 have htx:decide ((4611686018427387904:Int)<tx)=true:=by simp;omega
 clear hg h1 h2
 have hl:=ulen hr
 go_enter Tryz.func93,Tryz.ntmps93
 go_wp2_with fail
 refine (rparts9_any size v w hv).mono ?_
 rintro e w1 ⟨Ap,np,cp,rfl,hrp,_,_,hb⟩
 have hnp:np=(partsL size v).length:=by have:=hrp.1;simpa [strc] using this.symm
 have HB:=Hd hb
 have HR:=Hd ((hr.below hb).more hb.size)
 have HRp:=Hd hrp
 clear hb hrp hr
 have hne:((np:Int) != (n:Int))=false:=by simp;omega
 have hne2:(np != n)=false:=by simp;omega
 clear hnp
 go_wp2_with (go_at_call 32;refine (HG _).mono ?_;rintro e w' ⟨rfl,rfl⟩)
 refine (rfine_any A n c ps _ HR.out hn).mono ?_
 rw[HFi.out]
 rintro e w2 ⟨rfl,q,hq⟩
 have HB2:=Hd (show Below w.heap.size w w2 by rw[hq];exact below_drewN HB.out q)
 clear hq
 go_wp2_with fail
 go_ret2
 exact⟨rfl,HB2.out⟩
theorem grown_own {a b c:World} {r r':Option Nat} (h1:a.grownBy b r) (h2:b.grownBy c r') (h : ∀ k,r'=some k→a.heap.size≤k):a.grownBy c r :=
 ⟨h2.os.trans h1.os,h2.tape.trans h1.tape,h2.output.trans h1.output,Nat.le_trans h1.size h2.size,fun k hk hne=>(h2.block k (Nat.lt_of_lt_of_le hk h1.size) (fun he=>by have:=h k he.symm;omega)).trans (h1.block k hk hne)⟩
def forksPost (B:Nat) (o:Option (List Fk)) (e:Ending) (w':World):Prop:=match o with
 | none=>DiesB e
 | some l=>∃ A n c,e=.returned (.slice A n c)∧Reads w' w'.heap.size 2 A n (fkc l)∧n≤c∧c≤maxLen∧∀ ad,A=some ad→B≤ad.block
theorem bforks_tot {w:World} {g:Nat} {bd:ByteArray} (h:IsRd w g bd) (hs:bd.size≤100000) (ct:Int) :
  Calls Tryz.prog 121 #[.agg #[.pointer (some ⟨g,0,none⟩)],.int .i64 ct] w fun e w'=>w.grownBy w' (some g)∧forksPost w.heap.size (forksF ct bd.data.toList) e w':=by
 obtain⟨i0,hi0,hz0,hz1,hz2⟩:=info_parts infoFk
 have Hbd:=Hd hs
 obtain⟨w0,hw0⟩ : ∃ x,x=w.alloc (.cells #[.pointer (some ⟨g,0,none⟩)] 192):=⟨_,rfl⟩
 have Bx:=Hd (show Blk w0 w.heap.size 192 #[.pointer (some ⟨g,0,none⟩)] by rw[hw0];exact Blk.new _ _ _)
 have HF:=Hd (show IsRd w0 g bd by rw[hw0];exact Blk.alloc h _)
 have HG:=Hd (show w.grownBy w0 (some g) by rw[hw0];exact World.grownBy_alloc _ _ _)
 have hgl:=Hd (Blk.lt h)
 clear h hs
 go_enter Tryz.func121,Tryz.ntmps121
 go_wp2_with fail
 rw[← hw0]
 clear hw0
 go_loopw [5,7] (fun v i wr=>∃ (k:Nat) (A:Option Addr) (c:Nat) (l:List Fk) (r:List UInt8) (s:ByteArray),k≤ct.toNat∧i=.int .i64 k∧v=.slice A k c∧Hid (parseF k bd.data.toList=some (l,r))∧Hid (s.data.toList=r)∧Hid (IsRd wr g s)∧Hid (wr.ownsRow (w.heap.size+1) 45 2 (.slice A k c) k (fkc l))∧Hid (Blk wr w.heap.size 192 #[.pointer (some ⟨g,0,none⟩)])∧Hid (w.grownBy wr (some g))) (fun _ i _=>ct.toNat-(intOf i).toNat)
 case atStart=>exact⟨0,none,0,[],_,bd,Nat.zero_le _,rfl,rfl,Hd rfl,Hd rfl,HF,Hd (World.ownsRow_nil _ _ _ _),Bx,HG⟩
 case round =>
  clear HF HG Bx
  obtain⟨k,A,c,l,r,s,hk,rfl,rfl,HPr,HSr,HF,HO,Bx,HG⟩:=hrel
  have hsz:=parseF_size HPr.out
  rw[size_list] at hsz
  have hk9:k≤100000:=by
   have h2:=five_le l
   rw[parseF_len HPr.out] at h2
   have h3:=Hbd.out
   omega
  have hss:s.size≤100000:=by
   have h1:=HSr.out
   have h2:=size_list s
   rw[h1] at h2
   have h3:=Hbd.out
   omega
  clear hsz
  have b0:=Bx.out.cell 0
  simp at b0
  by_cases hlt:(k:Int)<ct
  ·have hkc:k+1≤ct.toNat:=by omega
   go_wp2_with fail
   refine (bfork_tot HF.out hss).mono ?_
   rintro e w2 ⟨hg,hp⟩
   rw[HSr.out] at hp
   have HG2:=Hd (grown_trans HG.out hg)
   rcases hsf:stepF r with _ | ⟨b,r'⟩
   ·rw[hsf] at hp
    have HE:=Hd (show forksF ct bd.data.toList=none by
     have h1:=parseF_none (parseF_stop HPr.out hsf) (ct.toNat-(k+1))
     rw[show k+1+(ct.toNat-(k+1))=ct.toNat by omega] at h1
     rw[forksF,h1])
    have he:e=.panicked [{ v:=.iface 186 (.agg #[]),recovered:=false }]:=hp
    subst he
    refine⟨rfl,HG2.out,?_⟩
    rw[HE.out]
    exact rfl
   ·rw[hsf] at hp
    obtain⟨s',rfl,hf,hr'⟩:=hp
    have HP4:=Hd (parseF_step HPr.out hsf)
    have HS4:=Hd hr'
    replace HO:=Hd (HO.out.kept hg (own_apart HO.out (by have:=hgl.out;omega)))
    replace Bx:=Hd (Blk.grown Bx.out hg (by intro h;injection h with h;have:=hgl.out;omega))
    have HF2:=Hd hf
    obtain⟨nm,v3⟩:=b
    clear hf hr' hsf hg HF b0
    have HA:=Hd (HO.out.alloc (.cells #[.string nm,.int .u32 v3] 45))
    have hgl2:w.heap.size+1≤w2.heap.size:=Blk.lt Bx.out
    have HF3:=Hd (show IsRd (w2.alloc (.cells #[.string nm,.int .u32 v3] 45)) g s' from Blk.alloc HF2.out _)
    have Bx3:=Hd (Bx.out.alloc (.cells #[.string nm,.int .u32 v3] 45))
    have HG3:=Hd (grown_trans HG2.out (World.grownBy_alloc w2 (.cells #[.string nm,.int .u32 v3] 45) _))
    go_upto_region 5 with (at_builtin;refine wpList_append_any _ rfl (.tmp 9) (.tmp 12) _ rfl (w.heap.size+1) 45 i0 _ 2 24 Tryz.underlying46 hi0 hz0 hz1 hz2 rfl (by omega) _ k _ rfl HA.out (w2.heap.size+1) (some ⟨w2.heap.size,0,none⟩) 1 1 (Fk.cells ⟨nm,v3⟩) rfl (reads_own (n:=1) (Blk.new _ _ _) rfl) (fk_one _) (by unfold maxLen;omega) (by omega) (by simp;omega) ?_;intro v5 w5 hown4 hg4 hat)
    clear hat
    rw[fkc_snoc] at hown4
    obtain⟨A4,c4,rfl,_,_,_⟩:=own_form hown4
    have HO4:=Hd hown4
    have HF4:=Hd (show IsRd w5 g s' from Blk.grown HF3.out hg4 (own_ne HA.out (by have:=hgl.out;omega)))
    have Bx4:=Hd (Blk.grown Bx3.out hg4 (own_ne HA.out (Nat.lt_succ_self _)))
    have HG4:=Hd (grown_own HG3.out hg4 (fun j hj=>by have h1:=(HA.out.lt j hj).1;omega))
    clear hown4 hg4 HA HF3 Bx3 HG3 HG2 HO HF2 HG Bx
    go_wp2_with fail
    go_roundw
    case rel =>
     first
      | exact⟨k+1,A4,c4,_,r',s',by omega,by go_num,rfl,HP4,HS4,HF4,HO4,Bx4,HG4⟩
      | ((repeat apply Exists.intro);exact⟨⟨k+1,A4,c4,_,r',s',by omega,by go_num,rfl,HP4,HS4,HF4,HO4,Bx4,HG4⟩,rfl⟩)
    case measure=>simp[intOf];omega
  ·have hkc:k=ct.toNat:=by omega
   obtain⟨A',c',he,h1,h2,_⟩:=own_form HO.out
   injection he with e1 e2 e3
   subst e1
   subst e3
   have HR:=Hd (Reads.of_own HO.out)
   have HC:=Hd h1
   have HMx:=Hd h2
   have HLo:=Hd (show ∀ ad,A=some ad→w.heap.size≤ad.block from fun ad h=>by
    have:=(HO.out.lt ad.block (by rw[h];rfl)).1
    omega)
   have HQ:=Hd (show forksF ct bd.data.toList=if mayF l&&zeros r then some l else none by rw[forksF,← hkc,HPr.out])
   clear h1 h2 HO hkc
   go_wp2_with fail
   refine (bvalid_any A k c l _ HR.out (by omega)).mono ?_
   rintro e w2 ⟨rfl,hb⟩
   replace HR:=Hd ((HR.out.below hb).more hb.size)
   replace HF:=Hd (show IsRd w2 g s from Blk.below HF.out hb (Blk.lt HF.out))
   replace Bx:=Hd (Bx.out.below hb Bx.out.lt)
   replace HG:=Hd (grown_trans HG.out (grown_below' hb))
   clear hb b0
   have b0:=Bx.out.cell 0
   simp at b0
   have HZ:=fun w=>zero_any s w (by unfold maxLen;omega)
   rw[HSr.out] at HZ
   rcases hm:mayF l with _ | _
   ·rw[hm] at HQ
    clear hm
    go_wp2_with fail
    refine (bneed_no _).mono ?_
    rintro e w3 ⟨rfl,rfl⟩
    refine⟨rfl,HG.out,?_⟩
    rw[HQ.out]
    exact rfl
   ·rw[hm] at HQ
    rcases hzr:zeros r with _ | _
    ·rw[hzr] at HQ HZ
     clear hm hzr
     go_wp2_with (first | (go_at_call 138;refine (rest_any HF.out).mono ?_;rintro e w' ⟨rfl,rfl⟩) | (go_at_call 137;refine (HZ _).mono ?_;rintro e w' ⟨rfl,rfl⟩))
     refine (bneed_no _).mono ?_
     rintro e w3 ⟨rfl,rfl⟩
     refine⟨rfl,HG.out,?_⟩
     rw[HQ.out]
     exact rfl
    ·rw[hzr] at HQ HZ
     clear hm hzr
     go_wp2_with (first | (go_at_call 138;refine (rest_any HF.out).mono ?_;rintro e w' ⟨rfl,rfl⟩) | (go_at_call 137;refine (HZ _).mono ?_;rintro e w' ⟨rfl,rfl⟩) | (go_at_call 118;refine (bneed_yes _).mono ?_;rintro e w' ⟨rfl,rfl⟩))
     go_ret
     refine⟨HG.out,?_⟩
     rw[HQ.out]
     exact⟨A,k,c,rfl,HR.out,HC.out,HMx.out,HLo.out⟩
theorem Reads.keep_from {w w':World} {B size n lo:Nat} {A:Option Addr} {xs:List Value} (h:Reads w B size A n xs) (hA : ∀ ad,A=some ad→lo≤ad.block) (hk : ∀ p:Addr,lo≤p.block→w'.cell? p=w.cell? p):Reads w' B size A n xs :=
 ⟨h.1,fun hn=>by
  obtain⟨ad,e,hb,hc⟩:=h.2 hn
  exact⟨ad,e,hb,fun j u hu=>(hk _ (by rw[block_add];exact hA ad e)).trans (hc j u hu)⟩⟩
end Go.Proofs.YtanbbnogdhnikaaGreat

namespace Go.Proofs.YtanbbnogdhnikaaGreat
open Go.RowKit Go.Shelf
attribute [local go_sem] Oper.semAt_some

theorem room_none {F:Fence} (hd:F.depth=none) (k:Nat):F.room k:=fun d h=>by rw[hd] at h;cases h
theorem round_any {F:Fence} (hd:F.depth=none) {m m':Nat} {P:Program} {l:Nat} {f:FuncId} {tmps:Array Value} {assign body:Code} {w:World} {R:Ending→World→Prop}
  (h:RoundIn F m P l f tmps assign body w R):RoundIn F m' P l f tmps assign body w R:=⟨h.1,fun c cs _=>h.2 c cs (room_none hd _)⟩
def YieldsTo (yv:Value) (args:Array Value) (W:World) (R:Ending→World→Prop):Prop :=
 (∃ l fn tmps assign body,yv=.func (.yield l) #[] #[]∧(Instr.yield l args).run Tryz.prog W=.ok (.round l fn tmps assign body) W∧∀ m,RoundIn Fence.wide m Tryz.prog l fn tmps assign body W R) ∨
 (∃ g lb,yv=.func (.func g) #[] lb∧(∀ args w,(callFunc g args).run Tryz.prog w=.ok (.enter g args) w)∧Calls Tryz.prog g (args++lb) W R)
theorem YieldsTo.of_yield {l:Nat} {args:Array Value} {W:World} {R:Ending→World→Prop} (h:YieldAt Fence.wide 0 Tryz.prog l args W R):YieldsTo (.func (.yield l) #[] #[]) args W R:=by
 obtain⟨fn,tmps,assign,body,hy,hr⟩:=h
 exact .inl ⟨l,fn,tmps,assign,body,rfl,hy,fun m=>round_any rfl hr⟩
def encP (x:Pr×Int):Array Value:=#[.agg #[.string x.1.ky,.string x.1.vl],.int .i64 x.2]
structure Hears (XS:List (Pr×Int)) (J Jx:List (Pr×Int)→(Nat→Prop)→World→Prop) (yv:Value):Prop where
 sJ:StabU J
 sJx:StabU Jx
 lJ:LtU J
 lJx:LtU Jx
 tell : ∀ pre x U W,J pre U W→pre++[x] <+: XS→YieldsTo yv (encP x) W (AfterU J Jx U W (pre++[x]))
def FailPost (J Jx:List (Pr×Int)→(Nat→Prop)→World→Prop) (xs:List (Pr×Int)) (U:Nat→Prop) (w:World) (e:Ending) (w':World):Prop :=
 e=.returned (.bool false)∧(RoundU J xs U w w'∨RoundU Jx xs U w w')
theorem fail_any {XS:List (Pr×Int)} {J Jx:List (Pr×Int)→(Nat→Prop)→World→Prop} {yv:Value} (H:Hears XS J Jx yv) (N:Nat) (pre:List (Pr×Int)) (U:Nat→Prop) (w:World) (hj:J pre U w) (hx:pre++[(Pr.zero,4)] <+: XS) :
  CallsIn Fence.wide N Tryz.prog 107 #[yv] w (FailPost J Jx (pre++[(Pr.zero,4)]) U w):=by
 have hy:=H.tell pre (Pr.zero,4) U w hj hx
 obtain⟨xs,hxs⟩ : ∃ xs,xs=pre++[(Pr.zero,4)]:=⟨_,rfl⟩
 rw[← hxs] at hy ⊢
 simp only[encP,Pr.zero] at hy
 clear hxs hx hj H
 rcases hy with ⟨l,fn,tmps,assign,body,rfl,hy,hR⟩ | ⟨g,lb,rfl,eg,hR⟩
 ·refine callsIn_of_wp Tryz.func107 rfl trivial ?_ rfl
  simp only[Tryz.ntmps107,List.size_toArray,List.length_cons,List.length_nil,Nat.reduceAdd,Nat.reduceSub,Array.replicate_succ,Array.replicate_zero,List.push_toArray,List.append_toArray,List.nil_append,List.cons_append]
  gi_wp2
  refine⟨fun h=>by simp[Fence.wide] at h,?_⟩
  refine (hR _).mono ?_
  rintro e w1 h
  rcases h with ⟨rfl,h⟩ | ⟨rfl,h⟩
  ·have HH:=Hd h
   clear h
   gi_wp2
   go_ret
   exact⟨rfl,.inl HH.out⟩
  ·have HH:=Hd h
   clear h
   gi_wp2
   go_ret
   exact⟨rfl,.inr HH.out⟩
 ·refine callsIn_of_wp Tryz.func107 rfl trivial ?_ rfl
  simp only[Tryz.ntmps107,List.size_toArray,List.length_cons,List.length_nil,Nat.reduceAdd,Nat.reduceSub,Array.replicate_succ,Array.replicate_zero,List.push_toArray,List.append_toArray,List.nil_append,List.cons_append]
  gi_wp2
  refine⟨trivial,fun h=>by simp[Fence.wide] at h,?_⟩
  refine (callsIn_wide.2 hR).mono ?_
  rintro e w1 h
  rcases h with ⟨rfl,h⟩ | ⟨rfl,h⟩
  ·have HH:=Hd h
   clear h
   gi_wp2
   go_ret
   exact⟨rfl,.inl HH.out⟩
  ·have HH:=Hd h
   clear h
   gi_wp2
   go_ret
   exact⟨rfl,.inr HH.out⟩
end Go.Proofs.YtanbbnogdhnikaaGreat

