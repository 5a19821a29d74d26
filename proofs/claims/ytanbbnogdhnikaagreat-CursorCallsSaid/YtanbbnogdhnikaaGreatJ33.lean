/-
  Texts that the main proof rests on, put together: La, LePg. No statement is proved here.
-/
import Derived.Test.YtanbbnogdhnikaaGreatJ28
import Derived.Test.YtanbbnogdhnikaaGreatJ32
set_option linter.unusedVariables false
set_option linter.unusedSimpArgs false
set_option maxRecDepth 300000
set_option maxHeartbeats 25600000
namespace Go.Proofs.YtanbbnogdhnikaaGreat
open Go.RowKit
open Go.Lib hiding intOf

def growT {α:Type} (sz:List α→Nat) (room:Nat) (l:List α):Nat→Nat→Nat
 | 0,t=>t
 | d+1,t=>if t<l.length∧sz (l.take (t+1))≤room then growT sz room l d (t+1) else t
def cutG {α:Type} (sz:List α→Nat) (room:Nat):Nat→List α→List (List α)
 | 0,_=>[]
 | d+1,l=>if l=[] then [] else l.take (growT sz room l l.length 1)::cutG sz room d (l.drop (growT sz room l l.length 1))
section
variable {α:Type} {sz:List α→Nat} {room:Nat}
theorem growT_ge (l:List α) : ∀ d t,t≤growT sz room l d t
 | 0,t=>Nat.le_refl _
 | d+1,t=>by
  simp only[growT]
  split
  ·have:=growT_ge l d (t+1);omega
  ·exact Nat.le_refl _
theorem growT_step (l:List α) {d t:Nat} (h:t<l.length∧sz (l.take (t+1))≤room):growT sz room l (d+1) t=growT sz room l d (t+1):=by simp only[growT,if_pos h]
theorem growT_end (l:List α) {d t:Nat} (h : ¬ (t<l.length∧sz (l.take (t+1))≤room)):growT sz room l d t=t:=by
 cases d with
 | zero=>rfl
 | succ d=>simp only[growT,if_neg h]
theorem growT_fits (l:List α) : ∀ d t,sz (l.take t)≤room→sz (l.take (growT sz room l d t))≤room
 | 0,t,h=>h
 | d+1,t,h=>by
  simp only[growT]
  split
  ·rename_i h2
   exact growT_fits l d (t+1) h2.2
  ·exact h
theorem cutG_nil (d:Nat):cutG sz room d ([]:List α)=[]:=by cases d<;>simp[cutG]
theorem cutG_cons {d:Nat} {l:List α} (h:l ≠ []):cutG sz room (d+1) l=l.take (growT sz room l l.length 1)::cutG sz room d (l.drop (growT sz room l l.length 1)):=by simp only[cutG,if_neg h]
theorem cutG_flat : ∀ (d:Nat) (l:List α),l.length≤d→(cutG sz room d l).flatten=l
 | 0,l,h=>by
  have:l=[]:=List.eq_nil_of_length_eq_zero (by omega)
  subst this
  simp[cutG]
 | d+1,l,h=>by
  by_cases hl:l=[]
  ·subst hl;simp[cutG]
  ·rw[cutG_cons hl,List.flatten_cons,cutG_flat d _ (by
    rw[List.length_drop]
    have:=growT_ge (sz:=sz) (room:=room) l l.length 1
    have:0<l.length:=List.length_pos_iff.2 hl
    omega)]
   exact List.take_append_drop _ _
theorem cutG_ne : ∀ (d:Nat) (l:List α),∀ p∈cutG sz room d l,p ≠ []
 | 0,l,p,h=>by simp[cutG] at h
 | d+1,l,p,h=>by
  by_cases hl:l=[]
  ·subst hl;simp[cutG] at h
  ·rw[cutG_cons hl] at h
   rcases List.mem_cons.1 h with rfl | h
   ·intro he
    have h1:(l.take (growT sz room l l.length 1)).length=0:=by rw[he];rfl
    rw[List.length_take] at h1
    have:=growT_ge (sz:=sz) (room:=room) l l.length 1
    have:0<l.length:=List.length_pos_iff.2 hl
    omega
   ·exact cutG_ne d _ p h
theorem cutG_len : ∀ (d:Nat) (l:List α),(cutG sz room d l).length≤l.length
 | 0,l=>by simp[cutG]
 | d+1,l=>by
  by_cases hl:l=[]
  ·subst hl;simp[cutG]
  ·rw[cutG_cons hl,List.length_cons]
   have h1:=cutG_len d (l.drop (growT sz room l l.length 1))
   rw[List.length_drop] at h1
   have:=growT_ge (sz:=sz) (room:=room) l l.length 1
   have:0<l.length:=List.length_pos_iff.2 hl
   omega
theorem cutG_fits : ∀ (d:Nat) (l:List α),(∀ x∈l,sz [x]≤room)→∀ p∈cutG sz room d l,sz p≤room
 | 0,l,_,p,h=>by simp[cutG] at h
 | d+1,l,h1,p,h=>by
  by_cases hl:l=[]
  ·subst hl;simp[cutG] at h
  ·rw[cutG_cons hl] at h
   rcases List.mem_cons.1 h with rfl | h
   ·refine growT_fits l _ _ ?_
    cases l with
    | nil=>exact absurd rfl hl
    | cons x t=>simpa using h1 x (by simp)
   ·exact cutG_fits d _ (fun x hx=>h1 x (List.mem_of_mem_drop hx)) p h
end
def itemY (z:Nat) (L:List Pg) (p:Pr):List Pg×It :=
 if inB z p.vl.size then (L,⟨p.ky,p.vl,false,0,0⟩) else (L++(pagesL z 3 (2+L.length) p.vl).getD [],⟨p.ky,⟨#[]⟩,true,p.vl.size,2+L.length⟩)
def itemsY (z:Nat):List Pg→List Pr→List Pg×List It
 | L,[]=>(L,[])
 | L,p::t=>((itemsY z (itemY z L p).1 t).1,(itemY z L p).2::(itemsY z (itemY z L p).1 t).2)
theorem itemsY_snoc (z:Nat) : ∀ (l:List Pr) (L:List Pg) (p:Pr),itemsY z L (l++[p])=((itemY z (itemsY z L l).1 p).1,(itemsY z L l).2++[(itemY z (itemsY z L l).1 p).2])
 | [],L,p=>rfl
 | q::l,L,p=>by
  simp only[List.cons_append,itemsY]
  rw[itemsY_snoc z l]
theorem itemsY_len (z:Nat) : ∀ (l:List Pr) (L:List Pg),(itemsY z L l).2.length=l.length
 | [],L=>rfl
 | q::l,L=>by simp[itemsY,itemsY_len z l]
def leafPg (z n:Nat) (l:List It):Pg:=⟨4,l.length,n,0,3,itemBody z l⟩
def brPg (z n:Nat) (l:List Fk):Pg:=⟨3,l.length,n,0,3,forkBody z l⟩
def leafPgs (z:Nat):Nat→List (List It)→List Pg
 | _,[]=>[]
 | n,p::t=>leafPg z n p::leafPgs z (n+1) t
def brPgs (z:Nat):Nat→List (List Fk)→List Pg
 | _,[]=>[]
 | n,p::t=>brPg z n p::brPgs z (n+1) t
def keyI (l:List It):ByteArray:=(l.head?.map (·.ky)).getD ⟨#[]⟩
def keyK (l:List Fk):ByteArray:=(l.head?.map (·.nm)).getD ⟨#[]⟩
def leafFks:Nat→List (List It)→List Fk
 | _,[]=>[]
 | n,p::t=>⟨keyI p,n⟩::leafFks (n+1) t
def brFks:Nat→List (List Fk)→List Fk
 | _,[]=>[]
 | n,p::t=>⟨keyK p,n⟩::brFks (n+1) t
def leafMay (z:Nat):Nat→List (List It)→Bool
 | _,[]=>true
 | n,p::t=>mayP8 z n 3 p&&leafMay z (n+1) t
theorem leafPgs_append (z:Nat) : ∀ (a b:List (List It)) (n:Nat),leafPgs z n (a++b)=leafPgs z n a++leafPgs z (n+a.length) b
 | [],b,n=>rfl
 | p::a,b,n=>by simp[leafPgs,leafPgs_append z a b (n+1),Nat.add_comm,Nat.add_left_comm]
theorem leafFks_append : ∀ (a b:List (List It)) (n:Nat),leafFks n (a++b)=leafFks n a++leafFks (n+a.length) b
 | [],b,n=>rfl
 | p::a,b,n=>by simp[leafFks,leafFks_append a b (n+1),Nat.add_comm,Nat.add_left_comm]
theorem brPgs_append (z:Nat) : ∀ (a b:List (List Fk)) (n:Nat),brPgs z n (a++b)=brPgs z n a++brPgs z (n+a.length) b
 | [],b,n=>rfl
 | p::a,b,n=>by simp[brPgs,brPgs_append z a b (n+1),Nat.add_comm,Nat.add_left_comm]
theorem brFks_append : ∀ (a b:List (List Fk)) (n:Nat),brFks n (a++b)=brFks n a++brFks (n+a.length) b
 | [],b,n=>rfl
 | p::a,b,n=>by simp[brFks,brFks_append a b (n+1),Nat.add_comm,Nat.add_left_comm]
theorem leafPgs_len (z:Nat) : ∀ (a:List (List It)) (n:Nat),(leafPgs z n a).length=a.length
 | [],_=>rfl
 | p::a,n=>by simp[leafPgs,leafPgs_len z a]
theorem leafFks_len : ∀ (a:List (List It)) (n:Nat),(leafFks n a).length=a.length
 | [],_=>rfl
 | p::a,n=>by simp[leafFks,leafFks_len a]
theorem brPgs_len (z:Nat) : ∀ (a:List (List Fk)) (n:Nat),(brPgs z n a).length=a.length
 | [],_=>rfl
 | p::a,n=>by simp[brPgs,brPgs_len z a]
theorem brFks_len : ∀ (a:List (List Fk)) (n:Nat),(brFks n a).length=a.length
 | [],_=>rfl
 | p::a,n=>by simp[brFks,brFks_len a]
theorem leafMay_append (z:Nat) : ∀ (a b:List (List It)) (n:Nat),leafMay z n (a++b)=(leafMay z n a&&leafMay z (n+a.length) b)
 | [],b,n=>by simp[leafMay]
 | p::a,b,n=>by simp[leafMay,leafMay_append z a b (n+1),Nat.add_comm,Nat.add_left_comm,Bool.and_assoc]
def levelsY (z:Nat):Nat→List Pg→List Fk→List Pg×List Fk
 | 0,L,F=>(L,F)
 | d+1,L,F=>if F.length≤1 then (L,F) else levelsY z d (L++brPgs z (2+L.length) (cutG sizeF (z-24) F.length F)) (brFks (2+L.length) (cutG sizeF (z-24) F.length F))
end Go.Proofs.YtanbbnogdhnikaaGreat

namespace Go.Proofs.YtanbbnogdhnikaaGreat
open Go.RowKit
open Go.Lib hiding intOf
attribute [local go_sem ↓] Go.wp_at_zero Go.wp_at_succ

theorem lpage8_no (size:Int) (n tx:Nat) (A:Option Addr) (m c:Nat) (l:List It) (w:World) (hr:Reads w w.heap.size 5 A m (itc l)) (hm:m≤2513169434916) (hx:NearI l) (h:mayP8 size n tx l=false) :
  Calls Tryz.prog 125 #[.int .i64 size,.int .u32 n,.int .u64 tx,.slice A m c] w fun e w'=>e=.returned (.tuple #[.agg #[.int .i64 0,.int .i64 0,.int .u32 0,.int .u32 0,.int .u64 0,.string .empty],.int .i64 2])∧Below w.heap.size w w':=by
 have HM:=fun (w':World) (hb:Below w.heap.size w w')=>lvalid_any A m c l w' ((hr.below hb).more hb.size) hm
 have HN:=fun w=>lnum_any n w
 have hl:=it_len hr
 have h5:=three_le l
 obtain⟨hz,hi⟩:=zero_of_info infoPg
 have HI:=Hd hi
 obtain⟨w0,hw0⟩ : ∃ x,x=w.alloc (.cells #[.int .i64 0,.int .i64 0,.int .u32 0,.int .u32 0,.int .u64 0,.string .empty] 41):=⟨_,rfl⟩
 have R0:=Hd (show Blk w0 w.heap.size 41 #[.int .i64 0,.int .i64 0,.int .u32 0,.int .u32 0,.int .u64 0,.string .empty] by rw[hw0];exact Blk.new _ _ _)
 have HB:=Hd (show Below w.heap.size w w0 by rw[hw0];exact (Below.refl _ _).alloc (Nat.le_refl _) _)
 rcases hmf:mayI l with _ | _
 ·rw[hmf] at HM
  clear h hi hr hl h5 hmf
  go_enter Tryz.func125,Tryz.ntmps125
  go_wp2_with fail
  rw[← hw0]
  clear hw0
  refine (HM _ HB.out).mono ?_
  rintro e w1 ⟨rfl,hb⟩
  replace R0:=Hd (R0.out.below hb R0.out.lt)
  replace HB:=Hd (HB.out.trans (hb.mono HB.out.size))
  clear hb HM
  have k0:=R0.out.cell 0
  have k1:=R0.out.cell 1
  have k2:=R0.out.cell 2
  have k3:=R0.out.cell 3
  have k4:=R0.out.cell 4
  have k5:=R0.out.cell 5
  have f0:=R0.out.frozen 0
  have f1:=R0.out.frozen 1
  have f2:=R0.out.frozen 2
  have f3:=R0.out.frozen 3
  have f4:=R0.out.frozen 4
  have f5:=R0.out.frozen 5
  simp at k0 k1 k2 k3 k4 k5
  go_wp2_with fail
  exact bodyPost_ret (read_row rfl _ _ _ w.heap.size #[.int .i64 0,.int .i64 0,.int .u32 0,.int .u32 0,.int .u64 0,.string .empty] rfl (load_page (six_at R0.out))) rfl ⟨rfl,six_below HB.out (Nat.le_refl _)⟩
 rw[hmf] at HM
 have hall:allOkI l=true:=by simp only[mayI,Bool.and_eq_true] at hmf;exact hmf.1
 have hpos:0<l.length:=by simp only[mayI,Bool.and_eq_true,decide_eq_true_eq] at hmf;exact hmf.2
 have h45:=sizeI_all hall
 have hnear:=allOkI_near hall
 have HS:=fun (w':World) (hb:Below w.heap.size w w')=>lsize_big A m c l w' ((hr.below hb).more hb.size) hm hnear (by omega)
 obtain⟨Z,hZ⟩ : ∃ Z:Nat,Z=sizeI l:=⟨_,rfl⟩
 rw[← hZ] at HS
 obtain⟨r,HRo,hrr⟩ : ∃ r:Int,(∀ w:World,Calls Tryz.prog 122 #[.int .i64 size] w fun e w'=>e=.returned (.int .i64 r)∧w'=w)∧((Z:Int)≤r→goodSize size=true∧r=size-24):=by
  rcases hg:goodSize size with _ | _
  ·exact⟨0,fun w=>(room_no size w hg).mono (by rintro e w' ⟨rfl,rfl⟩;exact⟨rfl,rfl⟩),fun h=>by omega⟩
  ·exact⟨size-24,fun w=>(room_yes size w hg).mono (by rintro e w' ⟨rfl,rfl⟩;exact⟨rfl,rfl⟩),fun _=>⟨rfl,rfl⟩⟩
 go_enter Tryz.func125,Tryz.ntmps125
 clear hi hr hl h5 hall hpos h45
 go_wp2_with fail
 rw[← hw0]
 clear hw0
 refine (HM _ HB.out).mono ?_
 rintro e w1 ⟨rfl,hb⟩
 replace R0:=Hd (R0.out.below hb R0.out.lt)
 replace HB:=Hd (HB.out.trans (hb.mono HB.out.size))
 clear hb HM
 go_wp2_with fail
 refine (HS _ HB.out).mono ?_
 rintro e w2 ⟨rfl,hb⟩
 replace R0:=Hd (R0.out.below hb R0.out.lt)
 replace HB:=Hd (HB.out.trans (hb.mono HB.out.size))
 clear hb HS
 have k0:=R0.out.cell 0
 have k1:=R0.out.cell 1
 have k2:=R0.out.cell 2
 have k3:=R0.out.cell 3
 have k4:=R0.out.cell 4
 have k5:=R0.out.cell 5
 have f0:=R0.out.frozen 0
 have f1:=R0.out.frozen 1
 have f2:=R0.out.frozen 2
 have f3:=R0.out.frozen 3
 have f4:=R0.out.frozen 4
 have f5:=R0.out.frozen 5
 simp at k0 k1 k2 k3 k4 k5
 by_cases hlt:r<Z
 ·have hdl:decide ((r:Int)<(Z:Int))=true:=decide_eq_true hlt
  clear h hrr hmf hZ
  go_wp2_with (go_at_call 122;refine (HRo _).mono ?_;rintro e w' ⟨rfl,rfl⟩)
  exact bodyPost_ret (read_row rfl _ _ _ w.heap.size #[.int .i64 0,.int .i64 0,.int .u32 0,.int .u32 0,.int .u64 0,.string .empty] rfl (load_page (six_at R0.out))) rfl ⟨rfl,six_below HB.out (Nat.le_refl _)⟩
 have hdl:decide ((r:Int)<(Z:Int))=false:=decide_eq_false hlt
 rcases hnb:numB n with _ | _
 ·rw[hnb] at HN
  clear h hrr hmf hZ
  go_wp2_with (first | (go_at_call 122;refine (HRo _).mono ?_;rintro e w' ⟨rfl,rfl⟩) | (go_at_call 146;refine (HN _).mono ?_;rintro e w' ⟨rfl,rfl⟩))
  exact bodyPost_ret (read_row rfl _ _ _ w.heap.size #[.int .i64 0,.int .i64 0,.int .u32 0,.int .u32 0,.int .u64 0,.string .empty] rfl (load_page (six_at R0.out))) rfl ⟨rfl,six_below HB.out (Nat.le_refl _)⟩
 ·rw[hnb] at HN
  have hd:decide ((4611686018427387904:Int)<tx)=true:=by
   obtain⟨g1,g2⟩:=hrr (by omega)
   rw[mayP8,g1,hmf,hnb,← hZ,decide_eq_true (show (Z:Int)≤size-24 by omega)] at h
   simp at h
   simp
   omega
  clear h hrr hmf hZ
  go_wp2_with (first | (go_at_call 122;refine (HRo _).mono ?_;rintro e w' ⟨rfl,rfl⟩) | (go_at_call 146;refine (HN _).mono ?_;rintro e w' ⟨rfl,rfl⟩))
  exact bodyPost_ret (read_row rfl _ _ _ w.heap.size #[.int .i64 0,.int .i64 0,.int .u32 0,.int .u32 0,.int .u64 0,.string .empty] rfl (load_page (six_at R0.out))) rfl ⟨rfl,six_below HB.out (Nat.le_refl _)⟩
theorem lpage8_yes (z n tx:Nat) (A:Option Addr) (m c:Nat) (l:List It) (w:World) (hr:Reads w w.heap.size 5 A m (itc l)) (hm:m≤2513169434916) (h:mayP8 z n tx l=true) :
  Calls Tryz.prog 125 #[.int .i64 z,.int .u32 n,.int .u64 tx,.slice A m c] w fun e w'=>e=.returned (.tuple #[.agg #[.int .i64 4,.int .i64 m,.int .u32 n,.int .u32 0,.int .u64 tx,.string (itemBody z l)],.int .i64 0])∧Below w.heap.size w w':=by
 obtain⟨hall,hpos,hg,hroom,hnb,htx⟩:=mayP8_parts h
 have hnear:=allOkI_near hall
 have hm2:m≤2000:=by
  have h1:=three_le l
  rw[it_len hr] at h1
  have h2:=good_pos hg
  omega
 have hmf:mayI l=true:=by simp only[mayI,hall,Bool.true_and,decide_eq_true_eq];exact hpos
 have hnb':numB n=true:=by simp[numB,hnb]
 have HM:=fun (w':World) (hb:Below w.heap.size w w')=>lvalid_any A m c l w' ((hr.below hb).more hb.size) hm
 rw[hmf] at HM
 have HN:=fun w=>lnum_any n w
 rw[hnb'] at HN
 have hd:decide ((4611686018427387904:Int)<tx)=false:=by simp;omega
 have hs1:sizeI l≤1000000:=by have:=good_pos hg;omega
 have HS:=fun (w':World) (hb:Below w.heap.size w w')=>lsize_big A m c l w' ((hr.below hb).more hb.size) hm hnear (by omega)
 have HRo:=fun w=>room_yes z w hg
 have hdl:decide ((z:Int)-24<(sizeI l:Int))=false:=decide_eq_false (by omega)
 have HLs:=fun (w':World) (hb:Below w.heap.size w w')=>llisted_any A m c l w' ((hr.below hb).more hb.size) hall hs1
 have HBd:=fun (A':Option Addr) (c':Nat) (w':World) (h':Reads w' w'.heap.size 1 A' (sizeI l) (bcells (bytesI l)))=>fbody_ok z A' (sizeI l) c' (bytesI l) w' hg h' hroom.1
 have hcb:(⟨(bytesI l++List.replicate (z-24-sizeI l) 0).toArray⟩:ByteArray)=itemBody z l:=rfl
 rw[hcb] at HBd
 obtain⟨B,hB⟩ : ∃ B,B=itemBody z l:=⟨_,rfl⟩
 rw[← hB] at HBd ⊢
 clear hB
 obtain⟨hz,hi⟩:=zero_of_info infoPg
 have HI:=Hd hi
 clear hi hr hall hg hpos hnb hnb' htx hroom hmf h hs1 hcb
 obtain⟨w0,hw0⟩ : ∃ x,x=w.alloc (.cells #[.int .i64 0,.int .i64 0,.int .u32 0,.int .u32 0,.int .u64 0,.string .empty] 41):=⟨_,rfl⟩
 have R0:=Hd (show Blk w0 w.heap.size 41 #[.int .i64 0,.int .i64 0,.int .u32 0,.int .u32 0,.int .u64 0,.string .empty] by rw[hw0];exact Blk.new _ _ _)
 have HB:=Hd (show Below w.heap.size w w0 by rw[hw0];exact (Below.refl _ _).alloc (Nat.le_refl _) _)
 go_enter Tryz.func125,Tryz.ntmps125
 go_wp2_with fail
 rw[← hw0]
 clear hw0
 refine (HM _ HB.out).mono ?_
 rintro e w1 ⟨rfl,hb⟩
 replace R0:=Hd (R0.out.below hb R0.out.lt)
 replace HB:=Hd (HB.out.trans (hb.mono HB.out.size))
 clear hb HM
 go_wp2_with fail
 refine (HS _ HB.out).mono ?_
 rintro e w2 ⟨rfl,hb⟩
 replace R0:=Hd (R0.out.below hb R0.out.lt)
 replace HB:=Hd (HB.out.trans (hb.mono HB.out.size))
 clear hb HS
 go_wp2_with (first | (go_at_call 122;refine (HRo _).mono ?_;rintro e w' ⟨rfl,rfl⟩) | (go_at_call 146;refine (HN _).mono ?_;rintro e w' ⟨rfl,rfl⟩))
 clear HN hd HRo hdl
 refine (HLs _ HB.out).mono ?_
 rintro e w2 ⟨A',c',rfl,hrd,hb⟩
 replace R0:=Hd (R0.out.below hb R0.out.lt)
 replace HB:=Hd (HB.out.trans (hb.mono HB.out.size))
 clear hb HLs
 go_wp2_with fail
 refine (HBd A' c' _ hrd).mono ?_
 rintro e w3 ⟨rfl,hb⟩
 replace R0:=Hd (R0.out.below hb R0.out.lt)
 replace HB:=Hd (HB.out.trans (hb.mono HB.out.size))
 clear hb HBd hrd
 have k0:=R0.out.cell 0
 have k1:=R0.out.cell 1
 have k2:=R0.out.cell 2
 have k3:=R0.out.cell 3
 have k4:=R0.out.cell 4
 have k5:=R0.out.cell 5
 have f0:=R0.out.frozen 0
 have f1:=R0.out.frozen 1
 have f2:=R0.out.frozen 2
 have f3:=R0.out.frozen 3
 have f4:=R0.out.frozen 4
 have f5:=R0.out.frozen 5
 simp at k0 k1 k2 k3 k4 k5
 go_wp2_with fail
 exact bodyPost_ret (read_row rfl _ _ _ w.heap.size #[.int .i64 4,.int .i64 m,.int .u32 n,.int .u32 0,.int .u64 tx,.string B] rfl (load_page (six_at R0.out))) rfl ⟨rfl,six_below HB.out (Nat.le_refl _)⟩
end Go.Proofs.YtanbbnogdhnikaaGreat

