/-
  Contract of the reference's Page of layer 8: the page of items.
-/
import Derived.Test.YtanbbnogdhnikaaGreatJ19
set_option linter.unusedVariables false
set_option linter.unusedSimpArgs false
set_option maxRecDepth 300000
set_option maxHeartbeats 25600000
namespace Go.Proofs.YtanbbnogdhnikaaGreat
open Go.RowKit
open Go.Lib hiding intOf
attribute [local go_sem ↓] Go.wp_at_zero Go.wp_at_succ

theorem rpage8_no0 (size:Int) (n tx:Nat) (A:Option Addr) (m c:Nat) (l:List It) (w:World) (hr:Reads w w.heap.size 5 A m (itc l)) (hm:m≤2513169434916) (hx:NearI l) (hsz:sizeI l≤9007199254740992) (hg:goodSize size=false) :
  Calls Tryz.prog 66 #[.int .i64 size,.int .u32 n,.int .u64 tx,.slice A m c] w fun e w'=>e=.returned (.tuple #[.agg #[.int .i64 0,.int .i64 0,.int .u32 0,.int .u32 0,.int .u64 0,.string .empty],.int .i64 2])∧Below w.heap.size w w':=by
 have HMay:=fun (w':World) (hb:Below w.heap.size w w')=>rmay8_any A m c l w' ((hr.below hb).more hb.size) hm
 have HSz:=fun (w':World) (hb:Below w.heap.size w w')=>rsize8_any A m c l w' ((hr.below hb).more hb.size) (by unfold maxLen;omega) hx hsz
 have HN:=fun w=>rnumB_any n w
 have HG : ∀ w,Calls Tryz.prog 32 #[.int .i64 size] w fun e w'=>e=.returned (.bool (goodSize size))∧w'=w:=fun w=>(rgood_any size w).mono fun _ _ ⟨a,b⟩=>⟨a,b.symm⟩
 rw[hg] at HG
 obtain⟨hzp,hi⟩:=zero_of_info infoPg
 have HI:=Hd hi
 clear hi hr hsz hm
 obtain⟨w0,hw0⟩ : ∃ x,x=w.alloc (.cells #[.int .i64 0,.int .i64 0,.int .u32 0,.int .u32 0,.int .u64 0,.string .empty] 41):=⟨_,rfl⟩
 have R0:=Hd (show Blk w0 w.heap.size 41 #[.int .i64 0,.int .i64 0,.int .u32 0,.int .u32 0,.int .u64 0,.string .empty] by rw[hw0];exact Blk.new _ _ _)
 have HB:=Hd (show Below w.heap.size w w0 by rw[hw0];exact (Below.refl _ _).alloc (Nat.le_refl _) _)
 go_enter Tryz.func66,Tryz.ntmps66
 go_wp2_with fail
 rw[← hw0]
 clear hw0
 refine (HG _).mono ?_
 rintro e w' ⟨rfl,rfl⟩
 have k0:=R0.out.cell 0
 have k1:=R0.out.cell 1
 have k2:=R0.out.cell 2
 have k3:=R0.out.cell 3
 have k4:=R0.out.cell 4
 have k5:=R0.out.cell 5
 have f0:=R0.out.frozen 0
 have f1:=R0.out.frozen 1
 have f2:=R0.out.frozen 2
 have f3:=R0.out.frozen 3
 have f4:=R0.out.frozen 4
 have f5:=R0.out.frozen 5
 simp at k0 k1 k2 k3 k4 k5
 go_wp2_with fail
 exact bodyPost_ret (read_row rfl _ _ _ w.heap.size #[.int .i64 0,.int .i64 0,.int .u32 0,.int .u32 0,.int .u64 0,.string .empty] rfl (load_page (six_at R0.out))) rfl ⟨rfl,six_below HB.out (Nat.le_refl _)⟩
theorem rpage8_no1 (size:Int) (n tx:Nat) (A:Option Addr) (m c:Nat) (l:List It) (w:World) (hr:Reads w w.heap.size 5 A m (itc l)) (hm:m≤2513169434916) (hx:NearI l) (hsz:sizeI l≤9007199254740992) (hg:goodSize size=true) (hmay:mayI l=false) :
  Calls Tryz.prog 66 #[.int .i64 size,.int .u32 n,.int .u64 tx,.slice A m c] w fun e w'=>e=.returned (.tuple #[.agg #[.int .i64 0,.int .i64 0,.int .u32 0,.int .u32 0,.int .u64 0,.string .empty],.int .i64 2])∧Below w.heap.size w w':=by
 have HMay:=fun (w':World) (hb:Below w.heap.size w w')=>rmay8_any A m c l w' ((hr.below hb).more hb.size) hm
 have HSz:=fun (w':World) (hb:Below w.heap.size w w')=>rsize8_any A m c l w' ((hr.below hb).more hb.size) (by unfold maxLen;omega) hx hsz
 have HN:=fun w=>rnumB_any n w
 have HG : ∀ w,Calls Tryz.prog 32 #[.int .i64 size] w fun e w'=>e=.returned (.bool (goodSize size))∧w'=w:=fun w=>(rgood_any size w).mono fun _ _ ⟨a,b⟩=>⟨a,b.symm⟩
 rw[hg] at HG
 rw[hmay] at HMay
 obtain⟨hzp,hi⟩:=zero_of_info infoPg
 have HI:=Hd hi
 clear hi hr hsz hm
 obtain⟨w0,hw0⟩ : ∃ x,x=w.alloc (.cells #[.int .i64 0,.int .i64 0,.int .u32 0,.int .u32 0,.int .u64 0,.string .empty] 41):=⟨_,rfl⟩
 have R0:=Hd (show Blk w0 w.heap.size 41 #[.int .i64 0,.int .i64 0,.int .u32 0,.int .u32 0,.int .u64 0,.string .empty] by rw[hw0];exact Blk.new _ _ _)
 have HB:=Hd (show Below w.heap.size w w0 by rw[hw0];exact (Below.refl _ _).alloc (Nat.le_refl _) _)
 go_enter Tryz.func66,Tryz.ntmps66
 go_wp2_with fail
 rw[← hw0]
 clear hw0
 refine (HG _).mono ?_
 rintro e w' ⟨rfl,rfl⟩
 go_wp2_with fail
 refine (HMay _ HB.out).mono ?_
 rintro e w1 ⟨rfl,hb⟩
 replace R0:=Hd (R0.out.below hb R0.out.lt)
 replace HB:=Hd (HB.out.trans (hb.mono HB.out.size))
 clear hb
 have k0:=R0.out.cell 0
 have k1:=R0.out.cell 1
 have k2:=R0.out.cell 2
 have k3:=R0.out.cell 3
 have k4:=R0.out.cell 4
 have k5:=R0.out.cell 5
 have f0:=R0.out.frozen 0
 have f1:=R0.out.frozen 1
 have f2:=R0.out.frozen 2
 have f3:=R0.out.frozen 3
 have f4:=R0.out.frozen 4
 have f5:=R0.out.frozen 5
 simp at k0 k1 k2 k3 k4 k5
 go_wp2_with fail
 exact bodyPost_ret (read_row rfl _ _ _ w.heap.size #[.int .i64 0,.int .i64 0,.int .u32 0,.int .u32 0,.int .u64 0,.string .empty] rfl (load_page (six_at R0.out))) rfl ⟨rfl,six_below HB.out (Nat.le_refl _)⟩
theorem rpage8_no2 (size:Int) (n tx:Nat) (A:Option Addr) (m c:Nat) (l:List It) (w:World) (hr:Reads w w.heap.size 5 A m (itc l)) (hm:m≤2513169434916) (hx:NearI l) (hsz:sizeI l≤9007199254740992) (hg:goodSize size=true) (hmay:mayI l=true) (hroom : ¬ (sizeI l:Int)≤size-24) :
  Calls Tryz.prog 66 #[.int .i64 size,.int .u32 n,.int .u64 tx,.slice A m c] w fun e w'=>e=.returned (.tuple #[.agg #[.int .i64 0,.int .i64 0,.int .u32 0,.int .u32 0,.int .u64 0,.string .empty],.int .i64 2])∧Below w.heap.size w w':=by
 have HMay:=fun (w':World) (hb:Below w.heap.size w w')=>rmay8_any A m c l w' ((hr.below hb).more hb.size) hm
 have HSz:=fun (w':World) (hb:Below w.heap.size w w')=>rsize8_any A m c l w' ((hr.below hb).more hb.size) (by unfold maxLen;omega) hx hsz
 have HN:=fun w=>rnumB_any n w
 have HG : ∀ w,Calls Tryz.prog 32 #[.int .i64 size] w fun e w'=>e=.returned (.bool (goodSize size))∧w'=w:=fun w=>(rgood_any size w).mono fun _ _ ⟨a,b⟩=>⟨a,b.symm⟩
 rw[hg] at HG
 rw[hmay] at HMay
 have HM:=fun w=>rroom_is size w hg
 obtain⟨z,rfl,hz1,hz2,_⟩:=good_nat hg
 obtain⟨s,hs⟩ : ∃ s,s=sizeI l:=⟨_,rfl⟩
 rw[← hs] at HSz hroom
 clear hs
 have hd:decide ((z:Int)-24<(s:Int))=true:=by simp;omega
 obtain⟨hzp,hi⟩:=zero_of_info infoPg
 have HI:=Hd hi
 clear hi hr hsz hm hroom
 obtain⟨w0,hw0⟩ : ∃ x,x=w.alloc (.cells #[.int .i64 0,.int .i64 0,.int .u32 0,.int .u32 0,.int .u64 0,.string .empty] 41):=⟨_,rfl⟩
 have R0:=Hd (show Blk w0 w.heap.size 41 #[.int .i64 0,.int .i64 0,.int .u32 0,.int .u32 0,.int .u64 0,.string .empty] by rw[hw0];exact Blk.new _ _ _)
 have HB:=Hd (show Below w.heap.size w w0 by rw[hw0];exact (Below.refl _ _).alloc (Nat.le_refl _) _)
 go_enter Tryz.func66,Tryz.ntmps66
 go_wp2_with fail
 rw[← hw0]
 clear hw0
 refine (HG _).mono ?_
 rintro e w' ⟨rfl,rfl⟩
 go_wp2_with fail
 refine (HMay _ HB.out).mono ?_
 rintro e w1 ⟨rfl,hb⟩
 replace R0:=Hd (R0.out.below hb R0.out.lt)
 replace HB:=Hd (HB.out.trans (hb.mono HB.out.size))
 clear hb
 go_wp2_with fail
 refine (HSz _ HB.out).mono ?_
 rintro e w2 ⟨rfl,hb⟩
 replace R0:=Hd (R0.out.below hb R0.out.lt)
 replace HB:=Hd (HB.out.trans (hb.mono HB.out.size))
 clear hb
 go_wp2_with fail
 refine (HM _).mono ?_
 rintro e w' ⟨rfl,rfl⟩
 have k0:=R0.out.cell 0
 have k1:=R0.out.cell 1
 have k2:=R0.out.cell 2
 have k3:=R0.out.cell 3
 have k4:=R0.out.cell 4
 have k5:=R0.out.cell 5
 have f0:=R0.out.frozen 0
 have f1:=R0.out.frozen 1
 have f2:=R0.out.frozen 2
 have f3:=R0.out.frozen 3
 have f4:=R0.out.frozen 4
 have f5:=R0.out.frozen 5
 simp at k0 k1 k2 k3 k4 k5
 go_wp2_with fail
 exact bodyPost_ret (read_row rfl _ _ _ w.heap.size #[.int .i64 0,.int .i64 0,.int .u32 0,.int .u32 0,.int .u64 0,.string .empty] rfl (load_page (six_at R0.out))) rfl ⟨rfl,six_below HB.out (Nat.le_refl _)⟩
theorem rpage8_no3 (size:Int) (n tx:Nat) (A:Option Addr) (m c:Nat) (l:List It) (w:World) (hr:Reads w w.heap.size 5 A m (itc l)) (hm:m≤2513169434916) (hx:NearI l) (hsz:sizeI l≤9007199254740992) (hg:goodSize size=true) (hmay:mayI l=true) (hroom:(sizeI l:Int)≤size-24) (hn:numB n=false) :
  Calls Tryz.prog 66 #[.int .i64 size,.int .u32 n,.int .u64 tx,.slice A m c] w fun e w'=>e=.returned (.tuple #[.agg #[.int .i64 0,.int .i64 0,.int .u32 0,.int .u32 0,.int .u64 0,.string .empty],.int .i64 2])∧Below w.heap.size w w':=by
 have HMay:=fun (w':World) (hb:Below w.heap.size w w')=>rmay8_any A m c l w' ((hr.below hb).more hb.size) hm
 have HSz:=fun (w':World) (hb:Below w.heap.size w w')=>rsize8_any A m c l w' ((hr.below hb).more hb.size) (by unfold maxLen;omega) hx hsz
 have HN:=fun w=>rnumB_any n w
 have HG : ∀ w,Calls Tryz.prog 32 #[.int .i64 size] w fun e w'=>e=.returned (.bool (goodSize size))∧w'=w:=fun w=>(rgood_any size w).mono fun _ _ ⟨a,b⟩=>⟨a,b.symm⟩
 rw[hg] at HG
 rw[hmay] at HMay
 have HM:=fun w=>rroom_is size w hg
 obtain⟨z,rfl,hz1,hz2,_⟩:=good_nat hg
 obtain⟨s,hs⟩ : ∃ s,s=sizeI l:=⟨_,rfl⟩
 rw[← hs] at HSz hroom
 clear hs
 have hd:decide ((z:Int)-24<(s:Int))=false:=by simp;omega
 rw[hn] at HN
 obtain⟨hzp,hi⟩:=zero_of_info infoPg
 have HI:=Hd hi
 clear hi hr hsz hm hroom
 obtain⟨w0,hw0⟩ : ∃ x,x=w.alloc (.cells #[.int .i64 0,.int .i64 0,.int .u32 0,.int .u32 0,.int .u64 0,.string .empty] 41):=⟨_,rfl⟩
 have R0:=Hd (show Blk w0 w.heap.size 41 #[.int .i64 0,.int .i64 0,.int .u32 0,.int .u32 0,.int .u64 0,.string .empty] by rw[hw0];exact Blk.new _ _ _)
 have HB:=Hd (show Below w.heap.size w w0 by rw[hw0];exact (Below.refl _ _).alloc (Nat.le_refl _) _)
 go_enter Tryz.func66,Tryz.ntmps66
 go_wp2_with fail
 rw[← hw0]
 clear hw0
 refine (HG _).mono ?_
 rintro e w' ⟨rfl,rfl⟩
 go_wp2_with fail
 refine (HMay _ HB.out).mono ?_
 rintro e w1 ⟨rfl,hb⟩
 replace R0:=Hd (R0.out.below hb R0.out.lt)
 replace HB:=Hd (HB.out.trans (hb.mono HB.out.size))
 clear hb
 go_wp2_with fail
 refine (HSz _ HB.out).mono ?_
 rintro e w2 ⟨rfl,hb⟩
 replace R0:=Hd (R0.out.below hb R0.out.lt)
 replace HB:=Hd (HB.out.trans (hb.mono HB.out.size))
 clear hb
 go_wp2_with fail
 refine (HM _).mono ?_
 rintro e w' ⟨rfl,rfl⟩
 go_wp2_with fail
 refine (HN _).mono ?_
 rintro e w' ⟨rfl,rfl⟩
 have k0:=R0.out.cell 0
 have k1:=R0.out.cell 1
 have k2:=R0.out.cell 2
 have k3:=R0.out.cell 3
 have k4:=R0.out.cell 4
 have k5:=R0.out.cell 5
 have f0:=R0.out.frozen 0
 have f1:=R0.out.frozen 1
 have f2:=R0.out.frozen 2
 have f3:=R0.out.frozen 3
 have f4:=R0.out.frozen 4
 have f5:=R0.out.frozen 5
 simp at k0 k1 k2 k3 k4 k5
 go_wp2_with fail
 exact bodyPost_ret (read_row rfl _ _ _ w.heap.size #[.int .i64 0,.int .i64 0,.int .u32 0,.int .u32 0,.int .u64 0,.string .empty] rfl (load_page (six_at R0.out))) rfl ⟨rfl,six_below HB.out (Nat.le_refl _)⟩
theorem rpage8_no4 (size:Int) (n tx:Nat) (A:Option Addr) (m c:Nat) (l:List It) (w:World) (hr:Reads w w.heap.size 5 A m (itc l)) (hm:m≤2513169434916) (hx:NearI l) (hsz:sizeI l≤9007199254740992) (hg:goodSize size=true) (hmay:mayI l=true) (hroom:(sizeI l:Int)≤size-24) (hn:numB n=true) (htx : ¬ tx≤4611686018427387904) :
  Calls Tryz.prog 66 #[.int .i64 size,.int .u32 n,.int .u64 tx,.slice A m c] w fun e w'=>e=.returned (.tuple #[.agg #[.int .i64 0,.int .i64 0,.int .u32 0,.int .u32 0,.int .u64 0,.string .empty],.int .i64 2])∧Below w.heap.size w w':=by
 have HMay:=fun (w':World) (hb:Below w.heap.size w w')=>rmay8_any A m c l w' ((hr.below hb).more hb.size) hm
 have HSz:=fun (w':World) (hb:Below w.heap.size w w')=>rsize8_any A m c l w' ((hr.below hb).more hb.size) (by unfold maxLen;omega) hx hsz
 have HN:=fun w=>rnumB_any n w
 have HG : ∀ w,Calls Tryz.prog 32 #[.int .i64 size] w fun e w'=>e=.returned (.bool (goodSize size))∧w'=w:=fun w=>(rgood_any size w).mono fun _ _ ⟨a,b⟩=>⟨a,b.symm⟩
 rw[hg] at HG
 rw[hmay] at HMay
 have HM:=fun w=>rroom_is size w hg
 obtain⟨z,rfl,hz1,hz2,_⟩:=good_nat hg
 obtain⟨s,hs⟩ : ∃ s,s=sizeI l:=⟨_,rfl⟩
 rw[← hs] at HSz hroom
 clear hs
 have hd:decide ((z:Int)-24<(s:Int))=false:=by simp;omega
 rw[hn] at HN
 have hd2:decide ((4611686018427387904:Int)<tx)=true:=by simp;omega
 obtain⟨hzp,hi⟩:=zero_of_info infoPg
 have HI:=Hd hi
 clear hi hr hsz hm hroom htx
 obtain⟨w0,hw0⟩ : ∃ x,x=w.alloc (.cells #[.int .i64 0,.int .i64 0,.int .u32 0,.int .u32 0,.int .u64 0,.string .empty] 41):=⟨_,rfl⟩
 have R0:=Hd (show Blk w0 w.heap.size 41 #[.int .i64 0,.int .i64 0,.int .u32 0,.int .u32 0,.int .u64 0,.string .empty] by rw[hw0];exact Blk.new _ _ _)
 have HB:=Hd (show Below w.heap.size w w0 by rw[hw0];exact (Below.refl _ _).alloc (Nat.le_refl _) _)
 go_enter Tryz.func66,Tryz.ntmps66
 go_wp2_with fail
 rw[← hw0]
 clear hw0
 refine (HG _).mono ?_
 rintro e w' ⟨rfl,rfl⟩
 go_wp2_with fail
 refine (HMay _ HB.out).mono ?_
 rintro e w1 ⟨rfl,hb⟩
 replace R0:=Hd (R0.out.below hb R0.out.lt)
 replace HB:=Hd (HB.out.trans (hb.mono HB.out.size))
 clear hb
 go_wp2_with fail
 refine (HSz _ HB.out).mono ?_
 rintro e w2 ⟨rfl,hb⟩
 replace R0:=Hd (R0.out.below hb R0.out.lt)
 replace HB:=Hd (HB.out.trans (hb.mono HB.out.size))
 clear hb
 go_wp2_with fail
 refine (HM _).mono ?_
 rintro e w' ⟨rfl,rfl⟩
 go_wp2_with fail
 refine (HN _).mono ?_
 rintro e w' ⟨rfl,rfl⟩
 have k0:=R0.out.cell 0
 have k1:=R0.out.cell 1
 have k2:=R0.out.cell 2
 have k3:=R0.out.cell 3
 have k4:=R0.out.cell 4
 have k5:=R0.out.cell 5
 have f0:=R0.out.frozen 0
 have f1:=R0.out.frozen 1
 have f2:=R0.out.frozen 2
 have f3:=R0.out.frozen 3
 have f4:=R0.out.frozen 4
 have f5:=R0.out.frozen 5
 simp at k0 k1 k2 k3 k4 k5
 go_wp2_with fail
 exact bodyPost_ret (read_row rfl _ _ _ w.heap.size #[.int .i64 0,.int .i64 0,.int .u32 0,.int .u32 0,.int .u64 0,.string .empty] rfl (load_page (six_at R0.out))) rfl ⟨rfl,six_below HB.out (Nat.le_refl _)⟩
theorem rpage8_no (size:Int) (n tx:Nat) (A:Option Addr) (m c:Nat) (l:List It) (w:World) (hr:Reads w w.heap.size 5 A m (itc l)) (hm:m≤2513169434916) (hx:NearI l) (hsz:sizeI l≤9007199254740992) (h:mayP8 size n tx l=false) :
  Calls Tryz.prog 66 #[.int .i64 size,.int .u32 n,.int .u64 tx,.slice A m c] w fun e w'=>e=.returned (.tuple #[.agg #[.int .i64 0,.int .i64 0,.int .u32 0,.int .u32 0,.int .u64 0,.string .empty],.int .i64 2])∧Below w.heap.size w w':=by
 rcases hg:goodSize size with _ | _
 ·exact rpage8_no0 size n tx A m c l w hr hm hx hsz hg
 rcases hmay:mayI l with _ | _
 ·exact rpage8_no1 size n tx A m c l w hr hm hx hsz hg hmay
 by_cases hroom:(sizeI l:Int)≤size-24
 ·rcases hn:numB n with _ | _
  ·exact rpage8_no3 size n tx A m c l w hr hm hx hsz hg hmay hroom hn
  ·by_cases htx:tx≤4611686018427387904
   ·exfalso
    rw[mayP8,hg,hmay,hn] at h
    simp[hroom,htx] at h
   ·exact rpage8_no4 size n tx A m c l w hr hm hx hsz hg hmay hroom hn htx
 ·exact rpage8_no2 size n tx A m c l w hr hm hx hsz hg hmay hroom
theorem allOkI_near {l:List It} (h:allOkI l=true):NearI l:=fun b hb=>by
 have h1:=allOkI_mem h hb
 have h2:=okIt_key h1
 unfold okIt at h1
 split at h1<;>simp only[Bool.and_eq_true,decide_eq_true_eq] at h1<;>exact⟨by omega,by omega⟩
theorem rpage8_yes (z n tx:Nat) (A:Option Addr) (m c:Nat) (l:List It) (w:World) (hr:Reads w w.heap.size 5 A m (itc l)) (hm:m≤2513169434916) (h:mayP8 z n tx l=true) :
  Calls Tryz.prog 66 #[.int .i64 z,.int .u32 n,.int .u64 tx,.slice A m c] w fun e w'=>e=.returned (.tuple #[.agg #[.int .i64 4,.int .i64 m,.int .u32 n,.int .u32 0,.int .u64 tx,.string (itemBody z l)],.int .i64 0])∧Below w.heap.size w w':=by
 obtain⟨hall,hl0,hg,hroom,hnb,htx⟩:=mayP8_parts h
 have hmay:mayI l=true:=by rw[mayI,hall,decide_eq_true hl0];rfl
 have hm2:m≤2000:=by
  have h1:=three_le l
  rw[it_len hr] at h1
  have h2:=good_pos hg
  omega
 have hnear:=allOkI_near hall
 have hnb':numB n=true:=by simp[numB,hnb]
 have HMay:=fun (w':World) (hb:Below w.heap.size w w')=>rmay8_any A m c l w' ((hr.below hb).more hb.size) hm
 rw[hmay] at HMay
 have hgz:=good_pos hg
 have HSz:=fun (w':World) (hb:Below w.heap.size w w')=>rsize8_any A m c l w' ((hr.below hb).more hb.size) (by unfold maxLen;omega) hnear (by omega)
 have HGd : ∀ w,Calls Tryz.prog 32 #[.int .i64 z] w fun e w'=>e=.returned (.bool true)∧w'=w:=fun w=>by
  have h:=rgood_any z w
  rw[hg] at h
  exact h.mono fun _ _ ⟨a,b⟩=>⟨a,b.symm⟩
 have HM:=fun w=>rroom_is z w hg
 have HN:=fun w=>rnumB_any n w
 rw[hnb'] at HN
 have hd:decide ((4611686018427387904:Int)<tx)=false:=by simp;omega
 have hd2:decide ((z:Int)-24<(sizeI l:Int))=false:=by simp;omega
 have HALL:=Hd hall
 have HL:=Hd (it_len hr)
 have HR:=Hd hr
 have HG:=Hd hg
 have HRoom:=Hd hroom.1
 obtain⟨i0,hi0,hz0,hz1,hz2⟩:=info_parts infoU8
 obtain⟨hz,hi⟩:=zero_of_info infoPg
 have HI:=Hd hi
 clear hi hr hall hg hnb hnb' htx hroom hmay h hgz hl0
 obtain⟨w0,hw0⟩ : ∃ x,x=w.alloc (.cells #[.int .i64 0,.int .i64 0,.int .u32 0,.int .u32 0,.int .u64 0,.string .empty] 41):=⟨_,rfl⟩
 have R0:=Hd (show Blk w0 w.heap.size 41 #[.int .i64 0,.int .i64 0,.int .u32 0,.int .u32 0,.int .u64 0,.string .empty] by rw[hw0];exact Blk.new _ _ _)
 have HB:=Hd (show Below w.heap.size w w0 by rw[hw0];exact (Below.refl _ _).alloc (Nat.le_refl _) _)
 go_enter Tryz.func66,Tryz.ntmps66
 go_wp2_with fail
 rw[← hw0]
 clear hw0
 refine (HGd _).mono ?_
 rintro e w' ⟨rfl,rfl⟩
 go_wp2_with fail
 refine (HMay _ HB.out).mono ?_
 rintro e w1 ⟨rfl,hb⟩
 replace R0:=Hd (R0.out.below hb R0.out.lt)
 replace HB:=Hd (HB.out.trans (hb.mono HB.out.size))
 clear hb
 go_wp2_with fail
 refine (HSz _ HB.out).mono ?_
 rintro e w2 ⟨rfl,hb⟩
 replace R0:=Hd (R0.out.below hb R0.out.lt)
 replace HB:=Hd (HB.out.trans (hb.mono HB.out.size))
 clear hb
 go_wp2_with fail
 refine (HM _).mono ?_
 rintro e w' ⟨rfl,rfl⟩
 go_wp2_with fail
 refine (HN _).mono ?_
 rintro e w' ⟨rfl,rfl⟩
 go_wp2_with fail
 clear HN hd hd2 HM HSz HMay HGd
 go_loopw [10,11,12] (fun b i _ wr=>∃ (k:Nat) (A':Option Addr) (c':Nat),k≤m∧i=.int .i64 k∧b=.slice A' (sizeI (l.take k)) c'∧Hid (Reads wr wr.heap.size 1 A' (sizeI (l.take k)) (bcells (bytesI (l.take k))))∧Hid (Blk wr w.heap.size 41 #[.int .i64 0,.int .i64 0,.int .u32 0,.int .u32 0,.int .u64 0,.string .empty])∧Hid (Below w.heap.size w wr)) (fun _ i _ _=>m-(intOf i).toNat)
 case atStart=>exact⟨0,none,0,Nat.zero_le _,rfl,rfl,Hd Reads.none_,R0,HB⟩
 case round =>
  clear R0 HB
  obtain⟨k,A',c',hk,rfl,rfl,HRd,R0,HB⟩:=hrel
  by_cases hlt:k<m
  ·obtain⟨ad,x,rfl,_,hp,hx,hc⟩:=it_at HR.out hlt
   have hk0:(0:Int)≤k:=by omega
   have hk1:(k:Int)<m:=by omega
   have hok:=allOkI_ok HALL.out hx
   have hky:=okIt_key hok
   have hsz:sizeI (l.take k)≤1000000:=by
    have h1:=sizeI_take_le l k
    have h2:=HRoom.out
    have h3:=good_pos HG.out
    omega
   have HX:=Hd hx
   have hse:=sizeI_take_succ hx
   have hby:=bytesI_take_succ hx
   obtain⟨N,hN⟩ : ∃ N,N=sizeI (l.take k):=⟨_,rfl⟩
   obtain⟨LB,hLB⟩ : ∃ LB,LB=bytesI (l.take k):=⟨_,rfl⟩
   rw[← hN] at HRd hsz hse ⊢
   rw[← hLB] at HRd hby
   have HP:=Hd hp
   obtain⟨ky,vl,ov,ln,hd⟩:=x
   have HC:=Hd (show ItAt w (ad.add (k*5)) ⟨ky,vl,ov,ln,hd⟩ from hc)
   dsimp only at hky
   clear hx hc hp hN hLB
   cases ov
   ·have hvl:vl.size≤255:=by
     simp only[okIt,Bool.false_eq_true,if_false,Bool.and_eq_true,decide_eq_true_eq] at hok
     exact hok.2.1
    have HR0lt:=Hd R0.out.lt
    clear hok
    obtain⟨c0,c1,c2,_,_⟩:=HC.out.below HB.out HP.out
    go_wp2_with fail
    refine (rput_yes A' (N) c' 0 1 (LB) _ HRd.out (by omega) (by decide) (by decide)).mono ?_
    rintro e w1_ ⟨v1,rfl,hown,hb⟩
    have hs1:=HB.out.size
    have hb1:=hb.size
    have hl1:=R0.out.lt
    have HB1:=Hd (HB.out.trans (hb.mono HB.out.size))
    have R1_:=Hd (R0.out.below hb R0.out.lt)
    obtain⟨A1,d1,rfl,_,_,_⟩:=own_form hown
    have HO1:=Hd hown
    have HRd1:=Hd (Reads.of_own hown)
    clear hb hown HRd R0 c0 c1 c2
    obtain⟨c0,c1,c2,_,_⟩:=HC.out.below HB1.out HP.out
    go_wp2_with fail
    refine (rput_yes A1 (N+1) d1 ky.size 1 (LB++Go.leBytes 1 0) _ HRd1.out (by omega) (by decide) (by decide)).mono ?_
    rintro e w2_ ⟨v2,rfl,hown,hb⟩
    have hs2:=HB1.out.size
    have hb2:=hb.size
    have hl2:=R1_.out.lt
    have HB2:=Hd (HB1.out.trans (hb.mono HB1.out.size))
    have R2_:=Hd (R1_.out.below hb R1_.out.lt)
    obtain⟨A2,d2,rfl,_,_,_⟩:=own_form hown
    have HO2:=Hd hown
    have HRd2:=Hd (Reads.of_own hown)
    clear hb hown HRd1 R1_ c0 c1 c2
    obtain⟨c0,c1,c2,_,_⟩:=HC.out.below HB2.out HP.out
    go_upto_region 13 with (at_builtin;refine Lib.wpList_append_own_string _ rfl (.tmp 63) (.tmp 68) _ _ rfl w1_.heap.size 5 i0 Tryz.underlying102 Tryz.underlying9 hi0 hz0 hz1 hz2 _ (N+1+1) _ rfl HO2.out ky rfl (by unfold maxLen;omega) (by omega) hb2 ?_;intro v3 w3_ hown hg hat)
    clear hat
    have hbg:Below w.heap.size w2_ w3_:=(Below.refl _ _).grown hg HB2.out.size (fun g hg=>Nat.le_trans hs2 (HO2.out.lt g hg).1)
    have HB3:=Hd (HB2.out.trans hbg)
    have R3_:=Hd (show Blk w3_ w.heap.size 41 #[.int .i64 0,.int .i64 0,.int .u32 0,.int .u32 0,.int .u64 0,.string .empty] from (hg.block _ R2_.out.lt (fun he=>by
     have h1:=(HO2.out.lt _ he.symm).1
     have h2:=hl2
     omega)).trans R2_.out)
    have hown':w3_.ownsRow w1_.heap.size 5 1 v3 (N+1+1+ky.size) (bcells (LB++Go.leBytes 1 0++Go.leBytes 1 ky.size++ky.data.toList)):=by
     rw[bcells_append (LB++Go.leBytes 1 0++Go.leBytes 1 ky.size)];exact hown
    obtain⟨A3,d3,rfl,_,_,_⟩:=own_form hown'
    have HRd3:=Hd (Reads.of_own hown')
    clear hown hown' hg hbg R2_ HB2 HO2 HRd2 c0 c1 c2
    obtain⟨c0,c1,c2,_,_⟩:=HC.out.below HB3.out HP.out
    go_wp2_with fail
    refine (rput_yes A3 (N+1+1+ky.size) d3 vl.size 1 (LB++Go.leBytes 1 0++Go.leBytes 1 ky.size++ky.data.toList) _ HRd3.out (by omega) (by decide) (by decide)).mono ?_
    rintro e w4_ ⟨v4,rfl,hown,hb⟩
    have hs4:=HB3.out.size
    have hb4:=hb.size
    have hl4:=R3_.out.lt
    have HB4:=Hd (HB3.out.trans (hb.mono HB3.out.size))
    have R4_:=Hd (R3_.out.below hb R3_.out.lt)
    obtain⟨A4,d4,rfl,_,_,_⟩:=own_form hown
    have HO4:=Hd hown
    have HRd4:=Hd (Reads.of_own hown)
    clear hb hown HRd3 R3_ c0 c1 c2
    obtain⟨c0,c1,c2,_,_⟩:=HC.out.below HB4.out HP.out
    go_upto_region 6 with (at_builtin;refine Lib.wpList_append_own_string _ rfl (.tmp 100) (.tmp 105) _ _ rfl w3_.heap.size 5 i0 Tryz.underlying102 Tryz.underlying9 hi0 hz0 hz1 hz2 _ (N+1+1+ky.size+1) _ rfl HO4.out vl rfl (by unfold maxLen;omega) (by omega) hb4 ?_;intro v5 w5_ hown hg hat)
    clear hat
    have hbg:Below w.heap.size w4_ w5_:=(Below.refl _ _).grown hg HB4.out.size (fun g hg=>Nat.le_trans hs4 (HO4.out.lt g hg).1)
    have HB5:=Hd (HB4.out.trans hbg)
    have R5_:=Hd (show Blk w5_ w.heap.size 41 #[.int .i64 0,.int .i64 0,.int .u32 0,.int .u32 0,.int .u64 0,.string .empty] from (hg.block _ R4_.out.lt (fun he=>by
     have h1:=(HO4.out.lt _ he.symm).1
     have h2:=hl4
     omega)).trans R4_.out)
    have hown':w5_.ownsRow w3_.heap.size 5 1 v5 (N+1+1+ky.size+1+vl.size) (bcells (LB++Go.leBytes 1 0++Go.leBytes 1 ky.size++ky.data.toList++Go.leBytes 1 vl.size++vl.data.toList)):=by
     rw[bcells_append (LB++Go.leBytes 1 0++Go.leBytes 1 ky.size++ky.data.toList++Go.leBytes 1 vl.size)];exact hown
    obtain⟨A5,d5,rfl,_,_,_⟩:=own_form hown'
    have HRd5:=Hd (Reads.of_own hown')
    clear hown hown' hg hbg R4_ HB4 HO4 HRd4 c0 c1 c2
    have hby':LB++Go.leBytes 1 0++Go.leBytes 1 ky.size++ky.data.toList++Go.leBytes 1 vl.size++vl.data.toList=bytesI (l.take (k+1)):=by
     rw[hby]
     simp[It.bytes,It.tail]
    have hone:oneI ⟨ky,vl,false,ln,hd⟩=3+ky.size+vl.size:=by simp[oneI]
    have hse':N+1+1+ky.size+1+vl.size=sizeI (l.take (k+1)):=by
     rw[hse,hone]
     omega
    clear hone
    rw[hby',hse'] at HRd5
    have HSE:=Hd hse'
    clear hse hby hse' hby'
    go_wp2_with fail
    go_roundw
    case rel =>
     first
      | exact⟨k+1,A5,d5,by omega,by go_num,by rw[HSE.out],HRd5,R5_,HB5⟩
      | ((repeat apply Exists.intro);exact⟨⟨k+1,A5,d5,by omega,by go_num,by rw[HSE.out],HRd5,R5_,HB5⟩,rfl⟩)
    case measure=>simp[intOf];omega
   ·obtain⟨kn,hkn⟩ : ∃ kn:Nat,ln=kn:=by
     simp only[okIt,if_true,Bool.and_eq_true,decide_eq_true_eq] at hok
     exact⟨ln.toNat,by omega⟩
    have hkl:kn≤4096:=by
     simp only[okIt,if_true,Bool.and_eq_true,decide_eq_true_eq] at hok
     omega
    have hhd:hd≤2147483647:=by
     simp only[okIt,numB,if_true,Bool.and_eq_true,decide_eq_true_eq] at hok
     exact hok.2.2.2.2.2
    have HR0lt:=Hd R0.out.lt
    have e3:=u64_nat kn (by omega)
    have e4:=u64_nat hd (by omega)
    subst hkn
    clear hok
    obtain⟨c0,_,c2,c3,c4⟩:=HC.out.below HB.out HP.out
    go_wp2_with fail
    refine (rput_yes A' (N) c' 1 1 (LB) _ HRd.out (by omega) (by decide) (by decide)).mono ?_
    rintro e w1_ ⟨v1,rfl,hown,hb⟩
    have hs1:=HB.out.size
    have hb1:=hb.size
    have hl1:=R0.out.lt
    have HB1:=Hd (HB.out.trans (hb.mono HB.out.size))
    have R1_:=Hd (R0.out.below hb R0.out.lt)
    obtain⟨A1,d1,rfl,_,_,_⟩:=own_form hown
    have HO1:=Hd hown
    have HRd1:=Hd (Reads.of_own hown)
    clear hb hown HRd R0 c0 c2 c3 c4
    obtain⟨c0,_,c2,c3,c4⟩:=HC.out.below HB1.out HP.out
    go_wp2_with fail
    refine (rput_yes A1 (N+1) d1 ky.size 1 (LB++Go.leBytes 1 1) _ HRd1.out (by omega) (by decide) (by decide)).mono ?_
    rintro e w2_ ⟨v2,rfl,hown,hb⟩
    have hs2:=HB1.out.size
    have hb2:=hb.size
    have hl2:=R1_.out.lt
    have HB2:=Hd (HB1.out.trans (hb.mono HB1.out.size))
    have R2_:=Hd (R1_.out.below hb R1_.out.lt)
    obtain⟨A2,d2,rfl,_,_,_⟩:=own_form hown
    have HO2:=Hd hown
    have HRd2:=Hd (Reads.of_own hown)
    clear hb hown HRd1 R1_ c0 c2 c3 c4
    obtain⟨c0,_,c2,c3,c4⟩:=HC.out.below HB2.out HP.out
    go_upto_region 13 with (at_builtin;refine Lib.wpList_append_own_string _ rfl (.tmp 63) (.tmp 68) _ _ rfl w1_.heap.size 5 i0 Tryz.underlying102 Tryz.underlying9 hi0 hz0 hz1 hz2 _ (N+1+1) _ rfl HO2.out ky rfl (by unfold maxLen;omega) (by omega) hb2 ?_;intro v3 w3_ hown hg hat)
    clear hat
    have hbg:Below w.heap.size w2_ w3_:=(Below.refl _ _).grown hg HB2.out.size (fun g hg=>Nat.le_trans hs2 (HO2.out.lt g hg).1)
    have HB3:=Hd (HB2.out.trans hbg)
    have R3_:=Hd (show Blk w3_ w.heap.size 41 #[.int .i64 0,.int .i64 0,.int .u32 0,.int .u32 0,.int .u64 0,.string .empty] from (hg.block _ R2_.out.lt (fun he=>by
     have h1:=(HO2.out.lt _ he.symm).1
     have h2:=hl2
     omega)).trans R2_.out)
    have hown':w3_.ownsRow w1_.heap.size 5 1 v3 (N+1+1+ky.size) (bcells (LB++Go.leBytes 1 1++Go.leBytes 1 ky.size++ky.data.toList)):=by
     rw[bcells_append (LB++Go.leBytes 1 1++Go.leBytes 1 ky.size)];exact hown
    obtain⟨A3,d3,rfl,_,_,_⟩:=own_form hown'
    have HRd3:=Hd (Reads.of_own hown')
    clear hown hown' hg hbg R2_ HB2 HO2 HRd2 c0 c2 c3 c4
    obtain⟨c0,_,c2,c3,c4⟩:=HC.out.below HB3.out HP.out
    go_wp2_with fail
    refine (rput_yes A3 (N+1+1+ky.size) d3 kn 4 (LB++Go.leBytes 1 1++Go.leBytes 1 ky.size++ky.data.toList) _ HRd3.out (by omega) (by decide) (by decide)).mono ?_
    rintro e w4_ ⟨v4,rfl,hown,hb⟩
    have hs4:=HB3.out.size
    have hb4:=hb.size
    have hl4:=R3_.out.lt
    have HB4:=Hd (HB3.out.trans (hb.mono HB3.out.size))
    have R4_:=Hd (R3_.out.below hb R3_.out.lt)
    obtain⟨A4,d4,rfl,_,_,_⟩:=own_form hown
    have HO4:=Hd hown
    have HRd4:=Hd (Reads.of_own hown)
    clear hb hown HRd3 R3_ c0 c2 c3 c4
    obtain⟨c0,_,c2,c3,c4⟩:=HC.out.below HB4.out HP.out
    go_wp2_with fail
    refine (rput_yes A4 (N+1+1+ky.size+4) d4 hd 4 (LB++Go.leBytes 1 1++Go.leBytes 1 ky.size++ky.data.toList++Go.leBytes 4 kn) _ HRd4.out (by omega) (by decide) (by decide)).mono ?_
    rintro e w5_ ⟨v5,rfl,hown,hb⟩
    have hs5:=HB4.out.size
    have hb5:=hb.size
    have hl5:=R4_.out.lt
    have HB5:=Hd (HB4.out.trans (hb.mono HB4.out.size))
    have R5_:=Hd (R4_.out.below hb R4_.out.lt)
    obtain⟨A5,d5,rfl,_,_,_⟩:=own_form hown
    have HO5:=Hd hown
    have HRd5:=Hd (Reads.of_own hown)
    clear hb hown HRd4 R4_ c0 c2 c3 c4
    have hby':LB++Go.leBytes 1 1++Go.leBytes 1 ky.size++ky.data.toList++Go.leBytes 4 kn++Go.leBytes 4 hd=bytesI (l.take (k+1)):=by
     rw[hby]
     simp[It.bytes,It.tail]
    have hone:oneI ⟨ky,vl,true,(kn:Int),hd⟩=10+ky.size:=by simp[oneI]
    have hse':N+1+1+ky.size+4+4=sizeI (l.take (k+1)):=by
     rw[hse,hone]
     omega
    clear hone
    rw[hby',hse'] at HRd5
    have HSE:=Hd hse'
    clear hse hby hse' hby'
    go_wp2_with fail
    go_roundw
    case rel =>
     first
      | exact⟨k+1,A5,d5,by omega,by go_num,by rw[HSE.out],HRd5,R5_,HB5⟩
      | ((repeat apply Exists.intro);exact⟨⟨k+1,A5,d5,by omega,by go_num,by rw[HSE.out],HRd5,R5_,HB5⟩,rfl⟩)
    case measure=>simp[intOf];omega
  ·obtain rfl:k=m:=by omega
   have ht:l.take k=l:=List.take_of_length_le (by rw[HL.out];exact Nat.le_refl _)
   rw[ht] at HRd
   rw[ht]
   have hgp:=good_pos HG.out
   have HBd:=rbody_ok z A' (sizeI l) c' (bytesI l) (itemBody z l) wr HG.out HRd.out HRoom.out rfl
   have hk9:(k:Int)≤1000000:=by omega
   clear hgp hlt ht
   go_wp2_with fail
   refine HBd.mono ?_
   rintro e w2 ⟨rfl,hb⟩
   clear HBd
   replace R0:=Hd (R0.out.below hb R0.out.lt)
   replace HB:=Hd (HB.out.trans (hb.mono HB.out.size))
   have k0:=R0.out.cell 0
   have k1:=R0.out.cell 1
   have k2:=R0.out.cell 2
   have k3:=R0.out.cell 3
   have k4:=R0.out.cell 4
   have k5:=R0.out.cell 5
   have f0:=R0.out.frozen 0
   have f1:=R0.out.frozen 1
   have f2:=R0.out.frozen 2
   have f3:=R0.out.frozen 3
   have f4:=R0.out.frozen 4
   have f5:=R0.out.frozen 5
   simp at k0 k1 k2 k3 k4 k5
   go_wp2_with fail
   exact bodyPost_ret (read_row rfl _ _ _ w.heap.size #[.int .i64 4,.int .i64 k,.int .u32 n,.int .u32 0,.int .u64 tx,.string (itemBody z l)] rfl (load_page (six_at R0.out))) rfl ⟨rfl,six_below HB.out (Nat.le_refl _)⟩
end Go.Proofs.YtanbbnogdhnikaaGreat

