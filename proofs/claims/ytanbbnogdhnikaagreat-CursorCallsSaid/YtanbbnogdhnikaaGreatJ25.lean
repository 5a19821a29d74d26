/-
  Texts that the main proof rests on, put together: Ref7Page, Ref7Of. No statement is proved here.
-/
import Derived.Test.YtanbbnogdhnikaaGreatJ17
set_option linter.unusedVariables false
set_option linter.unusedSimpArgs false
set_option maxRecDepth 300000
set_option maxHeartbeats 25600000
namespace Go.Proofs.YtanbbnogdhnikaaGreat
open Go.RowKit
open Go.Lib hiding intOf
attribute [local go_sem ↓] Go.wp_at_zero Go.wp_at_succ

theorem rpage7_no0 (size:Int) (n tx:Nat) (A:Option Addr) (m c:Nat) (l:List Fk) (w:World) (hr:Reads w w.heap.size 2 A m (fkc l)) (hm:m≤5864062014805) (hsz:sizeF l≤9007199254740992) (hg:goodSize size=false) :
  Calls Tryz.prog 18 #[.int .i64 size,.int .u32 n,.int .u64 tx,.slice A m c] w fun e w'=>e=.returned (.tuple #[.agg #[.int .i64 0,.int .i64 0,.int .u32 0,.int .u32 0,.int .u64 0,.string .empty],.int .i64 2])∧Below w.heap.size w w':=by
 have HMay:=fun (w':World) (hb:Below w.heap.size w w')=>rmay7_any A m c l w' ((hr.below hb).more hb.size) hm
 have HSz:=fun (w':World) (hb:Below w.heap.size w w')=>rsize7_any A m c l w' ((hr.below hb).more hb.size) (by unfold maxLen;omega) hsz
 have HN:=fun w=>rnumB_any n w
 have HG : ∀ w,Calls Tryz.prog 32 #[.int .i64 size] w fun e w'=>e=.returned (.bool (goodSize size))∧w'=w:=fun w=>(rgood_any size w).mono fun _ _ ⟨a,b⟩=>⟨a,b.symm⟩
 rw[hg] at HG
 obtain⟨hzp,hi⟩:=zero_of_info infoPg
 have HI:=Hd hi
 clear hi hr hsz hm
 obtain⟨w0,hw0⟩ : ∃ x,x=w.alloc (.cells #[.int .i64 0,.int .i64 0,.int .u32 0,.int .u32 0,.int .u64 0,.string .empty] 41):=⟨_,rfl⟩
 have R0:=Hd (show Blk w0 w.heap.size 41 #[.int .i64 0,.int .i64 0,.int .u32 0,.int .u32 0,.int .u64 0,.string .empty] by rw[hw0];exact Blk.new _ _ _)
 have HB:=Hd (show Below w.heap.size w w0 by rw[hw0];exact (Below.refl _ _).alloc (Nat.le_refl _) _)
 go_enter Tryz.func18,Tryz.ntmps18
 go_wp2_with fail
 rw[← hw0]
 clear hw0
 refine (HG _).mono ?_
 rintro e w' ⟨rfl,rfl⟩
 have k0:=R0.out.cell 0
 have k1:=R0.out.cell 1
 have k2:=R0.out.cell 2
 have k3:=R0.out.cell 3
 have k4:=R0.out.cell 4
 have k5:=R0.out.cell 5
 have f0:=R0.out.frozen 0
 have f1:=R0.out.frozen 1
 have f2:=R0.out.frozen 2
 have f3:=R0.out.frozen 3
 have f4:=R0.out.frozen 4
 have f5:=R0.out.frozen 5
 simp at k0 k1 k2 k3 k4 k5
 go_wp2_with fail
 exact bodyPost_ret (read_row rfl _ _ _ w.heap.size #[.int .i64 0,.int .i64 0,.int .u32 0,.int .u32 0,.int .u64 0,.string .empty] rfl (load_page (six_at R0.out))) rfl ⟨rfl,six_below HB.out (Nat.le_refl _)⟩
theorem rpage7_no1 (size:Int) (n tx:Nat) (A:Option Addr) (m c:Nat) (l:List Fk) (w:World) (hr:Reads w w.heap.size 2 A m (fkc l)) (hm:m≤5864062014805) (hsz:sizeF l≤9007199254740992) (hg:goodSize size=true) (hmay:mayF l=false) :
  Calls Tryz.prog 18 #[.int .i64 size,.int .u32 n,.int .u64 tx,.slice A m c] w fun e w'=>e=.returned (.tuple #[.agg #[.int .i64 0,.int .i64 0,.int .u32 0,.int .u32 0,.int .u64 0,.string .empty],.int .i64 2])∧Below w.heap.size w w':=by
 have HMay:=fun (w':World) (hb:Below w.heap.size w w')=>rmay7_any A m c l w' ((hr.below hb).more hb.size) hm
 have HSz:=fun (w':World) (hb:Below w.heap.size w w')=>rsize7_any A m c l w' ((hr.below hb).more hb.size) (by unfold maxLen;omega) hsz
 have HN:=fun w=>rnumB_any n w
 have HG : ∀ w,Calls Tryz.prog 32 #[.int .i64 size] w fun e w'=>e=.returned (.bool (goodSize size))∧w'=w:=fun w=>(rgood_any size w).mono fun _ _ ⟨a,b⟩=>⟨a,b.symm⟩
 rw[hg] at HG
 rw[hmay] at HMay
 obtain⟨hzp,hi⟩:=zero_of_info infoPg
 have HI:=Hd hi
 clear hi hr hsz hm
 obtain⟨w0,hw0⟩ : ∃ x,x=w.alloc (.cells #[.int .i64 0,.int .i64 0,.int .u32 0,.int .u32 0,.int .u64 0,.string .empty] 41):=⟨_,rfl⟩
 have R0:=Hd (show Blk w0 w.heap.size 41 #[.int .i64 0,.int .i64 0,.int .u32 0,.int .u32 0,.int .u64 0,.string .empty] by rw[hw0];exact Blk.new _ _ _)
 have HB:=Hd (show Below w.heap.size w w0 by rw[hw0];exact (Below.refl _ _).alloc (Nat.le_refl _) _)
 go_enter Tryz.func18,Tryz.ntmps18
 go_wp2_with fail
 rw[← hw0]
 clear hw0
 refine (HG _).mono ?_
 rintro e w' ⟨rfl,rfl⟩
 go_wp2_with fail
 refine (HMay _ HB.out).mono ?_
 rintro e w1 ⟨rfl,hb⟩
 replace R0:=Hd (R0.out.below hb R0.out.lt)
 replace HB:=Hd (HB.out.trans (hb.mono HB.out.size))
 clear hb
 have k0:=R0.out.cell 0
 have k1:=R0.out.cell 1
 have k2:=R0.out.cell 2
 have k3:=R0.out.cell 3
 have k4:=R0.out.cell 4
 have k5:=R0.out.cell 5
 have f0:=R0.out.frozen 0
 have f1:=R0.out.frozen 1
 have f2:=R0.out.frozen 2
 have f3:=R0.out.frozen 3
 have f4:=R0.out.frozen 4
 have f5:=R0.out.frozen 5
 simp at k0 k1 k2 k3 k4 k5
 go_wp2_with fail
 exact bodyPost_ret (read_row rfl _ _ _ w.heap.size #[.int .i64 0,.int .i64 0,.int .u32 0,.int .u32 0,.int .u64 0,.string .empty] rfl (load_page (six_at R0.out))) rfl ⟨rfl,six_below HB.out (Nat.le_refl _)⟩
theorem rpage7_no2 (size:Int) (n tx:Nat) (A:Option Addr) (m c:Nat) (l:List Fk) (w:World) (hr:Reads w w.heap.size 2 A m (fkc l)) (hm:m≤5864062014805) (hsz:sizeF l≤9007199254740992) (hg:goodSize size=true) (hmay:mayF l=true) (hroom : ¬ (sizeF l:Int)≤size-24) :
  Calls Tryz.prog 18 #[.int .i64 size,.int .u32 n,.int .u64 tx,.slice A m c] w fun e w'=>e=.returned (.tuple #[.agg #[.int .i64 0,.int .i64 0,.int .u32 0,.int .u32 0,.int .u64 0,.string .empty],.int .i64 2])∧Below w.heap.size w w':=by
 have HMay:=fun (w':World) (hb:Below w.heap.size w w')=>rmay7_any A m c l w' ((hr.below hb).more hb.size) hm
 have HSz:=fun (w':World) (hb:Below w.heap.size w w')=>rsize7_any A m c l w' ((hr.below hb).more hb.size) (by unfold maxLen;omega) hsz
 have HN:=fun w=>rnumB_any n w
 have HG : ∀ w,Calls Tryz.prog 32 #[.int .i64 size] w fun e w'=>e=.returned (.bool (goodSize size))∧w'=w:=fun w=>(rgood_any size w).mono fun _ _ ⟨a,b⟩=>⟨a,b.symm⟩
 rw[hg] at HG
 rw[hmay] at HMay
 have HM:=fun w=>rroom_is size w hg
 obtain⟨z,rfl,hz1,hz2,_⟩:=good_nat hg
 obtain⟨s,hs⟩ : ∃ s,s=sizeF l:=⟨_,rfl⟩
 rw[← hs] at HSz hroom
 clear hs
 have hd:decide ((z:Int)-24<(s:Int))=true:=by simp;omega
 obtain⟨hzp,hi⟩:=zero_of_info infoPg
 have HI:=Hd hi
 clear hi hr hsz hm hroom
 obtain⟨w0,hw0⟩ : ∃ x,x=w.alloc (.cells #[.int .i64 0,.int .i64 0,.int .u32 0,.int .u32 0,.int .u64 0,.string .empty] 41):=⟨_,rfl⟩
 have R0:=Hd (show Blk w0 w.heap.size 41 #[.int .i64 0,.int .i64 0,.int .u32 0,.int .u32 0,.int .u64 0,.string .empty] by rw[hw0];exact Blk.new _ _ _)
 have HB:=Hd (show Below w.heap.size w w0 by rw[hw0];exact (Below.refl _ _).alloc (Nat.le_refl _) _)
 go_enter Tryz.func18,Tryz.ntmps18
 go_wp2_with fail
 rw[← hw0]
 clear hw0
 refine (HG _).mono ?_
 rintro e w' ⟨rfl,rfl⟩
 go_wp2_with fail
 refine (HMay _ HB.out).mono ?_
 rintro e w1 ⟨rfl,hb⟩
 replace R0:=Hd (R0.out.below hb R0.out.lt)
 replace HB:=Hd (HB.out.trans (hb.mono HB.out.size))
 clear hb
 go_wp2_with fail
 refine (HSz _ HB.out).mono ?_
 rintro e w2 ⟨rfl,hb⟩
 replace R0:=Hd (R0.out.below hb R0.out.lt)
 replace HB:=Hd (HB.out.trans (hb.mono HB.out.size))
 clear hb
 go_wp2_with fail
 refine (HM _).mono ?_
 rintro e w' ⟨rfl,rfl⟩
 have k0:=R0.out.cell 0
 have k1:=R0.out.cell 1
 have k2:=R0.out.cell 2
 have k3:=R0.out.cell 3
 have k4:=R0.out.cell 4
 have k5:=R0.out.cell 5
 have f0:=R0.out.frozen 0
 have f1:=R0.out.frozen 1
 have f2:=R0.out.frozen 2
 have f3:=R0.out.frozen 3
 have f4:=R0.out.frozen 4
 have f5:=R0.out.frozen 5
 simp at k0 k1 k2 k3 k4 k5
 go_wp2_with fail
 exact bodyPost_ret (read_row rfl _ _ _ w.heap.size #[.int .i64 0,.int .i64 0,.int .u32 0,.int .u32 0,.int .u64 0,.string .empty] rfl (load_page (six_at R0.out))) rfl ⟨rfl,six_below HB.out (Nat.le_refl _)⟩
theorem rpage7_no3 (size:Int) (n tx:Nat) (A:Option Addr) (m c:Nat) (l:List Fk) (w:World) (hr:Reads w w.heap.size 2 A m (fkc l)) (hm:m≤5864062014805) (hsz:sizeF l≤9007199254740992) (hg:goodSize size=true) (hmay:mayF l=true) (hroom:(sizeF l:Int)≤size-24) (hn:numB n=false) :
  Calls Tryz.prog 18 #[.int .i64 size,.int .u32 n,.int .u64 tx,.slice A m c] w fun e w'=>e=.returned (.tuple #[.agg #[.int .i64 0,.int .i64 0,.int .u32 0,.int .u32 0,.int .u64 0,.string .empty],.int .i64 2])∧Below w.heap.size w w':=by
 have HMay:=fun (w':World) (hb:Below w.heap.size w w')=>rmay7_any A m c l w' ((hr.below hb).more hb.size) hm
 have HSz:=fun (w':World) (hb:Below w.heap.size w w')=>rsize7_any A m c l w' ((hr.below hb).more hb.size) (by unfold maxLen;omega) hsz
 have HN:=fun w=>rnumB_any n w
 have HG : ∀ w,Calls Tryz.prog 32 #[.int .i64 size] w fun e w'=>e=.returned (.bool (goodSize size))∧w'=w:=fun w=>(rgood_any size w).mono fun _ _ ⟨a,b⟩=>⟨a,b.symm⟩
 rw[hg] at HG
 rw[hmay] at HMay
 have HM:=fun w=>rroom_is size w hg
 obtain⟨z,rfl,hz1,hz2,_⟩:=good_nat hg
 obtain⟨s,hs⟩ : ∃ s,s=sizeF l:=⟨_,rfl⟩
 rw[← hs] at HSz hroom
 clear hs
 have hd:decide ((z:Int)-24<(s:Int))=false:=by simp;omega
 rw[hn] at HN
 obtain⟨hzp,hi⟩:=zero_of_info infoPg
 have HI:=Hd hi
 clear hi hr hsz hm hroom
 obtain⟨w0,hw0⟩ : ∃ x,x=w.alloc (.cells #[.int .i64 0,.int .i64 0,.int .u32 0,.int .u32 0,.int .u64 0,.string .empty] 41):=⟨_,rfl⟩
 have R0:=Hd (show Blk w0 w.heap.size 41 #[.int .i64 0,.int .i64 0,.int .u32 0,.int .u32 0,.int .u64 0,.string .empty] by rw[hw0];exact Blk.new _ _ _)
 have HB:=Hd (show Below w.heap.size w w0 by rw[hw0];exact (Below.refl _ _).alloc (Nat.le_refl _) _)
 go_enter Tryz.func18,Tryz.ntmps18
 go_wp2_with fail
 rw[← hw0]
 clear hw0
 refine (HG _).mono ?_
 rintro e w' ⟨rfl,rfl⟩
 go_wp2_with fail
 refine (HMay _ HB.out).mono ?_
 rintro e w1 ⟨rfl,hb⟩
 replace R0:=Hd (R0.out.below hb R0.out.lt)
 replace HB:=Hd (HB.out.trans (hb.mono HB.out.size))
 clear hb
 go_wp2_with fail
 refine (HSz _ HB.out).mono ?_
 rintro e w2 ⟨rfl,hb⟩
 replace R0:=Hd (R0.out.below hb R0.out.lt)
 replace HB:=Hd (HB.out.trans (hb.mono HB.out.size))
 clear hb
 go_wp2_with fail
 refine (HM _).mono ?_
 rintro e w' ⟨rfl,rfl⟩
 go_wp2_with fail
 refine (HN _).mono ?_
 rintro e w' ⟨rfl,rfl⟩
 have k0:=R0.out.cell 0
 have k1:=R0.out.cell 1
 have k2:=R0.out.cell 2
 have k3:=R0.out.cell 3
 have k4:=R0.out.cell 4
 have k5:=R0.out.cell 5
 have f0:=R0.out.frozen 0
 have f1:=R0.out.frozen 1
 have f2:=R0.out.frozen 2
 have f3:=R0.out.frozen 3
 have f4:=R0.out.frozen 4
 have f5:=R0.out.frozen 5
 simp at k0 k1 k2 k3 k4 k5
 go_wp2_with fail
 exact bodyPost_ret (read_row rfl _ _ _ w.heap.size #[.int .i64 0,.int .i64 0,.int .u32 0,.int .u32 0,.int .u64 0,.string .empty] rfl (load_page (six_at R0.out))) rfl ⟨rfl,six_below HB.out (Nat.le_refl _)⟩
theorem rpage7_no4 (size:Int) (n tx:Nat) (A:Option Addr) (m c:Nat) (l:List Fk) (w:World) (hr:Reads w w.heap.size 2 A m (fkc l)) (hm:m≤5864062014805) (hsz:sizeF l≤9007199254740992) (hg:goodSize size=true) (hmay:mayF l=true) (hroom:(sizeF l:Int)≤size-24) (hn:numB n=true) (htx : ¬ tx≤4611686018427387904) :
  Calls Tryz.prog 18 #[.int .i64 size,.int .u32 n,.int .u64 tx,.slice A m c] w fun e w'=>e=.returned (.tuple #[.agg #[.int .i64 0,.int .i64 0,.int .u32 0,.int .u32 0,.int .u64 0,.string .empty],.int .i64 2])∧Below w.heap.size w w':=by
 have HMay:=fun (w':World) (hb:Below w.heap.size w w')=>rmay7_any A m c l w' ((hr.below hb).more hb.size) hm
 have HSz:=fun (w':World) (hb:Below w.heap.size w w')=>rsize7_any A m c l w' ((hr.below hb).more hb.size) (by unfold maxLen;omega) hsz
 have HN:=fun w=>rnumB_any n w
 have HG : ∀ w,Calls Tryz.prog 32 #[.int .i64 size] w fun e w'=>e=.returned (.bool (goodSize size))∧w'=w:=fun w=>(rgood_any size w).mono fun _ _ ⟨a,b⟩=>⟨a,b.symm⟩
 rw[hg] at HG
 rw[hmay] at HMay
 have HM:=fun w=>rroom_is size w hg
 obtain⟨z,rfl,hz1,hz2,_⟩:=good_nat hg
 obtain⟨s,hs⟩ : ∃ s,s=sizeF l:=⟨_,rfl⟩
 rw[← hs] at HSz hroom
 clear hs
 have hd:decide ((z:Int)-24<(s:Int))=false:=by simp;omega
 rw[hn] at HN
 have hd2:decide ((4611686018427387904:Int)<tx)=true:=by simp;omega
 obtain⟨hzp,hi⟩:=zero_of_info infoPg
 have HI:=Hd hi
 clear hi hr hsz hm hroom htx
 obtain⟨w0,hw0⟩ : ∃ x,x=w.alloc (.cells #[.int .i64 0,.int .i64 0,.int .u32 0,.int .u32 0,.int .u64 0,.string .empty] 41):=⟨_,rfl⟩
 have R0:=Hd (show Blk w0 w.heap.size 41 #[.int .i64 0,.int .i64 0,.int .u32 0,.int .u32 0,.int .u64 0,.string .empty] by rw[hw0];exact Blk.new _ _ _)
 have HB:=Hd (show Below w.heap.size w w0 by rw[hw0];exact (Below.refl _ _).alloc (Nat.le_refl _) _)
 go_enter Tryz.func18,Tryz.ntmps18
 go_wp2_with fail
 rw[← hw0]
 clear hw0
 refine (HG _).mono ?_
 rintro e w' ⟨rfl,rfl⟩
 go_wp2_with fail
 refine (HMay _ HB.out).mono ?_
 rintro e w1 ⟨rfl,hb⟩
 replace R0:=Hd (R0.out.below hb R0.out.lt)
 replace HB:=Hd (HB.out.trans (hb.mono HB.out.size))
 clear hb
 go_wp2_with fail
 refine (HSz _ HB.out).mono ?_
 rintro e w2 ⟨rfl,hb⟩
 replace R0:=Hd (R0.out.below hb R0.out.lt)
 replace HB:=Hd (HB.out.trans (hb.mono HB.out.size))
 clear hb
 go_wp2_with fail
 refine (HM _).mono ?_
 rintro e w' ⟨rfl,rfl⟩
 go_wp2_with fail
 refine (HN _).mono ?_
 rintro e w' ⟨rfl,rfl⟩
 have k0:=R0.out.cell 0
 have k1:=R0.out.cell 1
 have k2:=R0.out.cell 2
 have k3:=R0.out.cell 3
 have k4:=R0.out.cell 4
 have k5:=R0.out.cell 5
 have f0:=R0.out.frozen 0
 have f1:=R0.out.frozen 1
 have f2:=R0.out.frozen 2
 have f3:=R0.out.frozen 3
 have f4:=R0.out.frozen 4
 have f5:=R0.out.frozen 5
 simp at k0 k1 k2 k3 k4 k5
 go_wp2_with fail
 exact bodyPost_ret (read_row rfl _ _ _ w.heap.size #[.int .i64 0,.int .i64 0,.int .u32 0,.int .u32 0,.int .u64 0,.string .empty] rfl (load_page (six_at R0.out))) rfl ⟨rfl,six_below HB.out (Nat.le_refl _)⟩
theorem rpage7_no (size:Int) (n tx:Nat) (A:Option Addr) (m c:Nat) (l:List Fk) (w:World) (hr:Reads w w.heap.size 2 A m (fkc l)) (hm:m≤5864062014805) (hsz:sizeF l≤9007199254740992) (h:mayP7 size n tx l=false) :
  Calls Tryz.prog 18 #[.int .i64 size,.int .u32 n,.int .u64 tx,.slice A m c] w fun e w'=>e=.returned (.tuple #[.agg #[.int .i64 0,.int .i64 0,.int .u32 0,.int .u32 0,.int .u64 0,.string .empty],.int .i64 2])∧Below w.heap.size w w':=by
 rcases hg:goodSize size with _ | _
 ·exact rpage7_no0 size n tx A m c l w hr hm hsz hg
 rcases hmay:mayF l with _ | _
 ·exact rpage7_no1 size n tx A m c l w hr hm hsz hg hmay
 by_cases hroom:(sizeF l:Int)≤size-24
 ·rcases hn:numB n with _ | _
  ·exact rpage7_no3 size n tx A m c l w hr hm hsz hg hmay hroom hn
  ·by_cases htx:tx≤4611686018427387904
   ·exfalso
    rw[mayP7,hg,hmay,hn] at h
    simp[hroom,htx] at h
   ·exact rpage7_no4 size n tx A m c l w hr hm hsz hg hmay hroom hn htx
 ·exact rpage7_no2 size n tx A m c l w hr hm hsz hg hmay hroom
theorem rpage7_yes (z n tx:Nat) (A:Option Addr) (m c:Nat) (l:List Fk) (w:World) (hr:Reads w w.heap.size 2 A m (fkc l)) (hm:m≤5864062014805) (h:mayP7 z n tx l=true) :
  Calls Tryz.prog 18 #[.int .i64 z,.int .u32 n,.int .u64 tx,.slice A m c] w fun e w'=>e=.returned (.tuple #[.agg #[.int .i64 3,.int .i64 m,.int .u32 n,.int .u32 0,.int .u64 tx,.string (forkBody z l)],.int .i64 0])∧Below w.heap.size w w':=by
 obtain⟨hall,hl0,hg,hroom,hnb,htx⟩:=mayP7_parts h
 have hmay:mayF l=true:=by rw[mayF,hall,decide_eq_true hl0];rfl
 have hm2:m≤1000:=by
  have h1:=five_le l
  rw[fk_len hr] at h1
  have h2:=good_pos hg
  omega
 have hnb':numB n=true:=by simp[numB,hnb]
 have HMay:=fun (w':World) (hb:Below w.heap.size w w')=>rmay7_any A m c l w' ((hr.below hb).more hb.size) hm
 rw[hmay] at HMay
 have hgz:=good_pos hg
 have HSz:=fun (w':World) (hb:Below w.heap.size w w')=>rsize7_any A m c l w' ((hr.below hb).more hb.size) (by unfold maxLen;omega) (by omega)
 have HGd : ∀ w,Calls Tryz.prog 32 #[.int .i64 z] w fun e w'=>e=.returned (.bool true)∧w'=w:=fun w=>by
  have h:=rgood_any z w
  rw[hg] at h
  exact h.mono fun _ _ ⟨a,b⟩=>⟨a,b.symm⟩
 have HM:=fun w=>rroom_is z w hg
 have HN:=fun w=>rnumB_any n w
 rw[hnb'] at HN
 have hd:decide ((4611686018427387904:Int)<tx)=false:=by simp;omega
 have hd2:decide ((z:Int)-24<(sizeF l:Int))=false:=by simp;omega
 have HALL:=Hd hall
 have HL:=Hd (fk_len hr)
 have HR:=Hd hr
 have HG:=Hd hg
 have HRoom:=Hd hroom.1
 obtain⟨i0,hi0,hz0,hz1,hz2⟩:=info_parts infoU8
 obtain⟨hz,hi⟩:=zero_of_info infoPg
 have HI:=Hd hi
 clear hi hr hall hg hnb hnb' htx hroom hmay h hgz hl0
 obtain⟨w0,hw0⟩ : ∃ x,x=w.alloc (.cells #[.int .i64 0,.int .i64 0,.int .u32 0,.int .u32 0,.int .u64 0,.string .empty] 41):=⟨_,rfl⟩
 have R0:=Hd (show Blk w0 w.heap.size 41 #[.int .i64 0,.int .i64 0,.int .u32 0,.int .u32 0,.int .u64 0,.string .empty] by rw[hw0];exact Blk.new _ _ _)
 have HB:=Hd (show Below w.heap.size w w0 by rw[hw0];exact (Below.refl _ _).alloc (Nat.le_refl _) _)
 go_enter Tryz.func18,Tryz.ntmps18
 go_wp2_with fail
 rw[← hw0]
 clear hw0
 refine (HGd _).mono ?_
 rintro e w' ⟨rfl,rfl⟩
 go_wp2_with fail
 refine (HMay _ HB.out).mono ?_
 rintro e w1 ⟨rfl,hb⟩
 replace R0:=Hd (R0.out.below hb R0.out.lt)
 replace HB:=Hd (HB.out.trans (hb.mono HB.out.size))
 clear hb
 go_wp2_with fail
 refine (HSz _ HB.out).mono ?_
 rintro e w2 ⟨rfl,hb⟩
 replace R0:=Hd (R0.out.below hb R0.out.lt)
 replace HB:=Hd (HB.out.trans (hb.mono HB.out.size))
 clear hb
 go_wp2_with fail
 refine (HM _).mono ?_
 rintro e w' ⟨rfl,rfl⟩
 go_wp2_with fail
 refine (HN _).mono ?_
 rintro e w' ⟨rfl,rfl⟩
 go_wp2_with fail
 clear HN hd hd2 HM HSz HMay HGd
 go_loopw [10,11] (fun b i wr=>∃ (k:Nat) (A':Option Addr) (c':Nat),k≤m∧i=.int .i64 k∧b=.slice A' (sizeF (l.take k)) c'∧Hid (Reads wr wr.heap.size 1 A' (sizeF (l.take k)) (bcells (bytesF (l.take k))))∧Hid (Blk wr w.heap.size 41 #[.int .i64 0,.int .i64 0,.int .u32 0,.int .u32 0,.int .u64 0,.string .empty])∧Hid (Below w.heap.size w wr)) (fun _ i _=>m-(intOf i).toNat)
 case atStart=>exact⟨0,none,0,Nat.zero_le _,rfl,rfl,Hd Reads.none_,R0,HB⟩
 case round =>
  clear R0 HB
  obtain⟨k,A',c',hk,rfl,rfl,HRd,R0,HB⟩:=hrel
  by_cases hlt:k<m
  ·obtain⟨ad,x,rfl,_,hp,hx,hc⟩:=fk_at HR.out hlt
   have hk0:(0:Int)≤k:=by omega
   have hk1:(k:Int)<m:=by omega
   have hok:=allOkF_ok HALL.out hx
   have hnm:x.nm.size≤40:=by
    simp only[okFk,keyF,Bool.and_eq_true,decide_eq_true_eq] at hok
    exact hok.1
   have hrt:x.rt≤2147483647:=by
    simp only[okFk,numB,Bool.and_eq_true,decide_eq_true_eq] at hok
    exact hok.2.2
   have hrt2:(x.rt:Int)<18446744073709551616:=by omega
   have hsz:sizeF (l.take k)≤1000000:=by
    have h1:=sizeF_take_le l k
    have h2:=HRoom.out
    have h3:=good_pos HG.out
    omega
   have HX:=Hd hx
   have HC:=Hd (show FkAt w (ad.add (k*2)) x from hc)
   have HP:=Hd hp
   obtain⟨c0,_⟩:=HC.out.below HB.out HP.out
   have HR0lt:=Hd R0.out.lt
   clear hx hc hp hok
   go_wp2_with fail
   refine (rput_yes A' (sizeF (l.take k)) c' x.nm.size 1 (bytesF (l.take k)) _ HRd.out (by omega) (by decide) (by decide)).mono ?_
   rintro e w2 ⟨v2,rfl,hown2,hb⟩
   have hwr:=HB.out.size
   have HB2:=Hd (HB.out.trans (hb.mono HB.out.size))
   replace R0:=Hd (R0.out.below hb R0.out.lt)
   have hb2s:=hb.size
   obtain⟨A2,c2,rfl,_,_,_⟩:=own_form hown2
   have HO2:=Hd hown2
   obtain⟨c0,_⟩:=HC.out.below HB2.out HP.out
   clear hb hown2
   go_upto_region 9 with (at_builtin;refine Lib.wpList_append_own_string _ rfl (.tmp 54) (.tmp 59) _ _ rfl wr.heap.size 5 i0 Tryz.underlying102 Tryz.underlying9 hi0 hz0 hz1 hz2 _ (sizeF (l.take k)+1) _ rfl HO2.out x.nm rfl (by unfold maxLen;omega) (by omega) hb2s ?_;intro v3 w3 hown3 hg3 _)
   have hbg:Below w.heap.size w2 w3:=(Below.refl _ _).grown hg3 HB2.out.size (fun g hg=>Nat.le_trans hwr (HO2.out.lt g hg).1)
   have HB3:=Hd (HB2.out.trans hbg)
   have hR3:Blk w3 w.heap.size 41 #[.int .i64 0,.int .i64 0,.int .u32 0,.int .u32 0,.int .u64 0,.string .empty]:=(hg3.block _ R0.out.lt (fun he=>by
    have h1:=(HO2.out.lt _ he.symm).1
    have h2:=HR0lt.out
    omega)).trans R0.out
   have hown3':w3.ownsRow wr.heap.size 5 1 v3 (sizeF (l.take k)+1+x.nm.size) (bcells (bytesF (l.take k)++Go.leBytes 1 x.nm.size++x.nm.data.toList)):=by
    rw[bcells_append];exact hown3
   obtain⟨A3,c3,rfl,_,_,_⟩:=own_form hown3'
   have HRd3:=Hd (Reads.of_own hown3')
   have HR3:=Hd hR3
   obtain⟨_,c1⟩:=HC.out.below HB3.out HP.out
   clear hown3 hown3' hg3 hbg hR3 HO2 HB2 R0 c0 HRd
   go_wp2_with fail
   refine (rput_yes A3 (sizeF (l.take k)+1+x.nm.size) c3 x.rt 4 (bytesF (l.take k)++Go.leBytes 1 x.nm.size++x.nm.data.toList) _ HRd3.out (by omega) (by decide) (by decide)).mono ?_
   rintro e w4 ⟨v4,rfl,hown4,hb⟩
   have HB4:=Hd (HB3.out.trans (hb.mono HB3.out.size))
   have HR4:=Hd (HR3.out.below hb HR3.out.lt)
   obtain⟨A4,c4,rfl,_,_,_⟩:=own_form hown4
   have HRd4:=Hd (Reads.of_own hown4)
   clear hown4 hb HB3 HR3 HRd3 c1
   have hse:=sizeF_take_succ HX.out
   have hby:bytesF (l.take k)++Go.leBytes 1 x.nm.size++x.nm.data.toList++Go.leBytes 4 x.rt=bytesF (l.take (k+1)):=by
    rw[bytesF_take_succ HX.out,Fk.bytes]
    simp
   rw[hby,show sizeF (l.take k)+1+x.nm.size+4=sizeF (l.take (k+1)) by omega] at HRd4
   have HSE:=Hd (show sizeF (l.take k)+1+x.nm.size+4=sizeF (l.take (k+1)) by omega)
   clear hse hby
   go_wp2_with fail
   go_roundw
   case rel =>
    first
     | exact⟨k+1,A4,c4,by omega,by go_num,by rw[HSE.out],HRd4,HR4,HB4⟩
     | ((repeat apply Exists.intro);exact⟨⟨k+1,A4,c4,by omega,by go_num,by rw[HSE.out],HRd4,HR4,HB4⟩,rfl⟩)
   case measure=>simp[intOf];omega
  ·obtain rfl:k=m:=by omega
   have ht:l.take k=l:=List.take_of_length_le (by rw[HL.out];exact Nat.le_refl _)
   rw[ht] at HRd
   rw[ht]
   have hgp:=good_pos HG.out
   have HBd:=rbody_ok z A' (sizeF l) c' (bytesF l) (forkBody z l) wr HG.out HRd.out HRoom.out rfl
   have hk9:(k:Int)≤1000000:=by omega
   clear hgp hlt ht
   go_wp2_with fail
   refine HBd.mono ?_
   rintro e w2 ⟨rfl,hb⟩
   clear HBd
   replace R0:=Hd (R0.out.below hb R0.out.lt)
   replace HB:=Hd (HB.out.trans (hb.mono HB.out.size))
   have k0:=R0.out.cell 0
   have k1:=R0.out.cell 1
   have k2:=R0.out.cell 2
   have k3:=R0.out.cell 3
   have k4:=R0.out.cell 4
   have k5:=R0.out.cell 5
   have f0:=R0.out.frozen 0
   have f1:=R0.out.frozen 1
   have f2:=R0.out.frozen 2
   have f3:=R0.out.frozen 3
   have f4:=R0.out.frozen 4
   have f5:=R0.out.frozen 5
   simp at k0 k1 k2 k3 k4 k5
   go_wp2_with fail
   exact bodyPost_ret (read_row rfl _ _ _ w.heap.size #[.int .i64 3,.int .i64 k,.int .u32 n,.int .u32 0,.int .u64 tx,.string (forkBody z l)] rfl (load_page (six_at R0.out))) rfl ⟨rfl,six_below HB.out (Nat.le_refl _)⟩
theorem infoFk:(Tryz.prog.info? 45).map (fun i=>(i.zero,i.size,i.bytes))=some (some (.agg #[.string .empty,.int .u32 0]),2,24):=by kernel_rfl
theorem fkc_one (l:List Fk) : ∀ u∈fkc l,u.oneCell'=true:=by
 intro u hu
 obtain⟨b,_,hb⟩:=List.mem_flatMap.1 hu
 simp only[Fk.cells,List.mem_cons,List.not_mem_nil,or_false] at hb
 rcases hb with rfl | rfl<;>rfl
theorem fk_one (b:Fk) : ∀ u∈b.cells,u.oneCell'=true:=fun u hu=>fkc_one [b] u (by simpa [fkc,rowsOf] using hu)
theorem page7_neq_no (a0 a1 a2 a3 a4:Int) (a5:ByteArray) (w:World):(binOp .neq 41 (.agg #[.int .i64 a0,.int .i64 a1,.int .u32 a2,.int .u32 a3,.int .u64 a4,.string a5]) (.agg #[.int .i64 a0,.int .i64 a1,.int .u32 a2,.int .u32 a3,.int .u64 a4,.string a5])).run Tryz.prog w=.ok (.bool false) w:=by
 simp[go_sem]
theorem page7_neq_yes (a0 a1 a2 a3 a4:Int) (a5:ByteArray) (b0 b1 b2 b3 b4:Int) (b5:ByteArray) (w:World) (h : ¬ (a0=b0∧a1=b1∧a2=b2∧a3=b3∧a4=b4∧a5=b5)):(binOp .neq 41 (.agg #[.int .i64 a0,.int .i64 a1,.int .u32 a2,.int .u32 a3,.int .u64 a4,.string a5]) (.agg #[.int .i64 b0,.int .i64 b1,.int .u32 b2,.int .u32 b3,.int .u64 b4,.string b5])).run Tryz.prog w=.ok (.bool true) w:=by
 have h1:(binOp .eql 41 (.agg #[.int .i64 a0,.int .i64 a1,.int .u32 a2,.int .u32 a3,.int .u64 a4,.string a5]) (.agg #[.int .i64 b0,.int .i64 b1,.int .u32 b2,.int .u32 b3,.int .u64 b4,.string b5])).run Tryz.prog w=.ok (.bool false) w:=by
  simp[go_sem]
  intro h0 h1 h2 h3 h4 h5
  rw[ByteArray.toList_eq,ByteArray.toList_eq] at h5
  exact h ⟨h0,h1,h2,h3,h4,bytes_ext h5⟩
 simp[go_sem] at h1 ⊢
 exact h1
theorem step7_is {s nm t1 t2 t3:ByteArray} {v1 v3:Nat} {x1 x2 x3:Int} (h1:tookN 1 s v1 x1 t1) (h2:tookB v1 t1 nm x2 t2) (h3:tookN 4 t2 v3 x3 t3) :
  match stepF s.data.toList with
  | none=>(x1≠0∨x2≠0∨x3≠0)
  | some (b,r)=>x1=0∧x2=0∧x3=0∧b=⟨nm,v3⟩∧t3.data.toList=r:=by
 rcases h1 with ⟨a1,rfl,e1,f1⟩ | ⟨a1,rfl,f1⟩
 rotate_left
 ·have h0:s.data.toList=[]:=List.eq_nil_of_length_eq_zero (by rw[size_list];omega)
  simp[h0,stepF]
 obtain⟨n,r,hs⟩:=list_one (l:=s.data.toList) (by rw[size_list];exact a1)
 have hv:v1=n.toNat:=by rw[e1,hs];exact leNat_one n
 have hr:t1.data.toList=r:=by rw[f1,ext_drop,hs];rfl
 have hl:t1.size=r.length:=by rw[← hr,size_list]
 rcases h2 with ⟨a2,rfl,e2,f2⟩ | ⟨a2,rfl,f2⟩
 rotate_left
 ·have hn:stepF s.data.toList=none:=by rw[hs];simp only[stepF];rw[if_pos (by omega)]
  simp[hn]
 have hr2:t2.data.toList=r.drop n.toNat:=by rw[f2,ext_drop,hr,hv]
 have hl2:t2.size=r.length-n.toNat:=by rw[← size_list,hr2,List.length_drop]
 rcases h3 with ⟨a3,rfl,e3,f3⟩ | ⟨a3,rfl,f3⟩
 rotate_left
 ·have hn:stepF s.data.toList=none:=by rw[hs];simp only[stepF];rw[if_pos (by omega)]
  simp[hn]
 have hr3:t3.data.toList=(r.drop n.toNat).drop 4:=by rw[f3,ext_drop,hr2]
 have hn:stepF s.data.toList=some (⟨nm,v3⟩,t3.data.toList):=by
  rw[hs]
  simp only[stepF]
  rw[if_neg (by omega),hr3,e3,hr2]
  have hnm:nm=⟨(r.take n.toNat).toArray⟩:=by
   apply bytes_ext
   rw[e2,ext_take,hr,hv]
  rw[hnm]
 rw[hn]
 exact⟨rfl,rfl,rfl,rfl,rfl⟩
def OfPost7 (o:Option (List Fk)) (w:World) (e:Ending) (w':World):Prop :=
 match o with
 | none=>e=.returned (.tuple #[.slice none 0 0,.int .i64 4])∧Below w.heap.size w w'
 | some l=>∃ A n c,e=.returned (.tuple #[.slice A n c,.int .i64 0])∧Reads w' w'.heap.size 2 A n (fkc l)∧n≤c∧c≤maxLen∧Below w.heap.size w w'
def OfPost7n (o:Option (List Fk)) (w:World) (e:Ending) (w':World):Prop :=
 match o with
 | none=>e=.returned (.tuple #[.slice none 0 0,.int .i64 4])∧Below w.heap.size w w'
 | some l=>∃ A n c,e=.returned (.tuple #[.slice A n c,.int .i64 0])∧Reads w' w'.heap.size 2 A n (fkc l)∧n≤c∧c≤maxLen∧Below w.heap.size w w'∧∀ ad,A=some ad→w.heap.size≤ad.block
theorem rof7_new (kd ct:Int) (pg lk ty:Nat) (bd:ByteArray) (w:World) (hbd:bd.size≤100000) :
  Calls Tryz.prog 88 #[.agg #[.int .i64 kd,.int .i64 ct,.int .u32 pg,.int .u32 lk,.int .u64 ty,.string bd]] w (OfPost7n (readF kd ct pg lk ty bd) w):=by
 have Hbd:=Hd hbd
 obtain⟨i0,hi0,hz0,hz1,hz2⟩:=info_parts infoFk
 obtain⟨hzp,hi⟩:=zero_of_info infoPg
 have HI:=Hd hi
 clear hi
 obtain⟨w0,hw0⟩ : ∃ x,x=w.alloc (.cells #[.int .i64 kd,.int .i64 ct,.int .u32 pg,.int .u32 lk,.int .u64 ty,.string bd] 41):=⟨_,rfl⟩
 have Pp:=Hd (show Blk w0 w.heap.size 41 #[.int .i64 kd,.int .i64 ct,.int .u32 pg,.int .u32 lk,.int .u64 ty,.string bd] by rw[hw0];exact Blk.new _ _ _)
 have HB:=Hd (show Below w.heap.size w w0 by rw[hw0];exact (Below.refl _ _).alloc (Nat.le_refl _) _)
 go_enter Tryz.func88,Tryz.ntmps88
 go_upto_region 1 with fail
 rw[← hw0]
 clear hw0 hbd
 have p5:=Pp.out.cell 5
 simp at p5
 go_wp2_with fail
 refine (rnew_any' bd _).mono ?_
 rintro e w1 ⟨rfl,hrf,hb,hlt1⟩
 have hpg:=Hd Pp.out.lt
 replace Pp:=Hd (Pp.out.below hb Pp.out.lt)
 replace HB:=Hd (HB.out.trans (hb.mono HB.out.size))
 have HF:=Hd hrf
 clear hb hrf hlt1 p5
 generalize w0.heap.size=g at *
 go_wp2_with fail
 go_loopw [5,6] (fun v i wr=>∃ (k:Nat) (A:Option Addr) (c:Nat) (l:List Fk) (r:List UInt8) (s:ByteArray),k≤ct.toNat∧i=.int .i64 k∧v=.slice A k c∧Hid (parseF k bd.data.toList=some (l,r))∧Hid (s.data.toList=r)∧Hid (IsRf wr g s)∧Hid (wr.ownsRow (g+1) 45 2 (.slice A k c) k (fkc l))∧Hid (Blk wr w.heap.size 41 #[.int .i64 kd,.int .i64 ct,.int .u32 pg,.int .u32 lk,.int .u64 ty,.string bd])∧Hid (Below w.heap.size w wr)) (fun _ i _=>ct.toNat-(intOf i).toNat)
 case atStart=>exact⟨0,none,0,[],_,bd,Nat.zero_le _,rfl,rfl,Hd rfl,Hd rfl,HF,Hd (World.ownsRow_nil _ _ _ _),Pp,HB⟩
 case round =>
  clear HF HB Pp
  obtain⟨k,A,c,l,r,s,hk,rfl,rfl,HPr,HSr,HF,HO,Pp,HB⟩:=hrel
  have hk9:k≤100000:=by
   have h1:=parseF_size HPr.out
   have h2:=five_le l
   rw[parseF_len HPr.out] at h2
   rw[size_list] at h1
   have h3:=Hbd.out
   omega
  have p1:=Pp.out.cell 1
  simp at p1
  by_cases hlt:(k:Int)<ct
  ·have hkc:k+1≤ct.toNat:=by omega
   go_wp2_with fail
   refine (rnum_tot HF.out 1 (by decide) (by decide)).mono ?_
   rintro e w2 ⟨v1,x1,t1,rfl,hf,hg,hv1,hx1⟩
   have hbl:=below_of_grown hg (Nat.le_of_lt hpg.out) HB.out.size
   replace HB:=Hd (HB.out.trans hbl)
   replace HO:=Hd (HO.out.kept hg (own_apart HO.out (Nat.lt_succ_self g)))
   replace Pp:=Hd (Blk.grown Pp.out hg (by intro h;injection h with h;have:=hpg.out;omega))
   replace HF:=Hd hf
   have X1:=Hd hx1
   clear hf hg hbl hx1 p1
   have hv1':v1<256:=hv1
   clear hv1
   have hwv:IntKind.i64.wrap (v1:Int)=(v1:Int):=by rw[IntKind.wrap_i64];omega
   go_wp2_with fail
   refine (rby_tot HF.out v1).mono ?_
   rintro e w3 ⟨nm,x2,t2,rfl,hf,hg,hx2⟩
   have hbl:=below_of_grown hg (Nat.le_of_lt hpg.out) HB.out.size
   replace HB:=Hd (HB.out.trans hbl)
   replace HO:=Hd (HO.out.kept hg (own_apart HO.out (Nat.lt_succ_self g)))
   replace Pp:=Hd (Blk.grown Pp.out hg (by intro h;injection h with h;have:=hpg.out;omega))
   replace HF:=Hd hf
   have X2:=Hd hx2
   clear hf hg hbl hx2 hwv hv1'
   go_wp2_with fail
   refine (rnum_tot HF.out 4 (by decide) (by decide)).mono ?_
   rintro e w4 ⟨v3,x3,t3,rfl,hf,hg,hv3,hx3⟩
   have hbl:=below_of_grown hg (Nat.le_of_lt hpg.out) HB.out.size
   replace HB:=Hd (HB.out.trans hbl)
   replace HO:=Hd (HO.out.kept hg (own_apart HO.out (Nat.lt_succ_self g)))
   replace Pp:=Hd (Blk.grown Pp.out hg (by intro h;injection h with h;have:=hpg.out;omega))
   replace HF:=Hd hf
   have X3:=Hd hx3
   clear hf hg hbl hx3
   have hv3':v3<4294967296:=hv3
   clear hv3
   have hw3:IntKind.u32.wrap (v3:Int)=(v3:Int):=by rw[IntKind.wrap_u32];omega
   have hst:=step7_is X1.out X2.out X3.out
   rw[HSr.out] at hst
   rcases hsf:stepF r with _ | ⟨b,r'⟩
   ·rw[hsf] at hst
    have HE:=Hd (show readF kd ct pg lk ty bd=none by
     have h1:=parseF_none (parseF_stop HPr.out hsf) (ct.toNat-(k+1))
     rw[show k+1+(ct.toNat-(k+1))=ct.toNat by omega] at h1
     rw[readF,h1])
    have h3:x1≠0∨(x1=0∧x2≠0)∨(x1=0∧x2=0∧x3≠0):=by
     have h4:x1≠0∨x2≠0∨x3≠0:=hst
     omega
    clear hst hsf X1 X2 X3
    rcases h3 with h1 | ⟨h1,h2⟩ | ⟨h1,h2,h3⟩
    ·have q1:(x1 != 0)=true:=by simp[h1]
     have q2:(x1==0)=false:=by simp[h1]
     go_wp2_with fail
     go_ret2
     rw[HE.out]
     exact⟨rfl,HB.out⟩
    ·have q1:(x1 != 0)=false:=by simp[h1]
     have q2:(x1==0)=true:=by simp[h1]
     have q3:(x2 != 0)=true:=by simp[h2]
     have q4:(x2==0)=false:=by simp[h2]
     clear h1
     go_wp2_with fail
     go_ret2
     rw[HE.out]
     exact⟨rfl,HB.out⟩
    ·have q1:(x1 != 0)=false:=by simp[h1]
     have q2:(x1==0)=true:=by simp[h1]
     have q3:(x2 != 0)=false:=by simp[h2]
     have q4:(x2==0)=true:=by simp[h2]
     have q5:(x3 != 0)=true:=by simp[h3]
     have q6:(x3==0)=false:=by simp[h3]
     clear h1 h2
     go_wp2_with fail
     go_ret2
     rw[HE.out]
     exact⟨rfl,HB.out⟩
   ·rw[hsf] at hst
    obtain⟨e1,e2,e3,hbk,hsr⟩:x1=0∧x2=0∧x3=0∧b=⟨nm,v3⟩∧t3.data.toList=r':=hst
    subst e1 e2 e3
    have HP4:=Hd (show parseF (k+1) bd.data.toList=some (l++[⟨nm,v3⟩],r') by rw[← hbk];exact parseF_step HPr.out hsf)
    have HS4:=Hd hsr
    clear hbk hsr hsf X1 X2 X3
    have HA:=Hd (HO.out.alloc (.cells #[.string nm,.int .u32 v3] 45))
    have hgl:g+1≤w4.heap.size:=Blk.lt HF.out
    have HB3:=Hd (HB.out.alloc HB.out.size (.cells #[.string nm,.int .u32 v3] 45))
    have HF3:=Hd (show IsRf (w4.alloc (.cells #[.string nm,.int .u32 v3] 45)) g t3 from Blk.alloc HF.out _)
    have Pp3:=Hd (Pp.out.alloc (.cells #[.string nm,.int .u32 v3] 45))
    go_upto_region 5 with (at_builtin;refine wpList_append_any _ rfl (.tmp 51) (.tmp 56) _ rfl (g+1) 45 i0 _ 2 24 Tryz.underlying46 hi0 hz0 hz1 hz2 rfl (by omega) _ k _ rfl HA.out (w4.heap.size+1) (some ⟨w4.heap.size,0,none⟩) 1 1 (Fk.cells ⟨nm,v3⟩) rfl (reads_own (n:=1) (Blk.new _ _ _) rfl) (fk_one _) (by unfold maxLen;omega) (by omega) (by simp;omega) ?_;intro v5 w5 hown4 hg4 hat)
    clear hat
    rw[fkc_snoc] at hown4
    obtain⟨A4,c4,rfl,_,_,_⟩:=own_form hown4
    have HO4:=Hd hown4
    have HF4:=Hd (show IsRf w5 g t3 from Blk.grown HF3.out hg4 (own_ne HA.out (Nat.lt_succ_self g)))
    have Pp4:=Hd (Blk.grown Pp3.out hg4 (own_ne HA.out (Nat.lt_succ_of_lt hpg.out)))
    have HB4:=Hd (HB3.out.grown hg4 HB3.out.size (fun j hj=>by have h1:=(HA.out.lt j hj).1;have h2:=hpg.out;omega))
    clear hown4 hg4 HA HB3 HF3 Pp3 HO HF HB Pp
    go_wp2_with fail
    go_roundw
    case rel =>
     first
      | exact⟨k+1,A4,c4,_,r',t3,by omega,by go_num,rfl,HP4,HS4,HF4,HO4,Pp4,HB4⟩
      | ((repeat apply Exists.intro);exact⟨⟨k+1,A4,c4,_,r',t3,by omega,by go_num,rfl,HP4,HS4,HF4,HO4,Pp4,HB4⟩,rfl⟩)
    case measure=>simp[intOf];omega
  ·have hkc:k=ct.toNat:=by omega
   have HLo:=Hd (show ∀ ad,A=some ad→w.heap.size≤ad.block from fun ad e=>by
    have h1:=own_base HO.out ad.block (by rw[e];rfl)
    have h2:=hpg.out
    omega)
   have hlen:=parseF_len HPr.out
   have hsz:sizeF l≤100000:=by
    have h1:=parseF_size HPr.out
    rw[size_list] at h1
    have h3:=Hbd.out
    omega
   obtain⟨z,hzz⟩ : ∃ z,z=bd.size+24:=⟨_,rfl⟩
   have hwz:wrap64 (z:Int)=(z:Int):=wrap64_nat z (by have:=Hbd.out;omega)
   have hws2:((bd.size:Int)+24)=(z:Int):=by omega
   have HZ:=Hd hzz
   have HQ:=Hd (show readF kd ct pg lk ty bd=if mayP7 z pg ty l&&decide (kd=3∧ct=l.length∧lk=0∧bd=forkBody z l) then some l else none by rw[readF,← hkc,HPr.out,hzz])
   obtain⟨A',c',he,h1,h2,_⟩:=own_form HO.out
   injection he with e1 e2 e3
   subst e1
   subst e3
   have HR:=Hd (Reads.of_own HO.out)
   have HC:=Hd h1
   have HMx:=Hd h2
   have HLn:=Hd hlen
   clear hzz hkc hlen h1 h2 HO HF p1
   have p1:=Pp.out.cell 1
   have p2:=Pp.out.cell 2
   have p4:=Pp.out.cell 4
   have p5:=Pp.out.cell 5
   simp at p1 p2 p4 p5
   rcases hy:mayP7 z pg ty l with _ | _
   ·have HP:=rpage7_no z pg ty A k c l wr HR.out (by omega) (by omega) hy
    rw[hy] at HQ
    clear hy
    go_wp2_with fail
    refine HP.mono ?_
    rintro e w2 ⟨rfl,hb⟩
    replace HB:=Hd (HB.out.trans (hb.mono HB.out.size))
    clear hb HP
    go_wp2_with fail
    go_ret2
    rw[HQ.out]
    exact⟨rfl,HB.out.alloc HB.out.size _⟩
   ·have HP:=rpage7_yes z pg ty A k c l wr HR.out (by omega) hy
    obtain⟨B,hB⟩ : ∃ B,B=forkBody z l:=⟨_,rfl⟩
    rw[← hB] at HP
    rw[hy,← hB] at HQ
    clear hy hB
    go_wp2_with fail
    refine HP.mono ?_
    rintro e w2 ⟨rfl,hb⟩
    replace Pp:=Hd (Pp.out.below hb Pp.out.lt)
    replace HB:=Hd (HB.out.trans (hb.mono HB.out.size))
    replace HR:=Hd ((HR.out.below hb).more hb.size)
    clear hb HP p1 p2 p4 p5
    obtain⟨w3,hw3⟩ : ∃ x,x=w2.alloc (.cells #[.int .i64 3,.int .i64 k,.int .u32 pg,.int .u32 0,.int .u64 ty,.string B] 41):=⟨_,rfl⟩
    have Q:=Hd (show Blk w3 w2.heap.size 41 #[.int .i64 3,.int .i64 k,.int .u32 pg,.int .u32 0,.int .u64 ty,.string B] by rw[hw3];exact Blk.new _ _ _)
    replace Pp:=Hd (show Blk w3 w.heap.size 41 #[.int .i64 kd,.int .i64 ct,.int .u32 pg,.int .u32 lk,.int .u64 ty,.string bd] by rw[hw3];exact Pp.out.alloc _)
    replace HB:=Hd (show Below w.heap.size w w3 by rw[hw3];exact HB.out.alloc HB.out.size _)
    replace HR:=Hd (show Reads w3 w3.heap.size 2 A k (fkc l) by rw[hw3];exact (HR.out.alloc (Nat.le_refl _) _).more (by simp))
    go_upto_region 13 with fail
    rw[← hw3]
    clear hw3 hws2 hwz
    generalize w2.heap.size=gQ at *
    have c0:=Pp.out.cell 0
    have c1:=Pp.out.cell 1
    have c2:=Pp.out.cell 2
    have c3:=Pp.out.cell 3
    have c4:=Pp.out.cell 4
    have c5:=Pp.out.cell 5
    have q0:=Q.out.cell 0
    have q1:=Q.out.cell 1
    have q2:=Q.out.cell 2
    have q3:=Q.out.cell 3
    have q4:=Q.out.cell 4
    have q5:=Q.out.cell 5
    simp at c0 c1 c2 c3 c4 c5 q0 q1 q2 q3 q4 q5
    by_cases hd:(3:Int)=kd∧(k:Int)=ct∧(0:Int)=lk∧B=bd
    ·obtain⟨rfl,rfl,hlk,rfl⟩:=hd
     have hlk0:lk=0:=by omega
     subst hlk0
     clear hlk
     simp at c3
     have HE:=Hd (show readF 3 k pg 0 ty B=some l by
      rw[HQ.out,if_pos]
      have:=HLn.out
      simp
      omega)
     have hpq:=fun w=>page7_neq_no 3 k pg 0 ty B w
     go_wp2_with fail
     go_ret2
     rw[HE.out]
     exact⟨A,k,c,rfl,HR.out,HC.out,HMx.out,HB.out,HLo.out⟩
    ·have HE:=Hd (show readF kd ct pg lk ty bd=none by
      rw[HQ.out,decide_eq_false (fun ⟨e1,e2,e3,e4⟩=>hd ⟨e1.symm,by have:=HLn.out;omega,by omega,e4.symm⟩),Bool.and_false]
      rfl)
     have hpq:=fun w=>page7_neq_yes 3 k pg 0 ty B kd ct pg lk ty bd w (by intro ⟨e1,e2,_,e4,_,e6⟩;exact hd ⟨e1,e2,e4,e6⟩)
     clear hd
     go_wp2_with fail
     go_ret2
     rw[HE.out]
     exact⟨rfl,HB.out⟩
end Go.Proofs.YtanbbnogdhnikaaGreat

