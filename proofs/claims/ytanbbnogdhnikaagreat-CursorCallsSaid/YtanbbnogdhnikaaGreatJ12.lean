/-
  Contract of the reference's Page of layer 9: the page of a part. (Written by wip/tools/gen_ref9page.py.)
-/
import Derived.Test.YtanbbnogdhnikaaGreatJ10
set_option linter.unusedVariables false
set_option linter.unusedSimpArgs false
set_option maxRecDepth 300000
set_option maxHeartbeats 25600000
namespace Go.Proofs.YtanbbnogdhnikaaGreat
open Go.RowKit
open Go.Lib hiding intOf
attribute [local go_sem ↓] Go.wp_at_zero Go.wp_at_succ

theorem rpage9_no0 (size:Int) (n next tx:Nat) (s:ByteArray) (w:World) (hs9:s.size≤1000000) (hg:goodSize size=false) :
  Calls Tryz.prog 110 #[.int .i64 size,.int .u32 n,.int .u32 next,.int .u64 tx,.string s] w fun e w'=>e=.returned (.tuple #[.agg #[.int .i64 0,.int .i64 0,.int .u32 0,.int .u32 0,.int .u64 0,.string .empty],.int .i64 2])∧Below w.heap.size w w':=by
 obtain⟨hzp,hi⟩:=zero_of_info infoPg
 have HI:=Hd hi
 obtain⟨w0,hw0⟩ : ∃ x,x=w.alloc (.cells #[.int .i64 0,.int .i64 0,.int .u32 0,.int .u32 0,.int .u64 0,.string .empty] 41):=⟨_,rfl⟩
 have R0:=Hd (show Blk w0 w.heap.size 41 #[.int .i64 0,.int .i64 0,.int .u32 0,.int .u32 0,.int .u64 0,.string .empty] by rw[hw0];exact Blk.new _ _ _)
 have HB:=Hd (show Below w.heap.size w w0 by rw[hw0];exact (Below.refl _ _).alloc (Nat.le_refl _) _)
 have HM:=fun w=>rroom_no size w hg
 clear hg
 clear hi
 go_enter Tryz.func110,Tryz.ntmps110
 go_upto_region 1 with fail
 rw[← hw0]
 clear hw0
 have k0:=R0.out.cell 0
 have k1:=R0.out.cell 1
 have k2:=R0.out.cell 2
 have k3:=R0.out.cell 3
 have k4:=R0.out.cell 4
 have k5:=R0.out.cell 5
 have f0:=R0.out.frozen 0
 have f1:=R0.out.frozen 1
 have f2:=R0.out.frozen 2
 have f3:=R0.out.frozen 3
 have f4:=R0.out.frozen 4
 have f5:=R0.out.frozen 5
 simp at k0 k1 k2 k3 k4 k5
 go_wp2_with (go_at_call 49;refine (HM _).mono ?_;rintro e w' ⟨rfl,rfl⟩)
 exact bodyPost_ret (read_row rfl _ _ _ w.heap.size #[.int .i64 0,.int .i64 0,.int .u32 0,.int .u32 0,.int .u64 0,.string .empty] rfl (load_page (six_at R0.out))) rfl ⟨rfl,six_below HB.out (Nat.le_refl _)⟩
theorem rpage9_no1 (size:Int) (n next tx:Nat) (s:ByteArray) (w:World) (hs9:s.size≤1000000) (hg:goodSize size=true) (h1:s.size=0) :
  Calls Tryz.prog 110 #[.int .i64 size,.int .u32 n,.int .u32 next,.int .u64 tx,.string s] w fun e w'=>e=.returned (.tuple #[.agg #[.int .i64 0,.int .i64 0,.int .u32 0,.int .u32 0,.int .u64 0,.string .empty],.int .i64 2])∧Below w.heap.size w w':=by
 obtain⟨hzp,hi⟩:=zero_of_info infoPg
 have HI:=Hd hi
 obtain⟨w0,hw0⟩ : ∃ x,x=w.alloc (.cells #[.int .i64 0,.int .i64 0,.int .u32 0,.int .u32 0,.int .u64 0,.string .empty] 41):=⟨_,rfl⟩
 have R0:=Hd (show Blk w0 w.heap.size 41 #[.int .i64 0,.int .i64 0,.int .u32 0,.int .u32 0,.int .u64 0,.string .empty] by rw[hw0];exact Blk.new _ _ _)
 have HB:=Hd (show Below w.heap.size w w0 by rw[hw0];exact (Below.refl _ _).alloc (Nat.le_refl _) _)
 obtain⟨z,rfl,hz1,hz2,_⟩:=good_nat hg
 obtain⟨r,hr⟩ : ∃ r,r=z-24:=⟨_,rfl⟩
 have HM : ∀ w:World,Calls Tryz.prog 49 #[.int .i64 z] w fun e w'=>e=.returned (.int .i64 (r:Int))∧w=w':=fun w=>by
  have h:=rroom_yes z w hg
  rwa [show (z:Int)-24=(r:Int) by omega] at h
 have hr0:((r:Int)==0)=false:=by simp;omega
 have hem:s.toList.isEmpty=true:=by
  rw[List.isEmpty_iff_length_eq_zero,ByteArray.toList_eq,size_list];omega
 have hem2:s.toList=[]:=List.isEmpty_iff.1 hem
 clear hg hr hz1 hz2 h1
 clear hi
 go_enter Tryz.func110,Tryz.ntmps110
 go_upto_region 1 with fail
 rw[← hw0]
 clear hw0
 have k0:=R0.out.cell 0
 have k1:=R0.out.cell 1
 have k2:=R0.out.cell 2
 have k3:=R0.out.cell 3
 have k4:=R0.out.cell 4
 have k5:=R0.out.cell 5
 have f0:=R0.out.frozen 0
 have f1:=R0.out.frozen 1
 have f2:=R0.out.frozen 2
 have f3:=R0.out.frozen 3
 have f4:=R0.out.frozen 4
 have f5:=R0.out.frozen 5
 simp at k0 k1 k2 k3 k4 k5
 go_wp2_with (go_at_call 49;refine (HM _).mono ?_;rintro e w' ⟨rfl,rfl⟩)
 exact bodyPost_ret (read_row rfl _ _ _ w.heap.size #[.int .i64 0,.int .i64 0,.int .u32 0,.int .u32 0,.int .u64 0,.string .empty] rfl (load_page (six_at R0.out))) rfl ⟨rfl,six_below HB.out (Nat.le_refl _)⟩
theorem rpage9_no2 (size:Int) (n next tx:Nat) (s:ByteArray) (w:World) (hs9:s.size≤1000000) (hg:goodSize size=true) (h1:1≤s.size) (h2 : ¬ (s.size:Int)≤size-24) :
  Calls Tryz.prog 110 #[.int .i64 size,.int .u32 n,.int .u32 next,.int .u64 tx,.string s] w fun e w'=>e=.returned (.tuple #[.agg #[.int .i64 0,.int .i64 0,.int .u32 0,.int .u32 0,.int .u64 0,.string .empty],.int .i64 2])∧Below w.heap.size w w':=by
 obtain⟨hzp,hi⟩:=zero_of_info infoPg
 have HI:=Hd hi
 obtain⟨w0,hw0⟩ : ∃ x,x=w.alloc (.cells #[.int .i64 0,.int .i64 0,.int .u32 0,.int .u32 0,.int .u64 0,.string .empty] 41):=⟨_,rfl⟩
 have R0:=Hd (show Blk w0 w.heap.size 41 #[.int .i64 0,.int .i64 0,.int .u32 0,.int .u32 0,.int .u64 0,.string .empty] by rw[hw0];exact Blk.new _ _ _)
 have HB:=Hd (show Below w.heap.size w w0 by rw[hw0];exact (Below.refl _ _).alloc (Nat.le_refl _) _)
 obtain⟨z,rfl,hz1,hz2,_⟩:=good_nat hg
 obtain⟨r,hr⟩ : ∃ r,r=z-24:=⟨_,rfl⟩
 have HM : ∀ w:World,Calls Tryz.prog 49 #[.int .i64 z] w fun e w'=>e=.returned (.int .i64 (r:Int))∧w=w':=fun w=>by
  have h:=rroom_yes z w hg
  rwa [show (z:Int)-24=(r:Int) by omega] at h
 have hr0:((r:Int)==0)=false:=by simp;omega
 have hem:s.toList.isEmpty=false:=by
  rw[Bool.eq_false_iff];intro h;rw[List.isEmpty_iff_length_eq_zero,ByteArray.toList_eq,size_list] at h;omega
 have hem2 : ¬ s.toList=[]:=fun h=>by rw[h] at hem;simp at hem
 have hlo:decide ((r:Int)<(s.size:Int))=true:=by simp;omega
 have hlo2:decide (r<s.size)=true:=by simp;omega
 clear hg hr hz1 hz2 h1 h2
 clear hi
 go_enter Tryz.func110,Tryz.ntmps110
 go_upto_region 1 with fail
 rw[← hw0]
 clear hw0
 have k0:=R0.out.cell 0
 have k1:=R0.out.cell 1
 have k2:=R0.out.cell 2
 have k3:=R0.out.cell 3
 have k4:=R0.out.cell 4
 have k5:=R0.out.cell 5
 have f0:=R0.out.frozen 0
 have f1:=R0.out.frozen 1
 have f2:=R0.out.frozen 2
 have f3:=R0.out.frozen 3
 have f4:=R0.out.frozen 4
 have f5:=R0.out.frozen 5
 simp at k0 k1 k2 k3 k4 k5
 go_wp2_with (go_at_call 49;refine (HM _).mono ?_;rintro e w' ⟨rfl,rfl⟩)
 exact bodyPost_ret (read_row rfl _ _ _ w.heap.size #[.int .i64 0,.int .i64 0,.int .u32 0,.int .u32 0,.int .u64 0,.string .empty] rfl (load_page (six_at R0.out))) rfl ⟨rfl,six_below HB.out (Nat.le_refl _)⟩
theorem rpage9_no3 (size:Int) (n next tx:Nat) (s:ByteArray) (w:World) (hs9:s.size≤1000000) (hg:goodSize size=true) (h1:1≤s.size) (h2:(s.size:Int)≤size-24) (hn:numB n=false) :
  Calls Tryz.prog 110 #[.int .i64 size,.int .u32 n,.int .u32 next,.int .u64 tx,.string s] w fun e w'=>e=.returned (.tuple #[.agg #[.int .i64 0,.int .i64 0,.int .u32 0,.int .u32 0,.int .u64 0,.string .empty],.int .i64 2])∧Below w.heap.size w w':=by
 obtain⟨hzp,hi⟩:=zero_of_info infoPg
 have HI:=Hd hi
 obtain⟨w0,hw0⟩ : ∃ x,x=w.alloc (.cells #[.int .i64 0,.int .i64 0,.int .u32 0,.int .u32 0,.int .u64 0,.string .empty] 41):=⟨_,rfl⟩
 have R0:=Hd (show Blk w0 w.heap.size 41 #[.int .i64 0,.int .i64 0,.int .u32 0,.int .u32 0,.int .u64 0,.string .empty] by rw[hw0];exact Blk.new _ _ _)
 have HB:=Hd (show Below w.heap.size w w0 by rw[hw0];exact (Below.refl _ _).alloc (Nat.le_refl _) _)
 obtain⟨z,rfl,hz1,hz2,_⟩:=good_nat hg
 obtain⟨r,hr⟩ : ∃ r,r=z-24:=⟨_,rfl⟩
 have HM : ∀ w:World,Calls Tryz.prog 49 #[.int .i64 z] w fun e w'=>e=.returned (.int .i64 (r:Int))∧w=w':=fun w=>by
  have h:=rroom_yes z w hg
  rwa [show (z:Int)-24=(r:Int) by omega] at h
 have hr0:((r:Int)==0)=false:=by simp;omega
 have hem:s.toList.isEmpty=false:=by
  rw[Bool.eq_false_iff];intro h;rw[List.isEmpty_iff_length_eq_zero,ByteArray.toList_eq,size_list] at h;omega
 have hem2 : ¬ s.toList=[]:=fun h=>by rw[h] at hem;simp at hem
 have hlo:decide ((r:Int)<(s.size:Int))=false:=by simp;omega
 have hlo2:decide (r<s.size)=false:=by simp;omega
 have HN:=fun w=>(rnumB_any n w).mono (R':=fun e w'=>e=.returned (.bool (numB n))∧w=w') fun _ _ ⟨a,b⟩=>⟨a,b.symm⟩
 rw[hn] at HN
 clear hg hr hz1 hz2 h1 h2 hn
 clear hi
 go_enter Tryz.func110,Tryz.ntmps110
 go_upto_region 1 with fail
 rw[← hw0]
 clear hw0
 have k0:=R0.out.cell 0
 have k1:=R0.out.cell 1
 have k2:=R0.out.cell 2
 have k3:=R0.out.cell 3
 have k4:=R0.out.cell 4
 have k5:=R0.out.cell 5
 have f0:=R0.out.frozen 0
 have f1:=R0.out.frozen 1
 have f2:=R0.out.frozen 2
 have f3:=R0.out.frozen 3
 have f4:=R0.out.frozen 4
 have f5:=R0.out.frozen 5
 simp at k0 k1 k2 k3 k4 k5
 go_wp2_with (first | (go_at_call 49;refine (HM _).mono ?_;rintro e w' ⟨rfl,rfl⟩) | (go_at_call 50;with_reducible refine (HN _).mono ?_;rintro e w' ⟨rfl,rfl⟩))
 exact bodyPost_ret (read_row rfl _ _ _ w.heap.size #[.int .i64 0,.int .i64 0,.int .u32 0,.int .u32 0,.int .u64 0,.string .empty] rfl (load_page (six_at R0.out))) rfl ⟨rfl,six_below HB.out (Nat.le_refl _)⟩
theorem rpage9_no4 (size:Int) (n next tx:Nat) (s:ByteArray) (w:World) (hs9:s.size≤1000000) (hg:goodSize size=true) (h1:1≤s.size) (h2:(s.size:Int)≤size-24) (hn:numB n=true) (h0:next≠0) (hnx:numB next=false) :
  Calls Tryz.prog 110 #[.int .i64 size,.int .u32 n,.int .u32 next,.int .u64 tx,.string s] w fun e w'=>e=.returned (.tuple #[.agg #[.int .i64 0,.int .i64 0,.int .u32 0,.int .u32 0,.int .u64 0,.string .empty],.int .i64 2])∧Below w.heap.size w w':=by
 obtain⟨hzp,hi⟩:=zero_of_info infoPg
 have HI:=Hd hi
 obtain⟨w0,hw0⟩ : ∃ x,x=w.alloc (.cells #[.int .i64 0,.int .i64 0,.int .u32 0,.int .u32 0,.int .u64 0,.string .empty] 41):=⟨_,rfl⟩
 have R0:=Hd (show Blk w0 w.heap.size 41 #[.int .i64 0,.int .i64 0,.int .u32 0,.int .u32 0,.int .u64 0,.string .empty] by rw[hw0];exact Blk.new _ _ _)
 have HB:=Hd (show Below w.heap.size w w0 by rw[hw0];exact (Below.refl _ _).alloc (Nat.le_refl _) _)
 obtain⟨z,rfl,hz1,hz2,_⟩:=good_nat hg
 obtain⟨r,hr⟩ : ∃ r,r=z-24:=⟨_,rfl⟩
 have HM : ∀ w:World,Calls Tryz.prog 49 #[.int .i64 z] w fun e w'=>e=.returned (.int .i64 (r:Int))∧w=w':=fun w=>by
  have h:=rroom_yes z w hg
  rwa [show (z:Int)-24=(r:Int) by omega] at h
 have hr0:((r:Int)==0)=false:=by simp;omega
 have hem:s.toList.isEmpty=false:=by
  rw[Bool.eq_false_iff];intro h;rw[List.isEmpty_iff_length_eq_zero,ByteArray.toList_eq,size_list] at h;omega
 have hem2 : ¬ s.toList=[]:=fun h=>by rw[h] at hem;simp at hem
 have hlo:decide ((r:Int)<(s.size:Int))=false:=by simp;omega
 have hlo2:decide (r<s.size)=false:=by simp;omega
 have HN:=fun w=>(rnumB_any n w).mono (R':=fun e w'=>e=.returned (.bool (numB n))∧w=w') fun _ _ ⟨a,b⟩=>⟨a,b.symm⟩
 rw[hn] at HN
 have HX:=fun w=>(rnumB_any next w).mono (R':=fun e w'=>e=.returned (.bool (numB next))∧w=w') fun _ _ ⟨a,b⟩=>⟨a,b.symm⟩
 rw[hnx] at HX
 have hx0:((next:Int) != 0)=true:=by simp;omega
 have hx1:(next != 0)=true:=by simp;omega
 have hx2:((next:Int)==0)=false:=by simp;omega
 clear hg hr hz1 hz2 h1 h2 hn h0 hnx
 clear hi
 go_enter Tryz.func110,Tryz.ntmps110
 go_upto_region 1 with fail
 rw[← hw0]
 clear hw0
 have k0:=R0.out.cell 0
 have k1:=R0.out.cell 1
 have k2:=R0.out.cell 2
 have k3:=R0.out.cell 3
 have k4:=R0.out.cell 4
 have k5:=R0.out.cell 5
 have f0:=R0.out.frozen 0
 have f1:=R0.out.frozen 1
 have f2:=R0.out.frozen 2
 have f3:=R0.out.frozen 3
 have f4:=R0.out.frozen 4
 have f5:=R0.out.frozen 5
 simp at k0 k1 k2 k3 k4 k5
 go_wp2_with (first | (go_at_call 49;refine (HM _).mono ?_;rintro e w' ⟨rfl,rfl⟩) | (go_at_call 50;(first | (with_reducible refine (HN _).mono ?_) | (with_reducible refine (HX _).mono ?_));rintro e w' ⟨rfl,rfl⟩))
 exact bodyPost_ret (read_row rfl _ _ _ w.heap.size #[.int .i64 0,.int .i64 0,.int .u32 0,.int .u32 0,.int .u64 0,.string .empty] rfl (load_page (six_at R0.out))) rfl ⟨rfl,six_below HB.out (Nat.le_refl _)⟩
theorem rpage9_no5 (size:Int) (n next tx:Nat) (s:ByteArray) (w:World) (hs9:s.size≤1000000) (hg:goodSize size=true) (h1:1≤s.size) (h2:(s.size:Int)≤size-24) (hn:numB n=true) (h0:next≠0) (hnx:numB next=true) (h3 : ¬ size-24≤(s.size:Int)) :
  Calls Tryz.prog 110 #[.int .i64 size,.int .u32 n,.int .u32 next,.int .u64 tx,.string s] w fun e w'=>e=.returned (.tuple #[.agg #[.int .i64 0,.int .i64 0,.int .u32 0,.int .u32 0,.int .u64 0,.string .empty],.int .i64 2])∧Below w.heap.size w w':=by
 obtain⟨hzp,hi⟩:=zero_of_info infoPg
 have HI:=Hd hi
 obtain⟨w0,hw0⟩ : ∃ x,x=w.alloc (.cells #[.int .i64 0,.int .i64 0,.int .u32 0,.int .u32 0,.int .u64 0,.string .empty] 41):=⟨_,rfl⟩
 have R0:=Hd (show Blk w0 w.heap.size 41 #[.int .i64 0,.int .i64 0,.int .u32 0,.int .u32 0,.int .u64 0,.string .empty] by rw[hw0];exact Blk.new _ _ _)
 have HB:=Hd (show Below w.heap.size w w0 by rw[hw0];exact (Below.refl _ _).alloc (Nat.le_refl _) _)
 obtain⟨z,rfl,hz1,hz2,_⟩:=good_nat hg
 obtain⟨r,hr⟩ : ∃ r,r=z-24:=⟨_,rfl⟩
 have HM : ∀ w:World,Calls Tryz.prog 49 #[.int .i64 z] w fun e w'=>e=.returned (.int .i64 (r:Int))∧w=w':=fun w=>by
  have h:=rroom_yes z w hg
  rwa [show (z:Int)-24=(r:Int) by omega] at h
 have hr0:((r:Int)==0)=false:=by simp;omega
 have hem:s.toList.isEmpty=false:=by
  rw[Bool.eq_false_iff];intro h;rw[List.isEmpty_iff_length_eq_zero,ByteArray.toList_eq,size_list] at h;omega
 have hem2 : ¬ s.toList=[]:=fun h=>by rw[h] at hem;simp at hem
 have hlo:decide ((r:Int)<(s.size:Int))=false:=by simp;omega
 have hlo2:decide (r<s.size)=false:=by simp;omega
 have HN:=fun w=>(rnumB_any n w).mono (R':=fun e w'=>e=.returned (.bool (numB n))∧w=w') fun _ _ ⟨a,b⟩=>⟨a,b.symm⟩
 rw[hn] at HN
 have HX:=fun w=>(rnumB_any next w).mono (R':=fun e w'=>e=.returned (.bool (numB next))∧w=w') fun _ _ ⟨a,b⟩=>⟨a,b.symm⟩
 rw[hnx] at HX
 have hx0:((next:Int) != 0)=true:=by simp;omega
 have hx1:(next != 0)=true:=by simp;omega
 have hx2:((next:Int)==0)=false:=by simp;omega
 have hsh:decide ((s.size:Int)<(r:Int))=true:=by simp;omega
 have hsh2:decide (s.size<r)=true:=by simp;omega
 clear hg hr hz1 hz2 h1 h2 hn h0 hnx h3
 clear hi
 go_enter Tryz.func110,Tryz.ntmps110
 go_upto_region 1 with fail
 rw[← hw0]
 clear hw0
 have k0:=R0.out.cell 0
 have k1:=R0.out.cell 1
 have k2:=R0.out.cell 2
 have k3:=R0.out.cell 3
 have k4:=R0.out.cell 4
 have k5:=R0.out.cell 5
 have f0:=R0.out.frozen 0
 have f1:=R0.out.frozen 1
 have f2:=R0.out.frozen 2
 have f3:=R0.out.frozen 3
 have f4:=R0.out.frozen 4
 have f5:=R0.out.frozen 5
 simp at k0 k1 k2 k3 k4 k5
 go_wp2_with (first | (go_at_call 49;refine (HM _).mono ?_;rintro e w' ⟨rfl,rfl⟩) | (go_at_call 50;(first | (with_reducible refine (HN _).mono ?_) | (with_reducible refine (HX _).mono ?_));rintro e w' ⟨rfl,rfl⟩))
 exact bodyPost_ret (read_row rfl _ _ _ w.heap.size #[.int .i64 0,.int .i64 0,.int .u32 0,.int .u32 0,.int .u64 0,.string .empty] rfl (load_page (six_at R0.out))) rfl ⟨rfl,six_below HB.out (Nat.le_refl _)⟩
theorem rpage9_no6 (size:Int) (n next tx:Nat) (s:ByteArray) (w:World) (hs9:s.size≤1000000) (hg:goodSize size=true) (h1:1≤s.size) (h2:(s.size:Int)≤size-24) (hn:numB n=true) (h0:next=0) (h4 : ¬ tx≤4611686018427387904) :
  Calls Tryz.prog 110 #[.int .i64 size,.int .u32 n,.int .u32 next,.int .u64 tx,.string s] w fun e w'=>e=.returned (.tuple #[.agg #[.int .i64 0,.int .i64 0,.int .u32 0,.int .u32 0,.int .u64 0,.string .empty],.int .i64 2])∧Below w.heap.size w w':=by
 obtain⟨hzp,hi⟩:=zero_of_info infoPg
 have HI:=Hd hi
 obtain⟨w0,hw0⟩ : ∃ x,x=w.alloc (.cells #[.int .i64 0,.int .i64 0,.int .u32 0,.int .u32 0,.int .u64 0,.string .empty] 41):=⟨_,rfl⟩
 have R0:=Hd (show Blk w0 w.heap.size 41 #[.int .i64 0,.int .i64 0,.int .u32 0,.int .u32 0,.int .u64 0,.string .empty] by rw[hw0];exact Blk.new _ _ _)
 have HB:=Hd (show Below w.heap.size w w0 by rw[hw0];exact (Below.refl _ _).alloc (Nat.le_refl _) _)
 obtain⟨z,rfl,hz1,hz2,_⟩:=good_nat hg
 obtain⟨r,hr⟩ : ∃ r,r=z-24:=⟨_,rfl⟩
 have HM : ∀ w:World,Calls Tryz.prog 49 #[.int .i64 z] w fun e w'=>e=.returned (.int .i64 (r:Int))∧w=w':=fun w=>by
  have h:=rroom_yes z w hg
  rwa [show (z:Int)-24=(r:Int) by omega] at h
 have hr0:((r:Int)==0)=false:=by simp;omega
 have hem:s.toList.isEmpty=false:=by
  rw[Bool.eq_false_iff];intro h;rw[List.isEmpty_iff_length_eq_zero,ByteArray.toList_eq,size_list] at h;omega
 have hem2 : ¬ s.toList=[]:=fun h=>by rw[h] at hem;simp at hem
 have hlo:decide ((r:Int)<(s.size:Int))=false:=by simp;omega
 have hlo2:decide (r<s.size)=false:=by simp;omega
 have HN:=fun w=>(rnumB_any n w).mono (R':=fun e w'=>e=.returned (.bool (numB n))∧w=w') fun _ _ ⟨a,b⟩=>⟨a,b.symm⟩
 rw[hn] at HN
 have hx0:((next:Int) != 0)=false:=by simp;omega
 have hx1:(next != 0)=false:=by simp;omega
 have hx2:((next:Int)==0)=true:=by simp;omega
 have htx:decide ((4611686018427387904:Int)<tx)=true:=by simp;omega
 clear hg hr hz1 hz2 h1 h2 hn h0 h4
 clear hi
 go_enter Tryz.func110,Tryz.ntmps110
 go_upto_region 1 with fail
 rw[← hw0]
 clear hw0
 have k0:=R0.out.cell 0
 have k1:=R0.out.cell 1
 have k2:=R0.out.cell 2
 have k3:=R0.out.cell 3
 have k4:=R0.out.cell 4
 have k5:=R0.out.cell 5
 have f0:=R0.out.frozen 0
 have f1:=R0.out.frozen 1
 have f2:=R0.out.frozen 2
 have f3:=R0.out.frozen 3
 have f4:=R0.out.frozen 4
 have f5:=R0.out.frozen 5
 simp at k0 k1 k2 k3 k4 k5
 go_wp2_with (first | (go_at_call 49;refine (HM _).mono ?_;rintro e w' ⟨rfl,rfl⟩) | (go_at_call 50;with_reducible refine (HN _).mono ?_;rintro e w' ⟨rfl,rfl⟩))
 exact bodyPost_ret (read_row rfl _ _ _ w.heap.size #[.int .i64 0,.int .i64 0,.int .u32 0,.int .u32 0,.int .u64 0,.string .empty] rfl (load_page (six_at R0.out))) rfl ⟨rfl,six_below HB.out (Nat.le_refl _)⟩
theorem rpage9_no7 (size:Int) (n next tx:Nat) (s:ByteArray) (w:World) (hs9:s.size≤1000000) (hg:goodSize size=true) (h1:1≤s.size) (h2:(s.size:Int)≤size-24) (hn:numB n=true) (h0:next≠0) (hnx:numB next=true) (h3:size-24≤(s.size:Int)) (h4 : ¬ tx≤4611686018427387904) :
  Calls Tryz.prog 110 #[.int .i64 size,.int .u32 n,.int .u32 next,.int .u64 tx,.string s] w fun e w'=>e=.returned (.tuple #[.agg #[.int .i64 0,.int .i64 0,.int .u32 0,.int .u32 0,.int .u64 0,.string .empty],.int .i64 2])∧Below w.heap.size w w':=by
 obtain⟨hzp,hi⟩:=zero_of_info infoPg
 have HI:=Hd hi
 obtain⟨w0,hw0⟩ : ∃ x,x=w.alloc (.cells #[.int .i64 0,.int .i64 0,.int .u32 0,.int .u32 0,.int .u64 0,.string .empty] 41):=⟨_,rfl⟩
 have R0:=Hd (show Blk w0 w.heap.size 41 #[.int .i64 0,.int .i64 0,.int .u32 0,.int .u32 0,.int .u64 0,.string .empty] by rw[hw0];exact Blk.new _ _ _)
 have HB:=Hd (show Below w.heap.size w w0 by rw[hw0];exact (Below.refl _ _).alloc (Nat.le_refl _) _)
 obtain⟨z,rfl,hz1,hz2,_⟩:=good_nat hg
 obtain⟨r,hr⟩ : ∃ r,r=z-24:=⟨_,rfl⟩
 have HM : ∀ w:World,Calls Tryz.prog 49 #[.int .i64 z] w fun e w'=>e=.returned (.int .i64 (r:Int))∧w=w':=fun w=>by
  have h:=rroom_yes z w hg
  rwa [show (z:Int)-24=(r:Int) by omega] at h
 have hr0:((r:Int)==0)=false:=by simp;omega
 have hem:s.toList.isEmpty=false:=by
  rw[Bool.eq_false_iff];intro h;rw[List.isEmpty_iff_length_eq_zero,ByteArray.toList_eq,size_list] at h;omega
 have hem2 : ¬ s.toList=[]:=fun h=>by rw[h] at hem;simp at hem
 have hlo:decide ((r:Int)<(s.size:Int))=false:=by simp;omega
 have hlo2:decide (r<s.size)=false:=by simp;omega
 have HN:=fun w=>(rnumB_any n w).mono (R':=fun e w'=>e=.returned (.bool (numB n))∧w=w') fun _ _ ⟨a,b⟩=>⟨a,b.symm⟩
 rw[hn] at HN
 have HX:=fun w=>(rnumB_any next w).mono (R':=fun e w'=>e=.returned (.bool (numB next))∧w=w') fun _ _ ⟨a,b⟩=>⟨a,b.symm⟩
 rw[hnx] at HX
 have hx0:((next:Int) != 0)=true:=by simp;omega
 have hx1:(next != 0)=true:=by simp;omega
 have hx2:((next:Int)==0)=false:=by simp;omega
 have hsh:decide ((s.size:Int)<(r:Int))=false:=by simp;omega
 have hsh2:decide (s.size<r)=false:=by simp;omega
 have htx:decide ((4611686018427387904:Int)<tx)=true:=by simp;omega
 clear hg hr hz1 hz2 h1 h2 hn h0 hnx h3 h4
 clear hi
 go_enter Tryz.func110,Tryz.ntmps110
 go_upto_region 1 with fail
 rw[← hw0]
 clear hw0
 have k0:=R0.out.cell 0
 have k1:=R0.out.cell 1
 have k2:=R0.out.cell 2
 have k3:=R0.out.cell 3
 have k4:=R0.out.cell 4
 have k5:=R0.out.cell 5
 have f0:=R0.out.frozen 0
 have f1:=R0.out.frozen 1
 have f2:=R0.out.frozen 2
 have f3:=R0.out.frozen 3
 have f4:=R0.out.frozen 4
 have f5:=R0.out.frozen 5
 simp at k0 k1 k2 k3 k4 k5
 go_wp2_with (first | (go_at_call 49;refine (HM _).mono ?_;rintro e w' ⟨rfl,rfl⟩) | (go_at_call 50;(first | (with_reducible refine (HN _).mono ?_) | (with_reducible refine (HX _).mono ?_));rintro e w' ⟨rfl,rfl⟩))
 exact bodyPost_ret (read_row rfl _ _ _ w.heap.size #[.int .i64 0,.int .i64 0,.int .u32 0,.int .u32 0,.int .u64 0,.string .empty] rfl (load_page (six_at R0.out))) rfl ⟨rfl,six_below HB.out (Nat.le_refl _)⟩
theorem rpage9_no (size:Int) (n next tx:Nat) (s:ByteArray) (w:World) (hs9:s.size≤1000000) (h:mayP9 size n next tx s=false) :
  Calls Tryz.prog 110 #[.int .i64 size,.int .u32 n,.int .u32 next,.int .u64 tx,.string s] w fun e w'=>e=.returned (.tuple #[.agg #[.int .i64 0,.int .i64 0,.int .u32 0,.int .u32 0,.int .u64 0,.string .empty],.int .i64 2])∧Below w.heap.size w w':=by
 rcases hg:goodSize size with _ | _
 ·exact rpage9_no0 size n next tx s w hs9 hg
 by_cases h1:1≤s.size
 rotate_left
 ·exact rpage9_no1 size n next tx s w hs9 hg (by omega)
 by_cases h2:(s.size:Int)≤size-24
 rotate_left
 ·exact rpage9_no2 size n next tx s w hs9 hg h1 h2
 rcases hn:numB n with _ | _
 ·exact rpage9_no3 size n next tx s w hs9 hg h1 h2 hn
 by_cases h0:next=0
 ·by_cases h4:tx≤4611686018427387904
  ·exfalso
   rw[mayP9,hg,hn,decide_eq_true h1,decide_eq_true h2,decide_eq_true h0,decide_eq_true h4] at h
   cases h
  ·exact rpage9_no6 size n next tx s w hs9 hg h1 h2 hn h0 h4
 ·rcases hnx:numB next with _ | _
  ·exact rpage9_no4 size n next tx s w hs9 hg h1 h2 hn h0 hnx
  by_cases h3:size-24≤(s.size:Int)
  rotate_left
  ·exact rpage9_no5 size n next tx s w hs9 hg h1 h2 hn h0 hnx h3
  by_cases h4:tx≤4611686018427387904
  ·exfalso
   rw[mayP9,hg,hn,hnx,decide_eq_true h1,decide_eq_true h2,decide_eq_true h3,decide_eq_true h4] at h
   simp at h
  ·exact rpage9_no7 size n next tx s w hs9 hg h1 h2 hn h0 hnx h3 h4
theorem rpage9_yesa (z n next tx:Nat) (s B:ByteArray) (w:World) (hg:goodSize z=true) (h1:1≤s.size) (h2:s.size≤z-24) (hn:numB n=true) (h4:tx≤4611686018427387904) (hB:B=overBody z s) (h0:next=0) :
  Calls Tryz.prog 110 #[.int .i64 z,.int .u32 n,.int .u32 next,.int .u64 tx,.string s] w fun e w'=>e=.returned (.tuple #[.agg #[.int .i64 5,.int .i64 s.size,.int .u32 n,.int .u32 next,.int .u64 tx,.string B],.int .i64 0])∧Below w.heap.size w w':=by
 have hgp:=good_pos hg
 obtain⟨r,hr⟩ : ∃ r,r=z-24:=⟨_,rfl⟩
 have HM : ∀ w:World,Calls Tryz.prog 49 #[.int .i64 z] w fun e w'=>e=.returned (.int .i64 (r:Int))∧w=w':=fun w=>by
  have h:=rroom_yes z w hg
  rwa [show (z:Int)-24=(r:Int) by omega] at h
 have hr0:((r:Int)==0)=false:=by simp;omega
 have HBd:=fun (A:Option Addr) (c:Nat) (w:World) (hr:Reads w w.heap.size 1 A s.data.toList.length (bcells s.data.toList))=>rbody_ok z A s.data.toList.length c s.data.toList B w hg hr (by rw[size_list];exact h2) (by rw[hB,size_list];rfl)
 rw[size_list] at HBd
 have hem:s.toList.isEmpty=false:=by
  rw[Bool.eq_false_iff];intro h;rw[List.isEmpty_iff_length_eq_zero,ByteArray.toList_eq,size_list] at h;omega
 have hem2 : ¬ s.toList=[]:=fun h=>by rw[h] at hem;simp at hem
 have hlo:decide ((r:Int)<(s.size:Int))=false:=by simp;omega
 have hlo2:decide (r<s.size)=false:=by simp;omega
 have HN:=fun w=>(rnumB_any n w).mono (R':=fun e w'=>e=.returned (.bool (numB n))∧w=w') fun _ _ ⟨a,b⟩=>⟨a,b.symm⟩
 rw[hn] at HN
 have htx:decide ((4611686018427387904:Int)<tx)=false:=by simp;omega
 have hx0:((next:Int) != 0)=false:=by simp;omega
 have hx1:(next != 0)=false:=by simp;omega
 have hx2:((next:Int)==0)=true:=by simp;omega
 clear h0
 have hcv0:=fun w=>run_bytes_of_string (P:=Tryz.prog) w 9 102 5 s Tryz.underlying9 Tryz.underlying102 Tryz.underlying5
 obtain⟨hzp,hi⟩:=zero_of_info infoPg
 have HI:=Hd hi
 obtain⟨w0,hw0⟩ : ∃ x,x=w.alloc (.cells #[.int .i64 0,.int .i64 0,.int .u32 0,.int .u32 0,.int .u64 0,.string .empty] 41):=⟨_,rfl⟩
 have R0:=Hd (show Blk w0 w.heap.size 41 #[.int .i64 0,.int .i64 0,.int .u32 0,.int .u32 0,.int .u64 0,.string .empty] by rw[hw0];exact Blk.new _ _ _)
 have HB:=Hd (show Below w.heap.size w w0 by rw[hw0];exact (Below.refl _ _).alloc (Nat.le_refl _) _)
 clear hi hg h1 h2 hn h4 hB hgp hr
 go_enter Tryz.func110,Tryz.ntmps110
 go_upto_region 1 with fail
 rw[← hw0]
 clear hw0
 have r0:=MRow.of_bytes w0 5 s (grownCap w0 s.size 0 5)
 have RB:=Hd (show Blk ((w0.alloc (.cells (bytesRow s (grownCap w0 s.size 0 5)) 5 ((bytesRow s (grownCap w0 s.size 0 5)).size,(bytesRow s (grownCap w0 s.size 0 5)).size+1))).drew) w.heap.size 41 #[.int .i64 0,.int .i64 0,.int .u32 0,.int .u32 0,.int .u64 0,.string .empty] from (R0.out.alloc _).drew)
 have HBB:=Hd (show Below w.heap.size w ((w0.alloc (.cells (bytesRow s (grownCap w0 s.size 0 5)) 5 ((bytesRow s (grownCap w0 s.size 0 5)).size,(bytesRow s (grownCap w0 s.size 0 5)).size+1))).drew) from (HB.out.alloc HB.out.size _).drew)
 have RR:=Hd (show MRow (w0.alloc (.cells (bytesRow s (grownCap w0 s.size 0 5)) 5 ((bytesRow s (grownCap w0 s.size 0 5)).size,(bytesRow s (grownCap w0 s.size 0 5)).size+1))).drew w0.heap.size s.data.toList from r0)
 clear r0 R0 HB
 go_wp2_with (first | (go_at_call 49;refine (HM _).mono ?_;rintro e w' ⟨rfl,rfl⟩) | (go_at_call 50;with_reducible refine (HN _).mono ?_;rintro e w' ⟨rfl,rfl⟩))
 generalize grownCap w0 s.size 0 5=cap at *
 obtain⟨w1,hw1⟩ : ∃ w1,w1=(w0.alloc (.cells (bytesRow s cap) 5 ((bytesRow s cap).size,(bytesRow s cap).size+1))).drew:=⟨_,rfl⟩
 rw[← hw1] at RB HBB RR ⊢
 clear hw1 hcv0
 refine (HBd (some ⟨w0.heap.size,0,none⟩) _ _ (by have h:=RR.out.reads;rwa [size_list] at h)).mono ?_
 rintro e w2 ⟨rfl,hb⟩
 have R0:=Hd (RB.out.below hb RB.out.lt)
 have HB:=Hd (HBB.out.trans (hb.mono HBB.out.size))
 clear hb RB HBB RR HBd
 have k0:=R0.out.cell 0
 have k1:=R0.out.cell 1
 have k2:=R0.out.cell 2
 have k3:=R0.out.cell 3
 have k4:=R0.out.cell 4
 have k5:=R0.out.cell 5
 have f0:=R0.out.frozen 0
 have f1:=R0.out.frozen 1
 have f2:=R0.out.frozen 2
 have f3:=R0.out.frozen 3
 have f4:=R0.out.frozen 4
 have f5:=R0.out.frozen 5
 simp at k0 k1 k2 k3 k4 k5
 go_wp2_with fail
 exact bodyPost_ret (read_row rfl _ _ _ w.heap.size #[.int .i64 5,.int .i64 s.size,.int .u32 n,.int .u32 next,.int .u64 tx,.string B] rfl (load_page (six_at R0.out))) rfl ⟨rfl,six_below HB.out (Nat.le_refl _)⟩
theorem rpage9_yesb (z n next tx:Nat) (s B:ByteArray) (w:World) (hg:goodSize z=true) (h1:1≤s.size) (h2:s.size≤z-24) (hn:numB n=true) (h4:tx≤4611686018427387904) (hB:B=overBody z s) (h0:next≠0) (hnx:numB next=true) (h3:(z:Int)-24≤(s.size:Int)) :
  Calls Tryz.prog 110 #[.int .i64 z,.int .u32 n,.int .u32 next,.int .u64 tx,.string s] w fun e w'=>e=.returned (.tuple #[.agg #[.int .i64 5,.int .i64 s.size,.int .u32 n,.int .u32 next,.int .u64 tx,.string B],.int .i64 0])∧Below w.heap.size w w':=by
 have hgp:=good_pos hg
 obtain⟨r,hr⟩ : ∃ r,r=z-24:=⟨_,rfl⟩
 have HM : ∀ w:World,Calls Tryz.prog 49 #[.int .i64 z] w fun e w'=>e=.returned (.int .i64 (r:Int))∧w=w':=fun w=>by
  have h:=rroom_yes z w hg
  rwa [show (z:Int)-24=(r:Int) by omega] at h
 have hr0:((r:Int)==0)=false:=by simp;omega
 have HBd:=fun (A:Option Addr) (c:Nat) (w:World) (hr:Reads w w.heap.size 1 A s.data.toList.length (bcells s.data.toList))=>rbody_ok z A s.data.toList.length c s.data.toList B w hg hr (by rw[size_list];exact h2) (by rw[hB,size_list];rfl)
 rw[size_list] at HBd
 have hem:s.toList.isEmpty=false:=by
  rw[Bool.eq_false_iff];intro h;rw[List.isEmpty_iff_length_eq_zero,ByteArray.toList_eq,size_list] at h;omega
 have hem2 : ¬ s.toList=[]:=fun h=>by rw[h] at hem;simp at hem
 have hlo:decide ((r:Int)<(s.size:Int))=false:=by simp;omega
 have hlo2:decide (r<s.size)=false:=by simp;omega
 have HN:=fun w=>(rnumB_any n w).mono (R':=fun e w'=>e=.returned (.bool (numB n))∧w=w') fun _ _ ⟨a,b⟩=>⟨a,b.symm⟩
 rw[hn] at HN
 have htx:decide ((4611686018427387904:Int)<tx)=false:=by simp;omega
 have HX:=fun w=>(rnumB_any next w).mono (R':=fun e w'=>e=.returned (.bool (numB next))∧w=w') fun _ _ ⟨a,b⟩=>⟨a,b.symm⟩
 rw[hnx] at HX
 have hx0:((next:Int) != 0)=true:=by simp;omega
 have hx1:(next != 0)=true:=by simp;omega
 have hx2:((next:Int)==0)=false:=by simp;omega
 have hsh:decide ((s.size:Int)<(r:Int))=false:=by simp;omega
 have hsh2:decide (s.size<r)=false:=by simp;omega
 clear h0 hnx h3
 have hcv0:=fun w=>run_bytes_of_string (P:=Tryz.prog) w 9 102 5 s Tryz.underlying9 Tryz.underlying102 Tryz.underlying5
 obtain⟨hzp,hi⟩:=zero_of_info infoPg
 have HI:=Hd hi
 obtain⟨w0,hw0⟩ : ∃ x,x=w.alloc (.cells #[.int .i64 0,.int .i64 0,.int .u32 0,.int .u32 0,.int .u64 0,.string .empty] 41):=⟨_,rfl⟩
 have R0:=Hd (show Blk w0 w.heap.size 41 #[.int .i64 0,.int .i64 0,.int .u32 0,.int .u32 0,.int .u64 0,.string .empty] by rw[hw0];exact Blk.new _ _ _)
 have HB:=Hd (show Below w.heap.size w w0 by rw[hw0];exact (Below.refl _ _).alloc (Nat.le_refl _) _)
 clear hi hg h1 h2 hn h4 hB hgp hr
 go_enter Tryz.func110,Tryz.ntmps110
 go_upto_region 1 with fail
 rw[← hw0]
 clear hw0
 have r0:=MRow.of_bytes w0 5 s (grownCap w0 s.size 0 5)
 have RB:=Hd (show Blk ((w0.alloc (.cells (bytesRow s (grownCap w0 s.size 0 5)) 5 ((bytesRow s (grownCap w0 s.size 0 5)).size,(bytesRow s (grownCap w0 s.size 0 5)).size+1))).drew) w.heap.size 41 #[.int .i64 0,.int .i64 0,.int .u32 0,.int .u32 0,.int .u64 0,.string .empty] from (R0.out.alloc _).drew)
 have HBB:=Hd (show Below w.heap.size w ((w0.alloc (.cells (bytesRow s (grownCap w0 s.size 0 5)) 5 ((bytesRow s (grownCap w0 s.size 0 5)).size,(bytesRow s (grownCap w0 s.size 0 5)).size+1))).drew) from (HB.out.alloc HB.out.size _).drew)
 have RR:=Hd (show MRow (w0.alloc (.cells (bytesRow s (grownCap w0 s.size 0 5)) 5 ((bytesRow s (grownCap w0 s.size 0 5)).size,(bytesRow s (grownCap w0 s.size 0 5)).size+1))).drew w0.heap.size s.data.toList from r0)
 clear r0 R0 HB
 go_wp2_with (first | (go_at_call 49;refine (HM _).mono ?_;rintro e w' ⟨rfl,rfl⟩) | (go_at_call 50;(first | (with_reducible refine (HN _).mono ?_) | (with_reducible refine (HX _).mono ?_));rintro e w' ⟨rfl,rfl⟩))
 generalize grownCap w0 s.size 0 5=cap at *
 obtain⟨w1,hw1⟩ : ∃ w1,w1=(w0.alloc (.cells (bytesRow s cap) 5 ((bytesRow s cap).size,(bytesRow s cap).size+1))).drew:=⟨_,rfl⟩
 rw[← hw1] at RB HBB RR ⊢
 clear hw1 hcv0
 refine (HBd (some ⟨w0.heap.size,0,none⟩) _ _ (by have h:=RR.out.reads;rwa [size_list] at h)).mono ?_
 rintro e w2 ⟨rfl,hb⟩
 have R0:=Hd (RB.out.below hb RB.out.lt)
 have HB:=Hd (HBB.out.trans (hb.mono HBB.out.size))
 clear hb RB HBB RR HBd
 have k0:=R0.out.cell 0
 have k1:=R0.out.cell 1
 have k2:=R0.out.cell 2
 have k3:=R0.out.cell 3
 have k4:=R0.out.cell 4
 have k5:=R0.out.cell 5
 have f0:=R0.out.frozen 0
 have f1:=R0.out.frozen 1
 have f2:=R0.out.frozen 2
 have f3:=R0.out.frozen 3
 have f4:=R0.out.frozen 4
 have f5:=R0.out.frozen 5
 simp at k0 k1 k2 k3 k4 k5
 go_wp2_with fail
 exact bodyPost_ret (read_row rfl _ _ _ w.heap.size #[.int .i64 5,.int .i64 s.size,.int .u32 n,.int .u32 next,.int .u64 tx,.string B] rfl (load_page (six_at R0.out))) rfl ⟨rfl,six_below HB.out (Nat.le_refl _)⟩
theorem rpage9_yes (z n next tx:Nat) (s:ByteArray) (w:World) (h:mayP9 z n next tx s=true) :
  Calls Tryz.prog 110 #[.int .i64 z,.int .u32 n,.int .u32 next,.int .u64 tx,.string s] w fun e w'=>e=.returned (.tuple #[.agg #[.int .i64 5,.int .i64 s.size,.int .u32 n,.int .u32 next,.int .u64 tx,.string (overBody z s)],.int .i64 0])∧Below w.heap.size w w':=by
 obtain⟨hg,h1,h2,hn,h5,h4⟩:=mayP9_parts h
 by_cases h0:next=0
 ·exact rpage9_yesa z n next tx s _ w hg h1 h2.1 hn h4 rfl h0
 ·rcases h5 with h5 | ⟨h5,h6⟩
  ·exact absurd h5 h0
  ·exact rpage9_yesb z n next tx s _ w hg h1 h2.1 hn h4 rfl h0 h5 (by omega)
end Go.Proofs.YtanbbnogdhnikaaGreat

