/-
  Contracts of over.Page: the page of a part. (Written by wip/tools/gen_ovpage.py.)
-/
import Derived.Test.YtanbbnogdhnikaaGreatJ9
import Derived.Test.YtanbbnogdhnikaaGreatJ6
set_option linter.unusedVariables false
set_option linter.unusedSimpArgs false
set_option maxRecDepth 300000
set_option maxHeartbeats 25600000
namespace Go.Proofs.YtanbbnogdhnikaaGreat
open Go.RowKit
open Go.Lib hiding intOf
attribute [local go_sem ↓] Go.wp_at_zero Go.wp_at_succ

theorem opage9_A1 (size r:Int) (HM : ∀ w:World,Calls Tryz.prog 122 #[.int .i64 size] w fun e w'=>e=.returned (.int .i64 r)∧w'=w) (n next tx:Nat) (s:ByteArray) (w:World) (h0:next=0) (h1:s.size=0) :
  Calls Tryz.prog 127 #[.int .i64 size,.int .u32 n,.int .u32 next,.int .u64 tx,.string s] w fun e w'=>e=.returned (.tuple #[.agg #[.int .i64 0,.int .i64 0,.int .u32 0,.int .u32 0,.int .u64 0,.string .empty],.int .i64 2])∧Below w.heap.size w w':=by
 have hx1:(next==0)=true:=by simp;omega
 have hx2:((next:Int)==0)=true:=by simp;omega
 clear h0
 have hc1:decide ((1:Int)≤(s.size:Int))=false:=by simp;omega
 have hc1b:decide (1≤s.size)=false:=decide_eq_false (by omega)
 have hc1c : ¬ (1:Int)≤(s.size:Int):=by omega
 clear h1
 obtain⟨hzp,hi⟩:=zero_of_info infoPg
 have HI:=Hd hi
 obtain⟨w0,hw0⟩ : ∃ x,x=w.alloc (.cells #[.int .i64 0,.int .i64 0,.int .u32 0,.int .u32 0,.int .u64 0,.string .empty] 41):=⟨_,rfl⟩
 have R0:=Hd (show Blk w0 w.heap.size 41 #[.int .i64 0,.int .i64 0,.int .u32 0,.int .u32 0,.int .u64 0,.string .empty] by rw[hw0];exact Blk.new _ _ _)
 have HB:=Hd (show Below w.heap.size w w0 by rw[hw0];exact (Below.refl _ _).alloc (Nat.le_refl _) _)
 clear hi
 go_enter Tryz.func127,Tryz.ntmps127
 go_upto_region 1 with fail
 rw[← hw0]
 clear hw0
 have k0:=R0.out.cell 0
 have k1:=R0.out.cell 1
 have k2:=R0.out.cell 2
 have k3:=R0.out.cell 3
 have k4:=R0.out.cell 4
 have k5:=R0.out.cell 5
 have f0:=R0.out.frozen 0
 have f1:=R0.out.frozen 1
 have f2:=R0.out.frozen 2
 have f3:=R0.out.frozen 3
 have f4:=R0.out.frozen 4
 have f5:=R0.out.frozen 5
 simp at k0 k1 k2 k3 k4 k5
 go_wp2_with (go_at_call 122;refine (HM _).mono ?_;rintro e w' ⟨rfl,rfl⟩)
 exact bodyPost_ret (read_row rfl _ _ _ w.heap.size #[.int .i64 0,.int .i64 0,.int .u32 0,.int .u32 0,.int .u64 0,.string .empty] rfl (load_page (six_at R0.out))) rfl ⟨rfl,six_below HB.out (Nat.le_refl _)⟩
theorem opage9_A2 (size r:Int) (HM : ∀ w:World,Calls Tryz.prog 122 #[.int .i64 size] w fun e w'=>e=.returned (.int .i64 r)∧w'=w) (n next tx:Nat) (s:ByteArray) (w:World) (h0:next=0) (h1:1≤s.size) (h2 : ¬ (s.size:Int)≤r) :
  Calls Tryz.prog 127 #[.int .i64 size,.int .u32 n,.int .u32 next,.int .u64 tx,.string s] w fun e w'=>e=.returned (.tuple #[.agg #[.int .i64 0,.int .i64 0,.int .u32 0,.int .u32 0,.int .u64 0,.string .empty],.int .i64 2])∧Below w.heap.size w w':=by
 have hx1:(next==0)=true:=by simp;omega
 have hx2:((next:Int)==0)=true:=by simp;omega
 clear h0
 have hc1:decide ((1:Int)≤(s.size:Int))=true:=by simp;omega
 have hc1b:decide (1≤s.size)=true:=decide_eq_true (by omega)
 have hc1c:(1:Int)≤(s.size:Int):=by omega
 have hc2:decide ((s.size:Int)≤r)=false:=by simp;omega
 have hc2c : ¬ (s.size:Int)≤r:=by omega
 clear h1 h2
 obtain⟨hzp,hi⟩:=zero_of_info infoPg
 have HI:=Hd hi
 obtain⟨w0,hw0⟩ : ∃ x,x=w.alloc (.cells #[.int .i64 0,.int .i64 0,.int .u32 0,.int .u32 0,.int .u64 0,.string .empty] 41):=⟨_,rfl⟩
 have R0:=Hd (show Blk w0 w.heap.size 41 #[.int .i64 0,.int .i64 0,.int .u32 0,.int .u32 0,.int .u64 0,.string .empty] by rw[hw0];exact Blk.new _ _ _)
 have HB:=Hd (show Below w.heap.size w w0 by rw[hw0];exact (Below.refl _ _).alloc (Nat.le_refl _) _)
 clear hi
 go_enter Tryz.func127,Tryz.ntmps127
 go_upto_region 1 with fail
 rw[← hw0]
 clear hw0
 have k0:=R0.out.cell 0
 have k1:=R0.out.cell 1
 have k2:=R0.out.cell 2
 have k3:=R0.out.cell 3
 have k4:=R0.out.cell 4
 have k5:=R0.out.cell 5
 have f0:=R0.out.frozen 0
 have f1:=R0.out.frozen 1
 have f2:=R0.out.frozen 2
 have f3:=R0.out.frozen 3
 have f4:=R0.out.frozen 4
 have f5:=R0.out.frozen 5
 simp at k0 k1 k2 k3 k4 k5
 go_wp2_with (go_at_call 122;refine (HM _).mono ?_;rintro e w' ⟨rfl,rfl⟩)
 exact bodyPost_ret (read_row rfl _ _ _ w.heap.size #[.int .i64 0,.int .i64 0,.int .u32 0,.int .u32 0,.int .u64 0,.string .empty] rfl (load_page (six_at R0.out))) rfl ⟨rfl,six_below HB.out (Nat.le_refl _)⟩
theorem opage9_A36 (size r:Int) (HM : ∀ w:World,Calls Tryz.prog 122 #[.int .i64 size] w fun e w'=>e=.returned (.int .i64 r)∧w'=w) (n next tx:Nat) (s:ByteArray) (w:World) (h0:next=0) (h1:1≤s.size) (h2:(s.size:Int)≤r) (hn:numB n=false) :
  Calls Tryz.prog 127 #[.int .i64 size,.int .u32 n,.int .u32 next,.int .u64 tx,.string s] w fun e w'=>e=.returned (.tuple #[.agg #[.int .i64 0,.int .i64 0,.int .u32 0,.int .u32 0,.int .u64 0,.string .empty],.int .i64 2])∧Below w.heap.size w w':=by
 have hx1:(next==0)=true:=by simp;omega
 have hx2:((next:Int)==0)=true:=by simp;omega
 clear h0
 have hc1:decide ((1:Int)≤(s.size:Int))=true:=by simp;omega
 have hc1b:decide (1≤s.size)=true:=decide_eq_true (by omega)
 have hc1c:(1:Int)≤(s.size:Int):=by omega
 have hc2:decide ((s.size:Int)≤r)=true:=by simp;omega
 have hc2c:(s.size:Int)≤r:=by omega
 clear h1 h2
 have HN:=fun w=>(onum_any n w).mono (R':=fun e w'=>e=.returned (.bool (numB n))∧w=w') fun _ _ ⟨a,b⟩=>⟨a,b.symm⟩
 rw[hn] at HN
 clear hn
 obtain⟨hzp,hi⟩:=zero_of_info infoPg
 have HI:=Hd hi
 obtain⟨w0,hw0⟩ : ∃ x,x=w.alloc (.cells #[.int .i64 0,.int .i64 0,.int .u32 0,.int .u32 0,.int .u64 0,.string .empty] 41):=⟨_,rfl⟩
 have R0:=Hd (show Blk w0 w.heap.size 41 #[.int .i64 0,.int .i64 0,.int .u32 0,.int .u32 0,.int .u64 0,.string .empty] by rw[hw0];exact Blk.new _ _ _)
 have HB:=Hd (show Below w.heap.size w w0 by rw[hw0];exact (Below.refl _ _).alloc (Nat.le_refl _) _)
 clear hi
 go_enter Tryz.func127,Tryz.ntmps127
 go_upto_region 1 with fail
 rw[← hw0]
 clear hw0
 have k0:=R0.out.cell 0
 have k1:=R0.out.cell 1
 have k2:=R0.out.cell 2
 have k3:=R0.out.cell 3
 have k4:=R0.out.cell 4
 have k5:=R0.out.cell 5
 have f0:=R0.out.frozen 0
 have f1:=R0.out.frozen 1
 have f2:=R0.out.frozen 2
 have f3:=R0.out.frozen 3
 have f4:=R0.out.frozen 4
 have f5:=R0.out.frozen 5
 simp at k0 k1 k2 k3 k4 k5
 go_wp2_with (first | (go_at_call 122;refine (HM _).mono ?_;rintro e w' ⟨rfl,rfl⟩) | (go_at_call 149;(first | (with_reducible refine (HN _).mono ?_));rintro e w' ⟨rfl,rfl⟩))
 exact bodyPost_ret (read_row rfl _ _ _ w.heap.size #[.int .i64 0,.int .i64 0,.int .u32 0,.int .u32 0,.int .u64 0,.string .empty] rfl (load_page (six_at R0.out))) rfl ⟨rfl,six_below HB.out (Nat.le_refl _)⟩
theorem opage9_A37 (size r:Int) (HM : ∀ w:World,Calls Tryz.prog 122 #[.int .i64 size] w fun e w'=>e=.returned (.int .i64 r)∧w'=w) (n next tx:Nat) (s:ByteArray) (w:World) (h0:next=0) (h1:1≤s.size) (h2:(s.size:Int)≤r) (hn:numB n=true) (h4 : ¬ tx≤4611686018427387904) :
  Calls Tryz.prog 127 #[.int .i64 size,.int .u32 n,.int .u32 next,.int .u64 tx,.string s] w fun e w'=>e=.returned (.tuple #[.agg #[.int .i64 0,.int .i64 0,.int .u32 0,.int .u32 0,.int .u64 0,.string .empty],.int .i64 2])∧Below w.heap.size w w':=by
 have hx1:(next==0)=true:=by simp;omega
 have hx2:((next:Int)==0)=true:=by simp;omega
 clear h0
 have hc1:decide ((1:Int)≤(s.size:Int))=true:=by simp;omega
 have hc1b:decide (1≤s.size)=true:=decide_eq_true (by omega)
 have hc1c:(1:Int)≤(s.size:Int):=by omega
 have hc2:decide ((s.size:Int)≤r)=true:=by simp;omega
 have hc2c:(s.size:Int)≤r:=by omega
 clear h1 h2
 have HN:=fun w=>(onum_any n w).mono (R':=fun e w'=>e=.returned (.bool (numB n))∧w=w') fun _ _ ⟨a,b⟩=>⟨a,b.symm⟩
 rw[hn] at HN
 have htx:decide ((4611686018427387904:Int)<tx)=true:=by simp;omega
 clear hn h4
 obtain⟨hzp,hi⟩:=zero_of_info infoPg
 have HI:=Hd hi
 obtain⟨w0,hw0⟩ : ∃ x,x=w.alloc (.cells #[.int .i64 0,.int .i64 0,.int .u32 0,.int .u32 0,.int .u64 0,.string .empty] 41):=⟨_,rfl⟩
 have R0:=Hd (show Blk w0 w.heap.size 41 #[.int .i64 0,.int .i64 0,.int .u32 0,.int .u32 0,.int .u64 0,.string .empty] by rw[hw0];exact Blk.new _ _ _)
 have HB:=Hd (show Below w.heap.size w w0 by rw[hw0];exact (Below.refl _ _).alloc (Nat.le_refl _) _)
 clear hi
 go_enter Tryz.func127,Tryz.ntmps127
 go_upto_region 1 with fail
 rw[← hw0]
 clear hw0
 have k0:=R0.out.cell 0
 have k1:=R0.out.cell 1
 have k2:=R0.out.cell 2
 have k3:=R0.out.cell 3
 have k4:=R0.out.cell 4
 have k5:=R0.out.cell 5
 have f0:=R0.out.frozen 0
 have f1:=R0.out.frozen 1
 have f2:=R0.out.frozen 2
 have f3:=R0.out.frozen 3
 have f4:=R0.out.frozen 4
 have f5:=R0.out.frozen 5
 simp at k0 k1 k2 k3 k4 k5
 go_wp2_with (first | (go_at_call 122;refine (HM _).mono ?_;rintro e w' ⟨rfl,rfl⟩) | (go_at_call 149;(first | (with_reducible refine (HN _).mono ?_));rintro e w' ⟨rfl,rfl⟩))
 exact bodyPost_ret (read_row rfl _ _ _ w.heap.size #[.int .i64 0,.int .i64 0,.int .u32 0,.int .u32 0,.int .u64 0,.string .empty] rfl (load_page (six_at R0.out))) rfl ⟨rfl,six_below HB.out (Nat.le_refl _)⟩
theorem opage9_B1 (size r:Int) (HM : ∀ w:World,Calls Tryz.prog 122 #[.int .i64 size] w fun e w'=>e=.returned (.int .i64 r)∧w'=w) (n next tx:Nat) (s:ByteArray) (w:World) (h0:next≠0) (hnx:numB next=false) (h1:s.size=0) :
  Calls Tryz.prog 127 #[.int .i64 size,.int .u32 n,.int .u32 next,.int .u64 tx,.string s] w fun e w'=>e=.returned (.tuple #[.agg #[.int .i64 0,.int .i64 0,.int .u32 0,.int .u32 0,.int .u64 0,.string .empty],.int .i64 2])∧Below w.heap.size w w':=by
 have hx1:(next==0)=false:=by simp;omega
 have hx2:((next:Int)==0)=false:=by simp;omega
 have HX:=fun w=>(onum_any next w).mono (R':=fun e w'=>e=.returned (.bool (numB next))∧w=w') fun _ _ ⟨a,b⟩=>⟨a,b.symm⟩
 rw[hnx] at HX
 clear h0 hnx
 have hc1:decide ((1:Int)≤(s.size:Int))=false:=by simp;omega
 have hc1b:decide (1≤s.size)=false:=decide_eq_false (by omega)
 have hc1c : ¬ (1:Int)≤(s.size:Int):=by omega
 clear h1
 obtain⟨hzp,hi⟩:=zero_of_info infoPg
 have HI:=Hd hi
 obtain⟨w0,hw0⟩ : ∃ x,x=w.alloc (.cells #[.int .i64 0,.int .i64 0,.int .u32 0,.int .u32 0,.int .u64 0,.string .empty] 41):=⟨_,rfl⟩
 have R0:=Hd (show Blk w0 w.heap.size 41 #[.int .i64 0,.int .i64 0,.int .u32 0,.int .u32 0,.int .u64 0,.string .empty] by rw[hw0];exact Blk.new _ _ _)
 have HB:=Hd (show Below w.heap.size w w0 by rw[hw0];exact (Below.refl _ _).alloc (Nat.le_refl _) _)
 clear hi
 go_enter Tryz.func127,Tryz.ntmps127
 go_upto_region 1 with fail
 rw[← hw0]
 clear hw0
 have k0:=R0.out.cell 0
 have k1:=R0.out.cell 1
 have k2:=R0.out.cell 2
 have k3:=R0.out.cell 3
 have k4:=R0.out.cell 4
 have k5:=R0.out.cell 5
 have f0:=R0.out.frozen 0
 have f1:=R0.out.frozen 1
 have f2:=R0.out.frozen 2
 have f3:=R0.out.frozen 3
 have f4:=R0.out.frozen 4
 have f5:=R0.out.frozen 5
 simp at k0 k1 k2 k3 k4 k5
 go_wp2_with (first | (go_at_call 122;refine (HM _).mono ?_;rintro e w' ⟨rfl,rfl⟩) | (go_at_call 149;(first | (with_reducible refine (HX _).mono ?_));rintro e w' ⟨rfl,rfl⟩))
 exact bodyPost_ret (read_row rfl _ _ _ w.heap.size #[.int .i64 0,.int .i64 0,.int .u32 0,.int .u32 0,.int .u64 0,.string .empty] rfl (load_page (six_at R0.out))) rfl ⟨rfl,six_below HB.out (Nat.le_refl _)⟩
theorem opage9_B2 (size r:Int) (HM : ∀ w:World,Calls Tryz.prog 122 #[.int .i64 size] w fun e w'=>e=.returned (.int .i64 r)∧w'=w) (n next tx:Nat) (s:ByteArray) (w:World) (h0:next≠0) (hnx:numB next=false) (h1:1≤s.size) (h2 : ¬ (s.size:Int)≤r) :
  Calls Tryz.prog 127 #[.int .i64 size,.int .u32 n,.int .u32 next,.int .u64 tx,.string s] w fun e w'=>e=.returned (.tuple #[.agg #[.int .i64 0,.int .i64 0,.int .u32 0,.int .u32 0,.int .u64 0,.string .empty],.int .i64 2])∧Below w.heap.size w w':=by
 have hx1:(next==0)=false:=by simp;omega
 have hx2:((next:Int)==0)=false:=by simp;omega
 have HX:=fun w=>(onum_any next w).mono (R':=fun e w'=>e=.returned (.bool (numB next))∧w=w') fun _ _ ⟨a,b⟩=>⟨a,b.symm⟩
 rw[hnx] at HX
 clear h0 hnx
 have hc1:decide ((1:Int)≤(s.size:Int))=true:=by simp;omega
 have hc1b:decide (1≤s.size)=true:=decide_eq_true (by omega)
 have hc1c:(1:Int)≤(s.size:Int):=by omega
 have hc2:decide ((s.size:Int)≤r)=false:=by simp;omega
 have hc2c : ¬ (s.size:Int)≤r:=by omega
 clear h1 h2
 obtain⟨hzp,hi⟩:=zero_of_info infoPg
 have HI:=Hd hi
 obtain⟨w0,hw0⟩ : ∃ x,x=w.alloc (.cells #[.int .i64 0,.int .i64 0,.int .u32 0,.int .u32 0,.int .u64 0,.string .empty] 41):=⟨_,rfl⟩
 have R0:=Hd (show Blk w0 w.heap.size 41 #[.int .i64 0,.int .i64 0,.int .u32 0,.int .u32 0,.int .u64 0,.string .empty] by rw[hw0];exact Blk.new _ _ _)
 have HB:=Hd (show Below w.heap.size w w0 by rw[hw0];exact (Below.refl _ _).alloc (Nat.le_refl _) _)
 clear hi
 go_enter Tryz.func127,Tryz.ntmps127
 go_upto_region 1 with fail
 rw[← hw0]
 clear hw0
 have k0:=R0.out.cell 0
 have k1:=R0.out.cell 1
 have k2:=R0.out.cell 2
 have k3:=R0.out.cell 3
 have k4:=R0.out.cell 4
 have k5:=R0.out.cell 5
 have f0:=R0.out.frozen 0
 have f1:=R0.out.frozen 1
 have f2:=R0.out.frozen 2
 have f3:=R0.out.frozen 3
 have f4:=R0.out.frozen 4
 have f5:=R0.out.frozen 5
 simp at k0 k1 k2 k3 k4 k5
 go_wp2_with (first | (go_at_call 122;refine (HM _).mono ?_;rintro e w' ⟨rfl,rfl⟩) | (go_at_call 149;(first | (with_reducible refine (HX _).mono ?_));rintro e w' ⟨rfl,rfl⟩))
 exact bodyPost_ret (read_row rfl _ _ _ w.heap.size #[.int .i64 0,.int .i64 0,.int .u32 0,.int .u32 0,.int .u64 0,.string .empty] rfl (load_page (six_at R0.out))) rfl ⟨rfl,six_below HB.out (Nat.le_refl _)⟩
theorem opage9_B3 (size r:Int) (HM : ∀ w:World,Calls Tryz.prog 122 #[.int .i64 size] w fun e w'=>e=.returned (.int .i64 r)∧w'=w) (n next tx:Nat) (s:ByteArray) (w:World) (h0:next≠0) (hnx:numB next=false) (h1:1≤s.size) (h2:(s.size:Int)≤r) :
  Calls Tryz.prog 127 #[.int .i64 size,.int .u32 n,.int .u32 next,.int .u64 tx,.string s] w fun e w'=>e=.returned (.tuple #[.agg #[.int .i64 0,.int .i64 0,.int .u32 0,.int .u32 0,.int .u64 0,.string .empty],.int .i64 2])∧Below w.heap.size w w':=by
 have hx1:(next==0)=false:=by simp;omega
 have hx2:((next:Int)==0)=false:=by simp;omega
 have HX:=fun w=>(onum_any next w).mono (R':=fun e w'=>e=.returned (.bool (numB next))∧w=w') fun _ _ ⟨a,b⟩=>⟨a,b.symm⟩
 rw[hnx] at HX
 clear h0 hnx
 have hc1:decide ((1:Int)≤(s.size:Int))=true:=by simp;omega
 have hc1b:decide (1≤s.size)=true:=decide_eq_true (by omega)
 have hc1c:(1:Int)≤(s.size:Int):=by omega
 have hc2:decide ((s.size:Int)≤r)=true:=by simp;omega
 have hc2c:(s.size:Int)≤r:=by omega
 clear h1 h2
 obtain⟨hzp,hi⟩:=zero_of_info infoPg
 have HI:=Hd hi
 obtain⟨w0,hw0⟩ : ∃ x,x=w.alloc (.cells #[.int .i64 0,.int .i64 0,.int .u32 0,.int .u32 0,.int .u64 0,.string .empty] 41):=⟨_,rfl⟩
 have R0:=Hd (show Blk w0 w.heap.size 41 #[.int .i64 0,.int .i64 0,.int .u32 0,.int .u32 0,.int .u64 0,.string .empty] by rw[hw0];exact Blk.new _ _ _)
 have HB:=Hd (show Below w.heap.size w w0 by rw[hw0];exact (Below.refl _ _).alloc (Nat.le_refl _) _)
 clear hi
 go_enter Tryz.func127,Tryz.ntmps127
 go_upto_region 1 with fail
 rw[← hw0]
 clear hw0
 have k0:=R0.out.cell 0
 have k1:=R0.out.cell 1
 have k2:=R0.out.cell 2
 have k3:=R0.out.cell 3
 have k4:=R0.out.cell 4
 have k5:=R0.out.cell 5
 have f0:=R0.out.frozen 0
 have f1:=R0.out.frozen 1
 have f2:=R0.out.frozen 2
 have f3:=R0.out.frozen 3
 have f4:=R0.out.frozen 4
 have f5:=R0.out.frozen 5
 simp at k0 k1 k2 k3 k4 k5
 go_wp2_with (first | (go_at_call 122;refine (HM _).mono ?_;rintro e w' ⟨rfl,rfl⟩) | (go_at_call 149;(first | (with_reducible refine (HX _).mono ?_));rintro e w' ⟨rfl,rfl⟩))
 exact bodyPost_ret (read_row rfl _ _ _ w.heap.size #[.int .i64 0,.int .i64 0,.int .u32 0,.int .u32 0,.int .u64 0,.string .empty] rfl (load_page (six_at R0.out))) rfl ⟨rfl,six_below HB.out (Nat.le_refl _)⟩
theorem opage9_C1 (size r:Int) (HM : ∀ w:World,Calls Tryz.prog 122 #[.int .i64 size] w fun e w'=>e=.returned (.int .i64 r)∧w'=w) (n next tx:Nat) (s:ByteArray) (w:World) (h0:next≠0) (hnx:numB next=true) (h3 : ¬ (s.size:Int)=r) (h1:s.size=0) :
  Calls Tryz.prog 127 #[.int .i64 size,.int .u32 n,.int .u32 next,.int .u64 tx,.string s] w fun e w'=>e=.returned (.tuple #[.agg #[.int .i64 0,.int .i64 0,.int .u32 0,.int .u32 0,.int .u64 0,.string .empty],.int .i64 2])∧Below w.heap.size w w':=by
 have hx1:(next==0)=false:=by simp;omega
 have hx2:((next:Int)==0)=false:=by simp;omega
 have HX:=fun w=>(onum_any next w).mono (R':=fun e w'=>e=.returned (.bool (numB next))∧w=w') fun _ _ ⟨a,b⟩=>⟨a,b.symm⟩
 rw[hnx] at HX
 have hfu:((s.size:Int)==r)=false:=by simp;omega
 clear h0 hnx
 have hc1:decide ((1:Int)≤(s.size:Int))=false:=by simp;omega
 have hc1b:decide (1≤s.size)=false:=decide_eq_false (by omega)
 have hc1c : ¬ (1:Int)≤(s.size:Int):=by omega
 clear h1
 clear h3
 obtain⟨hzp,hi⟩:=zero_of_info infoPg
 have HI:=Hd hi
 obtain⟨w0,hw0⟩ : ∃ x,x=w.alloc (.cells #[.int .i64 0,.int .i64 0,.int .u32 0,.int .u32 0,.int .u64 0,.string .empty] 41):=⟨_,rfl⟩
 have R0:=Hd (show Blk w0 w.heap.size 41 #[.int .i64 0,.int .i64 0,.int .u32 0,.int .u32 0,.int .u64 0,.string .empty] by rw[hw0];exact Blk.new _ _ _)
 have HB:=Hd (show Below w.heap.size w w0 by rw[hw0];exact (Below.refl _ _).alloc (Nat.le_refl _) _)
 clear hi
 go_enter Tryz.func127,Tryz.ntmps127
 go_upto_region 1 with fail
 rw[← hw0]
 clear hw0
 have k0:=R0.out.cell 0
 have k1:=R0.out.cell 1
 have k2:=R0.out.cell 2
 have k3:=R0.out.cell 3
 have k4:=R0.out.cell 4
 have k5:=R0.out.cell 5
 have f0:=R0.out.frozen 0
 have f1:=R0.out.frozen 1
 have f2:=R0.out.frozen 2
 have f3:=R0.out.frozen 3
 have f4:=R0.out.frozen 4
 have f5:=R0.out.frozen 5
 simp at k0 k1 k2 k3 k4 k5
 go_wp2_with (first | (go_at_call 122;refine (HM _).mono ?_;rintro e w' ⟨rfl,rfl⟩) | (go_at_call 149;(first | (with_reducible refine (HX _).mono ?_));rintro e w' ⟨rfl,rfl⟩))
 exact bodyPost_ret (read_row rfl _ _ _ w.heap.size #[.int .i64 0,.int .i64 0,.int .u32 0,.int .u32 0,.int .u64 0,.string .empty] rfl (load_page (six_at R0.out))) rfl ⟨rfl,six_below HB.out (Nat.le_refl _)⟩
theorem opage9_C2 (size r:Int) (HM : ∀ w:World,Calls Tryz.prog 122 #[.int .i64 size] w fun e w'=>e=.returned (.int .i64 r)∧w'=w) (n next tx:Nat) (s:ByteArray) (w:World) (h0:next≠0) (hnx:numB next=true) (h3 : ¬ (s.size:Int)=r) (h1:1≤s.size) (h2 : ¬ (s.size:Int)≤r) :
  Calls Tryz.prog 127 #[.int .i64 size,.int .u32 n,.int .u32 next,.int .u64 tx,.string s] w fun e w'=>e=.returned (.tuple #[.agg #[.int .i64 0,.int .i64 0,.int .u32 0,.int .u32 0,.int .u64 0,.string .empty],.int .i64 2])∧Below w.heap.size w w':=by
 have hx1:(next==0)=false:=by simp;omega
 have hx2:((next:Int)==0)=false:=by simp;omega
 have HX:=fun w=>(onum_any next w).mono (R':=fun e w'=>e=.returned (.bool (numB next))∧w=w') fun _ _ ⟨a,b⟩=>⟨a,b.symm⟩
 rw[hnx] at HX
 have hfu:((s.size:Int)==r)=false:=by simp;omega
 clear h0 hnx
 have hc1:decide ((1:Int)≤(s.size:Int))=true:=by simp;omega
 have hc1b:decide (1≤s.size)=true:=decide_eq_true (by omega)
 have hc1c:(1:Int)≤(s.size:Int):=by omega
 have hc2:decide ((s.size:Int)≤r)=false:=by simp;omega
 have hc2c : ¬ (s.size:Int)≤r:=by omega
 clear h1 h2
 clear h3
 obtain⟨hzp,hi⟩:=zero_of_info infoPg
 have HI:=Hd hi
 obtain⟨w0,hw0⟩ : ∃ x,x=w.alloc (.cells #[.int .i64 0,.int .i64 0,.int .u32 0,.int .u32 0,.int .u64 0,.string .empty] 41):=⟨_,rfl⟩
 have R0:=Hd (show Blk w0 w.heap.size 41 #[.int .i64 0,.int .i64 0,.int .u32 0,.int .u32 0,.int .u64 0,.string .empty] by rw[hw0];exact Blk.new _ _ _)
 have HB:=Hd (show Below w.heap.size w w0 by rw[hw0];exact (Below.refl _ _).alloc (Nat.le_refl _) _)
 clear hi
 go_enter Tryz.func127,Tryz.ntmps127
 go_upto_region 1 with fail
 rw[← hw0]
 clear hw0
 have k0:=R0.out.cell 0
 have k1:=R0.out.cell 1
 have k2:=R0.out.cell 2
 have k3:=R0.out.cell 3
 have k4:=R0.out.cell 4
 have k5:=R0.out.cell 5
 have f0:=R0.out.frozen 0
 have f1:=R0.out.frozen 1
 have f2:=R0.out.frozen 2
 have f3:=R0.out.frozen 3
 have f4:=R0.out.frozen 4
 have f5:=R0.out.frozen 5
 simp at k0 k1 k2 k3 k4 k5
 go_wp2_with (first | (go_at_call 122;refine (HM _).mono ?_;rintro e w' ⟨rfl,rfl⟩) | (go_at_call 149;(first | (with_reducible refine (HX _).mono ?_));rintro e w' ⟨rfl,rfl⟩))
 exact bodyPost_ret (read_row rfl _ _ _ w.heap.size #[.int .i64 0,.int .i64 0,.int .u32 0,.int .u32 0,.int .u64 0,.string .empty] rfl (load_page (six_at R0.out))) rfl ⟨rfl,six_below HB.out (Nat.le_refl _)⟩
theorem opage9_C3 (size r:Int) (HM : ∀ w:World,Calls Tryz.prog 122 #[.int .i64 size] w fun e w'=>e=.returned (.int .i64 r)∧w'=w) (n next tx:Nat) (s:ByteArray) (w:World) (h0:next≠0) (hnx:numB next=true) (h3 : ¬ (s.size:Int)=r) (h1:1≤s.size) (h2:(s.size:Int)≤r) :
  Calls Tryz.prog 127 #[.int .i64 size,.int .u32 n,.int .u32 next,.int .u64 tx,.string s] w fun e w'=>e=.returned (.tuple #[.agg #[.int .i64 0,.int .i64 0,.int .u32 0,.int .u32 0,.int .u64 0,.string .empty],.int .i64 2])∧Below w.heap.size w w':=by
 have hx1:(next==0)=false:=by simp;omega
 have hx2:((next:Int)==0)=false:=by simp;omega
 have HX:=fun w=>(onum_any next w).mono (R':=fun e w'=>e=.returned (.bool (numB next))∧w=w') fun _ _ ⟨a,b⟩=>⟨a,b.symm⟩
 rw[hnx] at HX
 have hfu:((s.size:Int)==r)=false:=by simp;omega
 clear h0 hnx
 have hc1:decide ((1:Int)≤(s.size:Int))=true:=by simp;omega
 have hc1b:decide (1≤s.size)=true:=decide_eq_true (by omega)
 have hc1c:(1:Int)≤(s.size:Int):=by omega
 have hc2:decide ((s.size:Int)≤r)=true:=by simp;omega
 have hc2c:(s.size:Int)≤r:=by omega
 clear h1 h2
 clear h3
 obtain⟨hzp,hi⟩:=zero_of_info infoPg
 have HI:=Hd hi
 obtain⟨w0,hw0⟩ : ∃ x,x=w.alloc (.cells #[.int .i64 0,.int .i64 0,.int .u32 0,.int .u32 0,.int .u64 0,.string .empty] 41):=⟨_,rfl⟩
 have R0:=Hd (show Blk w0 w.heap.size 41 #[.int .i64 0,.int .i64 0,.int .u32 0,.int .u32 0,.int .u64 0,.string .empty] by rw[hw0];exact Blk.new _ _ _)
 have HB:=Hd (show Below w.heap.size w w0 by rw[hw0];exact (Below.refl _ _).alloc (Nat.le_refl _) _)
 clear hi
 go_enter Tryz.func127,Tryz.ntmps127
 go_upto_region 1 with fail
 rw[← hw0]
 clear hw0
 have k0:=R0.out.cell 0
 have k1:=R0.out.cell 1
 have k2:=R0.out.cell 2
 have k3:=R0.out.cell 3
 have k4:=R0.out.cell 4
 have k5:=R0.out.cell 5
 have f0:=R0.out.frozen 0
 have f1:=R0.out.frozen 1
 have f2:=R0.out.frozen 2
 have f3:=R0.out.frozen 3
 have f4:=R0.out.frozen 4
 have f5:=R0.out.frozen 5
 simp at k0 k1 k2 k3 k4 k5
 go_wp2_with (first | (go_at_call 122;refine (HM _).mono ?_;rintro e w' ⟨rfl,rfl⟩) | (go_at_call 149;(first | (with_reducible refine (HX _).mono ?_));rintro e w' ⟨rfl,rfl⟩))
 exact bodyPost_ret (read_row rfl _ _ _ w.heap.size #[.int .i64 0,.int .i64 0,.int .u32 0,.int .u32 0,.int .u64 0,.string .empty] rfl (load_page (six_at R0.out))) rfl ⟨rfl,six_below HB.out (Nat.le_refl _)⟩
theorem opage9_D1 (size r:Int) (HM : ∀ w:World,Calls Tryz.prog 122 #[.int .i64 size] w fun e w'=>e=.returned (.int .i64 r)∧w'=w) (n next tx:Nat) (s:ByteArray) (w:World) (h0:next≠0) (hnx:numB next=true) (h3:(s.size:Int)=r) (h1:s.size=0) :
  Calls Tryz.prog 127 #[.int .i64 size,.int .u32 n,.int .u32 next,.int .u64 tx,.string s] w fun e w'=>e=.returned (.tuple #[.agg #[.int .i64 0,.int .i64 0,.int .u32 0,.int .u32 0,.int .u64 0,.string .empty],.int .i64 2])∧Below w.heap.size w w':=by
 have hx1:(next==0)=false:=by simp;omega
 have hx2:((next:Int)==0)=false:=by simp;omega
 have HX:=fun w=>(onum_any next w).mono (R':=fun e w'=>e=.returned (.bool (numB next))∧w=w') fun _ _ ⟨a,b⟩=>⟨a,b.symm⟩
 rw[hnx] at HX
 have hfu:((s.size:Int)==r)=true:=by simp;omega
 clear h0 hnx
 have hc1:decide ((1:Int)≤(s.size:Int))=false:=by simp;omega
 have hc1b:decide (1≤s.size)=false:=decide_eq_false (by omega)
 have hc1c : ¬ (1:Int)≤(s.size:Int):=by omega
 clear h1
 clear h3
 obtain⟨hzp,hi⟩:=zero_of_info infoPg
 have HI:=Hd hi
 obtain⟨w0,hw0⟩ : ∃ x,x=w.alloc (.cells #[.int .i64 0,.int .i64 0,.int .u32 0,.int .u32 0,.int .u64 0,.string .empty] 41):=⟨_,rfl⟩
 have R0:=Hd (show Blk w0 w.heap.size 41 #[.int .i64 0,.int .i64 0,.int .u32 0,.int .u32 0,.int .u64 0,.string .empty] by rw[hw0];exact Blk.new _ _ _)
 have HB:=Hd (show Below w.heap.size w w0 by rw[hw0];exact (Below.refl _ _).alloc (Nat.le_refl _) _)
 clear hi
 go_enter Tryz.func127,Tryz.ntmps127
 go_upto_region 1 with fail
 rw[← hw0]
 clear hw0
 have k0:=R0.out.cell 0
 have k1:=R0.out.cell 1
 have k2:=R0.out.cell 2
 have k3:=R0.out.cell 3
 have k4:=R0.out.cell 4
 have k5:=R0.out.cell 5
 have f0:=R0.out.frozen 0
 have f1:=R0.out.frozen 1
 have f2:=R0.out.frozen 2
 have f3:=R0.out.frozen 3
 have f4:=R0.out.frozen 4
 have f5:=R0.out.frozen 5
 simp at k0 k1 k2 k3 k4 k5
 go_wp2_with (first | (go_at_call 122;refine (HM _).mono ?_;rintro e w' ⟨rfl,rfl⟩) | (go_at_call 149;(first | (with_reducible refine (HX _).mono ?_));rintro e w' ⟨rfl,rfl⟩))
 exact bodyPost_ret (read_row rfl _ _ _ w.heap.size #[.int .i64 0,.int .i64 0,.int .u32 0,.int .u32 0,.int .u64 0,.string .empty] rfl (load_page (six_at R0.out))) rfl ⟨rfl,six_below HB.out (Nat.le_refl _)⟩
theorem opage9_D36 (size r:Int) (HM : ∀ w:World,Calls Tryz.prog 122 #[.int .i64 size] w fun e w'=>e=.returned (.int .i64 r)∧w'=w) (n next tx:Nat) (s:ByteArray) (w:World) (h0:next≠0) (hnx:numB next=true) (h3:(s.size:Int)=r) (h1:1≤s.size) (h2:(s.size:Int)≤r) (hn:numB n=false) :
  Calls Tryz.prog 127 #[.int .i64 size,.int .u32 n,.int .u32 next,.int .u64 tx,.string s] w fun e w'=>e=.returned (.tuple #[.agg #[.int .i64 0,.int .i64 0,.int .u32 0,.int .u32 0,.int .u64 0,.string .empty],.int .i64 2])∧Below w.heap.size w w':=by
 have hx1:(next==0)=false:=by simp;omega
 have hx2:((next:Int)==0)=false:=by simp;omega
 have HX:=fun w=>(onum_any next w).mono (R':=fun e w'=>e=.returned (.bool (numB next))∧w=w') fun _ _ ⟨a,b⟩=>⟨a,b.symm⟩
 rw[hnx] at HX
 have hfu:((s.size:Int)==r)=true:=by simp;omega
 clear h0 hnx
 have hc1:decide ((1:Int)≤(s.size:Int))=true:=by simp;omega
 have hc1b:decide (1≤s.size)=true:=decide_eq_true (by omega)
 have hc1c:(1:Int)≤(s.size:Int):=by omega
 have hc2:decide ((s.size:Int)≤r)=true:=by simp;omega
 have hc2c:(s.size:Int)≤r:=by omega
 clear h1 h2
 have HN:=fun w=>(onum_any n w).mono (R':=fun e w'=>e=.returned (.bool (numB n))∧w=w') fun _ _ ⟨a,b⟩=>⟨a,b.symm⟩
 rw[hn] at HN
 clear hn
 clear h3
 obtain⟨hzp,hi⟩:=zero_of_info infoPg
 have HI:=Hd hi
 obtain⟨w0,hw0⟩ : ∃ x,x=w.alloc (.cells #[.int .i64 0,.int .i64 0,.int .u32 0,.int .u32 0,.int .u64 0,.string .empty] 41):=⟨_,rfl⟩
 have R0:=Hd (show Blk w0 w.heap.size 41 #[.int .i64 0,.int .i64 0,.int .u32 0,.int .u32 0,.int .u64 0,.string .empty] by rw[hw0];exact Blk.new _ _ _)
 have HB:=Hd (show Below w.heap.size w w0 by rw[hw0];exact (Below.refl _ _).alloc (Nat.le_refl _) _)
 clear hi
 go_enter Tryz.func127,Tryz.ntmps127
 go_upto_region 1 with fail
 rw[← hw0]
 clear hw0
 have k0:=R0.out.cell 0
 have k1:=R0.out.cell 1
 have k2:=R0.out.cell 2
 have k3:=R0.out.cell 3
 have k4:=R0.out.cell 4
 have k5:=R0.out.cell 5
 have f0:=R0.out.frozen 0
 have f1:=R0.out.frozen 1
 have f2:=R0.out.frozen 2
 have f3:=R0.out.frozen 3
 have f4:=R0.out.frozen 4
 have f5:=R0.out.frozen 5
 simp at k0 k1 k2 k3 k4 k5
 go_wp2_with (first | (go_at_call 122;refine (HM _).mono ?_;rintro e w' ⟨rfl,rfl⟩) | (go_at_call 149;(first | (with_reducible refine (HN _).mono ?_) | (with_reducible refine (HX _).mono ?_));rintro e w' ⟨rfl,rfl⟩))
 exact bodyPost_ret (read_row rfl _ _ _ w.heap.size #[.int .i64 0,.int .i64 0,.int .u32 0,.int .u32 0,.int .u64 0,.string .empty] rfl (load_page (six_at R0.out))) rfl ⟨rfl,six_below HB.out (Nat.le_refl _)⟩
theorem opage9_D37 (size r:Int) (HM : ∀ w:World,Calls Tryz.prog 122 #[.int .i64 size] w fun e w'=>e=.returned (.int .i64 r)∧w'=w) (n next tx:Nat) (s:ByteArray) (w:World) (h0:next≠0) (hnx:numB next=true) (h3:(s.size:Int)=r) (h1:1≤s.size) (h2:(s.size:Int)≤r) (hn:numB n=true) (h4 : ¬ tx≤4611686018427387904) :
  Calls Tryz.prog 127 #[.int .i64 size,.int .u32 n,.int .u32 next,.int .u64 tx,.string s] w fun e w'=>e=.returned (.tuple #[.agg #[.int .i64 0,.int .i64 0,.int .u32 0,.int .u32 0,.int .u64 0,.string .empty],.int .i64 2])∧Below w.heap.size w w':=by
 have hx1:(next==0)=false:=by simp;omega
 have hx2:((next:Int)==0)=false:=by simp;omega
 have HX:=fun w=>(onum_any next w).mono (R':=fun e w'=>e=.returned (.bool (numB next))∧w=w') fun _ _ ⟨a,b⟩=>⟨a,b.symm⟩
 rw[hnx] at HX
 have hfu:((s.size:Int)==r)=true:=by simp;omega
 clear h0 hnx
 have hc1:decide ((1:Int)≤(s.size:Int))=true:=by simp;omega
 have hc1b:decide (1≤s.size)=true:=decide_eq_true (by omega)
 have hc1c:(1:Int)≤(s.size:Int):=by omega
 have hc2:decide ((s.size:Int)≤r)=true:=by simp;omega
 have hc2c:(s.size:Int)≤r:=by omega
 clear h1 h2
 have HN:=fun w=>(onum_any n w).mono (R':=fun e w'=>e=.returned (.bool (numB n))∧w=w') fun _ _ ⟨a,b⟩=>⟨a,b.symm⟩
 rw[hn] at HN
 have htx:decide ((4611686018427387904:Int)<tx)=true:=by simp;omega
 clear hn h4
 clear h3
 obtain⟨hzp,hi⟩:=zero_of_info infoPg
 have HI:=Hd hi
 obtain⟨w0,hw0⟩ : ∃ x,x=w.alloc (.cells #[.int .i64 0,.int .i64 0,.int .u32 0,.int .u32 0,.int .u64 0,.string .empty] 41):=⟨_,rfl⟩
 have R0:=Hd (show Blk w0 w.heap.size 41 #[.int .i64 0,.int .i64 0,.int .u32 0,.int .u32 0,.int .u64 0,.string .empty] by rw[hw0];exact Blk.new _ _ _)
 have HB:=Hd (show Below w.heap.size w w0 by rw[hw0];exact (Below.refl _ _).alloc (Nat.le_refl _) _)
 clear hi
 go_enter Tryz.func127,Tryz.ntmps127
 go_upto_region 1 with fail
 rw[← hw0]
 clear hw0
 have k0:=R0.out.cell 0
 have k1:=R0.out.cell 1
 have k2:=R0.out.cell 2
 have k3:=R0.out.cell 3
 have k4:=R0.out.cell 4
 have k5:=R0.out.cell 5
 have f0:=R0.out.frozen 0
 have f1:=R0.out.frozen 1
 have f2:=R0.out.frozen 2
 have f3:=R0.out.frozen 3
 have f4:=R0.out.frozen 4
 have f5:=R0.out.frozen 5
 simp at k0 k1 k2 k3 k4 k5
 go_wp2_with (first | (go_at_call 122;refine (HM _).mono ?_;rintro e w' ⟨rfl,rfl⟩) | (go_at_call 149;(first | (with_reducible refine (HN _).mono ?_) | (with_reducible refine (HX _).mono ?_));rintro e w' ⟨rfl,rfl⟩))
 exact bodyPost_ret (read_row rfl _ _ _ w.heap.size #[.int .i64 0,.int .i64 0,.int .u32 0,.int .u32 0,.int .u64 0,.string .empty] rfl (load_page (six_at R0.out))) rfl ⟨rfl,six_below HB.out (Nat.le_refl _)⟩
theorem opage9_no (size:Int) (n next tx:Nat) (s:ByteArray) (w:World) (hs9:s.size≤1000000) (h:mayP9 size n next tx s=false) :
  Calls Tryz.prog 127 #[.int .i64 size,.int .u32 n,.int .u32 next,.int .u64 tx,.string s] w fun e w'=>e=.returned (.tuple #[.agg #[.int .i64 0,.int .i64 0,.int .u32 0,.int .u32 0,.int .u64 0,.string .empty],.int .i64 2])∧Below w.heap.size w w':=by
 obtain⟨r,HM,hr⟩ : ∃ r:Int,(∀ w:World,Calls Tryz.prog 122 #[.int .i64 size] w fun e w'=>e=.returned (.int .i64 r)∧w'=w)∧((1≤r)→goodSize size=true∧r=size-24):=by
  rcases hg:goodSize size with _ | _
  ·exact⟨0,fun w=>(room_no size w hg).mono (by rintro e w' ⟨rfl,rfl⟩;exact⟨rfl,rfl⟩),fun h=>by omega⟩
  ·exact⟨size-24,fun w=>(room_yes size w hg).mono (by rintro e w' ⟨rfl,rfl⟩;exact⟨rfl,rfl⟩),fun _=>⟨rfl,rfl⟩⟩
 by_cases h1:1≤s.size
 rotate_left
 ·by_cases h0:next=0
  ·exact opage9_A1 size r HM n next tx s w h0 (by omega)
  rcases hnx:numB next with _ | _
  ·exact opage9_B1 size r HM n next tx s w h0 hnx (by omega)
  by_cases h3:(s.size:Int)=r
  ·exact opage9_D1 size r HM n next tx s w h0 hnx h3 (by omega)
  ·exact opage9_C1 size r HM n next tx s w h0 hnx h3 (by omega)
 by_cases h2:(s.size:Int)≤r
 rotate_left
 ·by_cases h0:next=0
  ·exact opage9_A2 size r HM n next tx s w h0 h1 h2
  rcases hnx:numB next with _ | _
  ·exact opage9_B2 size r HM n next tx s w h0 hnx h1 h2
  ·exact opage9_C2 size r HM n next tx s w h0 hnx (by omega) h1 h2
 obtain⟨hg,hr2⟩:=hr (by omega)
 by_cases h0:next=0
 ·rcases hn:numB n with _ | _
  ·exact opage9_A36 size r HM n next tx s w h0 h1 h2 hn
  by_cases h4:tx≤4611686018427387904
  ·exfalso
   rw[mayP9,hg,hn,decide_eq_true h1,decide_eq_true (show (s.size:Int)≤size-24 by omega),decide_eq_true h0,decide_eq_true h4] at h
   cases h
  ·exact opage9_A37 size r HM n next tx s w h0 h1 h2 hn h4
 rcases hnx:numB next with _ | _
 ·exact opage9_B3 size r HM n next tx s w h0 hnx h1 h2
 by_cases h3:(s.size:Int)=r
 rotate_left
 ·exact opage9_C3 size r HM n next tx s w h0 hnx h3 h1 h2
 rcases hn:numB n with _ | _
 ·exact opage9_D36 size r HM n next tx s w h0 hnx h3 h1 h2 hn
 by_cases h4:tx≤4611686018427387904
 ·exfalso
  rw[mayP9,hg,hn,hnx,decide_eq_true h1,decide_eq_true (show (s.size:Int)≤size-24 by omega),decide_eq_true (show size-24≤(s.size:Int) by omega),decide_eq_true h4] at h
  simp at h
 ·exact opage9_D37 size r HM n next tx s w h0 hnx h3 h1 h2 hn h4
theorem opage9_yesa (z n next tx r:Nat) (s B:ByteArray) (w:World) (hr:r=z-24) (hg:goodSize z=true) (h1:1≤s.size) (h2:s.size≤z-24) (hn:numB n=true) (h4:tx≤4611686018427387904) (hB:B=overBody z s) (h0:next=0) :
  Calls Tryz.prog 127 #[.int .i64 z,.int .u32 n,.int .u32 next,.int .u64 tx,.string s] w fun e w'=>e=.returned (.tuple #[.agg #[.int .i64 5,.int .i64 s.size,.int .u32 n,.int .u32 next,.int .u64 tx,.string B],.int .i64 0])∧Below w.heap.size w w':=by
 have hgp:=good_pos hg
 have HM : ∀ w:World,Calls Tryz.prog 122 #[.int .i64 z] w fun e w'=>e=.returned (.int .i64 (r:Int))∧w=w':=fun w=>(room_yes z w hg).mono (by rintro e w' ⟨rfl,rfl⟩;exact⟨by rw[show (z:Int)-24=(r:Int) by omega],rfl⟩)
 have HBd:=fun (A:Option Addr) (c:Nat) (w:World) (hr:Reads w w.heap.size 1 A s.data.toList.length (bcells s.data.toList))=>fbody_ok z A s.data.toList.length c s.data.toList w hg hr (by rw[size_list];exact h2)
 rw[size_list] at HBd
 have hcb:(⟨(s.data.toList++List.replicate (z-24-s.size) 0).toArray⟩:ByteArray)=B:=by rw[hB];rfl
 rw[hcb] at HBd
 have hc1:decide ((1:Int)≤(s.size:Int))=true:=by simp;omega
 have hc1b:decide (1≤s.size)=true:=by simp;omega
 have hc1c:(1:Int)≤(s.size:Int):=by omega
 have hc2:decide ((s.size:Int)≤(r:Int))=true:=by simp;omega
 have hc2b:decide (s.size≤r)=true:=by simp;omega
 have HN:=fun w=>(onum_any n w).mono (R':=fun e w'=>e=.returned (.bool (numB n))∧w=w') fun _ _ ⟨a,b⟩=>⟨a,b.symm⟩
 rw[hn] at HN
 have htx:decide ((4611686018427387904:Int)<tx)=false:=by simp;omega
 have hx1:(next==0)=true:=by simp;omega
 have hx2:((next:Int)==0)=true:=by simp;omega
 clear h0
 have hcv0:=fun w=>run_bytes_of_string (P:=Tryz.prog) w 9 102 5 s Tryz.underlying9 Tryz.underlying102 Tryz.underlying5
 obtain⟨hzp,hi⟩:=zero_of_info infoPg
 have HI:=Hd hi
 obtain⟨w0,hw0⟩ : ∃ x,x=w.alloc (.cells #[.int .i64 0,.int .i64 0,.int .u32 0,.int .u32 0,.int .u64 0,.string .empty] 41):=⟨_,rfl⟩
 have R0:=Hd (show Blk w0 w.heap.size 41 #[.int .i64 0,.int .i64 0,.int .u32 0,.int .u32 0,.int .u64 0,.string .empty] by rw[hw0];exact Blk.new _ _ _)
 have HB:=Hd (show Below w.heap.size w w0 by rw[hw0];exact (Below.refl _ _).alloc (Nat.le_refl _) _)
 clear hi hg h1 h2 hn h4 hB hgp hr hcb
 go_enter Tryz.func127,Tryz.ntmps127
 go_upto_region 1 with fail
 rw[← hw0]
 clear hw0
 have r0:=MRow.of_bytes w0 5 s (grownCap w0 s.size 0 5)
 have RB:=Hd (show Blk ((w0.alloc (.cells (bytesRow s (grownCap w0 s.size 0 5)) 5 ((bytesRow s (grownCap w0 s.size 0 5)).size,(bytesRow s (grownCap w0 s.size 0 5)).size+1))).drew) w.heap.size 41 #[.int .i64 0,.int .i64 0,.int .u32 0,.int .u32 0,.int .u64 0,.string .empty] from (R0.out.alloc _).drew)
 have HBB:=Hd (show Below w.heap.size w ((w0.alloc (.cells (bytesRow s (grownCap w0 s.size 0 5)) 5 ((bytesRow s (grownCap w0 s.size 0 5)).size,(bytesRow s (grownCap w0 s.size 0 5)).size+1))).drew) from (HB.out.alloc HB.out.size _).drew)
 have RR:=Hd (show MRow (w0.alloc (.cells (bytesRow s (grownCap w0 s.size 0 5)) 5 ((bytesRow s (grownCap w0 s.size 0 5)).size,(bytesRow s (grownCap w0 s.size 0 5)).size+1))).drew w0.heap.size s.data.toList from r0)
 clear r0 R0 HB
 go_wp2_with (first | (go_at_call 122;refine (HM _).mono ?_;rintro e w' ⟨rfl,rfl⟩) | (go_at_call 149;(first | (with_reducible refine (HN _).mono ?_));rintro e w' ⟨rfl,rfl⟩))
 generalize grownCap w0 s.size 0 5=cap at *
 obtain⟨w1,hw1⟩ : ∃ w1,w1=(w0.alloc (.cells (bytesRow s cap) 5 ((bytesRow s cap).size,(bytesRow s cap).size+1))).drew:=⟨_,rfl⟩
 rw[← hw1] at RB HBB RR ⊢
 clear hw1 hcv0
 refine (HBd (some ⟨w0.heap.size,0,none⟩) _ _ (by have h:=RR.out.reads;rwa [size_list] at h)).mono ?_
 rintro e w2 ⟨rfl,hb⟩
 have R0:=Hd (RB.out.below hb RB.out.lt)
 have HB:=Hd (HBB.out.trans (hb.mono HBB.out.size))
 clear hb RB HBB RR HBd
 have k0:=R0.out.cell 0
 have k1:=R0.out.cell 1
 have k2:=R0.out.cell 2
 have k3:=R0.out.cell 3
 have k4:=R0.out.cell 4
 have k5:=R0.out.cell 5
 have f0:=R0.out.frozen 0
 have f1:=R0.out.frozen 1
 have f2:=R0.out.frozen 2
 have f3:=R0.out.frozen 3
 have f4:=R0.out.frozen 4
 have f5:=R0.out.frozen 5
 simp at k0 k1 k2 k3 k4 k5
 go_wp2_with fail
 exact bodyPost_ret (read_row rfl _ _ _ w.heap.size #[.int .i64 5,.int .i64 s.size,.int .u32 n,.int .u32 next,.int .u64 tx,.string B] rfl (load_page (six_at R0.out))) rfl ⟨rfl,six_below HB.out (Nat.le_refl _)⟩
theorem opage9_yesb (z n next tx r:Nat) (s B:ByteArray) (w:World) (hr:r=z-24) (hg:goodSize z=true) (h1:1≤s.size) (h2:s.size≤z-24) (hn:numB n=true) (h4:tx≤4611686018427387904) (hB:B=overBody z s) (h0:next≠0) (hnx:numB next=true) (h3:(s.size:Int)=(r:Int)) :
  Calls Tryz.prog 127 #[.int .i64 z,.int .u32 n,.int .u32 next,.int .u64 tx,.string s] w fun e w'=>e=.returned (.tuple #[.agg #[.int .i64 5,.int .i64 s.size,.int .u32 n,.int .u32 next,.int .u64 tx,.string B],.int .i64 0])∧Below w.heap.size w w':=by
 have hgp:=good_pos hg
 have HM : ∀ w:World,Calls Tryz.prog 122 #[.int .i64 z] w fun e w'=>e=.returned (.int .i64 (r:Int))∧w=w':=fun w=>(room_yes z w hg).mono (by rintro e w' ⟨rfl,rfl⟩;exact⟨by rw[show (z:Int)-24=(r:Int) by omega],rfl⟩)
 have HBd:=fun (A:Option Addr) (c:Nat) (w:World) (hr:Reads w w.heap.size 1 A s.data.toList.length (bcells s.data.toList))=>fbody_ok z A s.data.toList.length c s.data.toList w hg hr (by rw[size_list];exact h2)
 rw[size_list] at HBd
 have hcb:(⟨(s.data.toList++List.replicate (z-24-s.size) 0).toArray⟩:ByteArray)=B:=by rw[hB];rfl
 rw[hcb] at HBd
 have hc1:decide ((1:Int)≤(s.size:Int))=true:=by simp;omega
 have hc1b:decide (1≤s.size)=true:=by simp;omega
 have hc1c:(1:Int)≤(s.size:Int):=by omega
 have hc2:decide ((s.size:Int)≤(r:Int))=true:=by simp;omega
 have hc2b:decide (s.size≤r)=true:=by simp;omega
 have hfub:(s.size==r)=true:=by simp;omega
 have HN:=fun w=>(onum_any n w).mono (R':=fun e w'=>e=.returned (.bool (numB n))∧w=w') fun _ _ ⟨a,b⟩=>⟨a,b.symm⟩
 rw[hn] at HN
 have htx:decide ((4611686018427387904:Int)<tx)=false:=by simp;omega
 have HX:=fun w=>(onum_any next w).mono (R':=fun e w'=>e=.returned (.bool (numB next))∧w=w') fun _ _ ⟨a,b⟩=>⟨a,b.symm⟩
 rw[hnx] at HX
 have hx1:(next==0)=false:=by simp;omega
 have hx2:((next:Int)==0)=false:=by simp;omega
 have hfu:((s.size:Int)==r)=true:=by simp;omega
 clear h0 hnx h3
 have hcv0:=fun w=>run_bytes_of_string (P:=Tryz.prog) w 9 102 5 s Tryz.underlying9 Tryz.underlying102 Tryz.underlying5
 obtain⟨hzp,hi⟩:=zero_of_info infoPg
 have HI:=Hd hi
 obtain⟨w0,hw0⟩ : ∃ x,x=w.alloc (.cells #[.int .i64 0,.int .i64 0,.int .u32 0,.int .u32 0,.int .u64 0,.string .empty] 41):=⟨_,rfl⟩
 have R0:=Hd (show Blk w0 w.heap.size 41 #[.int .i64 0,.int .i64 0,.int .u32 0,.int .u32 0,.int .u64 0,.string .empty] by rw[hw0];exact Blk.new _ _ _)
 have HB:=Hd (show Below w.heap.size w w0 by rw[hw0];exact (Below.refl _ _).alloc (Nat.le_refl _) _)
 clear hi hg h1 h2 hn h4 hB hgp hr hcb
 go_enter Tryz.func127,Tryz.ntmps127
 go_upto_region 1 with fail
 rw[← hw0]
 clear hw0
 have r0:=MRow.of_bytes w0 5 s (grownCap w0 s.size 0 5)
 have RB:=Hd (show Blk ((w0.alloc (.cells (bytesRow s (grownCap w0 s.size 0 5)) 5 ((bytesRow s (grownCap w0 s.size 0 5)).size,(bytesRow s (grownCap w0 s.size 0 5)).size+1))).drew) w.heap.size 41 #[.int .i64 0,.int .i64 0,.int .u32 0,.int .u32 0,.int .u64 0,.string .empty] from (R0.out.alloc _).drew)
 have HBB:=Hd (show Below w.heap.size w ((w0.alloc (.cells (bytesRow s (grownCap w0 s.size 0 5)) 5 ((bytesRow s (grownCap w0 s.size 0 5)).size,(bytesRow s (grownCap w0 s.size 0 5)).size+1))).drew) from (HB.out.alloc HB.out.size _).drew)
 have RR:=Hd (show MRow (w0.alloc (.cells (bytesRow s (grownCap w0 s.size 0 5)) 5 ((bytesRow s (grownCap w0 s.size 0 5)).size,(bytesRow s (grownCap w0 s.size 0 5)).size+1))).drew w0.heap.size s.data.toList from r0)
 clear r0 R0 HB
 go_wp2_with (first | (go_at_call 122;refine (HM _).mono ?_;rintro e w' ⟨rfl,rfl⟩) | (go_at_call 149;(first | (with_reducible refine (HN _).mono ?_) | (with_reducible refine (HX _).mono ?_));rintro e w' ⟨rfl,rfl⟩))
 generalize grownCap w0 s.size 0 5=cap at *
 obtain⟨w1,hw1⟩ : ∃ w1,w1=(w0.alloc (.cells (bytesRow s cap) 5 ((bytesRow s cap).size,(bytesRow s cap).size+1))).drew:=⟨_,rfl⟩
 rw[← hw1] at RB HBB RR ⊢
 clear hw1 hcv0
 refine (HBd (some ⟨w0.heap.size,0,none⟩) _ _ (by have h:=RR.out.reads;rwa [size_list] at h)).mono ?_
 rintro e w2 ⟨rfl,hb⟩
 have R0:=Hd (RB.out.below hb RB.out.lt)
 have HB:=Hd (HBB.out.trans (hb.mono HBB.out.size))
 clear hb RB HBB RR HBd
 have k0:=R0.out.cell 0
 have k1:=R0.out.cell 1
 have k2:=R0.out.cell 2
 have k3:=R0.out.cell 3
 have k4:=R0.out.cell 4
 have k5:=R0.out.cell 5
 have f0:=R0.out.frozen 0
 have f1:=R0.out.frozen 1
 have f2:=R0.out.frozen 2
 have f3:=R0.out.frozen 3
 have f4:=R0.out.frozen 4
 have f5:=R0.out.frozen 5
 simp at k0 k1 k2 k3 k4 k5
 go_wp2_with fail
 exact bodyPost_ret (read_row rfl _ _ _ w.heap.size #[.int .i64 5,.int .i64 s.size,.int .u32 n,.int .u32 next,.int .u64 tx,.string B] rfl (load_page (six_at R0.out))) rfl ⟨rfl,six_below HB.out (Nat.le_refl _)⟩
theorem opage9_yes (z n next tx:Nat) (s:ByteArray) (w:World) (h:mayP9 z n next tx s=true) :
  Calls Tryz.prog 127 #[.int .i64 z,.int .u32 n,.int .u32 next,.int .u64 tx,.string s] w fun e w'=>e=.returned (.tuple #[.agg #[.int .i64 5,.int .i64 s.size,.int .u32 n,.int .u32 next,.int .u64 tx,.string (overBody z s)],.int .i64 0])∧Below w.heap.size w w':=by
 obtain⟨hg,h1,h2,hn,h5,h4⟩:=mayP9_parts h
 by_cases h0:next=0
 ·exact opage9_yesa z n next tx _ s _ w rfl hg h1 h2.1 hn h4 rfl h0
 ·rcases h5 with h5 | ⟨h5,h6⟩
  ·exact absurd h5 h0
  ·exact opage9_yesb z n next tx _ s _ w rfl hg h1 h2.1 hn h4 rfl h0 h5 (by omega)
end Go.Proofs.YtanbbnogdhnikaaGreat

