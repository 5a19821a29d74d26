/-
  Contracts of the reference's Good, Room and May, each with its conditions in its own statement.
-/
import Derived.Test.YtanbbnogdhnikaaGreatJ5
set_option linter.unusedVariables false
set_option linter.unusedSimpArgs false
set_option maxRecDepth 300000
set_option maxHeartbeats 25600000
namespace Go.Proofs.YtanbbnogdhnikaaGreat
open Go.RowKit
open Go.Lib
attribute [local go_sem ↓] Go.wp_at_zero Go.wp_at_succ

theorem rgood_any (n:Int) (w:World) :
  Calls Tryz.prog 32 #[.int .i64 n] w fun e w'=>e=.returned (.bool (goodSize n))∧w=w':=by
 by_cases h1:128≤n
 ·by_cases h2:n≤4096
  ·have h0:0≤n:=by omega
   by_cases h3:n%64=0
   ·have h4:(n%64==0)=true:=by simpa using h3
    have HG:=Hd (show goodSize n=true by simp[goodSize,h1,h2,h3])
    clear h3
    go_enter Tryz.func32,Tryz.ntmps32
    go_wp2
    go_ret
    exact⟨by rw[HG.out];rfl,rfl⟩
   ·have h4:(n%64==0)=false:=by simpa using h3
    have HG:=Hd (show goodSize n=false by simp[goodSize,h1,h2,h4])
    clear h3
    go_enter Tryz.func32,Tryz.ntmps32
    go_wp2
    go_ret
    exact⟨by rw[HG.out];rfl,rfl⟩
  ·have HG:=Hd (show goodSize n=false by simp[goodSize,h2])
   go_enter Tryz.func32,Tryz.ntmps32
   go_wp2
   go_ret
   exact⟨by rw[HG.out];rfl,rfl⟩
 ·have HG:=Hd (show goodSize n=false by simp[goodSize,h1])
  go_enter Tryz.func32,Tryz.ntmps32
  go_wp2
  go_ret
  exact⟨by rw[HG.out];rfl,rfl⟩

theorem rroom_yes (size:Int) (w:World) (h:goodSize size=true) :
  Calls Tryz.prog 49 #[.int .i64 size] w fun e w'=>e=.returned (.int .i64 (size-24))∧w=w':=by
 obtain⟨n,rfl,h1,h2,h3⟩:=good_nat h
 go_enter Tryz.func49,Tryz.ntmps49
 go_wp2_with (go_at_call 32;refine (rgood_any _ _).mono ?_;rw[h];rintro e w' ⟨rfl,rfl⟩)
 go_ret
 exact⟨rfl,rfl⟩
theorem rroom_no (size:Int) (w:World) (h:goodSize size=false) :
  Calls Tryz.prog 49 #[.int .i64 size] w fun e w'=>e=.returned (.int .i64 0)∧w=w':=by
 go_enter Tryz.func49,Tryz.ntmps49
 go_wp2_with (go_at_call 32;refine (rgood_any _ _).mono ?_;rw[h];rintro e w' ⟨rfl,rfl⟩)
 go_ret
 exact⟨rfl,rfl⟩
theorem rgood_is (n:Int) (b:Bool) (w:World) (h:goodSize n=b):Calls Tryz.prog 32 #[.int .i64 n] w fun e w'=>e=.returned (.bool b)∧w'=w :=
 (rgood_any n w).mono fun _ _ ⟨a,b⟩=>⟨by rw[← h];exact a,b.symm⟩
theorem rroom_is (n:Int) (w:World) (h:goodSize n=true):Calls Tryz.prog 49 #[.int .i64 n] w fun e w'=>e=.returned (.int .i64 (n-24))∧w'=w :=
 (rroom_yes n w h).mono fun _ _ ⟨a,b⟩=>⟨a,b.symm⟩
theorem rmay_0 (size kd ct:Int) (pg lk tx:Nat) (bd:ByteArray) (w:World) (hg:goodSize size=false) :
  Calls Tryz.prog 83 #[.int .i64 size,.agg #[.int .i64 kd,.int .i64 ct,.int .u32 pg,.int .u32 lk,.int .u64 tx,.string bd]] w fun e w'=>e=.returned (.bool false)∧Below w.heap.size w w':=by
 have b0:Blk (w.alloc (.cells #[.int .i64 kd,.int .i64 ct,.int .u32 pg,.int .u32 lk,.int .u64 tx,.string bd] 41)) w.heap.size 41 #[.int .i64 kd,.int .i64 ct,.int .u32 pg,.int .u32 lk,.int .u64 tx,.string bd]:=Blk.new _ _ _
 have HB:=Hd (show Below w.heap.size w (w.alloc (.cells #[.int .i64 kd,.int .i64 ct,.int .u32 pg,.int .u32 lk,.int .u64 tx,.string bd] 41)) from (Below.refl _ _).alloc (Nat.le_refl _) _)
 have c0:=b0.cell 0
 have c1:=b0.cell 1
 have c2:=b0.cell 2
 have c3:=b0.cell 3
 have c4:=b0.cell 4
 have c5:=b0.cell 5
 simp at c0 c1 c2 c3 c4 c5
 clear b0
 go_enter Tryz.func83,Tryz.ntmps83
 go_wp2_with fail
 go_quiet (first | (go_at_call 32;exact Calls.quiet_of_same (rgood_is _ _ _ hg)) | (go_at_call 49;exact Calls.quiet_of_same (rroom_is _ _ hg)))
 go_wp2
 go_ret
 exact⟨rfl,below_drewN HB.out _⟩
theorem rmay_1 (size kd ct:Int) (pg lk tx:Nat) (bd:ByteArray) (w:World) (hg:goodSize size=true) (h1 : ¬ (1≤kd)) :
  Calls Tryz.prog 83 #[.int .i64 size,.agg #[.int .i64 kd,.int .i64 ct,.int .u32 pg,.int .u32 lk,.int .u64 tx,.string bd]] w fun e w'=>e=.returned (.bool false)∧Below w.heap.size w w':=by
 have b0:Blk (w.alloc (.cells #[.int .i64 kd,.int .i64 ct,.int .u32 pg,.int .u32 lk,.int .u64 tx,.string bd] 41)) w.heap.size 41 #[.int .i64 kd,.int .i64 ct,.int .u32 pg,.int .u32 lk,.int .u64 tx,.string bd]:=Blk.new _ _ _
 have HB:=Hd (show Below w.heap.size w (w.alloc (.cells #[.int .i64 kd,.int .i64 ct,.int .u32 pg,.int .u32 lk,.int .u64 tx,.string bd] 41)) from (Below.refl _ _).alloc (Nat.le_refl _) _)
 have c0:=b0.cell 0
 have c1:=b0.cell 1
 have c2:=b0.cell 2
 have c3:=b0.cell 3
 have c4:=b0.cell 4
 have c5:=b0.cell 5
 simp at c0 c1 c2 c3 c4 c5
 clear b0
 have d1:decide ((1:Int)≤kd)=false:=by simp;omega
 go_enter Tryz.func83,Tryz.ntmps83
 go_wp2_with fail
 go_quiet (first | (go_at_call 32;exact Calls.quiet_of_same (rgood_is _ _ _ hg)) | (go_at_call 49;exact Calls.quiet_of_same (rroom_is _ _ hg)))
 go_wp2
 go_ret
 exact⟨rfl,below_drewN HB.out _⟩
theorem rmay_2 (size kd ct:Int) (pg lk tx:Nat) (bd:ByteArray) (w:World) (hg:goodSize size=true) (h1:1≤kd) (h2 : ¬ (kd≤6)) :
  Calls Tryz.prog 83 #[.int .i64 size,.agg #[.int .i64 kd,.int .i64 ct,.int .u32 pg,.int .u32 lk,.int .u64 tx,.string bd]] w fun e w'=>e=.returned (.bool false)∧Below w.heap.size w w':=by
 have b0:Blk (w.alloc (.cells #[.int .i64 kd,.int .i64 ct,.int .u32 pg,.int .u32 lk,.int .u64 tx,.string bd] 41)) w.heap.size 41 #[.int .i64 kd,.int .i64 ct,.int .u32 pg,.int .u32 lk,.int .u64 tx,.string bd]:=Blk.new _ _ _
 have HB:=Hd (show Below w.heap.size w (w.alloc (.cells #[.int .i64 kd,.int .i64 ct,.int .u32 pg,.int .u32 lk,.int .u64 tx,.string bd] 41)) from (Below.refl _ _).alloc (Nat.le_refl _) _)
 have c0:=b0.cell 0
 have c1:=b0.cell 1
 have c2:=b0.cell 2
 have c3:=b0.cell 3
 have c4:=b0.cell 4
 have c5:=b0.cell 5
 simp at c0 c1 c2 c3 c4 c5
 clear b0
 have d1:decide ((1:Int)≤kd)=true:=by simp;omega
 have d2:decide (kd≤(6:Int))=false:=by simp;omega
 go_enter Tryz.func83,Tryz.ntmps83
 go_wp2_with fail
 go_quiet (first | (go_at_call 32;exact Calls.quiet_of_same (rgood_is _ _ _ hg)) | (go_at_call 49;exact Calls.quiet_of_same (rroom_is _ _ hg)))
 go_wp2
 go_ret
 exact⟨rfl,below_drewN HB.out _⟩
theorem rmay_3 (size kd ct:Int) (pg lk tx:Nat) (bd:ByteArray) (w:World) (hg:goodSize size=true) (h1:1≤kd) (h2:kd≤6) (h3 : ¬ (0≤ct)) :
  Calls Tryz.prog 83 #[.int .i64 size,.agg #[.int .i64 kd,.int .i64 ct,.int .u32 pg,.int .u32 lk,.int .u64 tx,.string bd]] w fun e w'=>e=.returned (.bool false)∧Below w.heap.size w w':=by
 have b0:Blk (w.alloc (.cells #[.int .i64 kd,.int .i64 ct,.int .u32 pg,.int .u32 lk,.int .u64 tx,.string bd] 41)) w.heap.size 41 #[.int .i64 kd,.int .i64 ct,.int .u32 pg,.int .u32 lk,.int .u64 tx,.string bd]:=Blk.new _ _ _
 have HB:=Hd (show Below w.heap.size w (w.alloc (.cells #[.int .i64 kd,.int .i64 ct,.int .u32 pg,.int .u32 lk,.int .u64 tx,.string bd] 41)) from (Below.refl _ _).alloc (Nat.le_refl _) _)
 have c0:=b0.cell 0
 have c1:=b0.cell 1
 have c2:=b0.cell 2
 have c3:=b0.cell 3
 have c4:=b0.cell 4
 have c5:=b0.cell 5
 simp at c0 c1 c2 c3 c4 c5
 clear b0
 have d1:decide ((1:Int)≤kd)=true:=by simp;omega
 have d2:decide (kd≤(6:Int))=true:=by simp;omega
 have d3:decide ((0:Int)≤ct)=false:=by simp;omega
 go_enter Tryz.func83,Tryz.ntmps83
 go_wp2_with fail
 go_quiet (first | (go_at_call 32;exact Calls.quiet_of_same (rgood_is _ _ _ hg)) | (go_at_call 49;exact Calls.quiet_of_same (rroom_is _ _ hg)))
 go_wp2
 go_ret
 exact⟨rfl,below_drewN HB.out _⟩
theorem rmay_4 (size kd ct:Int) (pg lk tx:Nat) (bd:ByteArray) (w:World) (hg:goodSize size=true) (h1:1≤kd) (h2:kd≤6) (h3:0≤ct) (h4 : ¬ (ct≤65535)) :
  Calls Tryz.prog 83 #[.int .i64 size,.agg #[.int .i64 kd,.int .i64 ct,.int .u32 pg,.int .u32 lk,.int .u64 tx,.string bd]] w fun e w'=>e=.returned (.bool false)∧Below w.heap.size w w':=by
 have b0:Blk (w.alloc (.cells #[.int .i64 kd,.int .i64 ct,.int .u32 pg,.int .u32 lk,.int .u64 tx,.string bd] 41)) w.heap.size 41 #[.int .i64 kd,.int .i64 ct,.int .u32 pg,.int .u32 lk,.int .u64 tx,.string bd]:=Blk.new _ _ _
 have HB:=Hd (show Below w.heap.size w (w.alloc (.cells #[.int .i64 kd,.int .i64 ct,.int .u32 pg,.int .u32 lk,.int .u64 tx,.string bd] 41)) from (Below.refl _ _).alloc (Nat.le_refl _) _)
 have c0:=b0.cell 0
 have c1:=b0.cell 1
 have c2:=b0.cell 2
 have c3:=b0.cell 3
 have c4:=b0.cell 4
 have c5:=b0.cell 5
 simp at c0 c1 c2 c3 c4 c5
 clear b0
 have d1:decide ((1:Int)≤kd)=true:=by simp;omega
 have d2:decide (kd≤(6:Int))=true:=by simp;omega
 have d3:decide ((0:Int)≤ct)=true:=by simp;omega
 have d4:decide (ct≤(65535:Int))=false:=by simp;omega
 go_enter Tryz.func83,Tryz.ntmps83
 go_wp2_with fail
 go_quiet (first | (go_at_call 32;exact Calls.quiet_of_same (rgood_is _ _ _ hg)) | (go_at_call 49;exact Calls.quiet_of_same (rroom_is _ _ hg)))
 go_wp2
 go_ret
 exact⟨rfl,below_drewN HB.out _⟩
theorem rmay_5 (size kd ct:Int) (pg lk tx:Nat) (bd:ByteArray) (w:World) (hg:goodSize size=true) (h1:1≤kd) (h2:kd≤6) (h3:0≤ct) (h4:ct≤65535) (h5 : ¬ (pg≤2147483647)) :
  Calls Tryz.prog 83 #[.int .i64 size,.agg #[.int .i64 kd,.int .i64 ct,.int .u32 pg,.int .u32 lk,.int .u64 tx,.string bd]] w fun e w'=>e=.returned (.bool false)∧Below w.heap.size w w':=by
 have b0:Blk (w.alloc (.cells #[.int .i64 kd,.int .i64 ct,.int .u32 pg,.int .u32 lk,.int .u64 tx,.string bd] 41)) w.heap.size 41 #[.int .i64 kd,.int .i64 ct,.int .u32 pg,.int .u32 lk,.int .u64 tx,.string bd]:=Blk.new _ _ _
 have HB:=Hd (show Below w.heap.size w (w.alloc (.cells #[.int .i64 kd,.int .i64 ct,.int .u32 pg,.int .u32 lk,.int .u64 tx,.string bd] 41)) from (Below.refl _ _).alloc (Nat.le_refl _) _)
 have c0:=b0.cell 0
 have c1:=b0.cell 1
 have c2:=b0.cell 2
 have c3:=b0.cell 3
 have c4:=b0.cell 4
 have c5:=b0.cell 5
 simp at c0 c1 c2 c3 c4 c5
 clear b0
 have d1:decide ((1:Int)≤kd)=true:=by simp;omega
 have d2:decide (kd≤(6:Int))=true:=by simp;omega
 have d3:decide ((0:Int)≤ct)=true:=by simp;omega
 have d4:decide (ct≤(65535:Int))=true:=by simp;omega
 have d5:decide ((pg:Int)≤(2147483647:Int))=false:=by simp;omega
 go_enter Tryz.func83,Tryz.ntmps83
 go_wp2_with fail
 go_quiet (first | (go_at_call 32;exact Calls.quiet_of_same (rgood_is _ _ _ hg)) | (go_at_call 49;exact Calls.quiet_of_same (rroom_is _ _ hg)))
 go_wp2
 go_ret
 exact⟨rfl,below_drewN HB.out _⟩
theorem rmay_6 (size kd ct:Int) (pg lk tx:Nat) (bd:ByteArray) (w:World) (hg:goodSize size=true) (h1:1≤kd) (h2:kd≤6) (h3:0≤ct) (h4:ct≤65535) (h5:pg≤2147483647) (h6 : ¬ (lk≤2147483647)) :
  Calls Tryz.prog 83 #[.int .i64 size,.agg #[.int .i64 kd,.int .i64 ct,.int .u32 pg,.int .u32 lk,.int .u64 tx,.string bd]] w fun e w'=>e=.returned (.bool false)∧Below w.heap.size w w':=by
 have b0:Blk (w.alloc (.cells #[.int .i64 kd,.int .i64 ct,.int .u32 pg,.int .u32 lk,.int .u64 tx,.string bd] 41)) w.heap.size 41 #[.int .i64 kd,.int .i64 ct,.int .u32 pg,.int .u32 lk,.int .u64 tx,.string bd]:=Blk.new _ _ _
 have HB:=Hd (show Below w.heap.size w (w.alloc (.cells #[.int .i64 kd,.int .i64 ct,.int .u32 pg,.int .u32 lk,.int .u64 tx,.string bd] 41)) from (Below.refl _ _).alloc (Nat.le_refl _) _)
 have c0:=b0.cell 0
 have c1:=b0.cell 1
 have c2:=b0.cell 2
 have c3:=b0.cell 3
 have c4:=b0.cell 4
 have c5:=b0.cell 5
 simp at c0 c1 c2 c3 c4 c5
 clear b0
 have d1:decide ((1:Int)≤kd)=true:=by simp;omega
 have d2:decide (kd≤(6:Int))=true:=by simp;omega
 have d3:decide ((0:Int)≤ct)=true:=by simp;omega
 have d4:decide (ct≤(65535:Int))=true:=by simp;omega
 have d5:decide ((pg:Int)≤(2147483647:Int))=true:=by simp;omega
 have d6:decide ((lk:Int)≤(2147483647:Int))=false:=by simp;omega
 go_enter Tryz.func83,Tryz.ntmps83
 go_wp2_with fail
 go_quiet (first | (go_at_call 32;exact Calls.quiet_of_same (rgood_is _ _ _ hg)) | (go_at_call 49;exact Calls.quiet_of_same (rroom_is _ _ hg)))
 go_wp2
 go_ret
 exact⟨rfl,below_drewN HB.out _⟩
theorem rmay_7 (size kd ct:Int) (pg lk tx:Nat) (bd:ByteArray) (w:World) (hg:goodSize size=true) (h1:1≤kd) (h2:kd≤6) (h3:0≤ct) (h4:ct≤65535) (h5:pg≤2147483647) (h6:lk≤2147483647) (h7 : ¬ (tx≤4611686018427387904)) :
  Calls Tryz.prog 83 #[.int .i64 size,.agg #[.int .i64 kd,.int .i64 ct,.int .u32 pg,.int .u32 lk,.int .u64 tx,.string bd]] w fun e w'=>e=.returned (.bool false)∧Below w.heap.size w w':=by
 have b0:Blk (w.alloc (.cells #[.int .i64 kd,.int .i64 ct,.int .u32 pg,.int .u32 lk,.int .u64 tx,.string bd] 41)) w.heap.size 41 #[.int .i64 kd,.int .i64 ct,.int .u32 pg,.int .u32 lk,.int .u64 tx,.string bd]:=Blk.new _ _ _
 have HB:=Hd (show Below w.heap.size w (w.alloc (.cells #[.int .i64 kd,.int .i64 ct,.int .u32 pg,.int .u32 lk,.int .u64 tx,.string bd] 41)) from (Below.refl _ _).alloc (Nat.le_refl _) _)
 have c0:=b0.cell 0
 have c1:=b0.cell 1
 have c2:=b0.cell 2
 have c3:=b0.cell 3
 have c4:=b0.cell 4
 have c5:=b0.cell 5
 simp at c0 c1 c2 c3 c4 c5
 clear b0
 have d1:decide ((1:Int)≤kd)=true:=by simp;omega
 have d2:decide (kd≤(6:Int))=true:=by simp;omega
 have d3:decide ((0:Int)≤ct)=true:=by simp;omega
 have d4:decide (ct≤(65535:Int))=true:=by simp;omega
 have d5:decide ((pg:Int)≤(2147483647:Int))=true:=by simp;omega
 have d6:decide ((lk:Int)≤(2147483647:Int))=true:=by simp;omega
 have d7:decide ((tx:Int)≤(4611686018427387904:Int))=false:=by simp;omega
 go_enter Tryz.func83,Tryz.ntmps83
 go_wp2_with fail
 go_quiet (first | (go_at_call 32;exact Calls.quiet_of_same (rgood_is _ _ _ hg)) | (go_at_call 49;exact Calls.quiet_of_same (rroom_is _ _ hg)))
 go_wp2
 go_ret
 exact⟨rfl,below_drewN HB.out _⟩
theorem rmay_8 (size kd ct:Int) (pg lk tx:Nat) (bd:ByteArray) (w:World) (hg:goodSize size=true) (h1:1≤kd) (h2:kd≤6) (h3:0≤ct) (h4:ct≤65535) (h5:pg≤2147483647) (h6:lk≤2147483647) (h7:tx≤4611686018427387904) (h8 : ¬ ((bd.size:Int)=size-24)) :
  Calls Tryz.prog 83 #[.int .i64 size,.agg #[.int .i64 kd,.int .i64 ct,.int .u32 pg,.int .u32 lk,.int .u64 tx,.string bd]] w fun e w'=>e=.returned (.bool false)∧Below w.heap.size w w':=by
 have b0:Blk (w.alloc (.cells #[.int .i64 kd,.int .i64 ct,.int .u32 pg,.int .u32 lk,.int .u64 tx,.string bd] 41)) w.heap.size 41 #[.int .i64 kd,.int .i64 ct,.int .u32 pg,.int .u32 lk,.int .u64 tx,.string bd]:=Blk.new _ _ _
 have HB:=Hd (show Below w.heap.size w (w.alloc (.cells #[.int .i64 kd,.int .i64 ct,.int .u32 pg,.int .u32 lk,.int .u64 tx,.string bd] 41)) from (Below.refl _ _).alloc (Nat.le_refl _) _)
 have c0:=b0.cell 0
 have c1:=b0.cell 1
 have c2:=b0.cell 2
 have c3:=b0.cell 3
 have c4:=b0.cell 4
 have c5:=b0.cell 5
 simp at c0 c1 c2 c3 c4 c5
 clear b0
 have d1:decide ((1:Int)≤kd)=true:=by simp;omega
 have d2:decide (kd≤(6:Int))=true:=by simp;omega
 have d3:decide ((0:Int)≤ct)=true:=by simp;omega
 have d4:decide (ct≤(65535:Int))=true:=by simp;omega
 have d5:decide ((pg:Int)≤(2147483647:Int))=true:=by simp;omega
 have d6:decide ((lk:Int)≤(2147483647:Int))=true:=by simp;omega
 have d7:decide ((tx:Int)≤(4611686018427387904:Int))=true:=by simp;omega
 have d8:((bd.size:Int)==size-24)=false:=by simp;omega
 go_enter Tryz.func83,Tryz.ntmps83
 go_wp2_with fail
 go_quiet (first | (go_at_call 32;exact Calls.quiet_of_same (rgood_is _ _ _ hg)) | (go_at_call 49;exact Calls.quiet_of_same (rroom_is _ _ hg)))
 go_wp2
 go_ret
 exact⟨rfl,below_drewN HB.out _⟩
theorem rmay_9 (size kd ct:Int) (pg lk tx:Nat) (bd:ByteArray) (w:World) (hg:goodSize size=true) (h1:1≤kd) (h2:kd≤6) (h3:0≤ct) (h4:ct≤65535) (h5:pg≤2147483647) (h6:lk≤2147483647) (h7:tx≤4611686018427387904) (h8:(bd.size:Int)=size-24) :
  Calls Tryz.prog 83 #[.int .i64 size,.agg #[.int .i64 kd,.int .i64 ct,.int .u32 pg,.int .u32 lk,.int .u64 tx,.string bd]] w fun e w'=>e=.returned (.bool true)∧Below w.heap.size w w':=by
 have b0:Blk (w.alloc (.cells #[.int .i64 kd,.int .i64 ct,.int .u32 pg,.int .u32 lk,.int .u64 tx,.string bd] 41)) w.heap.size 41 #[.int .i64 kd,.int .i64 ct,.int .u32 pg,.int .u32 lk,.int .u64 tx,.string bd]:=Blk.new _ _ _
 have HB:=Hd (show Below w.heap.size w (w.alloc (.cells #[.int .i64 kd,.int .i64 ct,.int .u32 pg,.int .u32 lk,.int .u64 tx,.string bd] 41)) from (Below.refl _ _).alloc (Nat.le_refl _) _)
 have c0:=b0.cell 0
 have c1:=b0.cell 1
 have c2:=b0.cell 2
 have c3:=b0.cell 3
 have c4:=b0.cell 4
 have c5:=b0.cell 5
 simp at c0 c1 c2 c3 c4 c5
 clear b0
 have d1:decide ((1:Int)≤kd)=true:=by simp;omega
 have d2:decide (kd≤(6:Int))=true:=by simp;omega
 have d3:decide ((0:Int)≤ct)=true:=by simp;omega
 have d4:decide (ct≤(65535:Int))=true:=by simp;omega
 have d5:decide ((pg:Int)≤(2147483647:Int))=true:=by simp;omega
 have d6:decide ((lk:Int)≤(2147483647:Int))=true:=by simp;omega
 have d7:decide ((tx:Int)≤(4611686018427387904:Int))=true:=by simp;omega
 have d8:((bd.size:Int)==size-24)=true:=by simp;omega
 have d8:((bd.size:Int)==size-24)=true:=by simpa using h8
 go_enter Tryz.func83,Tryz.ntmps83
 go_wp2_with fail
 go_quiet (first | (go_at_call 32;exact Calls.quiet_of_same (rgood_is _ _ _ hg)) | (go_at_call 49;exact Calls.quiet_of_same (rroom_is _ _ hg)))
 go_wp2
 go_ret
 exact⟨rfl,below_drewN HB.out _⟩
theorem rmay_any (size kd ct:Int) (pg lk tx:Nat) (bd:ByteArray) (w:World) :
  Calls Tryz.prog 83 #[.int .i64 size,.agg #[.int .i64 kd,.int .i64 ct,.int .u32 pg,.int .u32 lk,.int .u64 tx,.string bd]] w fun e w'=>e=.returned (.bool (mayPg size kd ct pg lk tx bd))∧Below w.heap.size w w':=by
 by_cases hg:goodSize size=true
 case neg =>
  rw[show mayPg size kd ct pg lk tx bd=false by simp[mayPg,show goodSize size=false by simpa using hg]]
  exact rmay_0 size kd ct pg lk tx bd w  (by simpa using hg)
 by_cases h1:1≤kd
 case neg =>
  rw[show mayPg size kd ct pg lk tx bd=false by simp[mayPg,hg,h1]]
  exact rmay_1 size kd ct pg lk tx bd w hg h1
 by_cases h2:kd≤6
 case neg =>
  rw[show mayPg size kd ct pg lk tx bd=false by simp[mayPg,hg,h1,h2]]
  exact rmay_2 size kd ct pg lk tx bd w hg h1 h2
 by_cases h3:0≤ct
 case neg =>
  rw[show mayPg size kd ct pg lk tx bd=false by simp[mayPg,hg,h1,h2,h3]]
  exact rmay_3 size kd ct pg lk tx bd w hg h1 h2 h3
 by_cases h4:ct≤65535
 case neg =>
  rw[show mayPg size kd ct pg lk tx bd=false by simp[mayPg,hg,h1,h2,h3,h4]]
  exact rmay_4 size kd ct pg lk tx bd w hg h1 h2 h3 h4
 by_cases h5:pg≤2147483647
 case neg =>
  rw[show mayPg size kd ct pg lk tx bd=false by simp[mayPg,hg,h1,h2,h3,h4,h5]]
  exact rmay_5 size kd ct pg lk tx bd w hg h1 h2 h3 h4 h5
 by_cases h6:lk≤2147483647
 case neg =>
  rw[show mayPg size kd ct pg lk tx bd=false by simp[mayPg,hg,h1,h2,h3,h4,h5,h6]]
  exact rmay_6 size kd ct pg lk tx bd w hg h1 h2 h3 h4 h5 h6
 by_cases h7:tx≤4611686018427387904
 case neg =>
  rw[show mayPg size kd ct pg lk tx bd=false by simp[mayPg,hg,h1,h2,h3,h4,h5,h6,h7]]
  exact rmay_7 size kd ct pg lk tx bd w hg h1 h2 h3 h4 h5 h6 h7
 by_cases h8:(bd.size:Int)=size-24
 case neg =>
  rw[show mayPg size kd ct pg lk tx bd=false by simp[mayPg,hg,h1,h2,h3,h4,h5,h6,h7,h8]]
  exact rmay_8 size kd ct pg lk tx bd w hg h1 h2 h3 h4 h5 h6 h7 h8
 rw[show mayPg size kd ct pg lk tx bd=true by simp[mayPg,hg,h1,h2,h3,h4,h5,h6,h7,h8]]
 exact rmay_9 size kd ct pg lk tx bd w hg h1 h2 h3 h4 h5 h6 h7 h8
end Go.Proofs.YtanbbnogdhnikaaGreat

