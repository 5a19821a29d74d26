/-
  Texts that the main proof rests on, put together: Frame, FrameValid. No statement is proved here.
-/
import Derived.Test.YtanbbnogdhnikaaGreatJ4
import Derived.Test.YtanbbnogdhnikaaGreatJ3
set_option linter.unusedVariables false
set_option linter.unusedSimpArgs false
set_option maxRecDepth 300000
set_option maxHeartbeats 25600000
namespace Go.Proofs.YtanbbnogdhnikaaGreat
open Go.RowKit
open Go.Lib
attribute [local go_sem ↓] Go.wp_at_zero Go.wp_at_succ

theorem good_nat {size:Int} (h:goodSize size=true) : ∃ n:Nat,size=n∧128≤n∧n≤4096∧n%64=0:=by
 simp[goodSize] at h
 exact⟨size.toNat,by omega,by omega,by omega,by omega⟩

theorem room_yes (size:Int) (w:World) (h:goodSize size=true) :
  Calls Tryz.prog 122 #[.int .i64 size] w fun e w'=>e=.returned (.int .i64 (size-24))∧w=w':=by
 obtain⟨n,rfl,h1,h2,h3⟩:=good_nat h
 go_enter Tryz.func122,Tryz.ntmps122
 go_wp2_with (go_at_call 71;refine (dgood_any _ _).mono ?_;rw[h];rintro e w' ⟨rfl,rfl⟩)
 go_ret
 exact⟨rfl,rfl⟩
theorem room_no (size:Int) (w:World) (h:goodSize size=false) :
  Calls Tryz.prog 122 #[.int .i64 size] w fun e w'=>e=.returned (.int .i64 0)∧w=w':=by
 go_enter Tryz.func122,Tryz.ntmps122
 go_wp2_with (go_at_call 71;refine (dgood_any _ _).mono ?_;rw[h];rintro e w' ⟨rfl,rfl⟩)
 go_ret
 exact⟨rfl,rfl⟩
theorem fpages_yes (size:Nat) (s:ByteArray) (w:World) (h:goodSize size=true) (hs:s.size≤maxLen) :
  Calls Tryz.prog 131 #[.int .i64 size,.string s] w fun e w'=>e=.returned (.int .i64 ((s.size/size:Nat):Int))∧w=w':=by
 have hp:=good_pos h
 have h0 : ¬ (size:Int)=0:=by omega
 have hq:wrap64 ((s.size:Int)/(size:Int))=((s.size/size:Nat):Int):=by
  have h1:s.size/size≤s.size:=Nat.div_le_self _ _
  unfold maxLen at hs
  rw[← Int.natCast_ediv]
  generalize s.size/size=q at *
  unfold wrap64
  omega
 go_enter Tryz.func131,Tryz.ntmps131
 go_wp2_with (go_at_call 71;refine (dgood_any _ _).mono ?_;rw[h];rintro e w' ⟨rfl,rfl⟩)
 go_ret
 exact⟨by rw[← hq];rfl,rfl⟩
theorem need_yes (size:Int) (s:ByteArray) (e:Int) (w:World) :
  Calls Tryz.prog 153 #[.agg #[.int .i64 size,.string s],.bool true,.int .i64 e] w fun e w'=>e=.returned (.tuple #[])∧Below w.heap.size w w':=by
 go_enter Tryz.func153,Tryz.ntmps153
 go_wp2
 go_end0
 exact⟨rfl,(Below.refl _ _).alloc (Nat.le_refl _) _⟩
theorem need_no (size:Int) (s:ByteArray) (n:Int) (w:World) :
  Calls Tryz.prog 153 #[.agg #[.int .i64 size,.string s],.bool false,.int .i64 n] w fun e w'=>e=.panicked [{ v:=.iface 204 (.int .i64 n),recovered:=false }]∧Below w.heap.size w w':=by
 go_enter Tryz.func153,Tryz.ntmps153
 go_wp2
 exact⟨rfl,rfl,(Below.refl _ _).alloc (Nat.le_refl _) _⟩
theorem rnum (size:Int) (s:ByteArray) (f t:Nat) (w:World) (h1:f<t) (h2:t≤f+8) (h3:t≤s.size) (hs:s.size≤1000000) :
  Calls Tryz.prog 154 #[.agg #[.int .i64 size,.string s],.int .i64 f,.int .i64 t] w fun e w'=>e=.returned (.int .u64 (leNat (List.take (t-f) (List.drop f s.data.toList))))∧Below w.heap.size w w':=by
 have q1:(0:Int)≤f:=by omega
 have q2:(f:Int)≤t:=by omega
 have q3:(t:Int)≤s.size:=by omega
 have hsz:(s.extract f t).size=t-f:=by rw[ByteArray.size_extract];omega
 have hl:((s.extract f t).data.toList).take (t-f)=(s.extract f t).data.toList:=by
  rw[List.take_of_length_le];rw[size_list,hsz];exact Nat.le_refl _
 have hd:((t:Int)-f)=((t-f:Nat):Int):=by omega
 have HSZ:=Hd hsz
 have HL:=Hd hl
 clear hsz hl
 have b0:Blk (w.alloc (.cells #[.int .i64 size,.string s] 206)) w.heap.size 206 #[.int .i64 size,.string s]:=Blk.new _ _ _
 have B0:=Hd b0
 clear b0
 go_enter Tryz.func154,Tryz.ntmps154
 go_wp2_with fail
 refine (new_any' _ _).mono ?_
 rintro e w1 ⟨rfl,hr,hb1,hlt⟩
 rw[show (w.alloc (.cells #[.int .i64 size,.string s] 206)).heap.size=w.heap.size+1 by simp] at hr hb1 hlt
 go_wp2_with fail
 refine (number_ok' hr (t-f) (by omega) (by omega) (by rw[HSZ.out];exact Nat.le_refl _)).mono ?_
 rw[HL.out]
 rintro e w2 ⟨rfl,hr2,hg2⟩
 have c1:=(B0.out.below hb1 (Nat.lt_succ_self _)).grown hg2 (by simp)
 have k0:=c1.cell 0
 have k1:=c1.cell 1
 simp at k0 k1
 clear c1 hr2 hr
 go_wp2_with fail
 refine (need_yes _ _ _ _).mono ?_
 rintro e w3 ⟨rfl,hb3⟩
 go_wp2_with fail
 go_ret
 refine⟨rfl,?_⟩
 have hb0:Below w.heap.size w (w.alloc (.cells #[.int .i64 size,.string s] 206)):=(Below.refl _ _).alloc (Nat.le_refl _) _
 have hb01:=hb0.trans (hb1.mono (Nat.le_succ _))
 have hb02:=hb01.grown hg2 hb01.size (by rintro g ⟨⟩;simp)
 exact hb02.trans (hb3.mono hb02.size)

def mayPg (size kd ct:Int) (pg lk tx:Nat) (bd:ByteArray):Bool:=goodSize size&&(decide (1≤kd)&&(decide (kd≤6)&&(decide (0≤ct)&&(decide (ct≤65535)&&(decide (pg≤2147483647)&&(decide (lk≤2147483647)&&(decide (tx≤4611686018427387904)&&decide ((bd.size:Int)=size-24))))))))
theorem dgood_is (n:Int) (b:Bool) (w:World) (h:goodSize n=b):Calls Tryz.prog 71 #[.int .i64 n] w fun e w'=>e=.returned (.bool b)∧w'=w :=
 (dgood_any n w).mono fun _ _ ⟨a,b⟩=>⟨by rw[← h];exact a,b.symm⟩
theorem room_is (n:Int) (w:World) (h:goodSize n=true):Calls Tryz.prog 122 #[.int .i64 n] w fun e w'=>e=.returned (.int .i64 (n-24))∧w'=w :=
 (room_yes n w h).mono fun _ _ ⟨a,b⟩=>⟨a,b.symm⟩
theorem valid_0 (size kd ct:Int) (pg lk tx:Nat) (bd:ByteArray) (w:World) (hg:goodSize size=false) :
  Calls Tryz.prog 156 #[.int .i64 size,.agg #[.int .i64 kd,.int .i64 ct,.int .u32 pg,.int .u32 lk,.int .u64 tx,.string bd]] w fun e w'=>e=.returned (.bool false)∧Below w.heap.size w w':=by
 have b0:Blk (w.alloc (.cells #[.int .i64 kd,.int .i64 ct,.int .u32 pg,.int .u32 lk,.int .u64 tx,.string bd] 41)) w.heap.size 41 #[.int .i64 kd,.int .i64 ct,.int .u32 pg,.int .u32 lk,.int .u64 tx,.string bd]:=Blk.new _ _ _
 have HB:=Hd (show Below w.heap.size w (w.alloc (.cells #[.int .i64 kd,.int .i64 ct,.int .u32 pg,.int .u32 lk,.int .u64 tx,.string bd] 41)) from (Below.refl _ _).alloc (Nat.le_refl _) _)
 have c0:=b0.cell 0
 have c1:=b0.cell 1
 have c2:=b0.cell 2
 have c3:=b0.cell 3
 have c4:=b0.cell 4
 have c5:=b0.cell 5
 simp at c0 c1 c2 c3 c4 c5
 clear b0
 go_enter Tryz.func156,Tryz.ntmps156
 go_wp2_with fail
 go_quiet (first | (go_at_call 71;exact Calls.quiet_of_same (dgood_is _ _ _ hg)) | (go_at_call 122;exact Calls.quiet_of_same (room_is _ _ hg)))
 go_wp2
 go_ret
 exact⟨rfl,below_drewN HB.out _⟩
theorem valid_1 (size kd ct:Int) (pg lk tx:Nat) (bd:ByteArray) (w:World) (hg:goodSize size=true) (h1 : ¬ (1≤kd)) :
  Calls Tryz.prog 156 #[.int .i64 size,.agg #[.int .i64 kd,.int .i64 ct,.int .u32 pg,.int .u32 lk,.int .u64 tx,.string bd]] w fun e w'=>e=.returned (.bool false)∧Below w.heap.size w w':=by
 have b0:Blk (w.alloc (.cells #[.int .i64 kd,.int .i64 ct,.int .u32 pg,.int .u32 lk,.int .u64 tx,.string bd] 41)) w.heap.size 41 #[.int .i64 kd,.int .i64 ct,.int .u32 pg,.int .u32 lk,.int .u64 tx,.string bd]:=Blk.new _ _ _
 have HB:=Hd (show Below w.heap.size w (w.alloc (.cells #[.int .i64 kd,.int .i64 ct,.int .u32 pg,.int .u32 lk,.int .u64 tx,.string bd] 41)) from (Below.refl _ _).alloc (Nat.le_refl _) _)
 have c0:=b0.cell 0
 have c1:=b0.cell 1
 have c2:=b0.cell 2
 have c3:=b0.cell 3
 have c4:=b0.cell 4
 have c5:=b0.cell 5
 simp at c0 c1 c2 c3 c4 c5
 clear b0
 have d1:decide ((1:Int)≤kd)=false:=by simp;omega
 go_enter Tryz.func156,Tryz.ntmps156
 go_wp2_with fail
 go_quiet (first | (go_at_call 71;exact Calls.quiet_of_same (dgood_is _ _ _ hg)) | (go_at_call 122;exact Calls.quiet_of_same (room_is _ _ hg)))
 go_wp2
 go_ret
 exact⟨rfl,below_drewN HB.out _⟩
theorem valid_2 (size kd ct:Int) (pg lk tx:Nat) (bd:ByteArray) (w:World) (hg:goodSize size=true) (h1:1≤kd) (h2 : ¬ (kd≤6)) :
  Calls Tryz.prog 156 #[.int .i64 size,.agg #[.int .i64 kd,.int .i64 ct,.int .u32 pg,.int .u32 lk,.int .u64 tx,.string bd]] w fun e w'=>e=.returned (.bool false)∧Below w.heap.size w w':=by
 have b0:Blk (w.alloc (.cells #[.int .i64 kd,.int .i64 ct,.int .u32 pg,.int .u32 lk,.int .u64 tx,.string bd] 41)) w.heap.size 41 #[.int .i64 kd,.int .i64 ct,.int .u32 pg,.int .u32 lk,.int .u64 tx,.string bd]:=Blk.new _ _ _
 have HB:=Hd (show Below w.heap.size w (w.alloc (.cells #[.int .i64 kd,.int .i64 ct,.int .u32 pg,.int .u32 lk,.int .u64 tx,.string bd] 41)) from (Below.refl _ _).alloc (Nat.le_refl _) _)
 have c0:=b0.cell 0
 have c1:=b0.cell 1
 have c2:=b0.cell 2
 have c3:=b0.cell 3
 have c4:=b0.cell 4
 have c5:=b0.cell 5
 simp at c0 c1 c2 c3 c4 c5
 clear b0
 have d1:decide ((1:Int)≤kd)=true:=by simp;omega
 have d2:decide (kd≤(6:Int))=false:=by simp;omega
 go_enter Tryz.func156,Tryz.ntmps156
 go_wp2_with fail
 go_quiet (first | (go_at_call 71;exact Calls.quiet_of_same (dgood_is _ _ _ hg)) | (go_at_call 122;exact Calls.quiet_of_same (room_is _ _ hg)))
 go_wp2
 go_ret
 exact⟨rfl,below_drewN HB.out _⟩
theorem valid_3 (size kd ct:Int) (pg lk tx:Nat) (bd:ByteArray) (w:World) (hg:goodSize size=true) (h1:1≤kd) (h2:kd≤6) (h3 : ¬ (0≤ct)) :
  Calls Tryz.prog 156 #[.int .i64 size,.agg #[.int .i64 kd,.int .i64 ct,.int .u32 pg,.int .u32 lk,.int .u64 tx,.string bd]] w fun e w'=>e=.returned (.bool false)∧Below w.heap.size w w':=by
 have b0:Blk (w.alloc (.cells #[.int .i64 kd,.int .i64 ct,.int .u32 pg,.int .u32 lk,.int .u64 tx,.string bd] 41)) w.heap.size 41 #[.int .i64 kd,.int .i64 ct,.int .u32 pg,.int .u32 lk,.int .u64 tx,.string bd]:=Blk.new _ _ _
 have HB:=Hd (show Below w.heap.size w (w.alloc (.cells #[.int .i64 kd,.int .i64 ct,.int .u32 pg,.int .u32 lk,.int .u64 tx,.string bd] 41)) from (Below.refl _ _).alloc (Nat.le_refl _) _)
 have c0:=b0.cell 0
 have c1:=b0.cell 1
 have c2:=b0.cell 2
 have c3:=b0.cell 3
 have c4:=b0.cell 4
 have c5:=b0.cell 5
 simp at c0 c1 c2 c3 c4 c5
 clear b0
 have d1:decide ((1:Int)≤kd)=true:=by simp;omega
 have d2:decide (kd≤(6:Int))=true:=by simp;omega
 have d3:decide ((0:Int)≤ct)=false:=by simp;omega
 go_enter Tryz.func156,Tryz.ntmps156
 go_wp2_with fail
 go_quiet (first | (go_at_call 71;exact Calls.quiet_of_same (dgood_is _ _ _ hg)) | (go_at_call 122;exact Calls.quiet_of_same (room_is _ _ hg)))
 go_wp2
 go_ret
 exact⟨rfl,below_drewN HB.out _⟩
theorem valid_4 (size kd ct:Int) (pg lk tx:Nat) (bd:ByteArray) (w:World) (hg:goodSize size=true) (h1:1≤kd) (h2:kd≤6) (h3:0≤ct) (h4 : ¬ (ct≤65535)) :
  Calls Tryz.prog 156 #[.int .i64 size,.agg #[.int .i64 kd,.int .i64 ct,.int .u32 pg,.int .u32 lk,.int .u64 tx,.string bd]] w fun e w'=>e=.returned (.bool false)∧Below w.heap.size w w':=by
 have b0:Blk (w.alloc (.cells #[.int .i64 kd,.int .i64 ct,.int .u32 pg,.int .u32 lk,.int .u64 tx,.string bd] 41)) w.heap.size 41 #[.int .i64 kd,.int .i64 ct,.int .u32 pg,.int .u32 lk,.int .u64 tx,.string bd]:=Blk.new _ _ _
 have HB:=Hd (show Below w.heap.size w (w.alloc (.cells #[.int .i64 kd,.int .i64 ct,.int .u32 pg,.int .u32 lk,.int .u64 tx,.string bd] 41)) from (Below.refl _ _).alloc (Nat.le_refl _) _)
 have c0:=b0.cell 0
 have c1:=b0.cell 1
 have c2:=b0.cell 2
 have c3:=b0.cell 3
 have c4:=b0.cell 4
 have c5:=b0.cell 5
 simp at c0 c1 c2 c3 c4 c5
 clear b0
 have d1:decide ((1:Int)≤kd)=true:=by simp;omega
 have d2:decide (kd≤(6:Int))=true:=by simp;omega
 have d3:decide ((0:Int)≤ct)=true:=by simp;omega
 have d4:decide (ct≤(65535:Int))=false:=by simp;omega
 go_enter Tryz.func156,Tryz.ntmps156
 go_wp2_with fail
 go_quiet (first | (go_at_call 71;exact Calls.quiet_of_same (dgood_is _ _ _ hg)) | (go_at_call 122;exact Calls.quiet_of_same (room_is _ _ hg)))
 go_wp2
 go_ret
 exact⟨rfl,below_drewN HB.out _⟩
theorem valid_5 (size kd ct:Int) (pg lk tx:Nat) (bd:ByteArray) (w:World) (hg:goodSize size=true) (h1:1≤kd) (h2:kd≤6) (h3:0≤ct) (h4:ct≤65535) (h5 : ¬ (pg≤2147483647)) :
  Calls Tryz.prog 156 #[.int .i64 size,.agg #[.int .i64 kd,.int .i64 ct,.int .u32 pg,.int .u32 lk,.int .u64 tx,.string bd]] w fun e w'=>e=.returned (.bool false)∧Below w.heap.size w w':=by
 have b0:Blk (w.alloc (.cells #[.int .i64 kd,.int .i64 ct,.int .u32 pg,.int .u32 lk,.int .u64 tx,.string bd] 41)) w.heap.size 41 #[.int .i64 kd,.int .i64 ct,.int .u32 pg,.int .u32 lk,.int .u64 tx,.string bd]:=Blk.new _ _ _
 have HB:=Hd (show Below w.heap.size w (w.alloc (.cells #[.int .i64 kd,.int .i64 ct,.int .u32 pg,.int .u32 lk,.int .u64 tx,.string bd] 41)) from (Below.refl _ _).alloc (Nat.le_refl _) _)
 have c0:=b0.cell 0
 have c1:=b0.cell 1
 have c2:=b0.cell 2
 have c3:=b0.cell 3
 have c4:=b0.cell 4
 have c5:=b0.cell 5
 simp at c0 c1 c2 c3 c4 c5
 clear b0
 have d1:decide ((1:Int)≤kd)=true:=by simp;omega
 have d2:decide (kd≤(6:Int))=true:=by simp;omega
 have d3:decide ((0:Int)≤ct)=true:=by simp;omega
 have d4:decide (ct≤(65535:Int))=true:=by simp;omega
 have d5:decide ((pg:Int)≤(2147483647:Int))=false:=by simp;omega
 go_enter Tryz.func156,Tryz.ntmps156
 go_wp2_with fail
 go_quiet (first | (go_at_call 71;exact Calls.quiet_of_same (dgood_is _ _ _ hg)) | (go_at_call 122;exact Calls.quiet_of_same (room_is _ _ hg)))
 go_wp2
 go_ret
 exact⟨rfl,below_drewN HB.out _⟩
theorem valid_6 (size kd ct:Int) (pg lk tx:Nat) (bd:ByteArray) (w:World) (hg:goodSize size=true) (h1:1≤kd) (h2:kd≤6) (h3:0≤ct) (h4:ct≤65535) (h5:pg≤2147483647) (h6 : ¬ (lk≤2147483647)) :
  Calls Tryz.prog 156 #[.int .i64 size,.agg #[.int .i64 kd,.int .i64 ct,.int .u32 pg,.int .u32 lk,.int .u64 tx,.string bd]] w fun e w'=>e=.returned (.bool false)∧Below w.heap.size w w':=by
 have b0:Blk (w.alloc (.cells #[.int .i64 kd,.int .i64 ct,.int .u32 pg,.int .u32 lk,.int .u64 tx,.string bd] 41)) w.heap.size 41 #[.int .i64 kd,.int .i64 ct,.int .u32 pg,.int .u32 lk,.int .u64 tx,.string bd]:=Blk.new _ _ _
 have HB:=Hd (show Below w.heap.size w (w.alloc (.cells #[.int .i64 kd,.int .i64 ct,.int .u32 pg,.int .u32 lk,.int .u64 tx,.string bd] 41)) from (Below.refl _ _).alloc (Nat.le_refl _) _)
 have c0:=b0.cell 0
 have c1:=b0.cell 1
 have c2:=b0.cell 2
 have c3:=b0.cell 3
 have c4:=b0.cell 4
 have c5:=b0.cell 5
 simp at c0 c1 c2 c3 c4 c5
 clear b0
 have d1:decide ((1:Int)≤kd)=true:=by simp;omega
 have d2:decide (kd≤(6:Int))=true:=by simp;omega
 have d3:decide ((0:Int)≤ct)=true:=by simp;omega
 have d4:decide (ct≤(65535:Int))=true:=by simp;omega
 have d5:decide ((pg:Int)≤(2147483647:Int))=true:=by simp;omega
 have d6:decide ((lk:Int)≤(2147483647:Int))=false:=by simp;omega
 go_enter Tryz.func156,Tryz.ntmps156
 go_wp2_with fail
 go_quiet (first | (go_at_call 71;exact Calls.quiet_of_same (dgood_is _ _ _ hg)) | (go_at_call 122;exact Calls.quiet_of_same (room_is _ _ hg)))
 go_wp2
 go_ret
 exact⟨rfl,below_drewN HB.out _⟩
theorem valid_7 (size kd ct:Int) (pg lk tx:Nat) (bd:ByteArray) (w:World) (hg:goodSize size=true) (h1:1≤kd) (h2:kd≤6) (h3:0≤ct) (h4:ct≤65535) (h5:pg≤2147483647) (h6:lk≤2147483647) (h7 : ¬ (tx≤4611686018427387904)) :
  Calls Tryz.prog 156 #[.int .i64 size,.agg #[.int .i64 kd,.int .i64 ct,.int .u32 pg,.int .u32 lk,.int .u64 tx,.string bd]] w fun e w'=>e=.returned (.bool false)∧Below w.heap.size w w':=by
 have b0:Blk (w.alloc (.cells #[.int .i64 kd,.int .i64 ct,.int .u32 pg,.int .u32 lk,.int .u64 tx,.string bd] 41)) w.heap.size 41 #[.int .i64 kd,.int .i64 ct,.int .u32 pg,.int .u32 lk,.int .u64 tx,.string bd]:=Blk.new _ _ _
 have HB:=Hd (show Below w.heap.size w (w.alloc (.cells #[.int .i64 kd,.int .i64 ct,.int .u32 pg,.int .u32 lk,.int .u64 tx,.string bd] 41)) from (Below.refl _ _).alloc (Nat.le_refl _) _)
 have c0:=b0.cell 0
 have c1:=b0.cell 1
 have c2:=b0.cell 2
 have c3:=b0.cell 3
 have c4:=b0.cell 4
 have c5:=b0.cell 5
 simp at c0 c1 c2 c3 c4 c5
 clear b0
 have d1:decide ((1:Int)≤kd)=true:=by simp;omega
 have d2:decide (kd≤(6:Int))=true:=by simp;omega
 have d3:decide ((0:Int)≤ct)=true:=by simp;omega
 have d4:decide (ct≤(65535:Int))=true:=by simp;omega
 have d5:decide ((pg:Int)≤(2147483647:Int))=true:=by simp;omega
 have d6:decide ((lk:Int)≤(2147483647:Int))=true:=by simp;omega
 have d7:decide ((tx:Int)≤(4611686018427387904:Int))=false:=by simp;omega
 go_enter Tryz.func156,Tryz.ntmps156
 go_wp2_with fail
 go_quiet (first | (go_at_call 71;exact Calls.quiet_of_same (dgood_is _ _ _ hg)) | (go_at_call 122;exact Calls.quiet_of_same (room_is _ _ hg)))
 go_wp2
 go_ret
 exact⟨rfl,below_drewN HB.out _⟩
theorem valid_8 (size kd ct:Int) (pg lk tx:Nat) (bd:ByteArray) (w:World) (hg:goodSize size=true) (h1:1≤kd) (h2:kd≤6) (h3:0≤ct) (h4:ct≤65535) (h5:pg≤2147483647) (h6:lk≤2147483647) (h7:tx≤4611686018427387904) (h8 : ¬ ((bd.size:Int)=size-24)) :
  Calls Tryz.prog 156 #[.int .i64 size,.agg #[.int .i64 kd,.int .i64 ct,.int .u32 pg,.int .u32 lk,.int .u64 tx,.string bd]] w fun e w'=>e=.returned (.bool false)∧Below w.heap.size w w':=by
 have b0:Blk (w.alloc (.cells #[.int .i64 kd,.int .i64 ct,.int .u32 pg,.int .u32 lk,.int .u64 tx,.string bd] 41)) w.heap.size 41 #[.int .i64 kd,.int .i64 ct,.int .u32 pg,.int .u32 lk,.int .u64 tx,.string bd]:=Blk.new _ _ _
 have HB:=Hd (show Below w.heap.size w (w.alloc (.cells #[.int .i64 kd,.int .i64 ct,.int .u32 pg,.int .u32 lk,.int .u64 tx,.string bd] 41)) from (Below.refl _ _).alloc (Nat.le_refl _) _)
 have c0:=b0.cell 0
 have c1:=b0.cell 1
 have c2:=b0.cell 2
 have c3:=b0.cell 3
 have c4:=b0.cell 4
 have c5:=b0.cell 5
 simp at c0 c1 c2 c3 c4 c5
 clear b0
 have d1:decide ((1:Int)≤kd)=true:=by simp;omega
 have d2:decide (kd≤(6:Int))=true:=by simp;omega
 have d3:decide ((0:Int)≤ct)=true:=by simp;omega
 have d4:decide (ct≤(65535:Int))=true:=by simp;omega
 have d5:decide ((pg:Int)≤(2147483647:Int))=true:=by simp;omega
 have d6:decide ((lk:Int)≤(2147483647:Int))=true:=by simp;omega
 have d7:decide ((tx:Int)≤(4611686018427387904:Int))=true:=by simp;omega
 have d8:((bd.size:Int)==size-24)=false:=by simp;omega
 go_enter Tryz.func156,Tryz.ntmps156
 go_wp2_with fail
 go_quiet (first | (go_at_call 71;exact Calls.quiet_of_same (dgood_is _ _ _ hg)) | (go_at_call 122;exact Calls.quiet_of_same (room_is _ _ hg)))
 go_wp2
 go_ret
 exact⟨rfl,below_drewN HB.out _⟩
theorem valid_9 (size kd ct:Int) (pg lk tx:Nat) (bd:ByteArray) (w:World) (hg:goodSize size=true) (h1:1≤kd) (h2:kd≤6) (h3:0≤ct) (h4:ct≤65535) (h5:pg≤2147483647) (h6:lk≤2147483647) (h7:tx≤4611686018427387904) (h8:(bd.size:Int)=size-24) :
  Calls Tryz.prog 156 #[.int .i64 size,.agg #[.int .i64 kd,.int .i64 ct,.int .u32 pg,.int .u32 lk,.int .u64 tx,.string bd]] w fun e w'=>e=.returned (.bool true)∧Below w.heap.size w w':=by
 have b0:Blk (w.alloc (.cells #[.int .i64 kd,.int .i64 ct,.int .u32 pg,.int .u32 lk,.int .u64 tx,.string bd] 41)) w.heap.size 41 #[.int .i64 kd,.int .i64 ct,.int .u32 pg,.int .u32 lk,.int .u64 tx,.string bd]:=Blk.new _ _ _
 have HB:=Hd (show Below w.heap.size w (w.alloc (.cells #[.int .i64 kd,.int .i64 ct,.int .u32 pg,.int .u32 lk,.int .u64 tx,.string bd] 41)) from (Below.refl _ _).alloc (Nat.le_refl _) _)
 have c0:=b0.cell 0
 have c1:=b0.cell 1
 have c2:=b0.cell 2
 have c3:=b0.cell 3
 have c4:=b0.cell 4
 have c5:=b0.cell 5
 simp at c0 c1 c2 c3 c4 c5
 clear b0
 have d1:decide ((1:Int)≤kd)=true:=by simp;omega
 have d2:decide (kd≤(6:Int))=true:=by simp;omega
 have d3:decide ((0:Int)≤ct)=true:=by simp;omega
 have d4:decide (ct≤(65535:Int))=true:=by simp;omega
 have d5:decide ((pg:Int)≤(2147483647:Int))=true:=by simp;omega
 have d6:decide ((lk:Int)≤(2147483647:Int))=true:=by simp;omega
 have d7:decide ((tx:Int)≤(4611686018427387904:Int))=true:=by simp;omega
 have d8:((bd.size:Int)==size-24)=true:=by simp;omega
 have d8:((bd.size:Int)==size-24)=true:=by simpa using h8
 go_enter Tryz.func156,Tryz.ntmps156
 go_wp2_with fail
 go_quiet (first | (go_at_call 71;exact Calls.quiet_of_same (dgood_is _ _ _ hg)) | (go_at_call 122;exact Calls.quiet_of_same (room_is _ _ hg)))
 go_wp2
 go_ret
 exact⟨rfl,below_drewN HB.out _⟩
theorem valid_any (size kd ct:Int) (pg lk tx:Nat) (bd:ByteArray) (w:World) :
  Calls Tryz.prog 156 #[.int .i64 size,.agg #[.int .i64 kd,.int .i64 ct,.int .u32 pg,.int .u32 lk,.int .u64 tx,.string bd]] w fun e w'=>e=.returned (.bool (mayPg size kd ct pg lk tx bd))∧Below w.heap.size w w':=by
 by_cases hg:goodSize size=true
 case neg =>
  rw[show mayPg size kd ct pg lk tx bd=false by simp[mayPg,show goodSize size=false by simpa using hg]]
  exact valid_0 size kd ct pg lk tx bd w  (by simpa using hg)
 by_cases h1:1≤kd
 case neg =>
  rw[show mayPg size kd ct pg lk tx bd=false by simp[mayPg,hg,h1]]
  exact valid_1 size kd ct pg lk tx bd w hg h1
 by_cases h2:kd≤6
 case neg =>
  rw[show mayPg size kd ct pg lk tx bd=false by simp[mayPg,hg,h1,h2]]
  exact valid_2 size kd ct pg lk tx bd w hg h1 h2
 by_cases h3:0≤ct
 case neg =>
  rw[show mayPg size kd ct pg lk tx bd=false by simp[mayPg,hg,h1,h2,h3]]
  exact valid_3 size kd ct pg lk tx bd w hg h1 h2 h3
 by_cases h4:ct≤65535
 case neg =>
  rw[show mayPg size kd ct pg lk tx bd=false by simp[mayPg,hg,h1,h2,h3,h4]]
  exact valid_4 size kd ct pg lk tx bd w hg h1 h2 h3 h4
 by_cases h5:pg≤2147483647
 case neg =>
  rw[show mayPg size kd ct pg lk tx bd=false by simp[mayPg,hg,h1,h2,h3,h4,h5]]
  exact valid_5 size kd ct pg lk tx bd w hg h1 h2 h3 h4 h5
 by_cases h6:lk≤2147483647
 case neg =>
  rw[show mayPg size kd ct pg lk tx bd=false by simp[mayPg,hg,h1,h2,h3,h4,h5,h6]]
  exact valid_6 size kd ct pg lk tx bd w hg h1 h2 h3 h4 h5 h6
 by_cases h7:tx≤4611686018427387904
 case neg =>
  rw[show mayPg size kd ct pg lk tx bd=false by simp[mayPg,hg,h1,h2,h3,h4,h5,h6,h7]]
  exact valid_7 size kd ct pg lk tx bd w hg h1 h2 h3 h4 h5 h6 h7
 by_cases h8:(bd.size:Int)=size-24
 case neg =>
  rw[show mayPg size kd ct pg lk tx bd=false by simp[mayPg,hg,h1,h2,h3,h4,h5,h6,h7,h8]]
  exact valid_8 size kd ct pg lk tx bd w hg h1 h2 h3 h4 h5 h6 h7 h8
 rw[show mayPg size kd ct pg lk tx bd=true by simp[mayPg,hg,h1,h2,h3,h4,h5,h6,h7,h8]]
 exact valid_9 size kd ct pg lk tx bd w hg h1 h2 h3 h4 h5 h6 h7 h8
end Go.Proofs.YtanbbnogdhnikaaGreat

