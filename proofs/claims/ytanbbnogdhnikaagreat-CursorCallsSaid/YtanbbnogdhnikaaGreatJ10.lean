/-
  Texts that the main proof rests on, put together: Ref1, Ref4Put, Ref4Body, Ref9. No statement is proved here.
-/
import Derived.Test.YtanbbnogdhnikaaGreatJ6
import Derived.Test.YtanbbnogdhnikaaGreatJ9
set_option linter.unusedVariables false
set_option linter.unusedSimpArgs false
set_option maxRecDepth 300000
set_option maxHeartbeats 25600000
namespace Go.Proofs.YtanbbnogdhnikaaGreat
open Go.RowKit Go.Lib

def IsRf (w:World) (g:Nat) (s:ByteArray):Prop:=Blk w g 158 #[.string s]
theorem rnew_any (s:ByteArray) (w:World) :
  Calls Tryz.prog 63 #[.string s] w fun e w'=>e=.returned (.pointer (some ⟨w.heap.size,0,none⟩))∧w'=w.alloc (.cells #[.string s] 158):=by
 go_enter Tryz.func63,Tryz.ntmps63
 go_wp2
 go_ret
 exact⟨rfl,rfl⟩
theorem rbytes_more {w:World} {g:Nat} {s:ByteArray} (h:IsRf w g s) (n:Int) (hn:(s.size:Int)<n) :
  Calls Tryz.prog 65 #[.pointer (some ⟨g,0,none⟩),.int .i64 n] w fun e w'=>e=.returned (.tuple #[.string ⟨#[]⟩,.int .i64 7])∧w=w':=by
 have c0:=Blk.cell h 0
 simp at c0
 have h0 : ¬ n<0:=by omega
 go_enter Tryz.func65,Tryz.ntmps65
 go_wp2
 go_ret2
 exact⟨rfl,rfl⟩
theorem rbytes_ok {w:World} {g:Nat} {s:ByteArray} (h:IsRf w g s) (n:Nat) (hn:n≤s.size) :
  Calls Tryz.prog 65 #[.pointer (some ⟨g,0,none⟩),.int .i64 n] w fun e w'=>e=.returned (.tuple #[.string (s.extract 0 n),.int .i64 0])∧w'=w.setCell ⟨g,0,none⟩ (.string (s.extract n s.size)):=by
 have c0:=Blk.cell h 0
 simp at c0
 have f0:=Blk.frozen h 0
 go_enter Tryz.func65,Tryz.ntmps65
 go_wp2
 go_ret2
 exact⟨rfl,rfl⟩
theorem rnumber_more {w:World} {g:Nat} {s:ByteArray} (h:IsRf w g s) (n:Int) (h1:1≤n) (h2:n≤8) (hn:(s.size:Int)<n) :
  Calls Tryz.prog 64 #[.pointer (some ⟨g,0,none⟩),.int .i64 n] w fun e w'=>e=.returned (.tuple #[.int .u64 0,.int .i64 7])∧w=w':=by
 have c0:=Blk.cell h 0
 simp at c0
 go_enter Tryz.func64,Tryz.ntmps64
 go_wp2
 go_ret2
 exact⟨rfl,rfl⟩
theorem rnumber_ok {w:World} {g:Nat} {s:ByteArray} (h:IsRf w g s) (n:Nat) (h1:1≤n) (h2:n≤8) (hn:n≤s.size) :
  Calls Tryz.prog 64 #[.pointer (some ⟨g,0,none⟩),.int .i64 n] w fun e w'=>e=.returned (.tuple #[.int .u64 (leNat (s.data.toList.take n)),.int .i64 0])∧w'=w.setCell ⟨g,0,none⟩ (.string (s.extract n s.size)):=by
 have c0:=Blk.cell h 0
 simp at c0
 have f0:=Blk.frozen h 0
 have h1':(1:Int)≤n:=by omega
 have h2':(n:Int)≤8:=by omega
 go_enter Tryz.func64,Tryz.ntmps64
 go_wp2
 go_loop [6,7] (fun v i=>∃ k:Nat,k≤n∧i=.int .i64 k∧v=.int .u64 (leNat (s.data.toList.take k))) (fun _ i=>n-(RowKit.intOf i).toNat)
 case atStart=>exact⟨0,Nat.zero_le _,rfl,rfl⟩
 case round =>
  obtain⟨k,hk,rfl,rfl⟩:=hrel
  by_cases hlt:k<n
  ·have hlt':k<s.size:=by omega
   go_wp2
   go_round
   case rel =>
    refine⟨k+1,by omega,by go_num,?_⟩
    have hl:(s.data.toList.take k).length=k:=by simp;omega
    have h1:=leNat_lt (s.data.toList.take k)
    have h2:=leNat_snoc (s.data.toList.take k) s[k]
    rw[hl] at h1 h2
    rw[or_step _ k s[k] (by omega) h1,take_snoc _ k (by simpa using hlt'),← h2]
    rfl
   case measure=>simp[RowKit.intOf];omega
  ·obtain rfl:k=n:=by omega
   go_wp2
   go_ret2
   exact⟨rfl,rfl⟩
theorem IsRf.stored {w:World} {g:Nat} {s:ByteArray} (h:IsRf w g s) (s':ByteArray):IsRf (w.setCell ⟨g,0,none⟩ (.string s')) g s'∧w.grownBy (w.setCell ⟨g,0,none⟩ (.string s')) (some g):=by
 refine⟨Blk.set_ h 0 _,rfl,rfl,rfl,by simp[World.setCell],fun k _ hne=>Below.heap_setCell _ _ _ _ (fun e=>hne (by rw[e]))⟩
theorem rbytes_ok' {w:World} {g:Nat} {s:ByteArray} (h:IsRf w g s) (n:Nat) (hn:n≤s.size) :
  Calls Tryz.prog 65 #[.pointer (some ⟨g,0,none⟩),.int .i64 n] w fun e w'=>e=.returned (.tuple #[.string (s.extract 0 n),.int .i64 0])∧IsRf w' g (s.extract n s.size)∧w.grownBy w' (some g) :=
 (rbytes_ok h n hn).mono fun _ _ ⟨he,hw⟩=>⟨he,by subst hw;exact h.stored _⟩
theorem rnumber_ok' {w:World} {g:Nat} {s:ByteArray} (h:IsRf w g s) (n:Nat) (h1:1≤n) (h2:n≤8) (hn:n≤s.size) :
  Calls Tryz.prog 64 #[.pointer (some ⟨g,0,none⟩),.int .i64 n] w fun e w'=>e=.returned (.tuple #[.int .u64 (leNat (s.data.toList.take n)),.int .i64 0])∧IsRf w' g (s.extract n s.size)∧w.grownBy w' (some g) :=
 (rnumber_ok h n h1 h2 hn).mono fun _ _ ⟨he,hw⟩=>⟨he,by subst hw;exact h.stored _⟩
theorem rnew_any' (s:ByteArray) (w:World) :
  Calls Tryz.prog 63 #[.string s] w fun e w'=>e=.returned (.pointer (some ⟨w.heap.size,0,none⟩))∧IsRf w' w.heap.size s∧Below w.heap.size w w'∧w.heap.size<w'.heap.size :=
 (rnew_any s w).mono fun _ _ ⟨he,hw⟩=>⟨he,by subst hw;exact⟨Blk.new _ _ _,(Below.refl _ _).alloc (Nat.le_refl _) _,by simp⟩⟩

theorem rput_yes (A:Option Addr) (n c num k:Nat) (l:List UInt8) (w:World) (hr:Reads w w.heap.size 1 A n (bcells l)) (hn:n+8≤140737488355328) (h1:1≤k) (h2:k≤8) :
  Calls Tryz.prog 51 #[.slice A n c,.int .u64 num,.int .i64 k] w fun e w'=>∃ v,e=.returned v∧w'.ownsRow w.heap.size 5 1 v (n+k) (bcells (l++Go.leBytes k num))∧Below w.heap.size w w':=by
 obtain⟨i0,hi0,hz0,hz1,hz2⟩:=info_parts infoU8
 have h1':(1:Int)≤k:=by omega
 have h2':(k:Int)≤8:=by omega
 have hown1:(w.alloc (.cells #[] 5)).ownsRow w.heap.size 5 1 (.slice (some ⟨w.heap.size,0,none⟩) 0 0) 0 []:=World.ownsRow_made w #[] 0 (Nat.le_refl _) (by simp[maxLen]) rfl
 have hb1:Below w.heap.size w (w.alloc (.cells #[] 5)):=(Below.refl _ _).alloc (Nat.le_refl _) _
 have HO:=Hd hown1
 have HB:=Hd hb1
 clear hown1 hb1
 go_enter Tryz.func51,Tryz.ntmps51
 go_wp2_with (at_builtin;refine wpList_append_any _ rfl (.tmp 9) (.tmp 10) _ rfl w.heap.size 5 i0 _ 1 1 Tryz.underlying102 hi0 hz0 hz1 hz2 rfl (by omega) _ 0 [] rfl HO.out w.heap.size A n c _ rfl (hr.below HB.out) (bcells_one _) (by unfold maxLen;omega) (by omega) HB.out.size ?_;intro v2 w2 hown2 hg2 hat2)
 have hb2:Below w.heap.size w w2:=HB.out.grown hg2 HB.out.size (by rintro g ⟨⟩;exact Nat.le_refl _)
 clear hg2 hat2 HO HB
 go_loopw [7,8] (fun v i wr=>∃ j:Nat,j≤k∧i=.int .i64 j∧wr.ownsRow w.heap.size 5 1 v (n+j) (bcells (l++Go.leBytes j num))∧Below w.heap.size w wr) (fun _ i _=>k-(RowKit.intOf i).toNat)
 case atStart=>exact⟨0,Nat.zero_le _,rfl,by simpa [Go.leBytes] using hown2,hb2⟩
 case round =>
  obtain⟨j,hj,rfl,hown,hbr⟩:=hrel
  by_cases hlt:j<k
  ·go_wp2_with (first
    | (at_builtin;refine wpList_append_any _ rfl (.tmp 24) (.tmp 31) _ rfl w.heap.size 5 i0 _ 1 1 Tryz.underlying102 hi0 hz0 hz1 hz2 rfl (by omega) _ (n+j) _ rfl (hown.alloc _) (wr.heap.size+1) (some ⟨wr.heap.size,0,none⟩) 1 1 [Value.int .u8 ((num:Int)/2 ^ (8*j)%256)] rfl (reads_new _ _ _ _) (oneCell_one rfl) (by unfold maxLen;omega) (by omega) (by have:=hbr.size;simp;omega) ?_;intro v3 w3 hown3 hg3 hat3))
   go_roundw
   case rel =>
    refine⟨j+1,by omega,by go_num,?_,?_⟩
    ·rw[leBytes_snoc,← List.append_assoc,bcells_append,← byte_cell]
     exact hown3
    ·exact (hbr.alloc hbr.size _).grown hg3 (by have:=hbr.size;simp;omega) (fun g hg=>(hown.lt g hg).1)
   case measure=>simp[RowKit.intOf];omega
  ·go_wp2
   go_ret
   have:j=k:=by omega
   subst this
   exact⟨_,rfl,hown,hbr⟩
theorem rput_reads (A:Option Addr) (n c num k:Nat) (l:List UInt8) (w:World) (hr:Reads w w.heap.size 1 A n (bcells l)) (hn:n+8≤140737488355328) (h1:1≤k) (h2:k≤8) :
  Calls Tryz.prog 51 #[.slice A n c,.int .u64 num,.int .i64 k] w fun e w'=>∃ A' c',e=.returned (.slice A' (n+k) c')∧Reads w' w'.heap.size 1 A' (n+k) (bcells (l++Go.leBytes k num))∧Below w.heap.size w w' :=
 (rput_yes A n c num k l w hr hn h1 h2).mono fun _ _ ⟨v,he,ho,hb⟩=>by
  obtain⟨A',c',rfl,_⟩:=own_form ho
  exact⟨A',c',he,Reads.of_own ho,hb⟩
end Go.Proofs.YtanbbnogdhnikaaGreat

namespace Go.Proofs.YtanbbnogdhnikaaGreat
open Go.RowKit
open Go.Lib
attribute [local go_sem ↓] Go.wp_at_zero Go.wp_at_succ

theorem rrest_any (kd ct pg lk tx:Nat) (bd:ByteArray) (w:World) (h1:kd<18446744073709551616) (h2:ct<18446744073709551616) (h3:pg<18446744073709551616) (h4:lk<18446744073709551616) (h5:bd.size≤1000000000) (rs:ByteArray) (hrs:rs=⟨(restL kd ct pg lk tx bd).toArray⟩) :
  Calls Tryz.prog 84 #[.agg #[.int .i64 kd,.int .i64 ct,.int .u32 pg,.int .u32 lk,.int .u64 tx,.string bd]] w fun e w'=>e=.returned (.string rs)∧Below w.heap.size w w':=by
 have b0:Blk (w.alloc (.cells #[.int .i64 kd,.int .i64 ct,.int .u32 pg,.int .u32 lk,.int .u64 tx,.string bd] 41)) w.heap.size 41 #[.int .i64 kd,.int .i64 ct,.int .u32 pg,.int .u32 lk,.int .u64 tx,.string bd]:=Blk.new _ _ _
 have B0:=Hd b0
 clear b0
 have hb0:Below w.heap.size w (w.alloc (.cells #[.int .i64 kd,.int .i64 ct,.int .u32 pg,.int .u32 lk,.int .u64 tx,.string bd] 41)):=(Below.refl _ _).alloc (Nat.le_refl _) _
 have hlt:w.heap.size<(w.alloc (.cells #[.int .i64 kd,.int .i64 ct,.int .u32 pg,.int .u32 lk,.int .u64 tx,.string bd] 41)).heap.size:=by simp
 obtain⟨w0,hw0⟩ : ∃ w0,w0=w.alloc (.cells #[.int .i64 kd,.int .i64 ct,.int .u32 pg,.int .u32 lk,.int .u64 tx,.string bd] 41):=⟨_,rfl⟩
 rw[← hw0] at B0 hb0 hlt
 have e1:=u64_nat kd h1
 have e2:=u64_nat ct h2
 have e3:=u64_nat pg h3
 have e4:=u64_nat lk h4
 have b0:=B0.out
 have c0:=b0.cell 0
 have c1:=b0.cell 1
 have c2:=b0.cell 2
 have c3:=b0.cell 3
 have c4:=b0.cell 4
 have c5:=b0.cell 5
 simp at c0 c1 c2 c3 c4 c5
 clear b0
 go_enter Tryz.func84,Tryz.ntmps84
 go_wp2_with fail
 rw[← hw0]
 clear hw0
 refine (rput_reads none 0 0 kd 1 [] _ (reads_nil _) (by omega) (by omega) (by omega)).mono ?_
 rintro e w1 ⟨A1,c1_,rfl,hr1,hb1⟩
 rw[List.nil_append] at hr1
 have R1:=Hd hr1
 replace B0:=Hd (B0.out.below hb1 hlt)
 replace hlt:=Nat.lt_of_lt_of_le hlt hb1.size
 replace hb0:=hb0.trans (hb1.mono hb0.size)
 clear c0 c1 c2 c3 c4 c5 hb1 hr1
 have b0:=B0.out
 have c0:=b0.cell 0
 have c1:=b0.cell 1
 have c2:=b0.cell 2
 have c3:=b0.cell 3
 have c4:=b0.cell 4
 have c5:=b0.cell 5
 simp at c0 c1 c2 c3 c4 c5
 clear b0
 go_wp2_with fail
 refine (rput_reads A1 1 c1_ 1 1 (Go.leBytes 1 kd) _ R1.out (by omega) (by omega) (by omega)).mono ?_
 rintro e w2 ⟨A2,c2_,rfl,hr2,hb2⟩
 have R2:=Hd hr2
 replace B0:=Hd (B0.out.below hb2 hlt)
 replace hlt:=Nat.lt_of_lt_of_le hlt hb2.size
 replace hb0:=hb0.trans (hb2.mono hb0.size)
 clear c0 c1 c2 c3 c4 c5 hb2 hr2
 have b0:=B0.out
 have c0:=b0.cell 0
 have c1:=b0.cell 1
 have c2:=b0.cell 2
 have c3:=b0.cell 3
 have c4:=b0.cell 4
 have c5:=b0.cell 5
 simp at c0 c1 c2 c3 c4 c5
 clear b0
 go_wp2_with fail
 refine (rput_reads A2 2 c2_ ct 2 ((Go.leBytes 1 kd)++Go.leBytes 1 1) _ R2.out (by omega) (by omega) (by omega)).mono ?_
 rintro e w3 ⟨A3,c3_,rfl,hr3,hb3⟩
 have R3:=Hd hr3
 replace B0:=Hd (B0.out.below hb3 hlt)
 replace hlt:=Nat.lt_of_lt_of_le hlt hb3.size
 replace hb0:=hb0.trans (hb3.mono hb0.size)
 clear c0 c1 c2 c3 c4 c5 hb3 hr3
 have b0:=B0.out
 have c0:=b0.cell 0
 have c1:=b0.cell 1
 have c2:=b0.cell 2
 have c3:=b0.cell 3
 have c4:=b0.cell 4
 have c5:=b0.cell 5
 simp at c0 c1 c2 c3 c4 c5
 clear b0
 go_wp2_with fail
 refine (rput_reads A3 4 c3_ pg 4 (((Go.leBytes 1 kd)++Go.leBytes 1 1)++Go.leBytes 2 ct) _ R3.out (by omega) (by omega) (by omega)).mono ?_
 rintro e w4 ⟨A4,c4_,rfl,hr4,hb4⟩
 have R4:=Hd hr4
 replace B0:=Hd (B0.out.below hb4 hlt)
 replace hlt:=Nat.lt_of_lt_of_le hlt hb4.size
 replace hb0:=hb0.trans (hb4.mono hb0.size)
 clear c0 c1 c2 c3 c4 c5 hb4 hr4
 have b0:=B0.out
 have c0:=b0.cell 0
 have c1:=b0.cell 1
 have c2:=b0.cell 2
 have c3:=b0.cell 3
 have c4:=b0.cell 4
 have c5:=b0.cell 5
 simp at c0 c1 c2 c3 c4 c5
 clear b0
 go_wp2_with fail
 refine (rput_reads A4 8 c4_ lk 4 ((((Go.leBytes 1 kd)++Go.leBytes 1 1)++Go.leBytes 2 ct)++Go.leBytes 4 pg) _ R4.out (by omega) (by omega) (by omega)).mono ?_
 rintro e w5 ⟨A5,c5_,rfl,hr5,hb5⟩
 have R5:=Hd hr5
 replace B0:=Hd (B0.out.below hb5 hlt)
 replace hlt:=Nat.lt_of_lt_of_le hlt hb5.size
 replace hb0:=hb0.trans (hb5.mono hb0.size)
 clear c0 c1 c2 c3 c4 c5 hb5 hr5
 have b0:=B0.out
 have c0:=b0.cell 0
 have c1:=b0.cell 1
 have c2:=b0.cell 2
 have c3:=b0.cell 3
 have c4:=b0.cell 4
 have c5:=b0.cell 5
 simp at c0 c1 c2 c3 c4 c5
 clear b0
 go_wp2_with fail
 refine (rput_reads A5 12 c5_ tx 8 (((((Go.leBytes 1 kd)++Go.leBytes 1 1)++Go.leBytes 2 ct)++Go.leBytes 4 pg)++Go.leBytes 4 lk) _ R5.out (by omega) (by omega) (by omega)).mono ?_
 rintro e w6 ⟨A6,c6_,rfl,hr6,hb6⟩
 have R6:=Hd hr6
 replace B0:=Hd (B0.out.below hb6 hlt)
 replace hb0:=hb0.trans (hb6.mono hb0.size)
 have hcv:=run_string_reads w6 102 9 5 c6_ Tryz.underlying102 Tryz.underlying5 Tryz.underlying9 R6.out
 clear c0 c1 c2 c3 c4 c5 hr6 hb6
 have c5:=B0.out.cell 5
 simp at c5
 have hsz:(⟨((((((Go.leBytes 1 kd)++Go.leBytes 1 1)++Go.leBytes 2 ct)++Go.leBytes 4 pg)++Go.leBytes 4 lk)++Go.leBytes 8 tx).toArray⟩:ByteArray).size=20:=by rw[← size_list];simp[leB_len]
 have cat : ¬ (9223372036854775807<(⟨((((((Go.leBytes 1 kd)++Go.leBytes 1 1)++Go.leBytes 2 ct)++Go.leBytes 4 pg)++Go.leBytes 4 lk)++Go.leBytes 8 tx).toArray⟩:ByteArray).size+bd.size):=by rw[hsz];omega
 have hcat:(⟨((((((Go.leBytes 1 kd)++Go.leBytes 1 1)++Go.leBytes 2 ct)++Go.leBytes 4 pg)++Go.leBytes 4 lk)++Go.leBytes 8 tx).toArray⟩:ByteArray)++bd=rs:=by
  rw[hrs]
  apply bytes_ext
  rw[ByteArray.data_append,Array.toList_append]
  rfl
 obtain⟨hd,hhd⟩ : ∃ hd:ByteArray,hd=⟨((((((Go.leBytes 1 kd)++Go.leBytes 1 1)++Go.leBytes 2 ct)++Go.leBytes 4 pg)++Go.leBytes 4 lk)++Go.leBytes 8 tx).toArray⟩:=⟨_,rfl⟩
 rw[← hhd] at cat hcat hcv
 have HC:=Hd hcat
 clear hcat hhd hsz hrs
 go_wp2_with fail
 go_ret
 exact⟨by rw[← HC.out];rfl,hb0⟩

theorem rfput_no (size kd ct:Int) (pg lk tx:Nat) (bd:ByteArray) (w:World) (h:mayPg size kd ct pg lk tx bd=false) :
  Calls Tryz.prog 53 #[.int .i64 size,.agg #[.int .i64 kd,.int .i64 ct,.int .u32 pg,.int .u32 lk,.int .u64 tx,.string bd]] w fun e w'=>e=.returned (.tuple #[.string ⟨#[]⟩,.int .i64 2])∧Below w.heap.size w w':=by
 have b0:Blk (w.alloc (.cells #[.int .i64 kd,.int .i64 ct,.int .u32 pg,.int .u32 lk,.int .u64 tx,.string bd] 41)) w.heap.size 41 #[.int .i64 kd,.int .i64 ct,.int .u32 pg,.int .u32 lk,.int .u64 tx,.string bd]:=Blk.new _ _ _
 have HB:=Hd (show Below w.heap.size w (w.alloc (.cells #[.int .i64 kd,.int .i64 ct,.int .u32 pg,.int .u32 lk,.int .u64 tx,.string bd] 41)) from (Below.refl _ _).alloc (Nat.le_refl _) _)
 have c0:=b0.cell 0
 have c1:=b0.cell 1
 have c2:=b0.cell 2
 have c3:=b0.cell 3
 have c4:=b0.cell 4
 have c5:=b0.cell 5
 simp at c0 c1 c2 c3 c4 c5
 clear b0
 go_enter Tryz.func53,Tryz.ntmps53
 go_wp2_with fail
 refine (rmay_any _ _ _ _ _ _ _ _).mono ?_
 rw[h]
 rintro e w1 ⟨rfl,hb1⟩
 go_wp2_with fail
 go_ret2
 exact⟨rfl,HB.out.trans (hb1.mono (HB.out).size)⟩

theorem rfput_yes (size:Int) (kd ct pg lk tx:Nat) (bd:ByteArray) (w:World) (h:mayPg size kd ct pg lk tx bd=true) :
  Calls Tryz.prog 53 #[.int .i64 size,.agg #[.int .i64 kd,.int .i64 ct,.int .u32 pg,.int .u32 lk,.int .u64 tx,.string bd]] w fun e w'=>e=.returned (.tuple #[.string (pageB kd ct pg lk tx bd),.int .i64 0])∧Below w.heap.size w w':=by
 have hm:=h
 simp only[mayPg,Bool.and_eq_true,decide_eq_true_eq] at hm
 obtain⟨hg,m1,m2,m3,m4,m5,m6,m7,m8⟩:=hm
 obtain⟨n,rfl,n1,n2,n3⟩:=good_nat hg
 have hbs:bd.size=n-24:=by omega
 have HB:=Hd (show Below w.heap.size w (w.alloc (.cells #[.int .i64 kd,.int .i64 ct,.int .u32 pg,.int .u32 lk,.int .u64 tx,.string bd] 41)) from (Below.refl _ _).alloc (Nat.le_refl _) _)
 obtain⟨w0,hw0⟩ : ∃ w0,w0=w.alloc (.cells #[.int .i64 kd,.int .i64 ct,.int .u32 pg,.int .u32 lk,.int .u64 tx,.string bd] 41):=⟨_,rfl⟩
 have B0:=Hd (show Blk w0 w.heap.size 41 #[.int .i64 kd,.int .i64 ct,.int .u32 pg,.int .u32 lk,.int .u64 tx,.string bd] by rw[hw0];exact Blk.new _ _ _)
 rw[← hw0] at HB
 have HV:=fun w=>rmay_any n kd ct pg lk tx bd w
 rw[h] at HV
 obtain⟨rs,hrs⟩ : ∃ rs:ByteArray,rs=⟨(restL kd ct pg lk tx bd).toArray⟩:=⟨_,rfl⟩
 have HR:=fun w=>rrest_any kd ct pg lk tx bd w (by omega) (by omega) (by omega) (by omega) (by omega) rs hrs
 have hrl:rs.data.toList=restL kd ct pg lk tx bd:=by rw[hrs]
 have hrz:rs.size=n-4:=by rw[← size_list,hrl,restL_len,hbs];omega
 have HO:=fun w=>rof_any rs w (by rw[hrz];unfold maxLen;omega)
 rw[hrl] at HO
 have hcr:=crcM_lt 0 (restL kd ct pg lk tx bd)
 obtain⟨cr,hcr2⟩ : ∃ cr,cr=crcM 0 (restL kd ct pg lk tx bd):=⟨_,rfl⟩
 rw[← hcr2] at HO hcr
 have hw8:=u64_nat cr (by omega)
 have hpb:pageB kd ct pg lk tx bd=(⟨(Go.leBytes 4 cr).toArray⟩:ByteArray)++rs:=by
  apply bytes_ext
  rw[pageB_list,ByteArray.data_append,Array.toList_append,hrl,hcr2]
 rw[hpb]
 have cat2 : ¬ (9223372036854775807<(⟨(Go.leBytes 4 cr).toArray⟩:ByteArray).size+rs.size):=by
  have:(⟨(Go.leBytes 4 cr).toArray⟩:ByteArray).size=4:=by rw[← size_list];simp[leB_len]
  omega
 clear hpb hrl hrs hcr2 h m1 m2 m3 m4 m5 m6 m7 m8 hg n1 n2 n3 hbs hrz hcr
 have k0:=B0.out.cell 0
 have k1:=B0.out.cell 1
 have k2:=B0.out.cell 2
 have k3:=B0.out.cell 3
 have k4:=B0.out.cell 4
 have k5:=B0.out.cell 5
 rw[hw0] at k0 k1 k2 k3 k4 k5
 simp at k0 k1 k2 k3 k4 k5
 go_enter Tryz.func53,Tryz.ntmps53
 go_wp2_with fail
 rw[← hw0]
 clear hw0 k0 k1 k2 k3 k4 k5
 refine (HV _).mono ?_
 rintro e w1 ⟨rfl,hb⟩
 replace B0:=Hd (B0.out.below hb B0.out.lt)
 replace HB:=Hd (HB.out.trans (hb.mono HB.out.size))
 clear hb
 have k0:=B0.out.cell 0
 have k1:=B0.out.cell 1
 have k2:=B0.out.cell 2
 have k3:=B0.out.cell 3
 have k4:=B0.out.cell 4
 have k5:=B0.out.cell 5
 simp at k0 k1 k2 k3 k4 k5
 go_wp2_with fail
 refine (HR _).mono ?_
 rintro e w2 ⟨rfl,hb⟩
 replace HB:=Hd (HB.out.trans (hb.mono HB.out.size))
 clear hb k0 k1 k2 k3 k4 k5 B0
 go_wp2_with fail
 refine (HO _).mono ?_
 rintro e w3 ⟨rfl,hb⟩
 replace HB:=Hd (HB.out.trans (hb.mono HB.out.size))
 clear hb
 go_wp2_with fail
 refine (rput_reads none 0 0 cr 4 [] _ (reads_nil _) (by omega) (by omega) (by omega)).mono ?_
 rintro e w4 ⟨A4,c4_,rfl,hr4,hb⟩
 rw[List.nil_append] at hr4
 have hcv:=run_string_reads w4 102 9 5 c4_ Tryz.underlying102 Tryz.underlying5 Tryz.underlying9 hr4
 clear hr4
 replace HB:=Hd (HB.out.trans (hb.mono HB.out.size))
 clear hb
 go_wp2_with fail
 go_ret2
 exact⟨rfl,HB.out⟩
theorem rbody_ok (size:Nat) (A:Option Addr) (m c:Nat) (l:List UInt8) (b:ByteArray) (w:World) (hg:goodSize size=true) (hr:Reads w w.heap.size 1 A m (bcells l)) (hm:m≤size-24) (hb:b=⟨(l++List.replicate (size-24-m) 0).toArray⟩) :
  Calls Tryz.prog 52 #[.int .i64 size,.slice A m c] w fun e w'=>e=.returned (.tuple #[.string b,.int .i64 0])∧Below w.heap.size w w':=by
 have hp:=good_pos hg
 have hl:l.length=m:=by have:=hr.1;rw[bcells_length] at this;omega
 obtain⟨r,hrm⟩ : ∃ r,r=size-24:=⟨_,rfl⟩
 obtain⟨k,hk⟩ : ∃ k,k=r-m:=⟨_,rfl⟩
 have hR : ∀ w:World,Calls Tryz.prog 49 #[.int .i64 size] w fun e w'=>e=.returned (.int .i64 (r:Int))∧w'=w:=fun w=>by
  have:=rroom_is size w hg
  rw[show (size:Int)-24=(r:Int) by omega] at this
  exact this
 have q:decide (r<m)=false:=by simp;omega
 have q':decide ((r:Int)<(m:Int))=false:=by simp;omega
 have wk:wrap64 ((r:Int)-(m:Int))=(k:Int):=by unfold wrap64;omega
 have wk2:(r:Int)-(m:Int)=(k:Int):=by omega
 have hk9:k<9223372036854775808:=by omega
 obtain⟨i0,hi0,hz0,hz1,hz2⟩:=info_parts infoU8
 have hmk:=fun w=>run_make_bytes (P:=Tryz.prog) 102 5 Tryz.underlying102 infoU8 k (by omega) w
 obtain⟨X,hX⟩ : ∃ X:ByteArray,X=⟨l.toArray⟩:=⟨_,rfl⟩
 have hcv : ∀ w',Below w.heap.size w w'→(convert 102 9 (.slice A m c)).run Tryz.prog w'=.ok (.string X) w':=fun w' h=>by
  rw[hX];exact run_string_reads w' 102 9 5 c Tryz.underlying102 Tryz.underlying5 Tryz.underlying9 (hr.below h)
 obtain⟨Z,hZ⟩ : ∃ Z:ByteArray,Z=zb k:=⟨_,rfl⟩
 have hzb : ∀ w:World,(convert 102 9 (.slice (some ⟨w.heap.size,0,none⟩) k k)).run Tryz.prog (w.alloc (.cells (madeCells #[.int .u8 0] k) 5)).drew=.ok (.string Z) (w.alloc (.cells (madeCells #[.int .u8 0] k) 5)).drew:=fun w=>by
  rw[hZ]
  have h3:=(MRow.of_made w 5 k).drew.reads
  rw[List.length_replicate] at h3
  exact run_string_reads _ 102 9 5 k Tryz.underlying102 Tryz.underlying5 Tryz.underlying9 h3
 have cat : ¬ (9223372036854775807<X.size+Z.size):=by
  have:X.size=m:=by rw[← size_list,hX];simpa using hl
  rw[this,hZ,zb_size];omega
 have HC:=Hd (show X++Z=b by
  rw[hb,hX,hZ,hk,hrm]
  apply bytes_ext
  rw[ByteArray.data_append,Array.toList_append,zb_list])
 have wk3:=i64_nat k hk9
 have wk4:=wrap64_nat k hk9
 clear hr hm hp hl hrm hi0 hz0 hz1 hz2 hX hZ hb hk hk9
 go_enter Tryz.func52,Tryz.ntmps52
 go_wp2_with fail
 refine (rgood_is size _ _ hg).mono ?_
 rintro e w' ⟨rfl,rfl⟩
 go_wp2_with fail
 refine (hR _).mono ?_
 rintro e w2 ⟨rfl,rfl⟩
 go_wp2_with fail
 refine wp_region_held_drew (S:=fun wx=>(convert 102 9 (.slice A m c)).run Tryz.prog wx=.ok (.string X) wx) (by kernel_rfl) (hcv _ (Below.refl _ _).drew) (fun hHeld=>?_)
 refine tkA (i:=0) ?_
 try simp only[tkP]
 refine tkA (i:=1) ?_
 try simp only[tkP]
 refine tkA (i:=2) ?_
 try simp only[tkP]
 refine tkA (i:=4) ?_
 try simp only[tkP]
 refine tkA (i:=5) ?_
 try simp only[tkP]
 refine wpAnyH_ready (rs:=[3]) (by kernel_rfl) (by simp) ?_
 refine tkC (fun K hK=>?_)
 go_simp
 refine (hR _).mono ?_
 rintro e wq ⟨rfl,rfl⟩
 refine hK.out _ _ (hcv _ (Below.refl _ _).drew) (fun hHeld=>?_)
 clear hK K
 try simp only[tkP]
 refine tkA (i:=6) ?_
 try simp only[tkP]
 refine wpAnyH_ready (rs:=[7]) (by kernel_rfl) (by simp) ?_
 refine tkC (fun K hK=>?_)
 go_simp
 refine hK.out _ _ (hcv _ ((Below.refl _ _).alloc (Nat.le_refl _) _).drew) (fun hHeld=>?_)
 clear hK K
 try simp only[tkP]
 refine wpAnyH_ready (rs:=[8]) (by kernel_rfl) (by simp) ?_
 refine tkC (fun K hK=>?_)
 go_simp
 refine hK.out _ _ (hcv _ ((Below.refl _ _).alloc (Nat.le_refl _) _).drew) (fun hHeld=>?_)
 clear hK K
 try simp only[tkP]
 refine tkA (i:=9) ?_
 try simp only[tkP]
 refine tkA (i:=10) ?_
 try simp only[tkP]
 refine tkA (i:=11) ?_
 try simp only[tkP]
 refine wpAnyH_done (by kernel_rfl) ?_ _
 go_wp2_with fail
 go_ret2
 exact⟨by rw[← HC.out];rfl,((Below.refl _ _).alloc (Nat.le_refl _) _).drew⟩
end Go.Proofs.YtanbbnogdhnikaaGreat

namespace Go.Proofs.YtanbbnogdhnikaaGreat
open Go.RowKit
open Go.Lib hiding intOf
attribute [local go_sem ↓] Go.wp_at_zero Go.wp_at_succ

theorem rneed9_any (size n:Int) (w:World) (hn:n≤9223372036854775807):Calls Tryz.prog 95 #[.int .i64 size,.int .i64 n] w fun e w'=>e=.returned (.int .i64 (needN size n))∧w'=w:=by
 have HG:=fun w=>rgood_any size w
 rcases hg:goodSize size with _ | _
 ·rw[hg] at HG
  have HE:=Hd (show ((needN size n:Nat):Int)=0 by rw[needN,hg];rfl)
  clear hg
  go_enter Tryz.func95,Tryz.ntmps95
  go_wp2_with (go_at_call 32;refine (HG _).mono ?_;rintro e w' ⟨rfl,rfl⟩)
  go_ret
  exact⟨by rw[HE.out];rfl,rfl⟩
 rw[hg] at HG
 by_cases h1:n<1
 ·have HE:=Hd (show ((needN size n:Nat):Int)=0 by rw[needN,decide_eq_false (show ¬ 1≤n by omega),Bool.and_false];rfl)
  clear hg
  go_enter Tryz.func95,Tryz.ntmps95
  go_wp2_with (go_at_call 32;refine (HG _).mono ?_;rintro e w' ⟨rfl,rfl⟩)
  go_ret
  exact⟨by rw[HE.out];rfl,rfl⟩
 ·obtain⟨z,rfl,hz1,hz2,_⟩:=good_nat hg
  obtain⟨r,hr⟩ : ∃ r,r=z-24:=⟨_,rfl⟩
  have HM : ∀ w:World,Calls Tryz.prog 49 #[.int .i64 z] w fun e w'=>e=.returned (.int .i64 (r:Int))∧w'=w:=fun w=>by
   have h:=rroom_is z w hg
   rwa [show (z:Int)-24=(r:Int) by omega] at h
  obtain⟨m,hm⟩ : ∃ m:Nat,(m:Int)=n-1:=⟨(n-1).toNat,by omega⟩
  obtain⟨q,hq⟩ : ∃ q,q=m/r:=⟨_,rfl⟩
  have hqm:q≤m:=by rw[hq];exact Nat.div_le_self _ _
  have HE:=Hd (show ((needN z n:Nat):Int)=(q:Int)+1 by
   rw[needN,hg,decide_eq_true (show 1≤n by omega),Bool.and_self,if_pos (by rfl),show n.toNat-1=m by omega,show ((z:Int)-24).toNat=r by omega,← hq]
   rfl)
  obtain rfl:n=(m:Int)+1:=by omega
  have hr0:((r:Int)==0)=false:=by simp;omega
  have hr1 : ¬ (r:Int)=0:=by omega
  have hdiv:(m:Int)/(r:Int)=(q:Int):=by rw[hq];simp
  have hwq:wrap64 (q:Int)=(q:Int):=wrap64_nat q (by omega)
  have hwq1:wrap64 ((q:Int)+1)=(q:Int)+1:=by unfold wrap64;omega
  have hwq2:IntKind.i64.wrap ((q:Int)+1)=(q:Int)+1:=by rw[IntKind.wrap_i64];omega
  have hwm:IntKind.i64.wrap (m:Int)=(m:Int):=by rw[IntKind.wrap_i64];omega
  have hwm2:wrap64 (m:Int)=(m:Int):=by unfold wrap64;omega
  have hm9 : ¬ (m:Int)+1<1:=by omega
  clear hg hm hq hr hz1 hz2 hqm hn h1
  go_enter Tryz.func95,Tryz.ntmps95
  go_wp2_with (first | (go_at_call 32;refine (HG _).mono ?_;rintro e w' ⟨rfl,rfl⟩) | (go_at_call 49;refine (HM _).mono ?_;rintro e w' ⟨rfl,rfl⟩))
  go_ret
  exact⟨by rw[HE.out];rfl,rfl⟩
def strc (l:List ByteArray):List Value:=l.map Value.string
end Go.Proofs.YtanbbnogdhnikaaGreat

