/-
  Texts that the main proof rests on, put together: FramePut, FramePutP, FrameCatch, FrameRead, FrameReadOk, FrameBdy. No statement is proved here.
-/
import Derived.Test.YtanbbnogdhnikaaGreatJ5
import Derived.Tactics2
import Derived.Defers
import Derived.Recover
import Derived.Laws.Pointers
import Derived.Deep.DeepCutAuto
import Derived.Laws.IdiomCopy
set_option linter.unusedVariables false
set_option linter.unusedSimpArgs false
set_option maxRecDepth 300000
set_option maxHeartbeats 25600000
namespace Go.Proofs.YtanbbnogdhnikaaGreat
open Go.RowKit
open Go.Lib
attribute [local go_sem ↓] Go.wp_at_zero Go.wp_at_succ

def headL (kd ct pg lk tx:Nat):List UInt8:=Go.leBytes 1 kd++Go.leBytes 1 1++Go.leBytes 2 ct++Go.leBytes 4 pg++Go.leBytes 4 lk++Go.leBytes 8 tx
theorem headL_len (kd ct pg lk tx:Nat):(headL kd ct pg lk tx).length=20:=by simp[headL,leB_len]
theorem reads_nil (w:World):Reads w w.heap.size 1 none 0 (bcells []):=Reads.none_
theorem u64_nat (n:Nat) (h:n<18446744073709551616):IntKind.u64.wrap (n:Int)=(n:Int):=by rw[IntKind.wrap_u64];omega

theorem put_reads (A:Option Addr) (n c num k:Nat) (l:List UInt8) (w:World) (hr:Reads w w.heap.size 1 A n (bcells l)) (hn:n+8≤140737488355328) (h1:1≤k) (h2:k≤8) :
  Calls Tryz.prog 166 #[.slice A n c,.int .u64 num,.int .i64 k] w fun e w'=>∃ A' c',e=.returned (.slice A' (n+k) c')∧Reads w' w'.heap.size 1 A' (n+k) (bcells (l++Go.leBytes k num))∧Below w.heap.size w w' :=
 (put_yes A n c num k l w hr hn h1 h2).mono fun _ _ ⟨v,he,ho,hb⟩=>by
  obtain⟨A',c',rfl,_⟩:=own_form ho
  exact⟨A',c',he,Reads.of_own ho,hb⟩

def restL (kd ct pg lk tx:Nat) (bd:ByteArray):List UInt8:=headL kd ct pg lk tx++bd.data.toList
def pageB (kd ct pg lk tx:Nat) (bd:ByteArray):ByteArray:=⟨(Go.leBytes 4 (crcM 0 (restL kd ct pg lk tx bd))++restL kd ct pg lk tx bd).toArray⟩
theorem pageB_list (kd ct pg lk tx:Nat) (bd:ByteArray):(pageB kd ct pg lk tx bd).data.toList=Go.leBytes 4 (crcM 0 (restL kd ct pg lk tx bd))++restL kd ct pg lk tx bd:=by simp[pageB]
theorem restL_len (kd ct pg lk tx:Nat) (bd:ByteArray):(restL kd ct pg lk tx bd).length=20+bd.size:=by rw[restL,List.length_append,headL_len,size_list]
theorem pageB_size (kd ct pg lk tx:Nat) (bd:ByteArray):(pageB kd ct pg lk tx bd).size=24+bd.size:=by rw[← size_list,pageB_list,List.length_append,leB_len,restL_len];omega

end Go.Proofs.YtanbbnogdhnikaaGreat

namespace Go.Proofs.YtanbbnogdhnikaaGreat
open Go.RowKit
open Go.Lib

theorem wrong_is (W:World) (v:Value):(Instr.typeAssert (.iface 204 v) 20 204 true).run Tryz.prog W=.ok (.tuple #[v,.bool true]) W:=by kernel_rfl
theorem catch_wrong (p:Addr) (x n:Int) (older:List PanicEntry) (w:World) (hc:w.cell? p=some (.int .i64 x)) (hz:w.frozen? p=false) :
  CallsD Tryz.prog 132 #[.pointer (some p)] (.panicking ({ v:=.iface 204 (.int .i64 n),recovered:=false }::older)) w fun e u' w' =>
   e=.returned (.tuple #[])∧u'=.panicking ({ v:=.iface 204 (.int .i64 n),recovered:=true }::older)∧w'=w.setCell p (.int .i64 n):=by
 refine callsD_of_wpS Tryz.func132 rfl fun c₀ cs hu=>?_
 apply wpS_seq
 apply wpS_region
 simp[wpOpsS,go_sem,recoverD,hu,Tryz.ntmps132,Exit.thenS]
 refine wpS_of_wp ?_
 have hwr:=wrong_is
 rw[show (#[Value.pointer (some p)]++(Array.replicate 10 undef).setIfInBounds 3 (Value.iface 204 (Value.int IntKind.i64 n)))=#[.pointer (some p),undef,undef,undef,Value.iface 204 (Value.int IntKind.i64 n),undef,undef,undef,undef,undef,undef] from rfl]
 go_wp2
 simp[bodyPostS,results,Tryz.results132]
theorem catch_idle (p:Addr) (w:World) :
  CallsD Tryz.prog 132 #[.pointer (some p)] .returning w fun e u' w'=>e=.returned (.tuple #[])∧u'=.returning∧w'=w:=by
 refine callsD_of_wpS Tryz.func132 rfl fun c₀ cs hu=>?_
 apply wpS_seq
 apply wpS_region
 simp[wpOpsS,go_sem,recoverD,hu,Tryz.ntmps132,Exit.thenS]
 refine wpS_of_wp ?_
 rw[show (#[Value.pointer (some p)]++(Array.replicate 10 undef).setIfInBounds 3 Value.nilIface)=#[.pointer (some p),undef,undef,undef,Value.nilIface,undef,undef,undef,undef,undef,undef] from rfl]
 go_wp2
 cases c₀
 simp_all [bodyPostS,results,Tryz.results132]
end Go.Proofs.YtanbbnogdhnikaaGreat

namespace Go.Proofs.YtanbbnogdhnikaaGreat
open Go.RowKit
open Go.Lib
attribute [local go_sem ↓] Go.wp_at_zero Go.wp_at_succ

theorem rd_cells {w:World} {g:Nat} {size:Int} {s:ByteArray} (h:Blk w g 206 #[.int .i64 size,.string s]):w.cell? ⟨g,0,none⟩=some (.int .i64 size)∧w.cell? ⟨g,1,none⟩=some (.string s):=⟨h.cell 0,h.cell 1⟩
def Dies (e:Ending) (n:Int):Prop:=e=.panicked [{ v:=.iface 204 (.int .i64 n),recovered:=false }]

theorem rpage_len (size:Int) (s:ByteArray) (n:Nat) (w:World) (h1:goodSize size=true) (h2 : ¬ (s.size:Int)=size) :
    Calls Tryz.prog 133 #[.agg #[.int .i64 size,.string s],.int .u32 n] w fun e w'=>Dies e 4∧Below w.heap.size w w':=by
  have HG:=fun w=>dgood_is size _ w h1
  have q2:((s.size:Int)==size)=false:=by simpa using h2
  obtain⟨w0,hw0⟩ : ∃ w0,w0=(w.alloc (.cells #[.int .i64 size,.string s] 206)).alloc (.cells #[.int .i64 0,.int .i64 0,.int .u32 0,.int .u32 0,.int .u64 0,.string .empty] 41):=⟨_,rfl⟩
  have b0:Blk w0 w.heap.size 206 #[.int .i64 size,.string s]:=by rw[hw0];exact (Blk.new _ _ _).alloc _
  have r0:Blk w0 (w.heap.size+1) 41 #[.int .i64 0,.int .i64 0,.int .u32 0,.int .u32 0,.int .u64 0,.string .empty]:=by
    rw[hw0]
    have:=Blk.new (w.alloc (.cells #[.int .i64 size,.string s] 206)) 41 #[.int .i64 0,.int .i64 0,.int .u32 0,.int .u32 0,.int .u64 0,.string .empty]
    simpa using this
  have hb0:Below w.heap.size w w0:=by rw[hw0];exact ((Below.refl _ _).alloc (Nat.le_refl _) _).alloc (by simp) _
  have hlt:w.heap.size+1<w0.heap.size:=by rw[hw0];simp
  obtain⟨hz,hi⟩:=zero_of_info infoPg
  have HI:=Hd hi
  clear hi
  have B0:=Hd b0
  have R0:=Hd r0
  have HB0:=Hd hb0
  have HLT:=Hd hlt
  clear b0 r0 hb0 hlt
  go_enter Tryz.func133,Tryz.ntmps133
  go_wp2_with fail
  rw[← hw0]
  clear hw0
  replace B0:=Hd (B0.out.drew)
  replace R0:=Hd (R0.out.drew)
  replace HB0:=Hd (HB0.out.drew)
  replace HLT:=Hd (show w.heap.size+1<w0.drew.heap.size from HLT.out)
  go_region_held3 (fun w'=>w'.cell? ⟨w.heap.size,0,none⟩=some (.int .i64 size)∧w'.cell? ⟨w.heap.size,1,none⟩=some (.string s))
    (exact⟨B0.out.cell 0,B0.out.cell 1⟩)
    (first
    | (go_at_call 71
       with_reducible refine (HG _).mono ?_
       rintro e w2 ⟨rfl,rfl⟩)
    | (go_at_call 153
       with_reducible refine (need_yes _ _ _ _).mono ?_
       rintro e w2 ⟨rfl,hb2⟩
       replace HB0:=Hd (HB0.out.trans (hb2.mono HB0.out.size))
       replace B0:=Hd (B0.out.below hb2 (Nat.lt_of_succ_lt HLT.out))
       replace R0:=Hd (R0.out.below hb2 HLT.out)
       replace HLT:=Hd (Nat.lt_of_lt_of_le HLT.out hb2.size)
       clear hb2))
  have k0:=B0.out.cell 0
  have k1:=B0.out.cell 1
  simp at k0 k1
  go_wp2_with fail
  refine (need_no _ _ _ _).mono ?_
  rintro e w9 ⟨rfl,hb9⟩
  exact⟨rfl,rfl,HB0.out.trans (hb9.mono HB0.out.size)⟩
theorem rpage_sum (size:Int) (s:ByteArray) (n:Nat) (w:World) (h1:goodSize size=true) (h2:(s.size:Int)=size) (h3 : ¬ leNat (List.take 4 s.data.toList)=crcM 0 (List.drop 4 s.data.toList)) :
    Calls Tryz.prog 133 #[.agg #[.int .i64 size,.string s],.int .u32 n] w fun e w'=>Dies e 4∧Below w.heap.size w w':=by
  obtain⟨z,z0,z1,z2,z3⟩:=good_nat h1
  have z4:s.size=z:=by omega
  have HG:=fun w=>dgood_is size _ w h1
  have q2:((s.size:Int)==size)=true:=by simpa using h2
  obtain⟨v1,hv1⟩ : ∃ v1,v1=leNat (List.take 4 s.data.toList):=⟨_,rfl⟩
  have HN1 : ∀ w:World,Calls Tryz.prog 154 #[.agg #[.int .i64 size,.string s],.int .i64 0,.int .i64 4] w fun e w'=>e=.returned (.int .u64 (v1:Int))∧Below w.heap.size w w':=fun w=>by
    rw[hv1];exact rnum size s 0 4 w (by omega) (by omega) (by omega) (by omega)
  obtain⟨cr,hcr⟩ : ∃ cr,cr=crcM 0 (List.drop 4 s.data.toList):=⟨_,rfl⟩
  have hcl:cr<4294967296:=by rw[hcr];exact crcM_lt _ _
  have HO : ∀ w:World,Calls Tryz.prog 155 #[.string (s.extract 4 s.size)] w fun e w'=>e=.returned (.int .u32 (cr:Int))∧Below w.heap.size w w':=fun w=>by
    have h:=of_any (s.extract 4 s.size) w (by rw[ByteArray.size_extract];unfold maxLen;omega)
    have e:(s.extract 4 s.size).data.toList=List.drop 4 s.data.toList:=by
      rw[Lib.extract_data];rw[List.take_of_length_le];rw[List.length_drop,size_list];exact Nat.le_refl _
    rw[e,← hcr] at h
    exact h
  rw[← hv1,← hcr] at h3
  have hw8:=u64_nat cr (by omega)
  have q4:(4:Int)≤s.size:=by omega
  have q3:((v1:Int)==(cr:Int))=false:=by simp;omega
  clear hcl hcr hv1
  clear h1 h2 h3 z0 z1 z2 z3 z4 z
  obtain⟨w0,hw0⟩ : ∃ w0,w0=(w.alloc (.cells #[.int .i64 size,.string s] 206)).alloc (.cells #[.int .i64 0,.int .i64 0,.int .u32 0,.int .u32 0,.int .u64 0,.string .empty] 41):=⟨_,rfl⟩
  have b0:Blk w0 w.heap.size 206 #[.int .i64 size,.string s]:=by rw[hw0];exact (Blk.new _ _ _).alloc _
  have r0:Blk w0 (w.heap.size+1) 41 #[.int .i64 0,.int .i64 0,.int .u32 0,.int .u32 0,.int .u64 0,.string .empty]:=by
    rw[hw0]
    have:=Blk.new (w.alloc (.cells #[.int .i64 size,.string s] 206)) 41 #[.int .i64 0,.int .i64 0,.int .u32 0,.int .u32 0,.int .u64 0,.string .empty]
    simpa using this
  have hb0:Below w.heap.size w w0:=by rw[hw0];exact ((Below.refl _ _).alloc (Nat.le_refl _) _).alloc (by simp) _
  have hlt:w.heap.size+1<w0.heap.size:=by rw[hw0];simp
  obtain⟨hz,hi⟩:=zero_of_info infoPg
  have HI:=Hd hi
  clear hi
  have B0:=Hd b0
  have R0:=Hd r0
  have HB0:=Hd hb0
  have HLT:=Hd hlt
  clear b0 r0 hb0 hlt
  go_enter Tryz.func133,Tryz.ntmps133
  go_wp2_with fail
  rw[← hw0]
  clear hw0
  replace B0:=Hd (B0.out.drew)
  replace R0:=Hd (R0.out.drew)
  replace HB0:=Hd (HB0.out.drew)
  replace HLT:=Hd (show w.heap.size+1<w0.drew.heap.size from HLT.out)
  go_region_held3 (fun w'=>w'.cell? ⟨w.heap.size,0,none⟩=some (.int .i64 size)∧w'.cell? ⟨w.heap.size,1,none⟩=some (.string s))
    (exact⟨B0.out.cell 0,B0.out.cell 1⟩)
    (first
    | (go_at_call 71
       with_reducible refine (HG _).mono ?_
       rintro e w2 ⟨rfl,rfl⟩)
    | (go_at_call 153
       with_reducible refine (need_yes _ _ _ _).mono ?_
       rintro e w2 ⟨rfl,hb2⟩
       replace HB0:=Hd (HB0.out.trans (hb2.mono HB0.out.size))
       replace B0:=Hd (B0.out.below hb2 (Nat.lt_of_succ_lt HLT.out))
       replace R0:=Hd (R0.out.below hb2 HLT.out)
       replace HLT:=Hd (Nat.lt_of_lt_of_le HLT.out hb2.size)
       clear hb2))
  have k0:=B0.out.cell 0
  have k1:=B0.out.cell 1
  simp at k0 k1
  go_wp2_with fail
  refine (need_yes _ _ _ _).mono ?_
  rintro e w3 ⟨rfl,hb2⟩
  replace HB0:=Hd (HB0.out.trans (hb2.mono HB0.out.size))
  replace B0:=Hd (B0.out.below hb2 (Nat.lt_of_succ_lt HLT.out))
  replace R0:=Hd (R0.out.below hb2 HLT.out)
  replace HLT:=Hd (Nat.lt_of_lt_of_le HLT.out hb2.size)
  clear k0 k1
  clear hb2
  go_wp2_with fail
  replace B0:=Hd (B0.out.drew)
  replace R0:=Hd (R0.out.drew)
  replace HB0:=Hd (HB0.out.drew)
  replace HLT:=Hd (show w.heap.size+1<w3.drew.heap.size from HLT.out)
  refine wp_region_held_drew (S:=(fun w'=>w'.cell? ⟨w.heap.size,0,none⟩=some (.int .i64 size)∧w'.cell? ⟨w.heap.size,1,none⟩=some (.string s))) (by kernel_rfl) ⟨B0.out.cell 0,B0.out.cell 1⟩ (fun hHeld=>?_)
  refine tkA (i:=0) ?_
  try simp only[tkP]
  refine tkA (i:=1) ?_
  try simp only[tkP]
  refine tkA (i:=3) ?_
  try simp only[tkP]
  refine tkA (i:=4) ?_
  try simp only[tkP]
  refine tkA (i:=5) ?_
  try simp only[tkP]
  refine wpAnyH_ready (rs:=[2]) (by kernel_rfl) (by simp) ?_
  refine tkC (fun K hK=>?_)
  go_simp
  refine (HN1 _).mono ?_
  rintro e w4 ⟨rfl,hb2⟩
  replace HB0:=Hd (HB0.out.trans (hb2.mono HB0.out.size))
  replace B0:=Hd (B0.out.below hb2 (Nat.lt_of_succ_lt HLT.out))
  replace R0:=Hd (R0.out.below hb2 HLT.out)
  replace HLT:=Hd (Nat.lt_of_lt_of_le HLT.out hb2.size)
  clear hb2
  refine hK.out _ _ (⟨B0.out.cell 0,B0.out.cell 1⟩) (fun hHeld=>?_)
  clear hK K
  try simp only[tkP]
  refine wpAnyH_ready (rs:=[6]) (by kernel_rfl) (by simp) ?_
  refine tkC (fun K hK=>?_)
  go_simp
  refine (HO _).mono ?_
  rintro e w5 ⟨rfl,hb2⟩
  replace HB0:=Hd (HB0.out.trans (hb2.mono HB0.out.size))
  replace B0:=Hd (B0.out.below hb2 (Nat.lt_of_succ_lt HLT.out))
  replace R0:=Hd (R0.out.below hb2 HLT.out)
  replace HLT:=Hd (Nat.lt_of_lt_of_le HLT.out hb2.size)
  clear hb2
  refine hK.out _ _ (⟨B0.out.cell 0,B0.out.cell 1⟩) (fun hHeld=>?_)
  clear hK K
  try simp only[tkP]
  refine tkA (i:=7) ?_
  try simp only[tkP]
  refine tkA (i:=8) ?_
  try simp only[tkP]
  refine wpAnyH_ready (rs:=[9]) (by kernel_rfl) (by simp) ?_
  refine tkC (fun K hK=>?_)
  go_simp
  refine (need_no _ _ _ _).mono ?_
  rintro e w9 ⟨rfl,hb9⟩
  exact⟨rfl,rfl,HB0.out.trans (hb9.mono HB0.out.size)⟩
theorem rpage_ver (size:Int) (s:ByteArray) (n:Nat) (w:World) (h1:goodSize size=true) (h2:(s.size:Int)=size) (h3:leNat (List.take 4 s.data.toList)=crcM 0 (List.drop 4 s.data.toList)) (h4 : ¬ leNat (List.take 1 (List.drop 5 s.data.toList))=1) :
    Calls Tryz.prog 133 #[.agg #[.int .i64 size,.string s],.int .u32 n] w fun e w'=>Dies e 4∧Below w.heap.size w w':=by
  obtain⟨z,z0,z1,z2,z3⟩:=good_nat h1
  have z4:s.size=z:=by omega
  have HG:=fun w=>dgood_is size _ w h1
  have q2:((s.size:Int)==size)=true:=by simpa using h2
  obtain⟨v1,hv1⟩ : ∃ v1,v1=leNat (List.take 4 s.data.toList):=⟨_,rfl⟩
  have HN1 : ∀ w:World,Calls Tryz.prog 154 #[.agg #[.int .i64 size,.string s],.int .i64 0,.int .i64 4] w fun e w'=>e=.returned (.int .u64 (v1:Int))∧Below w.heap.size w w':=fun w=>by
    rw[hv1];exact rnum size s 0 4 w (by omega) (by omega) (by omega) (by omega)
  obtain⟨cr,hcr⟩ : ∃ cr,cr=crcM 0 (List.drop 4 s.data.toList):=⟨_,rfl⟩
  have hcl:cr<4294967296:=by rw[hcr];exact crcM_lt _ _
  have HO : ∀ w:World,Calls Tryz.prog 155 #[.string (s.extract 4 s.size)] w fun e w'=>e=.returned (.int .u32 (cr:Int))∧Below w.heap.size w w':=fun w=>by
    have h:=of_any (s.extract 4 s.size) w (by rw[ByteArray.size_extract];unfold maxLen;omega)
    have e:(s.extract 4 s.size).data.toList=List.drop 4 s.data.toList:=by
      rw[Lib.extract_data];rw[List.take_of_length_le];rw[List.length_drop,size_list];exact Nat.le_refl _
    rw[e,← hcr] at h
    exact h
  rw[← hv1,← hcr] at h3
  have hw8:=u64_nat cr (by omega)
  have q4:(4:Int)≤s.size:=by omega
  have q3:((v1:Int)==(cr:Int))=true:=by rw[h3];simp
  clear hcl hcr hv1
  obtain⟨v2,hv2⟩ : ∃ v2,v2=leNat (List.take 1 (List.drop 5 s.data.toList)):=⟨_,rfl⟩
  have HN2 : ∀ w:World,Calls Tryz.prog 154 #[.agg #[.int .i64 size,.string s],.int .i64 5,.int .i64 6] w fun e w'=>e=.returned (.int .u64 (v2:Int))∧Below w.heap.size w w':=fun w=>by
    rw[hv2];exact rnum size s 5 6 w (by omega) (by omega) (by omega) (by omega)
  rw[← hv2] at h4
  have q5:((v2:Int)==1)=false:=by simp;omega
  clear hv2
  clear h1 h2 h3 h4 z0 z1 z2 z3 z4 z
  obtain⟨w0,hw0⟩ : ∃ w0,w0=(w.alloc (.cells #[.int .i64 size,.string s] 206)).alloc (.cells #[.int .i64 0,.int .i64 0,.int .u32 0,.int .u32 0,.int .u64 0,.string .empty] 41):=⟨_,rfl⟩
  have b0:Blk w0 w.heap.size 206 #[.int .i64 size,.string s]:=by rw[hw0];exact (Blk.new _ _ _).alloc _
  have r0:Blk w0 (w.heap.size+1) 41 #[.int .i64 0,.int .i64 0,.int .u32 0,.int .u32 0,.int .u64 0,.string .empty]:=by
    rw[hw0]
    have:=Blk.new (w.alloc (.cells #[.int .i64 size,.string s] 206)) 41 #[.int .i64 0,.int .i64 0,.int .u32 0,.int .u32 0,.int .u64 0,.string .empty]
    simpa using this
  have hb0:Below w.heap.size w w0:=by rw[hw0];exact ((Below.refl _ _).alloc (Nat.le_refl _) _).alloc (by simp) _
  have hlt:w.heap.size+1<w0.heap.size:=by rw[hw0];simp
  obtain⟨hz,hi⟩:=zero_of_info infoPg
  have HI:=Hd hi
  clear hi
  have B0:=Hd b0
  have R0:=Hd r0
  have HB0:=Hd hb0
  have HLT:=Hd hlt
  clear b0 r0 hb0 hlt
  go_enter Tryz.func133,Tryz.ntmps133
  go_wp2_with fail
  rw[← hw0]
  clear hw0
  replace B0:=Hd (B0.out.drew)
  replace R0:=Hd (R0.out.drew)
  replace HB0:=Hd (HB0.out.drew)
  replace HLT:=Hd (show w.heap.size+1<w0.drew.heap.size from HLT.out)
  go_region_held3 (fun w'=>w'.cell? ⟨w.heap.size,0,none⟩=some (.int .i64 size)∧w'.cell? ⟨w.heap.size,1,none⟩=some (.string s))
    (exact⟨B0.out.cell 0,B0.out.cell 1⟩)
    (first
    | (go_at_call 71
       with_reducible refine (HG _).mono ?_
       rintro e w2 ⟨rfl,rfl⟩)
    | (go_at_call 153
       with_reducible refine (need_yes _ _ _ _).mono ?_
       rintro e w2 ⟨rfl,hb2⟩
       replace HB0:=Hd (HB0.out.trans (hb2.mono HB0.out.size))
       replace B0:=Hd (B0.out.below hb2 (Nat.lt_of_succ_lt HLT.out))
       replace R0:=Hd (R0.out.below hb2 HLT.out)
       replace HLT:=Hd (Nat.lt_of_lt_of_le HLT.out hb2.size)
       clear hb2))
  have k0:=B0.out.cell 0
  have k1:=B0.out.cell 1
  simp at k0 k1
  go_wp2_with fail
  refine (need_yes _ _ _ _).mono ?_
  rintro e w3 ⟨rfl,hb2⟩
  replace HB0:=Hd (HB0.out.trans (hb2.mono HB0.out.size))
  replace B0:=Hd (B0.out.below hb2 (Nat.lt_of_succ_lt HLT.out))
  replace R0:=Hd (R0.out.below hb2 HLT.out)
  replace HLT:=Hd (Nat.lt_of_lt_of_le HLT.out hb2.size)
  clear k0 k1
  clear hb2
  go_wp2_with fail
  replace B0:=Hd (B0.out.drew)
  replace R0:=Hd (R0.out.drew)
  replace HB0:=Hd (HB0.out.drew)
  replace HLT:=Hd (show w.heap.size+1<w3.drew.heap.size from HLT.out)
  go_region_held3 (fun w'=>w'.cell? ⟨w.heap.size,0,none⟩=some (.int .i64 size)∧w'.cell? ⟨w.heap.size,1,none⟩=some (.string s))
    (exact⟨B0.out.cell 0,B0.out.cell 1⟩)
    (first
    | (go_at_call 154
       with_reducible refine (HN1 _).mono ?_
       rintro e w2 ⟨rfl,hb2⟩
       replace HB0:=Hd (HB0.out.trans (hb2.mono HB0.out.size))
       replace B0:=Hd (B0.out.below hb2 (Nat.lt_of_succ_lt HLT.out))
       replace R0:=Hd (R0.out.below hb2 HLT.out)
       replace HLT:=Hd (Nat.lt_of_lt_of_le HLT.out hb2.size)
       clear hb2)
    | (go_at_call 155
       with_reducible refine (HO _).mono ?_
       rintro e w2 ⟨rfl,hb2⟩
       replace HB0:=Hd (HB0.out.trans (hb2.mono HB0.out.size))
       replace B0:=Hd (B0.out.below hb2 (Nat.lt_of_succ_lt HLT.out))
       replace R0:=Hd (R0.out.below hb2 HLT.out)
       replace HLT:=Hd (Nat.lt_of_lt_of_le HLT.out hb2.size)
       clear hb2)
    | (go_at_call 153
       with_reducible refine (need_yes _ _ _ _).mono ?_
       rintro e w2 ⟨rfl,hb2⟩
       replace HB0:=Hd (HB0.out.trans (hb2.mono HB0.out.size))
       replace B0:=Hd (B0.out.below hb2 (Nat.lt_of_succ_lt HLT.out))
       replace R0:=Hd (R0.out.below hb2 HLT.out)
       replace HLT:=Hd (Nat.lt_of_lt_of_le HLT.out hb2.size)
       clear hb2))
  go_wp2_with fail
  replace B0:=Hd (B0.out.drew)
  replace R0:=Hd (R0.out.drew)
  replace HB0:=Hd (HB0.out.drew)
  replace HLT:=Hd (show w.heap.size+1<w2.drew.heap.size from HLT.out)
  refine wp_region_held_drew (S:=(fun w'=>w'.cell? ⟨w.heap.size,0,none⟩=some (.int .i64 size)∧w'.cell? ⟨w.heap.size,1,none⟩=some (.string s))) (by kernel_rfl) ⟨B0.out.cell 0,B0.out.cell 1⟩ (fun hHeld=>?_)
  refine tkA (i:=0) ?_
  try simp only[tkP]
  refine tkA (i:=1) ?_
  try simp only[tkP]
  refine wpAnyH_ready (rs:=[2]) (by kernel_rfl) (by simp) ?_
  refine tkC (fun K hK=>?_)
  go_simp
  refine (HN2 _).mono ?_
  rintro e w5 ⟨rfl,hb2⟩
  replace HB0:=Hd (HB0.out.trans (hb2.mono HB0.out.size))
  replace B0:=Hd (B0.out.below hb2 (Nat.lt_of_succ_lt HLT.out))
  replace R0:=Hd (R0.out.below hb2 HLT.out)
  replace HLT:=Hd (Nat.lt_of_lt_of_le HLT.out hb2.size)
  clear hb2
  refine hK.out _ _ (⟨B0.out.cell 0,B0.out.cell 1⟩) (fun hHeld=>?_)
  clear hK K
  try simp only[tkP]
  refine tkA (i:=3) ?_
  try simp only[tkP]
  refine wpAnyH_ready (rs:=[4]) (by kernel_rfl) (by simp) ?_
  refine tkC (fun K hK=>?_)
  go_simp
  refine (need_no _ _ _ _).mono ?_
  rintro e w9 ⟨rfl,hb9⟩
  exact⟨rfl,rfl,HB0.out.trans (hb9.mono HB0.out.size)⟩
def ReadIn (w:World) (size:Int) (s:ByteArray) (kd ct pg lk tx:Nat) (p:Value) (wx:World):Prop :=
  ∃ g,p=.pointer (some ⟨g,0,none⟩)∧w.heap.size+1<g∧Blk wx g 41 #[.int .i64 kd,.int .i64 ct,.int .u32 pg,.int .u32 lk,.int .u64 tx,.string (s.extract 24 s.size)]∧Blk wx w.heap.size 206 #[.int .i64 size,.string s]∧Blk wx (w.heap.size+1) 41 #[.int .i64 0,.int .i64 0,.int .u32 0,.int .u32 0,.int .u64 0,.string .empty]∧Below w.heap.size w wx
theorem rpage_ok (size:Int) (s:ByteArray) (n:Nat) (w:World) (h1:goodSize size=true) (h2:(s.size:Int)=size) (h3:leNat (List.take 4 s.data.toList)=crcM 0 (List.drop 4 s.data.toList)) (h4:leNat (List.take 1 (List.drop 5 s.data.toList))=1) (kd ct pg lk tx:Nat) (e_kd:kd=leNat (List.take 1 (List.drop 4 s.data.toList))) (e_ct:ct=leNat (List.take 2 (List.drop 6 s.data.toList))) (e_pg:pg=leNat (List.take 4 (List.drop 8 s.data.toList))) (e_lk:lk=leNat (List.take 4 (List.drop 12 s.data.toList))) (e_tx:tx=leNat (List.take 8 (List.drop 16 s.data.toList))) (h5:mayPg size kd ct pg lk tx (s.extract 24 s.size)=true) (h6:pg=n) :
    Calls Tryz.prog 133 #[.agg #[.int .i64 size,.string s],.int .u32 n] w fun e w'=>e=.returned (.agg #[.int .i64 kd,.int .i64 ct,.int .u32 pg,.int .u32 lk,.int .u64 tx,.string (s.extract 24 s.size)])∧Below w.heap.size w w':=by
  have HV:=fun w=>valid_any size kd ct pg lk tx (s.extract 24 s.size) w
  rw[h5] at HV
  have q6:((pg:Int)==(n:Int))=true:=by rw[h6];simp
  clear h5 h6
  obtain⟨z,z0,z1,z2,z3⟩:=good_nat h1
  have z4:s.size=z:=by omega
  have HG:=fun w=>dgood_is size _ w h1
  have q2:((s.size:Int)==size)=true:=by simpa using h2
  obtain⟨v1,hv1⟩ : ∃ v1,v1=leNat (List.take 4 s.data.toList):=⟨_,rfl⟩
  have HN1 : ∀ w:World,Calls Tryz.prog 154 #[.agg #[.int .i64 size,.string s],.int .i64 0,.int .i64 4] w fun e w'=>e=.returned (.int .u64 (v1:Int))∧Below w.heap.size w w':=fun w=>by
    rw[hv1];exact rnum size s 0 4 w (by omega) (by omega) (by omega) (by omega)
  obtain⟨cr,hcr⟩ : ∃ cr,cr=crcM 0 (List.drop 4 s.data.toList):=⟨_,rfl⟩
  have hcl:cr<4294967296:=by rw[hcr];exact crcM_lt _ _
  have HO : ∀ w:World,Calls Tryz.prog 155 #[.string (s.extract 4 s.size)] w fun e w'=>e=.returned (.int .u32 (cr:Int))∧Below w.heap.size w w':=fun w=>by
    have h:=of_any (s.extract 4 s.size) w (by rw[ByteArray.size_extract];unfold maxLen;omega)
    have e:(s.extract 4 s.size).data.toList=List.drop 4 s.data.toList:=by
      rw[Lib.extract_data];rw[List.take_of_length_le];rw[List.length_drop,size_list];exact Nat.le_refl _
    rw[e,← hcr] at h
    exact h
  rw[← hv1,← hcr] at h3
  have hw8:=u64_nat cr (by omega)
  have q4:(4:Int)≤s.size:=by omega
  have q3:((v1:Int)==(cr:Int))=true:=by rw[h3];simp
  clear hcl hcr hv1
  obtain⟨v2,hv2⟩ : ∃ v2,v2=leNat (List.take 1 (List.drop 5 s.data.toList)):=⟨_,rfl⟩
  have HN2 : ∀ w:World,Calls Tryz.prog 154 #[.agg #[.int .i64 size,.string s],.int .i64 5,.int .i64 6] w fun e w'=>e=.returned (.int .u64 (v2:Int))∧Below w.heap.size w w':=fun w=>by
    rw[hv2];exact rnum size s 5 6 w (by omega) (by omega) (by omega) (by omega)
  rw[← hv2] at h4
  have q5:((v2:Int)==1)=true:=by rw[h4];rfl
  clear hv2
  have hl_kd:kd<256:=by
    rw[e_kd]
    have:=leNat_lt (List.take 1 (List.drop 4 s.data.toList))
    refine Nat.lt_of_lt_of_le this (Nat.le_trans (Nat.pow_le_pow_right (by omega) (show _≤8*1 by have:=List.length_take_le 1 (List.drop 4 s.data.toList);omega)) (by decide))
  have HN_kd : ∀ w:World,Calls Tryz.prog 154 #[.agg #[.int .i64 size,.string s],.int .i64 4,.int .i64 5] w fun e w'=>e=.returned (.int .u64 (kd:Int))∧Below w.heap.size w w':=fun w=>by
    rw[e_kd];exact rnum size s 4 5 w (by omega) (by omega) (by omega) (by omega)
  have hl_ct:ct<65536:=by
    rw[e_ct]
    have:=leNat_lt (List.take 2 (List.drop 6 s.data.toList))
    refine Nat.lt_of_lt_of_le this (Nat.le_trans (Nat.pow_le_pow_right (by omega) (show _≤8*2 by have:=List.length_take_le 2 (List.drop 6 s.data.toList);omega)) (by decide))
  have HN_ct : ∀ w:World,Calls Tryz.prog 154 #[.agg #[.int .i64 size,.string s],.int .i64 6,.int .i64 8] w fun e w'=>e=.returned (.int .u64 (ct:Int))∧Below w.heap.size w w':=fun w=>by
    rw[e_ct];exact rnum size s 6 8 w (by omega) (by omega) (by omega) (by omega)
  have hl_pg:pg<4294967296:=by
    rw[e_pg]
    have:=leNat_lt (List.take 4 (List.drop 8 s.data.toList))
    refine Nat.lt_of_lt_of_le this (Nat.le_trans (Nat.pow_le_pow_right (by omega) (show _≤8*4 by have:=List.length_take_le 4 (List.drop 8 s.data.toList);omega)) (by decide))
  have HN_pg : ∀ w:World,Calls Tryz.prog 154 #[.agg #[.int .i64 size,.string s],.int .i64 8,.int .i64 12] w fun e w'=>e=.returned (.int .u64 (pg:Int))∧Below w.heap.size w w':=fun w=>by
    rw[e_pg];exact rnum size s 8 12 w (by omega) (by omega) (by omega) (by omega)
  have hl_lk:lk<4294967296:=by
    rw[e_lk]
    have:=leNat_lt (List.take 4 (List.drop 12 s.data.toList))
    refine Nat.lt_of_lt_of_le this (Nat.le_trans (Nat.pow_le_pow_right (by omega) (show _≤8*4 by have:=List.length_take_le 4 (List.drop 12 s.data.toList);omega)) (by decide))
  have HN_lk : ∀ w:World,Calls Tryz.prog 154 #[.agg #[.int .i64 size,.string s],.int .i64 12,.int .i64 16] w fun e w'=>e=.returned (.int .u64 (lk:Int))∧Below w.heap.size w w':=fun w=>by
    rw[e_lk];exact rnum size s 12 16 w (by omega) (by omega) (by omega) (by omega)
  have hl_tx:tx<18446744073709551616:=by
    rw[e_tx]
    have:=leNat_lt (List.take 8 (List.drop 16 s.data.toList))
    refine Nat.lt_of_lt_of_le this (Nat.le_trans (Nat.pow_le_pow_right (by omega) (show _≤8*8 by have:=List.length_take_le 8 (List.drop 16 s.data.toList);omega)) (by decide))
  have HN_tx : ∀ w:World,Calls Tryz.prog 154 #[.agg #[.int .i64 size,.string s],.int .i64 16,.int .i64 24] w fun e w'=>e=.returned (.int .u64 (tx:Int))∧Below w.heap.size w w':=fun w=>by
    rw[e_tx];exact rnum size s 16 24 w (by omega) (by omega) (by omega) (by omega)
  have w_kd:IntKind.i64.wrap (kd:Int)=(kd:Int):=by rw[IntKind.wrap_i64];omega
  have w_ct:IntKind.i64.wrap (ct:Int)=(ct:Int):=by rw[IntKind.wrap_i64];omega
  have w_pg:IntKind.u32.wrap (pg:Int)=(pg:Int):=by rw[IntKind.wrap_u32];omega
  have w_lk:IntKind.u32.wrap (lk:Int)=(lk:Int):=by rw[IntKind.wrap_u32];omega
  have q24:(24:Int)≤s.size:=by omega
  have HC : ∀ w:World,Calls Tryz.prog 128 #[.string (s.extract 24 s.size)] w fun e w'=>e=.returned (.string (s.extract 24 s.size))∧Below w.heap.size w w':=fun w=>sclone_any _ w (by rw[ByteArray.size_extract];omega)
  clear hl_kd hl_ct hl_pg hl_lk hl_tx e_kd e_ct e_pg e_lk e_tx h1 h2 h3 h4 z0 z1 z2 z3 z4 z
  obtain⟨w0,hw0⟩ : ∃ w0,w0=(w.alloc (.cells #[.int .i64 size,.string s] 206)).alloc (.cells #[.int .i64 0,.int .i64 0,.int .u32 0,.int .u32 0,.int .u64 0,.string .empty] 41):=⟨_,rfl⟩
  have b0:Blk w0 w.heap.size 206 #[.int .i64 size,.string s]:=by rw[hw0];exact (Blk.new _ _ _).alloc _
  have r0:Blk w0 (w.heap.size+1) 41 #[.int .i64 0,.int .i64 0,.int .u32 0,.int .u32 0,.int .u64 0,.string .empty]:=by
    rw[hw0]
    have:=Blk.new (w.alloc (.cells #[.int .i64 size,.string s] 206)) 41 #[.int .i64 0,.int .i64 0,.int .u32 0,.int .u32 0,.int .u64 0,.string .empty]
    simpa using this
  have hb0:Below w.heap.size w w0:=by rw[hw0];exact ((Below.refl _ _).alloc (Nat.le_refl _) _).alloc (by simp) _
  have hlt:w.heap.size+1<w0.heap.size:=by rw[hw0];simp
  obtain⟨hz,hi⟩:=zero_of_info infoPg
  have HI:=Hd hi
  clear hi
  have B0:=Hd b0
  have R0:=Hd r0
  have HB0:=Hd hb0
  have HLT:=Hd hlt
  clear b0 r0 hb0 hlt
  go_enter Tryz.func133,Tryz.ntmps133
  go_wp2_with fail
  rw[← hw0]
  clear hw0
  replace B0:=Hd (B0.out.drew)
  replace R0:=Hd (R0.out.drew)
  replace HB0:=Hd (HB0.out.drew)
  replace HLT:=Hd (show w.heap.size+1<w0.drew.heap.size from HLT.out)
  go_region_held3 (fun w'=>w'.cell? ⟨w.heap.size,0,none⟩=some (.int .i64 size)∧w'.cell? ⟨w.heap.size,1,none⟩=some (.string s))
    (exact⟨B0.out.cell 0,B0.out.cell 1⟩)
    (first
    | (go_at_call 71
       with_reducible refine (HG _).mono ?_
       rintro e w2 ⟨rfl,rfl⟩)
    | (go_at_call 153
       with_reducible refine (need_yes _ _ _ _).mono ?_
       rintro e w2 ⟨rfl,hb2⟩
       replace HB0:=Hd (HB0.out.trans (hb2.mono HB0.out.size))
       replace B0:=Hd (B0.out.below hb2 (Nat.lt_of_succ_lt HLT.out))
       replace R0:=Hd (R0.out.below hb2 HLT.out)
       replace HLT:=Hd (Nat.lt_of_lt_of_le HLT.out hb2.size)
       clear hb2))
  have k0:=B0.out.cell 0
  have k1:=B0.out.cell 1
  simp at k0 k1
  go_wp2_with fail
  refine (need_yes _ _ _ _).mono ?_
  rintro e w3 ⟨rfl,hb2⟩
  replace HB0:=Hd (HB0.out.trans (hb2.mono HB0.out.size))
  replace B0:=Hd (B0.out.below hb2 (Nat.lt_of_succ_lt HLT.out))
  replace R0:=Hd (R0.out.below hb2 HLT.out)
  replace HLT:=Hd (Nat.lt_of_lt_of_le HLT.out hb2.size)
  clear k0 k1
  clear hb2
  go_wp2_with fail
  replace B0:=Hd (B0.out.drew)
  replace R0:=Hd (R0.out.drew)
  replace HB0:=Hd (HB0.out.drew)
  replace HLT:=Hd (show w.heap.size+1<w3.drew.heap.size from HLT.out)
  go_region_held3 (fun w'=>w'.cell? ⟨w.heap.size,0,none⟩=some (.int .i64 size)∧w'.cell? ⟨w.heap.size,1,none⟩=some (.string s))
    (exact⟨B0.out.cell 0,B0.out.cell 1⟩)
    (first
    | (go_at_call 154
       with_reducible refine (HN1 _).mono ?_
       rintro e w2 ⟨rfl,hb2⟩
       replace HB0:=Hd (HB0.out.trans (hb2.mono HB0.out.size))
       replace B0:=Hd (B0.out.below hb2 (Nat.lt_of_succ_lt HLT.out))
       replace R0:=Hd (R0.out.below hb2 HLT.out)
       replace HLT:=Hd (Nat.lt_of_lt_of_le HLT.out hb2.size)
       clear hb2)
    | (go_at_call 155
       with_reducible refine (HO _).mono ?_
       rintro e w2 ⟨rfl,hb2⟩
       replace HB0:=Hd (HB0.out.trans (hb2.mono HB0.out.size))
       replace B0:=Hd (B0.out.below hb2 (Nat.lt_of_succ_lt HLT.out))
       replace R0:=Hd (R0.out.below hb2 HLT.out)
       replace HLT:=Hd (Nat.lt_of_lt_of_le HLT.out hb2.size)
       clear hb2)
    | (go_at_call 153
       with_reducible refine (need_yes _ _ _ _).mono ?_
       rintro e w2 ⟨rfl,hb2⟩
       replace HB0:=Hd (HB0.out.trans (hb2.mono HB0.out.size))
       replace B0:=Hd (B0.out.below hb2 (Nat.lt_of_succ_lt HLT.out))
       replace R0:=Hd (R0.out.below hb2 HLT.out)
       replace HLT:=Hd (Nat.lt_of_lt_of_le HLT.out hb2.size)
       clear hb2))
  go_wp2_with fail
  replace B0:=Hd (B0.out.drew)
  replace R0:=Hd (R0.out.drew)
  replace HB0:=Hd (HB0.out.drew)
  replace HLT:=Hd (show w.heap.size+1<w2.drew.heap.size from HLT.out)
  go_region_held3 (fun w'=>w'.cell? ⟨w.heap.size,0,none⟩=some (.int .i64 size)∧w'.cell? ⟨w.heap.size,1,none⟩=some (.string s))
    (exact⟨B0.out.cell 0,B0.out.cell 1⟩)
    (first
    | (go_at_call 154
       with_reducible refine (HN2 _).mono ?_
       rintro e w2 ⟨rfl,hb2⟩
       replace HB0:=Hd (HB0.out.trans (hb2.mono HB0.out.size))
       replace B0:=Hd (B0.out.below hb2 (Nat.lt_of_succ_lt HLT.out))
       replace R0:=Hd (R0.out.below hb2 HLT.out)
       replace HLT:=Hd (Nat.lt_of_lt_of_le HLT.out hb2.size)
       clear hb2)
    | (go_at_call 153
       with_reducible refine (need_yes _ _ _ _).mono ?_
       rintro e w2 ⟨rfl,hb2⟩
       replace HB0:=Hd (HB0.out.trans (hb2.mono HB0.out.size))
       replace B0:=Hd (B0.out.below hb2 (Nat.lt_of_succ_lt HLT.out))
       replace R0:=Hd (R0.out.below hb2 HLT.out)
       replace HLT:=Hd (Nat.lt_of_lt_of_le HLT.out hb2.size)
       clear hb2))
  go_wp2_with fail
  go_cut [5] (fun p wx=>ReadIn w size s kd ct pg lk tx p wx)
  case first =>
    have B9:=B0
    have R9:=R0
    have HB9:=HB0
    have HLT9:=HLT
    replace B0:=Hd (B0.out.drew)
    replace R0:=Hd (R0.out.drew)
    replace HB0:=Hd (HB0.out.drew)
    replace HLT:=Hd (show w.heap.size+1<w2.drew.heap.size from HLT.out)
    go_region_held3 (fun w'=>w'.cell? ⟨w.heap.size,0,none⟩=some (.int .i64 size)∧w'.cell? ⟨w.heap.size,1,none⟩=some (.string s))
      (first | with_reducible exact rd_cells B0.out | with_reducible exact rd_cells (B0.out.alloc _) | with_reducible exact rd_cells ((B9.out.alloc _).drew) | with_reducible exact rd_cells (six_far B0.out (Nat.ne_of_lt (Nat.lt_of_succ_lt GT0.out))))
      (first
      | (go_at_call 154
         with_reducible refine (HN_kd _).mono ?_
         rintro e w2 ⟨rfl,hb2⟩
         try (replace P0:=Hd (P0.out.below hb2 P0.out.lt))
         first
         | (with_reducible (have HX:Below w.heap.size w w2:=HB0.out.trans (hb2.mono HB0.out.size))
            replace HB0:=Hd HX
            replace B0:=Hd (B0.out.below hb2 (Nat.lt_of_succ_lt HLT.out))
            replace R0:=Hd (R0.out.below hb2 HLT.out)
            replace HLT:=Hd (Nat.lt_of_lt_of_le HLT.out hb2.size)
            clear HX)
         | (have P0:=Hd (new_below hb2)
            have GT0:=Hd HLT.out
            have HX:=HB0.out.alloc HB0.out.size (.cells #[.int .i64 0,.int .i64 0,.int .u32 0,.int .u32 0,.int .u64 0,.string .empty] 41)
            replace HB0:=Hd (HX.trans (hb2.mono HX.size))
            replace B0:=Hd ((B0.out.alloc (.cells #[.int .i64 0,.int .i64 0,.int .u32 0,.int .u32 0,.int .u64 0,.string .empty] 41)).below hb2 (lt_alloc (Nat.lt_of_succ_lt HLT.out) _))
            replace R0:=Hd ((R0.out.alloc (.cells #[.int .i64 0,.int .i64 0,.int .u32 0,.int .u32 0,.int .u64 0,.string .empty] 41)).below hb2 (lt_alloc HLT.out _))
            replace HLT:=Hd (Nat.lt_of_lt_of_le (lt_alloc HLT.out _) hb2.size)
            clear HX)
         | (have P0:=Hd ((Blk.new _ _ _).drew.below hb2 (by simp))
            have GT0:=Hd HLT9.out
            have HX:=(HB9.out.alloc HB9.out.size (.cells #[.int .i64 0,.int .i64 0,.int .u32 0,.int .u32 0,.int .u64 0,.string .empty] 41)).drew
            replace HB0:=Hd (HX.trans (hb2.mono HX.size))
            replace B0:=Hd ((B9.out.alloc (.cells #[.int .i64 0,.int .i64 0,.int .u32 0,.int .u32 0,.int .u64 0,.string .empty] 41)).drew.below hb2 (lt_alloc (Nat.lt_of_succ_lt HLT9.out) _))
            replace R0:=Hd ((R9.out.alloc (.cells #[.int .i64 0,.int .i64 0,.int .u32 0,.int .u32 0,.int .u64 0,.string .empty] 41)).drew.below hb2 (lt_alloc HLT9.out _))
            replace HLT:=Hd (Nat.lt_of_lt_of_le (lt_alloc HLT9.out _) hb2.size)
            clear HX)
         clear hb2)
      | (go_at_call 154
         with_reducible refine (HN_ct _).mono ?_
         rintro e w2 ⟨rfl,hb2⟩
         try (replace P0:=Hd (P0.out.below hb2 P0.out.lt))
         first
         | (with_reducible (have HX:Below w.heap.size w w2:=HB0.out.trans (hb2.mono HB0.out.size))
            replace HB0:=Hd HX
            replace B0:=Hd (B0.out.below hb2 (Nat.lt_of_succ_lt HLT.out))
            replace R0:=Hd (R0.out.below hb2 HLT.out)
            replace HLT:=Hd (Nat.lt_of_lt_of_le HLT.out hb2.size)
            clear HX)
         | (have P0:=Hd (new_below hb2)
            have GT0:=Hd HLT.out
            have HX:=HB0.out.alloc HB0.out.size (.cells #[.int .i64 0,.int .i64 0,.int .u32 0,.int .u32 0,.int .u64 0,.string .empty] 41)
            replace HB0:=Hd (HX.trans (hb2.mono HX.size))
            replace B0:=Hd ((B0.out.alloc (.cells #[.int .i64 0,.int .i64 0,.int .u32 0,.int .u32 0,.int .u64 0,.string .empty] 41)).below hb2 (lt_alloc (Nat.lt_of_succ_lt HLT.out) _))
            replace R0:=Hd ((R0.out.alloc (.cells #[.int .i64 0,.int .i64 0,.int .u32 0,.int .u32 0,.int .u64 0,.string .empty] 41)).below hb2 (lt_alloc HLT.out _))
            replace HLT:=Hd (Nat.lt_of_lt_of_le (lt_alloc HLT.out _) hb2.size)
            clear HX)
         | (have P0:=Hd ((Blk.new _ _ _).drew.below hb2 (by simp))
            have GT0:=Hd HLT9.out
            have HX:=(HB9.out.alloc HB9.out.size (.cells #[.int .i64 0,.int .i64 0,.int .u32 0,.int .u32 0,.int .u64 0,.string .empty] 41)).drew
            replace HB0:=Hd (HX.trans (hb2.mono HX.size))
            replace B0:=Hd ((B9.out.alloc (.cells #[.int .i64 0,.int .i64 0,.int .u32 0,.int .u32 0,.int .u64 0,.string .empty] 41)).drew.below hb2 (lt_alloc (Nat.lt_of_succ_lt HLT9.out) _))
            replace R0:=Hd ((R9.out.alloc (.cells #[.int .i64 0,.int .i64 0,.int .u32 0,.int .u32 0,.int .u64 0,.string .empty] 41)).drew.below hb2 (lt_alloc HLT9.out _))
            replace HLT:=Hd (Nat.lt_of_lt_of_le (lt_alloc HLT9.out _) hb2.size)
            clear HX)
         clear hb2)
      | (go_at_call 154
         with_reducible refine (HN_pg _).mono ?_
         rintro e w2 ⟨rfl,hb2⟩
         try (replace P0:=Hd (P0.out.below hb2 P0.out.lt))
         first
         | (with_reducible (have HX:Below w.heap.size w w2:=HB0.out.trans (hb2.mono HB0.out.size))
            replace HB0:=Hd HX
            replace B0:=Hd (B0.out.below hb2 (Nat.lt_of_succ_lt HLT.out))
            replace R0:=Hd (R0.out.below hb2 HLT.out)
            replace HLT:=Hd (Nat.lt_of_lt_of_le HLT.out hb2.size)
            clear HX)
         | (have P0:=Hd (new_below hb2)
            have GT0:=Hd HLT.out
            have HX:=HB0.out.alloc HB0.out.size (.cells #[.int .i64 0,.int .i64 0,.int .u32 0,.int .u32 0,.int .u64 0,.string .empty] 41)
            replace HB0:=Hd (HX.trans (hb2.mono HX.size))
            replace B0:=Hd ((B0.out.alloc (.cells #[.int .i64 0,.int .i64 0,.int .u32 0,.int .u32 0,.int .u64 0,.string .empty] 41)).below hb2 (lt_alloc (Nat.lt_of_succ_lt HLT.out) _))
            replace R0:=Hd ((R0.out.alloc (.cells #[.int .i64 0,.int .i64 0,.int .u32 0,.int .u32 0,.int .u64 0,.string .empty] 41)).below hb2 (lt_alloc HLT.out _))
            replace HLT:=Hd (Nat.lt_of_lt_of_le (lt_alloc HLT.out _) hb2.size)
            clear HX)
         | (have P0:=Hd ((Blk.new _ _ _).drew.below hb2 (by simp))
            have GT0:=Hd HLT9.out
            have HX:=(HB9.out.alloc HB9.out.size (.cells #[.int .i64 0,.int .i64 0,.int .u32 0,.int .u32 0,.int .u64 0,.string .empty] 41)).drew
            replace HB0:=Hd (HX.trans (hb2.mono HX.size))
            replace B0:=Hd ((B9.out.alloc (.cells #[.int .i64 0,.int .i64 0,.int .u32 0,.int .u32 0,.int .u64 0,.string .empty] 41)).drew.below hb2 (lt_alloc (Nat.lt_of_succ_lt HLT9.out) _))
            replace R0:=Hd ((R9.out.alloc (.cells #[.int .i64 0,.int .i64 0,.int .u32 0,.int .u32 0,.int .u64 0,.string .empty] 41)).drew.below hb2 (lt_alloc HLT9.out _))
            replace HLT:=Hd (Nat.lt_of_lt_of_le (lt_alloc HLT9.out _) hb2.size)
            clear HX)
         clear hb2)
      | (go_at_call 154
         with_reducible refine (HN_lk _).mono ?_
         rintro e w2 ⟨rfl,hb2⟩
         try (replace P0:=Hd (P0.out.below hb2 P0.out.lt))
         first
         | (with_reducible (have HX:Below w.heap.size w w2:=HB0.out.trans (hb2.mono HB0.out.size))
            replace HB0:=Hd HX
            replace B0:=Hd (B0.out.below hb2 (Nat.lt_of_succ_lt HLT.out))
            replace R0:=Hd (R0.out.below hb2 HLT.out)
            replace HLT:=Hd (Nat.lt_of_lt_of_le HLT.out hb2.size)
            clear HX)
         | (have P0:=Hd (new_below hb2)
            have GT0:=Hd HLT.out
            have HX:=HB0.out.alloc HB0.out.size (.cells #[.int .i64 0,.int .i64 0,.int .u32 0,.int .u32 0,.int .u64 0,.string .empty] 41)
            replace HB0:=Hd (HX.trans (hb2.mono HX.size))
            replace B0:=Hd ((B0.out.alloc (.cells #[.int .i64 0,.int .i64 0,.int .u32 0,.int .u32 0,.int .u64 0,.string .empty] 41)).below hb2 (lt_alloc (Nat.lt_of_succ_lt HLT.out) _))
            replace R0:=Hd ((R0.out.alloc (.cells #[.int .i64 0,.int .i64 0,.int .u32 0,.int .u32 0,.int .u64 0,.string .empty] 41)).below hb2 (lt_alloc HLT.out _))
            replace HLT:=Hd (Nat.lt_of_lt_of_le (lt_alloc HLT.out _) hb2.size)
            clear HX)
         | (have P0:=Hd ((Blk.new _ _ _).drew.below hb2 (by simp))
            have GT0:=Hd HLT9.out
            have HX:=(HB9.out.alloc HB9.out.size (.cells #[.int .i64 0,.int .i64 0,.int .u32 0,.int .u32 0,.int .u64 0,.string .empty] 41)).drew
            replace HB0:=Hd (HX.trans (hb2.mono HX.size))
            replace B0:=Hd ((B9.out.alloc (.cells #[.int .i64 0,.int .i64 0,.int .u32 0,.int .u32 0,.int .u64 0,.string .empty] 41)).drew.below hb2 (lt_alloc (Nat.lt_of_succ_lt HLT9.out) _))
            replace R0:=Hd ((R9.out.alloc (.cells #[.int .i64 0,.int .i64 0,.int .u32 0,.int .u32 0,.int .u64 0,.string .empty] 41)).drew.below hb2 (lt_alloc HLT9.out _))
            replace HLT:=Hd (Nat.lt_of_lt_of_le (lt_alloc HLT9.out _) hb2.size)
            clear HX)
         clear hb2)
      | (go_at_call 154
         with_reducible refine (HN_tx _).mono ?_
         rintro e w2 ⟨rfl,hb2⟩
         try (replace P0:=Hd (P0.out.below hb2 P0.out.lt))
         first
         | (with_reducible (have HX:Below w.heap.size w w2:=HB0.out.trans (hb2.mono HB0.out.size))
            replace HB0:=Hd HX
            replace B0:=Hd (B0.out.below hb2 (Nat.lt_of_succ_lt HLT.out))
            replace R0:=Hd (R0.out.below hb2 HLT.out)
            replace HLT:=Hd (Nat.lt_of_lt_of_le HLT.out hb2.size)
            clear HX)
         | (have P0:=Hd (new_below hb2)
            have GT0:=Hd HLT.out
            have HX:=HB0.out.alloc HB0.out.size (.cells #[.int .i64 0,.int .i64 0,.int .u32 0,.int .u32 0,.int .u64 0,.string .empty] 41)
            replace HB0:=Hd (HX.trans (hb2.mono HX.size))
            replace B0:=Hd ((B0.out.alloc (.cells #[.int .i64 0,.int .i64 0,.int .u32 0,.int .u32 0,.int .u64 0,.string .empty] 41)).below hb2 (lt_alloc (Nat.lt_of_succ_lt HLT.out) _))
            replace R0:=Hd ((R0.out.alloc (.cells #[.int .i64 0,.int .i64 0,.int .u32 0,.int .u32 0,.int .u64 0,.string .empty] 41)).below hb2 (lt_alloc HLT.out _))
            replace HLT:=Hd (Nat.lt_of_lt_of_le (lt_alloc HLT.out _) hb2.size)
            clear HX)
         | (have P0:=Hd ((Blk.new _ _ _).drew.below hb2 (by simp))
            have GT0:=Hd HLT9.out
            have HX:=(HB9.out.alloc HB9.out.size (.cells #[.int .i64 0,.int .i64 0,.int .u32 0,.int .u32 0,.int .u64 0,.string .empty] 41)).drew
            replace HB0:=Hd (HX.trans (hb2.mono HX.size))
            replace B0:=Hd ((B9.out.alloc (.cells #[.int .i64 0,.int .i64 0,.int .u32 0,.int .u32 0,.int .u64 0,.string .empty] 41)).drew.below hb2 (lt_alloc (Nat.lt_of_succ_lt HLT9.out) _))
            replace R0:=Hd ((R9.out.alloc (.cells #[.int .i64 0,.int .i64 0,.int .u32 0,.int .u32 0,.int .u64 0,.string .empty] 41)).drew.below hb2 (lt_alloc HLT9.out _))
            replace HLT:=Hd (Nat.lt_of_lt_of_le (lt_alloc HLT9.out _) hb2.size)
            clear HX)
         clear hb2)
      | (go_at_call 128
         with_reducible refine (HC _).mono ?_
         rintro e w2 ⟨rfl,hb2⟩
         try (replace P0:=Hd (P0.out.below hb2 P0.out.lt))
         first
         | (with_reducible (have HX:Below w.heap.size w w2:=HB0.out.trans (hb2.mono HB0.out.size))
            replace HB0:=Hd HX
            replace B0:=Hd (B0.out.below hb2 (Nat.lt_of_succ_lt HLT.out))
            replace R0:=Hd (R0.out.below hb2 HLT.out)
            replace HLT:=Hd (Nat.lt_of_lt_of_le HLT.out hb2.size)
            clear HX)
         | (have P0:=Hd (new_below hb2)
            have GT0:=Hd HLT.out
            have HX:=HB0.out.alloc HB0.out.size (.cells #[.int .i64 0,.int .i64 0,.int .u32 0,.int .u32 0,.int .u64 0,.string .empty] 41)
            replace HB0:=Hd (HX.trans (hb2.mono HX.size))
            replace B0:=Hd ((B0.out.alloc (.cells #[.int .i64 0,.int .i64 0,.int .u32 0,.int .u32 0,.int .u64 0,.string .empty] 41)).below hb2 (lt_alloc (Nat.lt_of_succ_lt HLT.out) _))
            replace R0:=Hd ((R0.out.alloc (.cells #[.int .i64 0,.int .i64 0,.int .u32 0,.int .u32 0,.int .u64 0,.string .empty] 41)).below hb2 (lt_alloc HLT.out _))
            replace HLT:=Hd (Nat.lt_of_lt_of_le (lt_alloc HLT.out _) hb2.size)
            clear HX)
         | (have P0:=Hd ((Blk.new _ _ _).drew.below hb2 (by simp))
            have GT0:=Hd HLT9.out
            have HX:=(HB9.out.alloc HB9.out.size (.cells #[.int .i64 0,.int .i64 0,.int .u32 0,.int .u32 0,.int .u64 0,.string .empty] 41)).drew
            replace HB0:=Hd (HX.trans (hb2.mono HX.size))
            replace B0:=Hd ((B9.out.alloc (.cells #[.int .i64 0,.int .i64 0,.int .u32 0,.int .u32 0,.int .u64 0,.string .empty] 41)).drew.below hb2 (lt_alloc (Nat.lt_of_succ_lt HLT9.out) _))
            replace R0:=Hd ((R9.out.alloc (.cells #[.int .i64 0,.int .i64 0,.int .u32 0,.int .u32 0,.int .u64 0,.string .empty] 41)).drew.below hb2 (lt_alloc HLT9.out _))
            replace HLT:=Hd (Nat.lt_of_lt_of_le (lt_alloc HLT9.out _) hb2.size)
            clear HX)
         try (have P1:=P0.out
              have d0:=P1.cell 0
              have d1:=P1.cell 1
              have d2:=P1.cell 2
              have d3:=P1.cell 3
              have d4:=P1.cell 4
              have d5:=P1.cell 5
              have f0:=P1.frozen 0
              have f1:=P1.frozen 1
              have f2:=P1.frozen 2
              have f3:=P1.frozen 3
              have f4:=P1.frozen 4
              have f5:=P1.frozen 5
              simp at d0 d1 d2 d3 d4 d5
              clear P1)
         clear hb2))
    all_goals go_wp2_with fail
    all_goals go_meet
    all_goals (first
      | exact⟨_,rfl,GT0.out,six_at P0.out,six_far B0.out (Nat.ne_of_lt (Nat.lt_of_succ_lt GT0.out)),six_far R0.out (Nat.ne_of_lt GT0.out),six_below HB0.out (Nat.le_of_lt (Nat.lt_of_succ_lt GT0.out))⟩
      | exact⟨_,rfl,HLT.out,Blk.new _ _ _,B0.out.alloc _,R0.out.alloc _,HB0.out.alloc HB0.out.size _⟩)
  case rest =>
    obtain⟨g,rfl,hg,hp,hb,hr,hB⟩:=hcut
    have P0:=Hd hp
    have B0:=Hd hb
    have R0:=Hd hr
    have HB0:=Hd hB
    clear hp hb hr hB
    go_wp2_with fail
    replace B0:=Hd (B0.out.drew)
    replace R0:=Hd (R0.out.drew)
    replace P0:=Hd (P0.out.drew)
    replace HB0:=Hd (HB0.out.drew)
    go_region_held3 (fun w'=>(w'.cell? ⟨w.heap.size,0,none⟩=some (.int .i64 size)∧w'.cell? ⟨w.heap.size,1,none⟩=some (.string s))∧(w'.cell? ⟨g,0,none⟩=some (.int .i64 kd)∧w'.cell? ⟨g,1,none⟩=some (.int .i64 ct)∧w'.cell? ⟨g,2,none⟩=some (.int .u32 pg)∧w'.cell? ⟨g,3,none⟩=some (.int .u32 lk)∧w'.cell? ⟨g,4,none⟩=some (.int .u64 tx)∧w'.cell? ⟨g,5,none⟩=some (.string (s.extract 24 s.size))))
      (with_reducible exact⟨rd_cells B0.out,pg_cells P0.out⟩)
      (first
      | (go_at_call 156
         with_reducible refine (HV _).mono ?_
         rintro e w2 ⟨rfl,hb2⟩
         replace HB0:=Hd (HB0.out.trans (hb2.mono HB0.out.size))
         replace B0:=Hd (B0.out.below hb2 B0.out.lt)
         replace R0:=Hd (R0.out.below hb2 R0.out.lt)
         replace P0:=Hd (P0.out.below hb2 P0.out.lt)
         clear hb2)
      | (go_at_call 153
         with_reducible refine (need_yes _ _ _ _).mono ?_
         rintro e w2 ⟨rfl,hb2⟩
         replace HB0:=Hd (HB0.out.trans (hb2.mono HB0.out.size))
         replace B0:=Hd (B0.out.below hb2 B0.out.lt)
         replace R0:=Hd (R0.out.below hb2 R0.out.lt)
         replace P0:=Hd (P0.out.below hb2 P0.out.lt)
         clear hb2))
    have k0:=P0.out.cell 0
    have k1:=P0.out.cell 1
    have k2:=P0.out.cell 2
    have k3:=P0.out.cell 3
    have k4:=P0.out.cell 4
    have k5:=P0.out.cell 5
    have r0:=R0.out.cell 0
    have r1:=R0.out.cell 1
    have r2:=R0.out.cell 2
    have r3:=R0.out.cell 3
    have r4:=R0.out.cell 4
    have r5:=R0.out.cell 5
    have f0:=R0.out.frozen 0
    have f1:=R0.out.frozen 1
    have f2:=R0.out.frozen 2
    have f3:=R0.out.frozen 3
    have f4:=R0.out.frozen 4
    have f5:=R0.out.frozen 5
    simp at k0 k1 k2 k3 k4 k5 r0 r1 r2 r3 r4 r5
    go_wp2_with fail
    refine bodyPost_ret (results_cell_row rfl _ _ (w.heap.size+1) 41 #[.int .i64 kd,.int .i64 ct,.int .u32 pg,.int .u32 lk,.int .u64 tx,.string (s.extract 24 s.size)] (0,0) _ rfl (six_at R0.out) Tryz.underlying41 rfl HI.out) rfl ⟨rfl,six_below HB0.out (Nat.le_succ _)⟩

end Go.Proofs.YtanbbnogdhnikaaGreat

namespace Go.Proofs.YtanbbnogdhnikaaGreat
open Go.RowKit
open Go.Lib

theorem fbody_ok (size:Nat) (A:Option Addr) (m c:Nat) (l:List UInt8) (w:World) (hg:goodSize size=true) (hr:Reads w w.heap.size 1 A m (bcells l)) (hm:m≤size-24) :
  Calls Tryz.prog 147 #[.int .i64 size,.slice A m c] w fun e w'=>e=.returned (.tuple #[.string ⟨(l++List.replicate (size-24-m) 0).toArray⟩,.int .i64 0])∧Below w.heap.size w w':=by
 have hp:=good_pos hg
 have hl:l.length=m:=by have:=hr.1;rw[bcells_length] at this;omega
 obtain⟨r,hrm⟩ : ∃ r,r=size-24:=⟨_,rfl⟩
 have hR : ∀ w:World,Calls Tryz.prog 122 #[.int .i64 size] w fun e w'=>e=.returned (.int .i64 (r:Int))∧w'=w:=fun w=>by
  have:=room_is size w hg
  rw[show (size:Int)-24=(r:Int) by omega] at this
  exact this
 have q:decide (r<m)=false:=by simp;omega
 obtain⟨i0,hi0,hz0,hz1,hz2⟩:=info_parts infoU8
 have hmk:=run_make_bytes (P:=Tryz.prog) 102 5 Tryz.underlying102 infoU8 r (by omega) w
 obtain⟨w1,hw1⟩ : ∃ w1,w1=w.alloc (.cells (madeCells #[.int .u8 0] r) 5):=⟨_,rfl⟩
 rw[← hw1] at hmk
 have b1:Blk w1 w.heap.size 5 (madeCells #[.int .u8 0] r):=by rw[hw1];exact Blk.new _ _ _
 have hb1:Below w.heap.size w w1:=by rw[hw1];exact (Below.refl _ _).alloc (Nat.le_refl _) _
 have hr1:Reads w1 w.heap.size 1 A m (bcells l):=hr.below hb1
 have hmc:(madeCells #[.int .u8 0] r).toList=List.replicate r (Value.int .u8 0):=toList_madeCells_one _ _
 obtain⟨res,hres⟩ : ∃ res,res=l++List.replicate (r-m) (0:UInt8):=⟨_,rfl⟩
 rw[← hrm,← hres]
 have hresl:res.length=r:=by rw[hres,List.length_append,List.length_replicate];omega
 obtain⟨w2,hcp,hr2,hb2⟩ : ∃ w2,(Builtin.copy_ #[102,102] 3 #[.slice (some ⟨w.heap.size,0,none⟩) r r,.slice A m c]).run Tryz.prog w1=.ok (.int .i64 (m:Int)) w2∧Reads w2 w2.heap.size 1 (some ⟨w.heap.size,0,none⟩) r (bcells res)∧Below w.heap.size w w2:=by
  rcases Nat.eq_zero_or_pos m with h0 | h0
  ·subst h0
   have hl0:l=[]:=List.eq_nil_of_length_eq_zero hl
   subst hl0
   have hcp:=run_copy_none (P:=Tryz.prog) w1 102 102 3 5 (some ⟨w.heap.size,0,none⟩) A r r 0 c Tryz.underlying102 (by rw[hi0];simp[hz1]) (Nat.zero_min r)
   refine⟨w1,hcp,?_,hb1⟩
   rw[hres,hw1,List.nil_append,Nat.sub_zero]
   have h3:=(MRow.of_made w 5 r).reads
   rw[List.length_replicate] at h3
   exact h3
  ·obtain⟨ad,rfl,hab,hat⟩:=hr1.2 h0
   have hcp:=run_copy_row (P:=Tryz.prog) w1 102 102 3 5 w.heap.size 0 r r ad m c (madeCells #[.int .u8 0] r) 5 (bcells l) Tryz.underlying102 (by rw[hi0];simp[hz1]) b1
    (by rw[bcells_length,hl];exact (Nat.min_eq_left (by omega)).symm) hat (by rw[size_madeCells,bcells_length];omega) (bcells_one l)
   rw[bcells_length,hl] at hcp
   refine⟨_,hcp,?_,below_setRow hb1 (Nat.le_refl _) _⟩
   have h3:((madeCells #[.int .u8 0] r).toList.take 0++bcells l++(madeCells #[.int .u8 0] r).toList.drop (0+m))=bcells res:=by
    rw[hmc,hres,bcells_append]
    simp[bcells]
   rw[h3]
   have hblk:=setRow_heap w1 w.heap.size _ (bcells res).toArray _ _ b1
   refine⟨by rw[bcells_length,hresl,Nat.mul_one],fun _=>⟨_,rfl,(by have:=b1.lt;rw[setRow_size];exact this),fun j u hu=>?_⟩⟩
   have e:(⟨w.heap.size,0,none⟩:Addr).add j=⟨w.heap.size,j,none⟩:=by unfold Addr.add;split<;>simp_all
   rw[e,cell_of_row _ _ j _ _ _ hblk]
   simpa using hu
 have hcv:=run_string_reads w2 102 9 5 r Tryz.underlying102 Tryz.underlying5 Tryz.underlying9 hr2
 clear hr hm hp hl hrm hi0 hz0 hz1 hz2 b1 hb1 hr1 hmc hres hresl hr2 hw1
 go_enter Tryz.func147,Tryz.ntmps147
 go_wp2_with fail
 refine (dgood_is size _ _ hg).mono ?_
 rintro e w' ⟨rfl,rfl⟩
 go_wp2_with fail
 refine (hR _).mono ?_
 rintro e w' ⟨rfl,rfl⟩
 go_wp2_with fail
 refine (hR _).mono ?_
 rintro e w' ⟨rfl,rfl⟩
 go_wp2_with fail
 go_ret2
 exact⟨rfl,hb2⟩
end Go.Proofs.YtanbbnogdhnikaaGreat

