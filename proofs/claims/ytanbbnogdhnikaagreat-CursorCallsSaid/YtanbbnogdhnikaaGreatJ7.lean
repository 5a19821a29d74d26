/-
  Contracts of package frame's reader: where page panics at last. (Written by wip/tools/gen_frameread.py.)
-/
import Derived.Test.YtanbbnogdhnikaaGreatJ6
import Derived.Deep.RegionWith
set_option linter.unusedVariables false
set_option linter.unusedSimpArgs false
set_option maxRecDepth 300000
set_option maxHeartbeats 25600000
namespace Go.Proofs.YtanbbnogdhnikaaGreat
open Go.RowKit
open Go.Lib
attribute [local go_sem ↓] Go.wp_at_zero Go.wp_at_succ

theorem rpage_num (size:Int) (s:ByteArray) (n:Nat) (w:World) (h1:goodSize size=true) (h2:(s.size:Int)=size) (h3:leNat (List.take 4 s.data.toList)=crcM 0 (List.drop 4 s.data.toList)) (h4:leNat (List.take 1 (List.drop 5 s.data.toList))=1) (kd ct pg lk tx:Nat) (e_kd:kd=leNat (List.take 1 (List.drop 4 s.data.toList))) (e_ct:ct=leNat (List.take 2 (List.drop 6 s.data.toList))) (e_pg:pg=leNat (List.take 4 (List.drop 8 s.data.toList))) (e_lk:lk=leNat (List.take 4 (List.drop 12 s.data.toList))) (e_tx:tx=leNat (List.take 8 (List.drop 16 s.data.toList))) (h6 : ¬ pg=n) :
    Calls Tryz.prog 133 #[.agg #[.int .i64 size,.string s],.int .u32 n] w fun e w'=>Dies e 4∧Below w.heap.size w w':=by
  have q6:((pg:Int)==(n:Int))=false:=by simp;omega
  clear h6
  obtain⟨z,z0,z1,z2,z3⟩:=good_nat h1
  have z4:s.size=z:=by omega
  have HG:=fun w=>dgood_is size _ w h1
  have q2:((s.size:Int)==size)=true:=by simpa using h2
  obtain⟨v1,hv1⟩ : ∃ v1,v1=leNat (List.take 4 s.data.toList):=⟨_,rfl⟩
  have HN1 : ∀ w:World,Calls Tryz.prog 154 #[.agg #[.int .i64 size,.string s],.int .i64 0,.int .i64 4] w fun e w'=>e=.returned (.int .u64 (v1:Int))∧Below w.heap.size w w':=fun w=>by
    rw[hv1];exact rnum size s 0 4 w (by omega) (by omega) (by omega) (by omega)
  obtain⟨cr,hcr⟩ : ∃ cr,cr=crcM 0 (List.drop 4 s.data.toList):=⟨_,rfl⟩
  have hcl:cr<4294967296:=by rw[hcr];exact crcM_lt _ _
  have HO : ∀ w:World,Calls Tryz.prog 155 #[.string (s.extract 4 s.size)] w fun e w'=>e=.returned (.int .u32 (cr:Int))∧Below w.heap.size w w':=fun w=>by
    have h:=of_any (s.extract 4 s.size) w (by rw[ByteArray.size_extract];unfold maxLen;omega)
    have e:(s.extract 4 s.size).data.toList=List.drop 4 s.data.toList:=by
      rw[Lib.extract_data];rw[List.take_of_length_le];rw[List.length_drop,size_list];exact Nat.le_refl _
    rw[e,← hcr] at h
    exact h
  rw[← hv1,← hcr] at h3
  have hw8:=u64_nat cr (by omega)
  have q4:(4:Int)≤s.size:=by omega
  have q3:((v1:Int)==(cr:Int))=true:=by rw[h3];simp
  clear hcl hcr hv1
  obtain⟨v2,hv2⟩ : ∃ v2,v2=leNat (List.take 1 (List.drop 5 s.data.toList)):=⟨_,rfl⟩
  have HN2 : ∀ w:World,Calls Tryz.prog 154 #[.agg #[.int .i64 size,.string s],.int .i64 5,.int .i64 6] w fun e w'=>e=.returned (.int .u64 (v2:Int))∧Below w.heap.size w w':=fun w=>by
    rw[hv2];exact rnum size s 5 6 w (by omega) (by omega) (by omega) (by omega)
  rw[← hv2] at h4
  have q5:((v2:Int)==1)=true:=by rw[h4];rfl
  clear hv2
  have hl_kd:kd<256:=by
    rw[e_kd]
    have:=leNat_lt (List.take 1 (List.drop 4 s.data.toList))
    refine Nat.lt_of_lt_of_le this (Nat.le_trans (Nat.pow_le_pow_right (by omega) (show _≤8*1 by have:=List.length_take_le 1 (List.drop 4 s.data.toList);omega)) (by decide))
  have HN_kd : ∀ w:World,Calls Tryz.prog 154 #[.agg #[.int .i64 size,.string s],.int .i64 4,.int .i64 5] w fun e w'=>e=.returned (.int .u64 (kd:Int))∧Below w.heap.size w w':=fun w=>by
    rw[e_kd];exact rnum size s 4 5 w (by omega) (by omega) (by omega) (by omega)
  have hl_ct:ct<65536:=by
    rw[e_ct]
    have:=leNat_lt (List.take 2 (List.drop 6 s.data.toList))
    refine Nat.lt_of_lt_of_le this (Nat.le_trans (Nat.pow_le_pow_right (by omega) (show _≤8*2 by have:=List.length_take_le 2 (List.drop 6 s.data.toList);omega)) (by decide))
  have HN_ct : ∀ w:World,Calls Tryz.prog 154 #[.agg #[.int .i64 size,.string s],.int .i64 6,.int .i64 8] w fun e w'=>e=.returned (.int .u64 (ct:Int))∧Below w.heap.size w w':=fun w=>by
    rw[e_ct];exact rnum size s 6 8 w (by omega) (by omega) (by omega) (by omega)
  have hl_pg:pg<4294967296:=by
    rw[e_pg]
    have:=leNat_lt (List.take 4 (List.drop 8 s.data.toList))
    refine Nat.lt_of_lt_of_le this (Nat.le_trans (Nat.pow_le_pow_right (by omega) (show _≤8*4 by have:=List.length_take_le 4 (List.drop 8 s.data.toList);omega)) (by decide))
  have HN_pg : ∀ w:World,Calls Tryz.prog 154 #[.agg #[.int .i64 size,.string s],.int .i64 8,.int .i64 12] w fun e w'=>e=.returned (.int .u64 (pg:Int))∧Below w.heap.size w w':=fun w=>by
    rw[e_pg];exact rnum size s 8 12 w (by omega) (by omega) (by omega) (by omega)
  have hl_lk:lk<4294967296:=by
    rw[e_lk]
    have:=leNat_lt (List.take 4 (List.drop 12 s.data.toList))
    refine Nat.lt_of_lt_of_le this (Nat.le_trans (Nat.pow_le_pow_right (by omega) (show _≤8*4 by have:=List.length_take_le 4 (List.drop 12 s.data.toList);omega)) (by decide))
  have HN_lk : ∀ w:World,Calls Tryz.prog 154 #[.agg #[.int .i64 size,.string s],.int .i64 12,.int .i64 16] w fun e w'=>e=.returned (.int .u64 (lk:Int))∧Below w.heap.size w w':=fun w=>by
    rw[e_lk];exact rnum size s 12 16 w (by omega) (by omega) (by omega) (by omega)
  have hl_tx:tx<18446744073709551616:=by
    rw[e_tx]
    have:=leNat_lt (List.take 8 (List.drop 16 s.data.toList))
    refine Nat.lt_of_lt_of_le this (Nat.le_trans (Nat.pow_le_pow_right (by omega) (show _≤8*8 by have:=List.length_take_le 8 (List.drop 16 s.data.toList);omega)) (by decide))
  have HN_tx : ∀ w:World,Calls Tryz.prog 154 #[.agg #[.int .i64 size,.string s],.int .i64 16,.int .i64 24] w fun e w'=>e=.returned (.int .u64 (tx:Int))∧Below w.heap.size w w':=fun w=>by
    rw[e_tx];exact rnum size s 16 24 w (by omega) (by omega) (by omega) (by omega)
  have w_kd:IntKind.i64.wrap (kd:Int)=(kd:Int):=by rw[IntKind.wrap_i64];omega
  have w_ct:IntKind.i64.wrap (ct:Int)=(ct:Int):=by rw[IntKind.wrap_i64];omega
  have w_pg:IntKind.u32.wrap (pg:Int)=(pg:Int):=by rw[IntKind.wrap_u32];omega
  have w_lk:IntKind.u32.wrap (lk:Int)=(lk:Int):=by rw[IntKind.wrap_u32];omega
  have q24:(24:Int)≤s.size:=by omega
  have HC : ∀ w:World,Calls Tryz.prog 128 #[.string (s.extract 24 s.size)] w fun e w'=>e=.returned (.string (s.extract 24 s.size))∧Below w.heap.size w w':=fun w=>sclone_any _ w (by rw[ByteArray.size_extract];omega)
  clear hl_kd hl_ct hl_pg hl_lk hl_tx e_kd e_ct e_pg e_lk e_tx h1 h2 h3 h4 z0 z1 z2 z3 z4 z
  obtain⟨w0,hw0⟩ : ∃ w0,w0=(w.alloc (.cells #[.int .i64 size,.string s] 206)).alloc (.cells #[.int .i64 0,.int .i64 0,.int .u32 0,.int .u32 0,.int .u64 0,.string .empty] 41):=⟨_,rfl⟩
  have b0:Blk w0 w.heap.size 206 #[.int .i64 size,.string s]:=by rw[hw0];exact (Blk.new _ _ _).alloc _
  have r0:Blk w0 (w.heap.size+1) 41 #[.int .i64 0,.int .i64 0,.int .u32 0,.int .u32 0,.int .u64 0,.string .empty]:=by
    rw[hw0]
    have:=Blk.new (w.alloc (.cells #[.int .i64 size,.string s] 206)) 41 #[.int .i64 0,.int .i64 0,.int .u32 0,.int .u32 0,.int .u64 0,.string .empty]
    simpa using this
  have hb0:Below w.heap.size w w0:=by rw[hw0];exact ((Below.refl _ _).alloc (Nat.le_refl _) _).alloc (by simp) _
  have hlt:w.heap.size+1<w0.heap.size:=by rw[hw0];simp
  obtain⟨hz,hi⟩:=zero_of_info infoPg
  have HI:=Hd hi
  clear hi
  have B0:=Hd b0
  have R0:=Hd r0
  have HB0:=Hd hb0
  have HLT:=Hd hlt
  clear b0 r0 hb0 hlt
  go_enter Tryz.func133,Tryz.ntmps133
  go_wp2_with fail
  rw[← hw0]
  clear hw0
  replace B0:=Hd (B0.out.drew)
  replace R0:=Hd (R0.out.drew)
  replace HB0:=Hd (HB0.out.drew)
  replace HLT:=Hd (show w.heap.size+1<w0.drew.heap.size from HLT.out)
  go_region_held3 (fun w'=>w'.cell? ⟨w.heap.size,0,none⟩=some (.int .i64 size)∧w'.cell? ⟨w.heap.size,1,none⟩=some (.string s))
    (exact⟨B0.out.cell 0,B0.out.cell 1⟩)
    (first
    | (go_at_call 71
       with_reducible refine (HG _).mono ?_
       rintro e w2 ⟨rfl,rfl⟩)
    | (go_at_call 153
       with_reducible refine (need_yes _ _ _ _).mono ?_
       rintro e w2 ⟨rfl,hb2⟩
       replace HB0:=Hd (HB0.out.trans (hb2.mono HB0.out.size))
       replace B0:=Hd (B0.out.below hb2 (Nat.lt_of_succ_lt HLT.out))
       replace R0:=Hd (R0.out.below hb2 HLT.out)
       replace HLT:=Hd (Nat.lt_of_lt_of_le HLT.out hb2.size)
       clear hb2))
  have k0:=B0.out.cell 0
  have k1:=B0.out.cell 1
  simp at k0 k1
  go_wp2_with fail
  refine (need_yes _ _ _ _).mono ?_
  rintro e w3 ⟨rfl,hb2⟩
  replace HB0:=Hd (HB0.out.trans (hb2.mono HB0.out.size))
  replace B0:=Hd (B0.out.below hb2 (Nat.lt_of_succ_lt HLT.out))
  replace R0:=Hd (R0.out.below hb2 HLT.out)
  replace HLT:=Hd (Nat.lt_of_lt_of_le HLT.out hb2.size)
  clear k0 k1
  clear hb2
  go_wp2_with fail
  replace B0:=Hd (B0.out.drew)
  replace R0:=Hd (R0.out.drew)
  replace HB0:=Hd (HB0.out.drew)
  replace HLT:=Hd (show w.heap.size+1<w3.drew.heap.size from HLT.out)
  go_region_held3 (fun w'=>w'.cell? ⟨w.heap.size,0,none⟩=some (.int .i64 size)∧w'.cell? ⟨w.heap.size,1,none⟩=some (.string s))
    (exact⟨B0.out.cell 0,B0.out.cell 1⟩)
    (first
    | (go_at_call 154
       with_reducible refine (HN1 _).mono ?_
       rintro e w2 ⟨rfl,hb2⟩
       replace HB0:=Hd (HB0.out.trans (hb2.mono HB0.out.size))
       replace B0:=Hd (B0.out.below hb2 (Nat.lt_of_succ_lt HLT.out))
       replace R0:=Hd (R0.out.below hb2 HLT.out)
       replace HLT:=Hd (Nat.lt_of_lt_of_le HLT.out hb2.size)
       clear hb2)
    | (go_at_call 155
       with_reducible refine (HO _).mono ?_
       rintro e w2 ⟨rfl,hb2⟩
       replace HB0:=Hd (HB0.out.trans (hb2.mono HB0.out.size))
       replace B0:=Hd (B0.out.below hb2 (Nat.lt_of_succ_lt HLT.out))
       replace R0:=Hd (R0.out.below hb2 HLT.out)
       replace HLT:=Hd (Nat.lt_of_lt_of_le HLT.out hb2.size)
       clear hb2)
    | (go_at_call 153
       with_reducible refine (need_yes _ _ _ _).mono ?_
       rintro e w2 ⟨rfl,hb2⟩
       replace HB0:=Hd (HB0.out.trans (hb2.mono HB0.out.size))
       replace B0:=Hd (B0.out.below hb2 (Nat.lt_of_succ_lt HLT.out))
       replace R0:=Hd (R0.out.below hb2 HLT.out)
       replace HLT:=Hd (Nat.lt_of_lt_of_le HLT.out hb2.size)
       clear hb2))
  go_wp2_with fail
  replace B0:=Hd (B0.out.drew)
  replace R0:=Hd (R0.out.drew)
  replace HB0:=Hd (HB0.out.drew)
  replace HLT:=Hd (show w.heap.size+1<w2.drew.heap.size from HLT.out)
  go_region_held3 (fun w'=>w'.cell? ⟨w.heap.size,0,none⟩=some (.int .i64 size)∧w'.cell? ⟨w.heap.size,1,none⟩=some (.string s))
    (exact⟨B0.out.cell 0,B0.out.cell 1⟩)
    (first
    | (go_at_call 154
       with_reducible refine (HN2 _).mono ?_
       rintro e w2 ⟨rfl,hb2⟩
       replace HB0:=Hd (HB0.out.trans (hb2.mono HB0.out.size))
       replace B0:=Hd (B0.out.below hb2 (Nat.lt_of_succ_lt HLT.out))
       replace R0:=Hd (R0.out.below hb2 HLT.out)
       replace HLT:=Hd (Nat.lt_of_lt_of_le HLT.out hb2.size)
       clear hb2)
    | (go_at_call 153
       with_reducible refine (need_yes _ _ _ _).mono ?_
       rintro e w2 ⟨rfl,hb2⟩
       replace HB0:=Hd (HB0.out.trans (hb2.mono HB0.out.size))
       replace B0:=Hd (B0.out.below hb2 (Nat.lt_of_succ_lt HLT.out))
       replace R0:=Hd (R0.out.below hb2 HLT.out)
       replace HLT:=Hd (Nat.lt_of_lt_of_le HLT.out hb2.size)
       clear hb2))
  go_wp2_with fail
  go_cut [5] (fun p wx=>ReadIn w size s kd ct pg lk tx p wx)
  case first =>
    have B9:=B0
    have R9:=R0
    have HB9:=HB0
    have HLT9:=HLT
    replace B0:=Hd (B0.out.drew)
    replace R0:=Hd (R0.out.drew)
    replace HB0:=Hd (HB0.out.drew)
    replace HLT:=Hd (show w.heap.size+1<w2.drew.heap.size from HLT.out)
    go_region_held3 (fun w'=>w'.cell? ⟨w.heap.size,0,none⟩=some (.int .i64 size)∧w'.cell? ⟨w.heap.size,1,none⟩=some (.string s))
      (first | with_reducible exact rd_cells B0.out | with_reducible exact rd_cells (B0.out.alloc _) | with_reducible exact rd_cells ((B9.out.alloc _).drew) | with_reducible exact rd_cells (six_far B0.out (Nat.ne_of_lt (Nat.lt_of_succ_lt GT0.out))))
      (first
      | (go_at_call 154
         with_reducible refine (HN_kd _).mono ?_
         rintro e w2 ⟨rfl,hb2⟩
         try (replace P0:=Hd (P0.out.below hb2 P0.out.lt))
         first
         | (with_reducible (have HX:Below w.heap.size w w2:=HB0.out.trans (hb2.mono HB0.out.size))
            replace HB0:=Hd HX
            replace B0:=Hd (B0.out.below hb2 (Nat.lt_of_succ_lt HLT.out))
            replace R0:=Hd (R0.out.below hb2 HLT.out)
            replace HLT:=Hd (Nat.lt_of_lt_of_le HLT.out hb2.size)
            clear HX)
         | (have P0:=Hd (new_below hb2)
            have GT0:=Hd HLT.out
            have HX:=HB0.out.alloc HB0.out.size (.cells #[.int .i64 0,.int .i64 0,.int .u32 0,.int .u32 0,.int .u64 0,.string .empty] 41)
            replace HB0:=Hd (HX.trans (hb2.mono HX.size))
            replace B0:=Hd ((B0.out.alloc (.cells #[.int .i64 0,.int .i64 0,.int .u32 0,.int .u32 0,.int .u64 0,.string .empty] 41)).below hb2 (lt_alloc (Nat.lt_of_succ_lt HLT.out) _))
            replace R0:=Hd ((R0.out.alloc (.cells #[.int .i64 0,.int .i64 0,.int .u32 0,.int .u32 0,.int .u64 0,.string .empty] 41)).below hb2 (lt_alloc HLT.out _))
            replace HLT:=Hd (Nat.lt_of_lt_of_le (lt_alloc HLT.out _) hb2.size)
            clear HX)
         | (have P0:=Hd ((Blk.new _ _ _).drew.below hb2 (by simp))
            have GT0:=Hd HLT9.out
            have HX:=(HB9.out.alloc HB9.out.size (.cells #[.int .i64 0,.int .i64 0,.int .u32 0,.int .u32 0,.int .u64 0,.string .empty] 41)).drew
            replace HB0:=Hd (HX.trans (hb2.mono HX.size))
            replace B0:=Hd ((B9.out.alloc (.cells #[.int .i64 0,.int .i64 0,.int .u32 0,.int .u32 0,.int .u64 0,.string .empty] 41)).drew.below hb2 (lt_alloc (Nat.lt_of_succ_lt HLT9.out) _))
            replace R0:=Hd ((R9.out.alloc (.cells #[.int .i64 0,.int .i64 0,.int .u32 0,.int .u32 0,.int .u64 0,.string .empty] 41)).drew.below hb2 (lt_alloc HLT9.out _))
            replace HLT:=Hd (Nat.lt_of_lt_of_le (lt_alloc HLT9.out _) hb2.size)
            clear HX)
         clear hb2)
      | (go_at_call 154
         with_reducible refine (HN_ct _).mono ?_
         rintro e w2 ⟨rfl,hb2⟩
         try (replace P0:=Hd (P0.out.below hb2 P0.out.lt))
         first
         | (with_reducible (have HX:Below w.heap.size w w2:=HB0.out.trans (hb2.mono HB0.out.size))
            replace HB0:=Hd HX
            replace B0:=Hd (B0.out.below hb2 (Nat.lt_of_succ_lt HLT.out))
            replace R0:=Hd (R0.out.below hb2 HLT.out)
            replace HLT:=Hd (Nat.lt_of_lt_of_le HLT.out hb2.size)
            clear HX)
         | (have P0:=Hd (new_below hb2)
            have GT0:=Hd HLT.out
            have HX:=HB0.out.alloc HB0.out.size (.cells #[.int .i64 0,.int .i64 0,.int .u32 0,.int .u32 0,.int .u64 0,.string .empty] 41)
            replace HB0:=Hd (HX.trans (hb2.mono HX.size))
            replace B0:=Hd ((B0.out.alloc (.cells #[.int .i64 0,.int .i64 0,.int .u32 0,.int .u32 0,.int .u64 0,.string .empty] 41)).below hb2 (lt_alloc (Nat.lt_of_succ_lt HLT.out) _))
            replace R0:=Hd ((R0.out.alloc (.cells #[.int .i64 0,.int .i64 0,.int .u32 0,.int .u32 0,.int .u64 0,.string .empty] 41)).below hb2 (lt_alloc HLT.out _))
            replace HLT:=Hd (Nat.lt_of_lt_of_le (lt_alloc HLT.out _) hb2.size)
            clear HX)
         | (have P0:=Hd ((Blk.new _ _ _).drew.below hb2 (by simp))
            have GT0:=Hd HLT9.out
            have HX:=(HB9.out.alloc HB9.out.size (.cells #[.int .i64 0,.int .i64 0,.int .u32 0,.int .u32 0,.int .u64 0,.string .empty] 41)).drew
            replace HB0:=Hd (HX.trans (hb2.mono HX.size))
            replace B0:=Hd ((B9.out.alloc (.cells #[.int .i64 0,.int .i64 0,.int .u32 0,.int .u32 0,.int .u64 0,.string .empty] 41)).drew.below hb2 (lt_alloc (Nat.lt_of_succ_lt HLT9.out) _))
            replace R0:=Hd ((R9.out.alloc (.cells #[.int .i64 0,.int .i64 0,.int .u32 0,.int .u32 0,.int .u64 0,.string .empty] 41)).drew.below hb2 (lt_alloc HLT9.out _))
            replace HLT:=Hd (Nat.lt_of_lt_of_le (lt_alloc HLT9.out _) hb2.size)
            clear HX)
         clear hb2)
      | (go_at_call 154
         with_reducible refine (HN_pg _).mono ?_
         rintro e w2 ⟨rfl,hb2⟩
         try (replace P0:=Hd (P0.out.below hb2 P0.out.lt))
         first
         | (with_reducible (have HX:Below w.heap.size w w2:=HB0.out.trans (hb2.mono HB0.out.size))
            replace HB0:=Hd HX
            replace B0:=Hd (B0.out.below hb2 (Nat.lt_of_succ_lt HLT.out))
            replace R0:=Hd (R0.out.below hb2 HLT.out)
            replace HLT:=Hd (Nat.lt_of_lt_of_le HLT.out hb2.size)
            clear HX)
         | (have P0:=Hd (new_below hb2)
            have GT0:=Hd HLT.out
            have HX:=HB0.out.alloc HB0.out.size (.cells #[.int .i64 0,.int .i64 0,.int .u32 0,.int .u32 0,.int .u64 0,.string .empty] 41)
            replace HB0:=Hd (HX.trans (hb2.mono HX.size))
            replace B0:=Hd ((B0.out.alloc (.cells #[.int .i64 0,.int .i64 0,.int .u32 0,.int .u32 0,.int .u64 0,.string .empty] 41)).below hb2 (lt_alloc (Nat.lt_of_succ_lt HLT.out) _))
            replace R0:=Hd ((R0.out.alloc (.cells #[.int .i64 0,.int .i64 0,.int .u32 0,.int .u32 0,.int .u64 0,.string .empty] 41)).below hb2 (lt_alloc HLT.out _))
            replace HLT:=Hd (Nat.lt_of_lt_of_le (lt_alloc HLT.out _) hb2.size)
            clear HX)
         | (have P0:=Hd ((Blk.new _ _ _).drew.below hb2 (by simp))
            have GT0:=Hd HLT9.out
            have HX:=(HB9.out.alloc HB9.out.size (.cells #[.int .i64 0,.int .i64 0,.int .u32 0,.int .u32 0,.int .u64 0,.string .empty] 41)).drew
            replace HB0:=Hd (HX.trans (hb2.mono HX.size))
            replace B0:=Hd ((B9.out.alloc (.cells #[.int .i64 0,.int .i64 0,.int .u32 0,.int .u32 0,.int .u64 0,.string .empty] 41)).drew.below hb2 (lt_alloc (Nat.lt_of_succ_lt HLT9.out) _))
            replace R0:=Hd ((R9.out.alloc (.cells #[.int .i64 0,.int .i64 0,.int .u32 0,.int .u32 0,.int .u64 0,.string .empty] 41)).drew.below hb2 (lt_alloc HLT9.out _))
            replace HLT:=Hd (Nat.lt_of_lt_of_le (lt_alloc HLT9.out _) hb2.size)
            clear HX)
         clear hb2)
      | (go_at_call 154
         with_reducible refine (HN_lk _).mono ?_
         rintro e w2 ⟨rfl,hb2⟩
         try (replace P0:=Hd (P0.out.below hb2 P0.out.lt))
         first
         | (with_reducible (have HX:Below w.heap.size w w2:=HB0.out.trans (hb2.mono HB0.out.size))
            replace HB0:=Hd HX
            replace B0:=Hd (B0.out.below hb2 (Nat.lt_of_succ_lt HLT.out))
            replace R0:=Hd (R0.out.below hb2 HLT.out)
            replace HLT:=Hd (Nat.lt_of_lt_of_le HLT.out hb2.size)
            clear HX)
         | (have P0:=Hd (new_below hb2)
            have GT0:=Hd HLT.out
            have HX:=HB0.out.alloc HB0.out.size (.cells #[.int .i64 0,.int .i64 0,.int .u32 0,.int .u32 0,.int .u64 0,.string .empty] 41)
            replace HB0:=Hd (HX.trans (hb2.mono HX.size))
            replace B0:=Hd ((B0.out.alloc (.cells #[.int .i64 0,.int .i64 0,.int .u32 0,.int .u32 0,.int .u64 0,.string .empty] 41)).below hb2 (lt_alloc (Nat.lt_of_succ_lt HLT.out) _))
            replace R0:=Hd ((R0.out.alloc (.cells #[.int .i64 0,.int .i64 0,.int .u32 0,.int .u32 0,.int .u64 0,.string .empty] 41)).below hb2 (lt_alloc HLT.out _))
            replace HLT:=Hd (Nat.lt_of_lt_of_le (lt_alloc HLT.out _) hb2.size)
            clear HX)
         | (have P0:=Hd ((Blk.new _ _ _).drew.below hb2 (by simp))
            have GT0:=Hd HLT9.out
            have HX:=(HB9.out.alloc HB9.out.size (.cells #[.int .i64 0,.int .i64 0,.int .u32 0,.int .u32 0,.int .u64 0,.string .empty] 41)).drew
            replace HB0:=Hd (HX.trans (hb2.mono HX.size))
            replace B0:=Hd ((B9.out.alloc (.cells #[.int .i64 0,.int .i64 0,.int .u32 0,.int .u32 0,.int .u64 0,.string .empty] 41)).drew.below hb2 (lt_alloc (Nat.lt_of_succ_lt HLT9.out) _))
            replace R0:=Hd ((R9.out.alloc (.cells #[.int .i64 0,.int .i64 0,.int .u32 0,.int .u32 0,.int .u64 0,.string .empty] 41)).drew.below hb2 (lt_alloc HLT9.out _))
            replace HLT:=Hd (Nat.lt_of_lt_of_le (lt_alloc HLT9.out _) hb2.size)
            clear HX)
         clear hb2)
      | (go_at_call 154
         with_reducible refine (HN_tx _).mono ?_
         rintro e w2 ⟨rfl,hb2⟩
         try (replace P0:=Hd (P0.out.below hb2 P0.out.lt))
         first
         | (with_reducible (have HX:Below w.heap.size w w2:=HB0.out.trans (hb2.mono HB0.out.size))
            replace HB0:=Hd HX
            replace B0:=Hd (B0.out.below hb2 (Nat.lt_of_succ_lt HLT.out))
            replace R0:=Hd (R0.out.below hb2 HLT.out)
            replace HLT:=Hd (Nat.lt_of_lt_of_le HLT.out hb2.size)
            clear HX)
         | (have P0:=Hd (new_below hb2)
            have GT0:=Hd HLT.out
            have HX:=HB0.out.alloc HB0.out.size (.cells #[.int .i64 0,.int .i64 0,.int .u32 0,.int .u32 0,.int .u64 0,.string .empty] 41)
            replace HB0:=Hd (HX.trans (hb2.mono HX.size))
            replace B0:=Hd ((B0.out.alloc (.cells #[.int .i64 0,.int .i64 0,.int .u32 0,.int .u32 0,.int .u64 0,.string .empty] 41)).below hb2 (lt_alloc (Nat.lt_of_succ_lt HLT.out) _))
            replace R0:=Hd ((R0.out.alloc (.cells #[.int .i64 0,.int .i64 0,.int .u32 0,.int .u32 0,.int .u64 0,.string .empty] 41)).below hb2 (lt_alloc HLT.out _))
            replace HLT:=Hd (Nat.lt_of_lt_of_le (lt_alloc HLT.out _) hb2.size)
            clear HX)
         | (have P0:=Hd ((Blk.new _ _ _).drew.below hb2 (by simp))
            have GT0:=Hd HLT9.out
            have HX:=(HB9.out.alloc HB9.out.size (.cells #[.int .i64 0,.int .i64 0,.int .u32 0,.int .u32 0,.int .u64 0,.string .empty] 41)).drew
            replace HB0:=Hd (HX.trans (hb2.mono HX.size))
            replace B0:=Hd ((B9.out.alloc (.cells #[.int .i64 0,.int .i64 0,.int .u32 0,.int .u32 0,.int .u64 0,.string .empty] 41)).drew.below hb2 (lt_alloc (Nat.lt_of_succ_lt HLT9.out) _))
            replace R0:=Hd ((R9.out.alloc (.cells #[.int .i64 0,.int .i64 0,.int .u32 0,.int .u32 0,.int .u64 0,.string .empty] 41)).drew.below hb2 (lt_alloc HLT9.out _))
            replace HLT:=Hd (Nat.lt_of_lt_of_le (lt_alloc HLT9.out _) hb2.size)
            clear HX)
         clear hb2)
      | (go_at_call 128
         with_reducible refine (HC _).mono ?_
         rintro e w2 ⟨rfl,hb2⟩
         try (replace P0:=Hd (P0.out.below hb2 P0.out.lt))
         first
         | (with_reducible (have HX:Below w.heap.size w w2:=HB0.out.trans (hb2.mono HB0.out.size))
            replace HB0:=Hd HX
            replace B0:=Hd (B0.out.below hb2 (Nat.lt_of_succ_lt HLT.out))
            replace R0:=Hd (R0.out.below hb2 HLT.out)
            replace HLT:=Hd (Nat.lt_of_lt_of_le HLT.out hb2.size)
            clear HX)
         | (have P0:=Hd (new_below hb2)
            have GT0:=Hd HLT.out
            have HX:=HB0.out.alloc HB0.out.size (.cells #[.int .i64 0,.int .i64 0,.int .u32 0,.int .u32 0,.int .u64 0,.string .empty] 41)
            replace HB0:=Hd (HX.trans (hb2.mono HX.size))
            replace B0:=Hd ((B0.out.alloc (.cells #[.int .i64 0,.int .i64 0,.int .u32 0,.int .u32 0,.int .u64 0,.string .empty] 41)).below hb2 (lt_alloc (Nat.lt_of_succ_lt HLT.out) _))
            replace R0:=Hd ((R0.out.alloc (.cells #[.int .i64 0,.int .i64 0,.int .u32 0,.int .u32 0,.int .u64 0,.string .empty] 41)).below hb2 (lt_alloc HLT.out _))
            replace HLT:=Hd (Nat.lt_of_lt_of_le (lt_alloc HLT.out _) hb2.size)
            clear HX)
         | (have P0:=Hd ((Blk.new _ _ _).drew.below hb2 (by simp))
            have GT0:=Hd HLT9.out
            have HX:=(HB9.out.alloc HB9.out.size (.cells #[.int .i64 0,.int .i64 0,.int .u32 0,.int .u32 0,.int .u64 0,.string .empty] 41)).drew
            replace HB0:=Hd (HX.trans (hb2.mono HX.size))
            replace B0:=Hd ((B9.out.alloc (.cells #[.int .i64 0,.int .i64 0,.int .u32 0,.int .u32 0,.int .u64 0,.string .empty] 41)).drew.below hb2 (lt_alloc (Nat.lt_of_succ_lt HLT9.out) _))
            replace R0:=Hd ((R9.out.alloc (.cells #[.int .i64 0,.int .i64 0,.int .u32 0,.int .u32 0,.int .u64 0,.string .empty] 41)).drew.below hb2 (lt_alloc HLT9.out _))
            replace HLT:=Hd (Nat.lt_of_lt_of_le (lt_alloc HLT9.out _) hb2.size)
            clear HX)
         try (have P1:=P0.out
              have d0:=P1.cell 0
              have d1:=P1.cell 1
              have d2:=P1.cell 2
              have d3:=P1.cell 3
              have d4:=P1.cell 4
              have d5:=P1.cell 5
              have f0:=P1.frozen 0
              have f1:=P1.frozen 1
              have f2:=P1.frozen 2
              have f3:=P1.frozen 3
              have f4:=P1.frozen 4
              have f5:=P1.frozen 5
              simp at d0 d1 d2 d3 d4 d5
              clear P1)
         clear hb2))
    all_goals go_wp2_with fail
    all_goals go_meet
    all_goals (first
      | exact⟨_,rfl,GT0.out,six_at P0.out,six_far B0.out (Nat.ne_of_lt (Nat.lt_of_succ_lt GT0.out)),six_far R0.out (Nat.ne_of_lt GT0.out),six_below HB0.out (Nat.le_of_lt (Nat.lt_of_succ_lt GT0.out))⟩
      | exact⟨_,rfl,HLT.out,Blk.new _ _ _,B0.out.alloc _,R0.out.alloc _,HB0.out.alloc HB0.out.size _⟩)
  case rest =>
    obtain⟨g,rfl,hg,hp,hb,hr,hB⟩:=hcut
    have P0:=Hd hp
    have B0:=Hd hb
    have R0:=Hd hr
    have HB0:=Hd hB
    clear hp hb hr hB
    go_wp2_with fail
    replace B0:=Hd (B0.out.drew)
    replace R0:=Hd (R0.out.drew)
    replace P0:=Hd (P0.out.drew)
    replace HB0:=Hd (HB0.out.drew)
    refine wp_region_held_drew (S:=(fun w'=>(w'.cell? ⟨w.heap.size,0,none⟩=some (.int .i64 size)∧w'.cell? ⟨w.heap.size,1,none⟩=some (.string s))∧(w'.cell? ⟨g,0,none⟩=some (.int .i64 kd)∧w'.cell? ⟨g,1,none⟩=some (.int .i64 ct)∧w'.cell? ⟨g,2,none⟩=some (.int .u32 pg)∧w'.cell? ⟨g,3,none⟩=some (.int .u32 lk)∧w'.cell? ⟨g,4,none⟩=some (.int .u64 tx)∧w'.cell? ⟨g,5,none⟩=some (.string (s.extract 24 s.size))))) (by kernel_rfl) ⟨rd_cells B0.out,pg_cells P0.out⟩ (fun hHeld=>?_)
    refine tkA (i:=0) ?_
    try simp only[tkP]
    refine tkA (i:=1) ?_
    try simp only[tkP]
    refine tkA (i:=2) ?_
    try simp only[tkP]
    refine tkA (i:=3) ?_
    try simp only[tkP]
    refine tkA (i:=4) ?_
    try simp only[tkP]
    refine tkA (i:=5) ?_
    try simp only[tkP]
    refine tkU (i:=6) ?_
    try simp only[tkP]
    refine tkU (i:=7) ?_
    try simp only[tkP]
    refine tkU (i:=8) ?_
    try simp only[tkP]
    refine tkU (i:=9) ?_
    try simp only[tkP]
    refine tkA (i:=10) ?_
    try simp only[tkP]
    refine wpAnyH_ready (rs:=[11]) (by kernel_rfl) (by simp) ?_
    refine tkC (fun K hK=>?_)
    go_simp
    refine (need_no _ _ _ _).mono ?_
    rintro e w9 ⟨rfl,hb9⟩
    exact⟨rfl,rfl,HB0.out.trans (hb9.mono HB0.out.size)⟩
theorem rpage_bad (size:Int) (s:ByteArray) (n:Nat) (w:World) (h1:goodSize size=true) (h2:(s.size:Int)=size) (h3:leNat (List.take 4 s.data.toList)=crcM 0 (List.drop 4 s.data.toList)) (h4:leNat (List.take 1 (List.drop 5 s.data.toList))=1) (kd ct pg lk tx:Nat) (e_kd:kd=leNat (List.take 1 (List.drop 4 s.data.toList))) (e_ct:ct=leNat (List.take 2 (List.drop 6 s.data.toList))) (e_pg:pg=leNat (List.take 4 (List.drop 8 s.data.toList))) (e_lk:lk=leNat (List.take 4 (List.drop 12 s.data.toList))) (e_tx:tx=leNat (List.take 8 (List.drop 16 s.data.toList))) (h6:pg=n) (h5:mayPg size kd ct pg lk tx (s.extract 24 s.size)=false) :
    Calls Tryz.prog 133 #[.agg #[.int .i64 size,.string s],.int .u32 n] w fun e w'=>Dies e 4∧Below w.heap.size w w':=by
  have HV:=fun w=>valid_any size kd ct pg lk tx (s.extract 24 s.size) w
  rw[h5] at HV
  have q6:((pg:Int)==(n:Int))=true:=by rw[h6];simp
  clear h5 h6
  obtain⟨z,z0,z1,z2,z3⟩:=good_nat h1
  have z4:s.size=z:=by omega
  have HG:=fun w=>dgood_is size _ w h1
  have q2:((s.size:Int)==size)=true:=by simpa using h2
  obtain⟨v1,hv1⟩ : ∃ v1,v1=leNat (List.take 4 s.data.toList):=⟨_,rfl⟩
  have HN1 : ∀ w:World,Calls Tryz.prog 154 #[.agg #[.int .i64 size,.string s],.int .i64 0,.int .i64 4] w fun e w'=>e=.returned (.int .u64 (v1:Int))∧Below w.heap.size w w':=fun w=>by
    rw[hv1];exact rnum size s 0 4 w (by omega) (by omega) (by omega) (by omega)
  obtain⟨cr,hcr⟩ : ∃ cr,cr=crcM 0 (List.drop 4 s.data.toList):=⟨_,rfl⟩
  have hcl:cr<4294967296:=by rw[hcr];exact crcM_lt _ _
  have HO : ∀ w:World,Calls Tryz.prog 155 #[.string (s.extract 4 s.size)] w fun e w'=>e=.returned (.int .u32 (cr:Int))∧Below w.heap.size w w':=fun w=>by
    have h:=of_any (s.extract 4 s.size) w (by rw[ByteArray.size_extract];unfold maxLen;omega)
    have e:(s.extract 4 s.size).data.toList=List.drop 4 s.data.toList:=by
      rw[Lib.extract_data];rw[List.take_of_length_le];rw[List.length_drop,size_list];exact Nat.le_refl _
    rw[e,← hcr] at h
    exact h
  rw[← hv1,← hcr] at h3
  have hw8:=u64_nat cr (by omega)
  have q4:(4:Int)≤s.size:=by omega
  have q3:((v1:Int)==(cr:Int))=true:=by rw[h3];simp
  clear hcl hcr hv1
  obtain⟨v2,hv2⟩ : ∃ v2,v2=leNat (List.take 1 (List.drop 5 s.data.toList)):=⟨_,rfl⟩
  have HN2 : ∀ w:World,Calls Tryz.prog 154 #[.agg #[.int .i64 size,.string s],.int .i64 5,.int .i64 6] w fun e w'=>e=.returned (.int .u64 (v2:Int))∧Below w.heap.size w w':=fun w=>by
    rw[hv2];exact rnum size s 5 6 w (by omega) (by omega) (by omega) (by omega)
  rw[← hv2] at h4
  have q5:((v2:Int)==1)=true:=by rw[h4];rfl
  clear hv2
  have hl_kd:kd<256:=by
    rw[e_kd]
    have:=leNat_lt (List.take 1 (List.drop 4 s.data.toList))
    refine Nat.lt_of_lt_of_le this (Nat.le_trans (Nat.pow_le_pow_right (by omega) (show _≤8*1 by have:=List.length_take_le 1 (List.drop 4 s.data.toList);omega)) (by decide))
  have HN_kd : ∀ w:World,Calls Tryz.prog 154 #[.agg #[.int .i64 size,.string s],.int .i64 4,.int .i64 5] w fun e w'=>e=.returned (.int .u64 (kd:Int))∧Below w.heap.size w w':=fun w=>by
    rw[e_kd];exact rnum size s 4 5 w (by omega) (by omega) (by omega) (by omega)
  have hl_ct:ct<65536:=by
    rw[e_ct]
    have:=leNat_lt (List.take 2 (List.drop 6 s.data.toList))
    refine Nat.lt_of_lt_of_le this (Nat.le_trans (Nat.pow_le_pow_right (by omega) (show _≤8*2 by have:=List.length_take_le 2 (List.drop 6 s.data.toList);omega)) (by decide))
  have HN_ct : ∀ w:World,Calls Tryz.prog 154 #[.agg #[.int .i64 size,.string s],.int .i64 6,.int .i64 8] w fun e w'=>e=.returned (.int .u64 (ct:Int))∧Below w.heap.size w w':=fun w=>by
    rw[e_ct];exact rnum size s 6 8 w (by omega) (by omega) (by omega) (by omega)
  have hl_pg:pg<4294967296:=by
    rw[e_pg]
    have:=leNat_lt (List.take 4 (List.drop 8 s.data.toList))
    refine Nat.lt_of_lt_of_le this (Nat.le_trans (Nat.pow_le_pow_right (by omega) (show _≤8*4 by have:=List.length_take_le 4 (List.drop 8 s.data.toList);omega)) (by decide))
  have HN_pg : ∀ w:World,Calls Tryz.prog 154 #[.agg #[.int .i64 size,.string s],.int .i64 8,.int .i64 12] w fun e w'=>e=.returned (.int .u64 (pg:Int))∧Below w.heap.size w w':=fun w=>by
    rw[e_pg];exact rnum size s 8 12 w (by omega) (by omega) (by omega) (by omega)
  have hl_lk:lk<4294967296:=by
    rw[e_lk]
    have:=leNat_lt (List.take 4 (List.drop 12 s.data.toList))
    refine Nat.lt_of_lt_of_le this (Nat.le_trans (Nat.pow_le_pow_right (by omega) (show _≤8*4 by have:=List.length_take_le 4 (List.drop 12 s.data.toList);omega)) (by decide))
  have HN_lk : ∀ w:World,Calls Tryz.prog 154 #[.agg #[.int .i64 size,.string s],.int .i64 12,.int .i64 16] w fun e w'=>e=.returned (.int .u64 (lk:Int))∧Below w.heap.size w w':=fun w=>by
    rw[e_lk];exact rnum size s 12 16 w (by omega) (by omega) (by omega) (by omega)
  have hl_tx:tx<18446744073709551616:=by
    rw[e_tx]
    have:=leNat_lt (List.take 8 (List.drop 16 s.data.toList))
    refine Nat.lt_of_lt_of_le this (Nat.le_trans (Nat.pow_le_pow_right (by omega) (show _≤8*8 by have:=List.length_take_le 8 (List.drop 16 s.data.toList);omega)) (by decide))
  have HN_tx : ∀ w:World,Calls Tryz.prog 154 #[.agg #[.int .i64 size,.string s],.int .i64 16,.int .i64 24] w fun e w'=>e=.returned (.int .u64 (tx:Int))∧Below w.heap.size w w':=fun w=>by
    rw[e_tx];exact rnum size s 16 24 w (by omega) (by omega) (by omega) (by omega)
  have w_kd:IntKind.i64.wrap (kd:Int)=(kd:Int):=by rw[IntKind.wrap_i64];omega
  have w_ct:IntKind.i64.wrap (ct:Int)=(ct:Int):=by rw[IntKind.wrap_i64];omega
  have w_pg:IntKind.u32.wrap (pg:Int)=(pg:Int):=by rw[IntKind.wrap_u32];omega
  have w_lk:IntKind.u32.wrap (lk:Int)=(lk:Int):=by rw[IntKind.wrap_u32];omega
  have q24:(24:Int)≤s.size:=by omega
  have HC : ∀ w:World,Calls Tryz.prog 128 #[.string (s.extract 24 s.size)] w fun e w'=>e=.returned (.string (s.extract 24 s.size))∧Below w.heap.size w w':=fun w=>sclone_any _ w (by rw[ByteArray.size_extract];omega)
  clear hl_kd hl_ct hl_pg hl_lk hl_tx e_kd e_ct e_pg e_lk e_tx h1 h2 h3 h4 z0 z1 z2 z3 z4 z
  obtain⟨w0,hw0⟩ : ∃ w0,w0=(w.alloc (.cells #[.int .i64 size,.string s] 206)).alloc (.cells #[.int .i64 0,.int .i64 0,.int .u32 0,.int .u32 0,.int .u64 0,.string .empty] 41):=⟨_,rfl⟩
  have b0:Blk w0 w.heap.size 206 #[.int .i64 size,.string s]:=by rw[hw0];exact (Blk.new _ _ _).alloc _
  have r0:Blk w0 (w.heap.size+1) 41 #[.int .i64 0,.int .i64 0,.int .u32 0,.int .u32 0,.int .u64 0,.string .empty]:=by
    rw[hw0]
    have:=Blk.new (w.alloc (.cells #[.int .i64 size,.string s] 206)) 41 #[.int .i64 0,.int .i64 0,.int .u32 0,.int .u32 0,.int .u64 0,.string .empty]
    simpa using this
  have hb0:Below w.heap.size w w0:=by rw[hw0];exact ((Below.refl _ _).alloc (Nat.le_refl _) _).alloc (by simp) _
  have hlt:w.heap.size+1<w0.heap.size:=by rw[hw0];simp
  obtain⟨hz,hi⟩:=zero_of_info infoPg
  have HI:=Hd hi
  clear hi
  have B0:=Hd b0
  have R0:=Hd r0
  have HB0:=Hd hb0
  have HLT:=Hd hlt
  clear b0 r0 hb0 hlt
  go_enter Tryz.func133,Tryz.ntmps133
  go_wp2_with fail
  rw[← hw0]
  clear hw0
  replace B0:=Hd (B0.out.drew)
  replace R0:=Hd (R0.out.drew)
  replace HB0:=Hd (HB0.out.drew)
  replace HLT:=Hd (show w.heap.size+1<w0.drew.heap.size from HLT.out)
  go_region_held3 (fun w'=>w'.cell? ⟨w.heap.size,0,none⟩=some (.int .i64 size)∧w'.cell? ⟨w.heap.size,1,none⟩=some (.string s))
    (exact⟨B0.out.cell 0,B0.out.cell 1⟩)
    (first
    | (go_at_call 71
       with_reducible refine (HG _).mono ?_
       rintro e w2 ⟨rfl,rfl⟩)
    | (go_at_call 153
       with_reducible refine (need_yes _ _ _ _).mono ?_
       rintro e w2 ⟨rfl,hb2⟩
       replace HB0:=Hd (HB0.out.trans (hb2.mono HB0.out.size))
       replace B0:=Hd (B0.out.below hb2 (Nat.lt_of_succ_lt HLT.out))
       replace R0:=Hd (R0.out.below hb2 HLT.out)
       replace HLT:=Hd (Nat.lt_of_lt_of_le HLT.out hb2.size)
       clear hb2))
  have k0:=B0.out.cell 0
  have k1:=B0.out.cell 1
  simp at k0 k1
  go_wp2_with fail
  refine (need_yes _ _ _ _).mono ?_
  rintro e w3 ⟨rfl,hb2⟩
  replace HB0:=Hd (HB0.out.trans (hb2.mono HB0.out.size))
  replace B0:=Hd (B0.out.below hb2 (Nat.lt_of_succ_lt HLT.out))
  replace R0:=Hd (R0.out.below hb2 HLT.out)
  replace HLT:=Hd (Nat.lt_of_lt_of_le HLT.out hb2.size)
  clear k0 k1
  clear hb2
  go_wp2_with fail
  replace B0:=Hd (B0.out.drew)
  replace R0:=Hd (R0.out.drew)
  replace HB0:=Hd (HB0.out.drew)
  replace HLT:=Hd (show w.heap.size+1<w3.drew.heap.size from HLT.out)
  go_region_held3 (fun w'=>w'.cell? ⟨w.heap.size,0,none⟩=some (.int .i64 size)∧w'.cell? ⟨w.heap.size,1,none⟩=some (.string s))
    (exact⟨B0.out.cell 0,B0.out.cell 1⟩)
    (first
    | (go_at_call 154
       with_reducible refine (HN1 _).mono ?_
       rintro e w2 ⟨rfl,hb2⟩
       replace HB0:=Hd (HB0.out.trans (hb2.mono HB0.out.size))
       replace B0:=Hd (B0.out.below hb2 (Nat.lt_of_succ_lt HLT.out))
       replace R0:=Hd (R0.out.below hb2 HLT.out)
       replace HLT:=Hd (Nat.lt_of_lt_of_le HLT.out hb2.size)
       clear hb2)
    | (go_at_call 155
       with_reducible refine (HO _).mono ?_
       rintro e w2 ⟨rfl,hb2⟩
       replace HB0:=Hd (HB0.out.trans (hb2.mono HB0.out.size))
       replace B0:=Hd (B0.out.below hb2 (Nat.lt_of_succ_lt HLT.out))
       replace R0:=Hd (R0.out.below hb2 HLT.out)
       replace HLT:=Hd (Nat.lt_of_lt_of_le HLT.out hb2.size)
       clear hb2)
    | (go_at_call 153
       with_reducible refine (need_yes _ _ _ _).mono ?_
       rintro e w2 ⟨rfl,hb2⟩
       replace HB0:=Hd (HB0.out.trans (hb2.mono HB0.out.size))
       replace B0:=Hd (B0.out.below hb2 (Nat.lt_of_succ_lt HLT.out))
       replace R0:=Hd (R0.out.below hb2 HLT.out)
       replace HLT:=Hd (Nat.lt_of_lt_of_le HLT.out hb2.size)
       clear hb2))
  go_wp2_with fail
  replace B0:=Hd (B0.out.drew)
  replace R0:=Hd (R0.out.drew)
  replace HB0:=Hd (HB0.out.drew)
  replace HLT:=Hd (show w.heap.size+1<w2.drew.heap.size from HLT.out)
  go_region_held3 (fun w'=>w'.cell? ⟨w.heap.size,0,none⟩=some (.int .i64 size)∧w'.cell? ⟨w.heap.size,1,none⟩=some (.string s))
    (exact⟨B0.out.cell 0,B0.out.cell 1⟩)
    (first
    | (go_at_call 154
       with_reducible refine (HN2 _).mono ?_
       rintro e w2 ⟨rfl,hb2⟩
       replace HB0:=Hd (HB0.out.trans (hb2.mono HB0.out.size))
       replace B0:=Hd (B0.out.below hb2 (Nat.lt_of_succ_lt HLT.out))
       replace R0:=Hd (R0.out.below hb2 HLT.out)
       replace HLT:=Hd (Nat.lt_of_lt_of_le HLT.out hb2.size)
       clear hb2)
    | (go_at_call 153
       with_reducible refine (need_yes _ _ _ _).mono ?_
       rintro e w2 ⟨rfl,hb2⟩
       replace HB0:=Hd (HB0.out.trans (hb2.mono HB0.out.size))
       replace B0:=Hd (B0.out.below hb2 (Nat.lt_of_succ_lt HLT.out))
       replace R0:=Hd (R0.out.below hb2 HLT.out)
       replace HLT:=Hd (Nat.lt_of_lt_of_le HLT.out hb2.size)
       clear hb2))
  go_wp2_with fail
  go_cut [5] (fun p wx=>ReadIn w size s kd ct pg lk tx p wx)
  case first =>
    have B9:=B0
    have R9:=R0
    have HB9:=HB0
    have HLT9:=HLT
    replace B0:=Hd (B0.out.drew)
    replace R0:=Hd (R0.out.drew)
    replace HB0:=Hd (HB0.out.drew)
    replace HLT:=Hd (show w.heap.size+1<w2.drew.heap.size from HLT.out)
    go_region_held3 (fun w'=>w'.cell? ⟨w.heap.size,0,none⟩=some (.int .i64 size)∧w'.cell? ⟨w.heap.size,1,none⟩=some (.string s))
      (first | with_reducible exact rd_cells B0.out | with_reducible exact rd_cells (B0.out.alloc _) | with_reducible exact rd_cells ((B9.out.alloc _).drew) | with_reducible exact rd_cells (six_far B0.out (Nat.ne_of_lt (Nat.lt_of_succ_lt GT0.out))))
      (first
      | (go_at_call 154
         with_reducible refine (HN_kd _).mono ?_
         rintro e w2 ⟨rfl,hb2⟩
         try (replace P0:=Hd (P0.out.below hb2 P0.out.lt))
         first
         | (with_reducible (have HX:Below w.heap.size w w2:=HB0.out.trans (hb2.mono HB0.out.size))
            replace HB0:=Hd HX
            replace B0:=Hd (B0.out.below hb2 (Nat.lt_of_succ_lt HLT.out))
            replace R0:=Hd (R0.out.below hb2 HLT.out)
            replace HLT:=Hd (Nat.lt_of_lt_of_le HLT.out hb2.size)
            clear HX)
         | (have P0:=Hd (new_below hb2)
            have GT0:=Hd HLT.out
            have HX:=HB0.out.alloc HB0.out.size (.cells #[.int .i64 0,.int .i64 0,.int .u32 0,.int .u32 0,.int .u64 0,.string .empty] 41)
            replace HB0:=Hd (HX.trans (hb2.mono HX.size))
            replace B0:=Hd ((B0.out.alloc (.cells #[.int .i64 0,.int .i64 0,.int .u32 0,.int .u32 0,.int .u64 0,.string .empty] 41)).below hb2 (lt_alloc (Nat.lt_of_succ_lt HLT.out) _))
            replace R0:=Hd ((R0.out.alloc (.cells #[.int .i64 0,.int .i64 0,.int .u32 0,.int .u32 0,.int .u64 0,.string .empty] 41)).below hb2 (lt_alloc HLT.out _))
            replace HLT:=Hd (Nat.lt_of_lt_of_le (lt_alloc HLT.out _) hb2.size)
            clear HX)
         | (have P0:=Hd ((Blk.new _ _ _).drew.below hb2 (by simp))
            have GT0:=Hd HLT9.out
            have HX:=(HB9.out.alloc HB9.out.size (.cells #[.int .i64 0,.int .i64 0,.int .u32 0,.int .u32 0,.int .u64 0,.string .empty] 41)).drew
            replace HB0:=Hd (HX.trans (hb2.mono HX.size))
            replace B0:=Hd ((B9.out.alloc (.cells #[.int .i64 0,.int .i64 0,.int .u32 0,.int .u32 0,.int .u64 0,.string .empty] 41)).drew.below hb2 (lt_alloc (Nat.lt_of_succ_lt HLT9.out) _))
            replace R0:=Hd ((R9.out.alloc (.cells #[.int .i64 0,.int .i64 0,.int .u32 0,.int .u32 0,.int .u64 0,.string .empty] 41)).drew.below hb2 (lt_alloc HLT9.out _))
            replace HLT:=Hd (Nat.lt_of_lt_of_le (lt_alloc HLT9.out _) hb2.size)
            clear HX)
         clear hb2)
      | (go_at_call 154
         with_reducible refine (HN_ct _).mono ?_
         rintro e w2 ⟨rfl,hb2⟩
         try (replace P0:=Hd (P0.out.below hb2 P0.out.lt))
         first
         | (with_reducible (have HX:Below w.heap.size w w2:=HB0.out.trans (hb2.mono HB0.out.size))
            replace HB0:=Hd HX
            replace B0:=Hd (B0.out.below hb2 (Nat.lt_of_succ_lt HLT.out))
            replace R0:=Hd (R0.out.below hb2 HLT.out)
            replace HLT:=Hd (Nat.lt_of_lt_of_le HLT.out hb2.size)
            clear HX)
         | (have P0:=Hd (new_below hb2)
            have GT0:=Hd HLT.out
            have HX:=HB0.out.alloc HB0.out.size (.cells #[.int .i64 0,.int .i64 0,.int .u32 0,.int .u32 0,.int .u64 0,.string .empty] 41)
            replace HB0:=Hd (HX.trans (hb2.mono HX.size))
            replace B0:=Hd ((B0.out.alloc (.cells #[.int .i64 0,.int .i64 0,.int .u32 0,.int .u32 0,.int .u64 0,.string .empty] 41)).below hb2 (lt_alloc (Nat.lt_of_succ_lt HLT.out) _))
            replace R0:=Hd ((R0.out.alloc (.cells #[.int .i64 0,.int .i64 0,.int .u32 0,.int .u32 0,.int .u64 0,.string .empty] 41)).below hb2 (lt_alloc HLT.out _))
            replace HLT:=Hd (Nat.lt_of_lt_of_le (lt_alloc HLT.out _) hb2.size)
            clear HX)
         | (have P0:=Hd ((Blk.new _ _ _).drew.below hb2 (by simp))
            have GT0:=Hd HLT9.out
            have HX:=(HB9.out.alloc HB9.out.size (.cells #[.int .i64 0,.int .i64 0,.int .u32 0,.int .u32 0,.int .u64 0,.string .empty] 41)).drew
            replace HB0:=Hd (HX.trans (hb2.mono HX.size))
            replace B0:=Hd ((B9.out.alloc (.cells #[.int .i64 0,.int .i64 0,.int .u32 0,.int .u32 0,.int .u64 0,.string .empty] 41)).drew.below hb2 (lt_alloc (Nat.lt_of_succ_lt HLT9.out) _))
            replace R0:=Hd ((R9.out.alloc (.cells #[.int .i64 0,.int .i64 0,.int .u32 0,.int .u32 0,.int .u64 0,.string .empty] 41)).drew.below hb2 (lt_alloc HLT9.out _))
            replace HLT:=Hd (Nat.lt_of_lt_of_le (lt_alloc HLT9.out _) hb2.size)
            clear HX)
         clear hb2)
      | (go_at_call 154
         with_reducible refine (HN_pg _).mono ?_
         rintro e w2 ⟨rfl,hb2⟩
         try (replace P0:=Hd (P0.out.below hb2 P0.out.lt))
         first
         | (with_reducible (have HX:Below w.heap.size w w2:=HB0.out.trans (hb2.mono HB0.out.size))
            replace HB0:=Hd HX
            replace B0:=Hd (B0.out.below hb2 (Nat.lt_of_succ_lt HLT.out))
            replace R0:=Hd (R0.out.below hb2 HLT.out)
            replace HLT:=Hd (Nat.lt_of_lt_of_le HLT.out hb2.size)
            clear HX)
         | (have P0:=Hd (new_below hb2)
            have GT0:=Hd HLT.out
            have HX:=HB0.out.alloc HB0.out.size (.cells #[.int .i64 0,.int .i64 0,.int .u32 0,.int .u32 0,.int .u64 0,.string .empty] 41)
            replace HB0:=Hd (HX.trans (hb2.mono HX.size))
            replace B0:=Hd ((B0.out.alloc (.cells #[.int .i64 0,.int .i64 0,.int .u32 0,.int .u32 0,.int .u64 0,.string .empty] 41)).below hb2 (lt_alloc (Nat.lt_of_succ_lt HLT.out) _))
            replace R0:=Hd ((R0.out.alloc (.cells #[.int .i64 0,.int .i64 0,.int .u32 0,.int .u32 0,.int .u64 0,.string .empty] 41)).below hb2 (lt_alloc HLT.out _))
            replace HLT:=Hd (Nat.lt_of_lt_of_le (lt_alloc HLT.out _) hb2.size)
            clear HX)
         | (have P0:=Hd ((Blk.new _ _ _).drew.below hb2 (by simp))
            have GT0:=Hd HLT9.out
            have HX:=(HB9.out.alloc HB9.out.size (.cells #[.int .i64 0,.int .i64 0,.int .u32 0,.int .u32 0,.int .u64 0,.string .empty] 41)).drew
            replace HB0:=Hd (HX.trans (hb2.mono HX.size))
            replace B0:=Hd ((B9.out.alloc (.cells #[.int .i64 0,.int .i64 0,.int .u32 0,.int .u32 0,.int .u64 0,.string .empty] 41)).drew.below hb2 (lt_alloc (Nat.lt_of_succ_lt HLT9.out) _))
            replace R0:=Hd ((R9.out.alloc (.cells #[.int .i64 0,.int .i64 0,.int .u32 0,.int .u32 0,.int .u64 0,.string .empty] 41)).drew.below hb2 (lt_alloc HLT9.out _))
            replace HLT:=Hd (Nat.lt_of_lt_of_le (lt_alloc HLT9.out _) hb2.size)
            clear HX)
         clear hb2)
      | (go_at_call 154
         with_reducible refine (HN_lk _).mono ?_
         rintro e w2 ⟨rfl,hb2⟩
         try (replace P0:=Hd (P0.out.below hb2 P0.out.lt))
         first
         | (with_reducible (have HX:Below w.heap.size w w2:=HB0.out.trans (hb2.mono HB0.out.size))
            replace HB0:=Hd HX
            replace B0:=Hd (B0.out.below hb2 (Nat.lt_of_succ_lt HLT.out))
            replace R0:=Hd (R0.out.below hb2 HLT.out)
            replace HLT:=Hd (Nat.lt_of_lt_of_le HLT.out hb2.size)
            clear HX)
         | (have P0:=Hd (new_below hb2)
            have GT0:=Hd HLT.out
            have HX:=HB0.out.alloc HB0.out.size (.cells #[.int .i64 0,.int .i64 0,.int .u32 0,.int .u32 0,.int .u64 0,.string .empty] 41)
            replace HB0:=Hd (HX.trans (hb2.mono HX.size))
            replace B0:=Hd ((B0.out.alloc (.cells #[.int .i64 0,.int .i64 0,.int .u32 0,.int .u32 0,.int .u64 0,.string .empty] 41)).below hb2 (lt_alloc (Nat.lt_of_succ_lt HLT.out) _))
            replace R0:=Hd ((R0.out.alloc (.cells #[.int .i64 0,.int .i64 0,.int .u32 0,.int .u32 0,.int .u64 0,.string .empty] 41)).below hb2 (lt_alloc HLT.out _))
            replace HLT:=Hd (Nat.lt_of_lt_of_le (lt_alloc HLT.out _) hb2.size)
            clear HX)
         | (have P0:=Hd ((Blk.new _ _ _).drew.below hb2 (by simp))
            have GT0:=Hd HLT9.out
            have HX:=(HB9.out.alloc HB9.out.size (.cells #[.int .i64 0,.int .i64 0,.int .u32 0,.int .u32 0,.int .u64 0,.string .empty] 41)).drew
            replace HB0:=Hd (HX.trans (hb2.mono HX.size))
            replace B0:=Hd ((B9.out.alloc (.cells #[.int .i64 0,.int .i64 0,.int .u32 0,.int .u32 0,.int .u64 0,.string .empty] 41)).drew.below hb2 (lt_alloc (Nat.lt_of_succ_lt HLT9.out) _))
            replace R0:=Hd ((R9.out.alloc (.cells #[.int .i64 0,.int .i64 0,.int .u32 0,.int .u32 0,.int .u64 0,.string .empty] 41)).drew.below hb2 (lt_alloc HLT9.out _))
            replace HLT:=Hd (Nat.lt_of_lt_of_le (lt_alloc HLT9.out _) hb2.size)
            clear HX)
         clear hb2)
      | (go_at_call 154
         with_reducible refine (HN_tx _).mono ?_
         rintro e w2 ⟨rfl,hb2⟩
         try (replace P0:=Hd (P0.out.below hb2 P0.out.lt))
         first
         | (with_reducible (have HX:Below w.heap.size w w2:=HB0.out.trans (hb2.mono HB0.out.size))
            replace HB0:=Hd HX
            replace B0:=Hd (B0.out.below hb2 (Nat.lt_of_succ_lt HLT.out))
            replace R0:=Hd (R0.out.below hb2 HLT.out)
            replace HLT:=Hd (Nat.lt_of_lt_of_le HLT.out hb2.size)
            clear HX)
         | (have P0:=Hd (new_below hb2)
            have GT0:=Hd HLT.out
            have HX:=HB0.out.alloc HB0.out.size (.cells #[.int .i64 0,.int .i64 0,.int .u32 0,.int .u32 0,.int .u64 0,.string .empty] 41)
            replace HB0:=Hd (HX.trans (hb2.mono HX.size))
            replace B0:=Hd ((B0.out.alloc (.cells #[.int .i64 0,.int .i64 0,.int .u32 0,.int .u32 0,.int .u64 0,.string .empty] 41)).below hb2 (lt_alloc (Nat.lt_of_succ_lt HLT.out) _))
            replace R0:=Hd ((R0.out.alloc (.cells #[.int .i64 0,.int .i64 0,.int .u32 0,.int .u32 0,.int .u64 0,.string .empty] 41)).below hb2 (lt_alloc HLT.out _))
            replace HLT:=Hd (Nat.lt_of_lt_of_le (lt_alloc HLT.out _) hb2.size)
            clear HX)
         | (have P0:=Hd ((Blk.new _ _ _).drew.below hb2 (by simp))
            have GT0:=Hd HLT9.out
            have HX:=(HB9.out.alloc HB9.out.size (.cells #[.int .i64 0,.int .i64 0,.int .u32 0,.int .u32 0,.int .u64 0,.string .empty] 41)).drew
            replace HB0:=Hd (HX.trans (hb2.mono HX.size))
            replace B0:=Hd ((B9.out.alloc (.cells #[.int .i64 0,.int .i64 0,.int .u32 0,.int .u32 0,.int .u64 0,.string .empty] 41)).drew.below hb2 (lt_alloc (Nat.lt_of_succ_lt HLT9.out) _))
            replace R0:=Hd ((R9.out.alloc (.cells #[.int .i64 0,.int .i64 0,.int .u32 0,.int .u32 0,.int .u64 0,.string .empty] 41)).drew.below hb2 (lt_alloc HLT9.out _))
            replace HLT:=Hd (Nat.lt_of_lt_of_le (lt_alloc HLT9.out _) hb2.size)
            clear HX)
         clear hb2)
      | (go_at_call 128
         with_reducible refine (HC _).mono ?_
         rintro e w2 ⟨rfl,hb2⟩
         try (replace P0:=Hd (P0.out.below hb2 P0.out.lt))
         first
         | (with_reducible (have HX:Below w.heap.size w w2:=HB0.out.trans (hb2.mono HB0.out.size))
            replace HB0:=Hd HX
            replace B0:=Hd (B0.out.below hb2 (Nat.lt_of_succ_lt HLT.out))
            replace R0:=Hd (R0.out.below hb2 HLT.out)
            replace HLT:=Hd (Nat.lt_of_lt_of_le HLT.out hb2.size)
            clear HX)
         | (have P0:=Hd (new_below hb2)
            have GT0:=Hd HLT.out
            have HX:=HB0.out.alloc HB0.out.size (.cells #[.int .i64 0,.int .i64 0,.int .u32 0,.int .u32 0,.int .u64 0,.string .empty] 41)
            replace HB0:=Hd (HX.trans (hb2.mono HX.size))
            replace B0:=Hd ((B0.out.alloc (.cells #[.int .i64 0,.int .i64 0,.int .u32 0,.int .u32 0,.int .u64 0,.string .empty] 41)).below hb2 (lt_alloc (Nat.lt_of_succ_lt HLT.out) _))
            replace R0:=Hd ((R0.out.alloc (.cells #[.int .i64 0,.int .i64 0,.int .u32 0,.int .u32 0,.int .u64 0,.string .empty] 41)).below hb2 (lt_alloc HLT.out _))
            replace HLT:=Hd (Nat.lt_of_lt_of_le (lt_alloc HLT.out _) hb2.size)
            clear HX)
         | (have P0:=Hd ((Blk.new _ _ _).drew.below hb2 (by simp))
            have GT0:=Hd HLT9.out
            have HX:=(HB9.out.alloc HB9.out.size (.cells #[.int .i64 0,.int .i64 0,.int .u32 0,.int .u32 0,.int .u64 0,.string .empty] 41)).drew
            replace HB0:=Hd (HX.trans (hb2.mono HX.size))
            replace B0:=Hd ((B9.out.alloc (.cells #[.int .i64 0,.int .i64 0,.int .u32 0,.int .u32 0,.int .u64 0,.string .empty] 41)).drew.below hb2 (lt_alloc (Nat.lt_of_succ_lt HLT9.out) _))
            replace R0:=Hd ((R9.out.alloc (.cells #[.int .i64 0,.int .i64 0,.int .u32 0,.int .u32 0,.int .u64 0,.string .empty] 41)).drew.below hb2 (lt_alloc HLT9.out _))
            replace HLT:=Hd (Nat.lt_of_lt_of_le (lt_alloc HLT9.out _) hb2.size)
            clear HX)
         try (have P1:=P0.out
              have d0:=P1.cell 0
              have d1:=P1.cell 1
              have d2:=P1.cell 2
              have d3:=P1.cell 3
              have d4:=P1.cell 4
              have d5:=P1.cell 5
              have f0:=P1.frozen 0
              have f1:=P1.frozen 1
              have f2:=P1.frozen 2
              have f3:=P1.frozen 3
              have f4:=P1.frozen 4
              have f5:=P1.frozen 5
              simp at d0 d1 d2 d3 d4 d5
              clear P1)
         clear hb2))
    all_goals go_wp2_with fail
    all_goals go_meet
    all_goals (first
      | exact⟨_,rfl,GT0.out,six_at P0.out,six_far B0.out (Nat.ne_of_lt (Nat.lt_of_succ_lt GT0.out)),six_far R0.out (Nat.ne_of_lt GT0.out),six_below HB0.out (Nat.le_of_lt (Nat.lt_of_succ_lt GT0.out))⟩
      | exact⟨_,rfl,HLT.out,Blk.new _ _ _,B0.out.alloc _,R0.out.alloc _,HB0.out.alloc HB0.out.size _⟩)
  case rest =>
    obtain⟨g,rfl,hg,hp,hb,hr,hB⟩:=hcut
    have P0:=Hd hp
    have B0:=Hd hb
    have R0:=Hd hr
    have HB0:=Hd hB
    clear hp hb hr hB
    go_wp2_with fail
    replace B0:=Hd (B0.out.drew)
    replace R0:=Hd (R0.out.drew)
    replace P0:=Hd (P0.out.drew)
    replace HB0:=Hd (HB0.out.drew)
    refine wp_region_held_drew (S:=(fun w'=>(w'.cell? ⟨w.heap.size,0,none⟩=some (.int .i64 size)∧w'.cell? ⟨w.heap.size,1,none⟩=some (.string s))∧(w'.cell? ⟨g,0,none⟩=some (.int .i64 kd)∧w'.cell? ⟨g,1,none⟩=some (.int .i64 ct)∧w'.cell? ⟨g,2,none⟩=some (.int .u32 pg)∧w'.cell? ⟨g,3,none⟩=some (.int .u32 lk)∧w'.cell? ⟨g,4,none⟩=some (.int .u64 tx)∧w'.cell? ⟨g,5,none⟩=some (.string (s.extract 24 s.size))))) (by kernel_rfl) ⟨rd_cells B0.out,pg_cells P0.out⟩ (fun hHeld=>?_)
    refine tkA (i:=0) ?_
    try simp only[tkP]
    refine tkA (i:=1) ?_
    try simp only[tkP]
    refine tkA (i:=2) ?_
    try simp only[tkP]
    refine tkA (i:=3) ?_
    try simp only[tkP]
    refine tkA (i:=4) ?_
    try simp only[tkP]
    refine tkA (i:=5) ?_
    try simp only[tkP]
    refine tkA (i:=6) ?_
    try simp only[tkP]
    refine tkA (i:=7) ?_
    try simp only[tkP]
    refine tkA (i:=8) ?_
    try simp only[tkP]
    refine wpAnyH_ready (rs:=[9]) (by kernel_rfl) (by simp) ?_
    refine tkC (fun K hK=>?_)
    go_simp
    refine (HV _).mono ?_
    rintro e w8 ⟨rfl,hb8⟩
    replace HB0:=Hd (HB0.out.trans (hb8.mono HB0.out.size))
    replace B0:=Hd (B0.out.below hb8 B0.out.lt)
    replace P0:=Hd (P0.out.below hb8 P0.out.lt)
    refine hK.out _ _ (⟨rd_cells B0.out,pg_cells P0.out⟩) (fun hHeld=>?_)
    clear hK K
    try simp only[tkP]
    refine tkA (i:=10) ?_
    try simp only[tkP]
    refine wpAnyH_ready (rs:=[11]) (by kernel_rfl) (by simp) ?_
    refine tkC (fun K hK=>?_)
    go_simp
    refine (need_no _ _ _ _).mono ?_
    rintro e w9 ⟨rfl,hb9⟩
    exact⟨rfl,rfl,HB0.out.trans (hb9.mono HB0.out.size)⟩
end Go.Proofs.YtanbbnogdhnikaaGreat

