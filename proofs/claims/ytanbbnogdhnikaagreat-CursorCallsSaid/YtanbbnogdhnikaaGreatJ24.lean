/-
  Texts that the main proof rests on, put together: Ref4Get, Ref4Use, PgRead. No statement is proved here.
-/
import Derived.Test.YtanbbnogdhnikaaGreatJ15
set_option linter.unusedVariables false
set_option linter.unusedSimpArgs false
set_option maxRecDepth 300000
set_option maxHeartbeats 25600000
namespace Go.Proofs.YtanbbnogdhnikaaGreat
open Go.RowKit
open Go.Lib
attribute [local go_sem ↓] Go.wp_at_zero Go.wp_at_succ

theorem rnum_at {w:World} {g:Nat} {s:ByteArray} {p:Nat} (h:IsRf w g (s.extract p s.size)) (k q:Nat) (h1:1≤k) (h2:k≤8) (hk:p+k≤s.size) (hq:q=p+k) (v:Nat) (hv:numAt s p k=v) :
  Calls Tryz.prog 64 #[.pointer (some ⟨g,0,none⟩),.int .i64 k] w fun e w'=>e=.returned (.tuple #[.int .u64 v,.int .i64 0])∧IsRf w' g (s.extract q s.size)∧w.grownBy w' (some g):=by
 have:=rnumber_ok' h k h1 h2 (by rw[ByteArray.size_extract];omega)
 rw[ext_rest s p k hk,drop_ext] at this
 subst hv hq
 exact this
theorem str_neq (a b:ByteArray) (h : ¬ a=b):(a.toList==b.toList)=false:=by
 rw[beq_eq_false_iff_ne]
 intro h2
 rw[ByteArray.toList_eq,ByteArray.toList_eq] at h2
 exact h (bytes_ext h2)
theorem numAt_lt (s:ByteArray) (f k:Nat):numAt s f k<2 ^ (8*k):=by
 have h:=leNat_lt (List.take k (List.drop f s.data.toList))
 have h2:(List.take k (List.drop f s.data.toList)).length≤k:=by rw[List.length_take];omega
 exact Nat.lt_of_lt_of_le h (Nat.pow_le_pow_right (by omega) (by omega))
theorem rest_is (s:ByteArray) (hz:24≤s.size):(⟨(restL (numAt s 4 1) (numAt s 6 2) (numAt s 8 4) (numAt s 12 4) (numAt s 16 8) (s.extract 24 s.size)).toArray⟩:ByteArray)=s.extract 4 s.size↔numAt s 5 1=1:=by
 have hl:s.data.toList.length=s.size:=size_list s
 have hx:(s.extract 24 s.size).data.toList=List.drop 24 s.data.toList:=by
  rw[Lib.extract_data,List.take_of_length_le]
  rw[List.length_drop,size_list];exact Nat.le_refl _
 have hx4:(s.extract 4 s.size).data.toList=List.drop 4 s.data.toList:=by
  rw[Lib.extract_data,List.take_of_length_le]
  rw[List.length_drop,size_list];exact Nat.le_refl _
 have hrest:restL (numAt s 4 1) (numAt s 6 2) (numAt s 8 4) (numAt s 12 4) (numAt s 16 8) (s.extract 24 s.size)=List.take 1 (List.drop 4 s.data.toList)++(Go.leBytes 1 1++List.drop 6 s.data.toList):=by
  rw[restL,headL,numAt,numAt,numAt,numAt,numAt,part_back _ 4 1 (by omega),part_back _ 6 2 (by omega),part_back _ 8 4 (by omega),part_back _ 12 4 (by omega),part_back _ 16 8 (by omega),hx]
  simp only[List.append_assoc]
  rw[← cut_at s.data.toList 16 8,← cut_at s.data.toList 12 4,← cut_at s.data.toList 8 4,← cut_at s.data.toList 6 2]
 have h4:List.drop 4 s.data.toList=List.take 1 (List.drop 4 s.data.toList)++(List.take 1 (List.drop 5 s.data.toList)++List.drop 6 s.data.toList):=by
  rw[← cut_at s.data.toList 5 1,← cut_at s.data.toList 4 1]
 have hp:=part_back s.data.toList 5 1 (by omega)
 have hn:leNat (List.take 1 (List.drop 5 s.data.toList))=numAt s 5 1:=rfl
 rw[hn] at hp
 have hv:=numAt_lt s 5 1
 have hiff:restL (numAt s 4 1) (numAt s 6 2) (numAt s 8 4) (numAt s 12 4) (numAt s 16 8) (s.extract 24 s.size)=List.drop 4 s.data.toList↔numAt s 5 1=1:=by
  obtain⟨A,hA⟩ : ∃ A,A=List.take 1 (List.drop 4 s.data.toList):=⟨_,rfl⟩
  obtain⟨C,hC⟩ : ∃ C,C=List.drop 6 s.data.toList:=⟨_,rfl⟩
  rw[← hp,← hA,← hC] at h4
  rw[hrest,← hA,← hC]
  rw[h4]
  constructor
  ·intro h
   have h2:=List.append_cancel_left h
   have h3:=List.append_cancel_right h2
   have h5:=congrArg leNat h3
   rw[leNat_le 1 1 (by omega),leNat_le 1 _ hv] at h5
   exact h5.symm
  ·intro h
   rw[h]
 rw[← hiff]
 constructor
 ·intro h
  have h1:=congrArg (fun b:ByteArray=>b.data.toList) h
  simp only at h1
  rw[hx4] at h1
  exact h1
 ·intro h
  apply bytes_ext
  rw[hx4]
  exact h

theorem rget_len (size:Int) (s:ByteArray) (n:Nat) (w:World) (hg:goodSize size=true) (hs : ¬ (s.size:Int)=size) :
  Calls Tryz.prog 62 #[.int .i64 size,.int .u32 n,.string s] w fun e w'=>e=.returned (.tuple #[.agg #[.int .i64 0,.int .i64 0,.int .u32 0,.int .u32 0,.int .u64 0,.string .empty],.int .i64 4])∧Below w.heap.size w w':=by
 obtain⟨hz,hi⟩:=zero_of_info infoPg
 have HI:=Hd hi
 clear hi
 obtain⟨w0,hw0⟩ : ∃ w0,w0=w.alloc (.cells #[.int .i64 0,.int .i64 0,.int .u32 0,.int .u32 0,.int .u64 0,.string .empty] 41):=⟨_,rfl⟩
 have R0:=Hd (show Blk w0 w.heap.size 41 #[.int .i64 0,.int .i64 0,.int .u32 0,.int .u32 0,.int .u64 0,.string .empty] by rw[hw0];exact Blk.new _ _ _)
 have HB0:=Hd (show Below w.heap.size w w0 by rw[hw0];exact (Below.refl _ _).alloc (Nat.le_refl _) _)
 have q1:((s.size:Int)==size)=false:=by simpa using hs
 have q2:((s.size:Int) != size)=true:=by simpa using hs
 clear hs
 go_enter Tryz.func62,Tryz.ntmps62
 go_wp2_with fail
 rw[← hw0]
 clear hw0
 refine (rgood_is size _ _ hg).mono ?_
 rintro e w' ⟨rfl,rfl⟩
 have k0:=R0.out.cell 0
 have k1:=R0.out.cell 1
 have k2:=R0.out.cell 2
 have k3:=R0.out.cell 3
 have k4:=R0.out.cell 4
 have k5:=R0.out.cell 5
 have f0:=R0.out.frozen 0
 have f1:=R0.out.frozen 1
 have f2:=R0.out.frozen 2
 have f3:=R0.out.frozen 3
 have f4:=R0.out.frozen 4
 have f5:=R0.out.frozen 5
 simp at k0 k1 k2 k3 k4 k5
 go_wp2_with fail
 refine bodyPost_ret (read_row rfl _ _ _ w.heap.size #[.int .i64 0,.int .i64 0,.int .u32 0,.int .u32 0,.int .u64 0,.string .empty] rfl (load_page (six_at R0.out))) rfl ⟨rfl,six_below HB0.out (Nat.le_refl _)⟩
theorem rget_0 (size:Nat) (n:Nat) (s:ByteArray) (ck kd vr ct pg lk tx:Nat) (bd:ByteArray) (w:World) (hg:goodSize size=true) (hs:s.size=size) (e0:numAt s 0 4=ck) (e1:numAt s 4 1=kd) (e2:numAt s 5 1=vr) (e3:numAt s 6 2=ct) (e4:numAt s 8 4=pg) (e5:numAt s 12 4=lk) (e6:numAt s 16 8=tx) (e7:bd=s.extract 24 s.size) (h0:mayPg size kd ct pg lk tx bd=false) :
  Calls Tryz.prog 62 #[.int .i64 size,.int .u32 n,.string s] w fun e w'=>e=.returned (.tuple #[.agg #[.int .i64 0,.int .i64 0,.int .u32 0,.int .u32 0,.int .u64 0,.string .empty],.int .i64 4])∧Below w.heap.size w w':=by
 have hgp:=good_pos hg
 have l1:=numAt_lt s 4 1
 have l3:=numAt_lt s 6 2
 have l4:=numAt_lt s 8 4
 have l5:=numAt_lt s 12 4
 have l6:=numAt_lt s 16 8
 have l0:=numAt_lt s 0 4
 rw[e1] at l1
 rw[e3] at l3
 rw[e4] at l4
 rw[e5] at l5
 rw[e6] at l6
 rw[e0] at l0
 have i1:IntKind.i64.wrap (kd:Int)=(kd:Int):=by rw[IntKind.wrap_i64];omega
 have i3:IntKind.i64.wrap (ct:Int)=(ct:Int):=by rw[IntKind.wrap_i64];omega
 have i4:IntKind.u32.wrap (pg:Int)=(pg:Int):=by rw[IntKind.wrap_u32];omega
 have i5:IntKind.u32.wrap (lk:Int)=(lk:Int):=by rw[IntKind.wrap_u32];omega
 have hbs:bd.size=size-24:=by rw[e7,ByteArray.size_extract];omega
 have hri:=rest_is s (by omega)
 rw[e1,e3,e4,e5,e6,← e7,e2] at hri
 have q0:((s.size:Int)==(size:Int))=true:=by simp;omega
 have q0':((s.size:Int) != (size:Int))=false:=by simp;omega
 have HM:=fun w=>rmay_any size kd ct pg lk tx bd w
 rw[h0] at HM
 obtain⟨hz,hi⟩:=zero_of_info infoPg
 have HI:=Hd hi
 clear hi
 obtain⟨w0,hw0⟩ : ∃ w0,w0=w.alloc (.cells #[.int .i64 0,.int .i64 0,.int .u32 0,.int .u32 0,.int .u64 0,.string .empty] 41):=⟨_,rfl⟩
 have R0:=Hd (show Blk w0 w.heap.size 41 #[.int .i64 0,.int .i64 0,.int .u32 0,.int .u32 0,.int .u64 0,.string .empty] by rw[hw0];exact Blk.new _ _ _)
 have HB:=Hd (show Below w.heap.size w w0 by rw[hw0];exact (Below.refl _ _).alloc (Nat.le_refl _) _)
 have E7:=Hd e7
 have HS:=Hd (show 24≤s.size by omega)
 have G:=Hd hg
 have E0:=Hd e0
 have E1:=Hd e1
 have E2:=Hd e2
 have E3:=Hd e3
 have E4:=Hd e4
 have E5:=Hd e5
 have E6:=Hd e6
 clear e0 e1 e2 e3 e4 e5 e6 e7 hri hg hgp l0 l1 l3 l4 l5 l6 hbs hs h0
 go_enter Tryz.func62,Tryz.ntmps62
 go_wp2_with fail
 rw[← hw0]
 clear hw0
 refine (rgood_is size _ _ G.out).mono ?_
 rintro e wa ⟨rfl,rfl⟩
 go_wp2_with fail
 refine (rnew_any' s _).mono ?_
 rintro e w1 ⟨rfl,hr,hb,hlt⟩
 obtain⟨g,hgg⟩ : ∃ g,g=wa.heap.size:=⟨_,rfl⟩
 rw[← hgg] at hr hlt ⊢
 have hwg:w.heap.size<g:=by rw[hgg];exact R0.out.lt
 replace HB:=Hd (HB.out.trans (hb.mono HB.out.size))
 replace R0:=Hd (R0.out.below hb R0.out.lt)
 rw[← ext_all s] at hr
 have RD:=Hd (show IsRf w1 g (s.extract 0 s.size) from hr)
 have HG:=Hd hwg
 clear hb hr hlt hgg hwg
 go_wp2_with fail
 refine (rnum_at RD.out 4 4 (by omega) (by omega) (by have:=HS.out;omega) rfl ck E0.out).mono ?_
 rintro e w2 ⟨rfl,hr,hgr⟩
 replace RD:=Hd hr
 replace HB:=Hd (HB.out.grown hgr HB.out.size (by rintro k ⟨⟩;exact Nat.le_of_lt HG.out))
 replace R0:=Hd (R0.out.grown hgr (by intro h;injection h with h;have:=HG.out;omega))
 clear hr hgr
 go_wp2_with fail
 refine (rnum_at RD.out 1 5 (by omega) (by omega) (by have:=HS.out;omega) rfl kd E1.out).mono ?_
 rintro e w3 ⟨rfl,hr,hgr⟩
 replace RD:=Hd hr
 replace HB:=Hd (HB.out.grown hgr HB.out.size (by rintro k ⟨⟩;exact Nat.le_of_lt HG.out))
 replace R0:=Hd (R0.out.grown hgr (by intro h;injection h with h;have:=HG.out;omega))
 clear hr hgr
 go_wp2_with fail
 refine (rnum_at RD.out 1 6 (by omega) (by omega) (by have:=HS.out;omega) rfl vr E2.out).mono ?_
 rintro e w4 ⟨rfl,hr,hgr⟩
 replace RD:=Hd hr
 replace HB:=Hd (HB.out.grown hgr HB.out.size (by rintro k ⟨⟩;exact Nat.le_of_lt HG.out))
 replace R0:=Hd (R0.out.grown hgr (by intro h;injection h with h;have:=HG.out;omega))
 clear hr hgr
 go_wp2_with fail
 refine (rnum_at RD.out 2 8 (by omega) (by omega) (by have:=HS.out;omega) rfl ct E3.out).mono ?_
 rintro e w5 ⟨rfl,hr,hgr⟩
 replace RD:=Hd hr
 replace HB:=Hd (HB.out.grown hgr HB.out.size (by rintro k ⟨⟩;exact Nat.le_of_lt HG.out))
 replace R0:=Hd (R0.out.grown hgr (by intro h;injection h with h;have:=HG.out;omega))
 clear hr hgr
 go_wp2_with fail
 refine (rnum_at RD.out 4 12 (by omega) (by omega) (by have:=HS.out;omega) rfl pg E4.out).mono ?_
 rintro e w6 ⟨rfl,hr,hgr⟩
 replace RD:=Hd hr
 replace HB:=Hd (HB.out.grown hgr HB.out.size (by rintro k ⟨⟩;exact Nat.le_of_lt HG.out))
 replace R0:=Hd (R0.out.grown hgr (by intro h;injection h with h;have:=HG.out;omega))
 clear hr hgr
 go_wp2_with fail
 refine (rnum_at RD.out 4 16 (by omega) (by omega) (by have:=HS.out;omega) rfl lk E5.out).mono ?_
 rintro e w7 ⟨rfl,hr,hgr⟩
 replace RD:=Hd hr
 replace HB:=Hd (HB.out.grown hgr HB.out.size (by rintro k ⟨⟩;exact Nat.le_of_lt HG.out))
 replace R0:=Hd (R0.out.grown hgr (by intro h;injection h with h;have:=HG.out;omega))
 clear hr hgr
 go_wp2_with fail
 refine (rnum_at RD.out 8 24 (by omega) (by omega) (by have:=HS.out;omega) rfl tx E6.out).mono ?_
 rintro e w8 ⟨rfl,hr,hgr⟩
 replace RD:=Hd hr
 replace HB:=Hd (HB.out.grown hgr HB.out.size (by rintro k ⟨⟩;exact Nat.le_of_lt HG.out))
 replace R0:=Hd (R0.out.grown hgr (by intro h;injection h with h;have:=HG.out;omega))
 clear hr hgr
 have c0:=Blk.cell RD.out 0
 simp at c0
 rw[← E7.out] at c0
 obtain⟨wp,hwp⟩ : ∃ wp,wp=w8.alloc (.cells #[.int .i64 kd,.int .i64 ct,.int .u32 pg,.int .u32 lk,.int .u64 tx,.string bd] 41):=⟨_,rfl⟩
 have B0:=Hd (show Blk wp w8.heap.size 41 #[.int .i64 kd,.int .i64 ct,.int .u32 pg,.int .u32 lk,.int .u64 tx,.string bd] by rw[hwp];exact Blk.new _ _ _)
 replace HB:=Hd (show Below w.heap.size w wp by rw[hwp];exact HB.out.alloc HB.out.size _)
 replace R0:=Hd (show Blk wp w.heap.size 41 #[.int .i64 0,.int .i64 0,.int .u32 0,.int .u32 0,.int .u64 0,.string .empty] by rw[hwp];exact R0.out.alloc _)
 have HS4:(4:Int)≤(s.size:Int):=by have:=HS.out;omega
 clear E0 E1 E2 E3 E4 E5 E6
 go_wp2_with fail
 rw[← hwp]
 clear hwp c0
 replace B0:=Hd B0.out.drew
 replace R0:=Hd R0.out.drew
 replace HB:=Hd HB.out.drew
 refine wp_region_held_drew (S:=fun w'=>w'.cell? ⟨w8.heap.size,0,none⟩=some (.int .i64 kd)∧w'.cell? ⟨w8.heap.size,1,none⟩=some (.int .i64 ct)∧w'.cell? ⟨w8.heap.size,2,none⟩=some (.int .u32 pg)∧w'.cell? ⟨w8.heap.size,3,none⟩=some (.int .u32 lk)∧w'.cell? ⟨w8.heap.size,4,none⟩=some (.int .u64 tx)∧w'.cell? ⟨w8.heap.size,5,none⟩=some (.string bd)) (by kernel_rfl) (pg_cells B0.out) (fun hHeld=>?_)
 refine tkA (i:=0) ?_
 try simp only[tkP]
 refine tkA (i:=1) ?_
 try simp only[tkP]
 refine wpAnyH_ready (rs:=[2]) (by kernel_rfl) (by simp) ?_
 refine tkC (fun K hK=>?_)
 go_simp
 refine (HM _).mono ?_
 rintro e wq ⟨rfl,hb⟩
 replace B0:=Hd (B0.out.below hb B0.out.lt)
 replace R0:=Hd (R0.out.below hb R0.out.lt)
 replace HB:=Hd (HB.out.trans (hb.mono HB.out.size))
 clear hb
 refine hK.out _ _ (pg_cells B0.out) (fun hHeld=>?_)
 clear hK K
 try simp only[tkP]
 refine tkA (i:=3) ?_
 try simp only[tkP]
 refine tkA (i:=4) ?_
 try simp only[tkP]
 refine tkU (i:=5) ?_
 try simp only[tkP]
 refine tkU (i:=6) ?_
 try simp only[tkP]
 refine tkU (i:=7) ?_
 try simp only[tkP]
 refine tkU (i:=8) ?_
 try simp only[tkP]
 refine tkA (i:=9) ?_
 try simp only[tkP]
 refine tkA (i:=10) ?_
 try simp only[tkP]
 refine tkU (i:=11) ?_
 try simp only[tkP]
 refine tkU (i:=12) ?_
 try simp only[tkP]
 refine tkU (i:=13) ?_
 try simp only[tkP]
 refine tkU (i:=14) ?_
 try simp only[tkP]
 refine tkU (i:=15) ?_
 try simp only[tkP]
 refine tkA (i:=16) ?_
 try simp only[tkP]
 refine tkA (i:=17) ?_
 try simp only[tkP]
 refine tkU (i:=18) ?_
 try simp only[tkP]
 refine tkU (i:=19) ?_
 try simp only[tkP]
 refine tkU (i:=20) ?_
 try simp only[tkP]
 refine tkU (i:=21) ?_
 try simp only[tkP]
 refine tkU (i:=22) ?_
 try simp only[tkP]
 refine tkU (i:=23) ?_
 try simp only[tkP]
 refine tkA (i:=24) ?_
 try simp only[tkP]
 refine wpAnyH_done (by kernel_rfl) ?_ _
 have k0:=R0.out.cell 0
 have k1:=R0.out.cell 1
 have k2:=R0.out.cell 2
 have k3:=R0.out.cell 3
 have k4:=R0.out.cell 4
 have k5:=R0.out.cell 5
 have f0:=R0.out.frozen 0
 have f1:=R0.out.frozen 1
 have f2:=R0.out.frozen 2
 have f3:=R0.out.frozen 3
 have f4:=R0.out.frozen 4
 have f5:=R0.out.frozen 5
 simp at k0 k1 k2 k3 k4 k5
 go_wp2_with fail
 refine bodyPost_ret (read_row rfl _ _ _ w.heap.size #[.int .i64 0,.int .i64 0,.int .u32 0,.int .u32 0,.int .u64 0,.string .empty] rfl (load_page (six_at R0.out))) rfl ⟨rfl,six_below HB.out (Nat.le_refl _)⟩
theorem rget_1 (size:Nat) (n:Nat) (s:ByteArray) (ck kd vr ct pg lk tx:Nat) (bd:ByteArray) (w:World) (hg:goodSize size=true) (hs:s.size=size) (e0:numAt s 0 4=ck) (e1:numAt s 4 1=kd) (e2:numAt s 5 1=vr) (e3:numAt s 6 2=ct) (e4:numAt s 8 4=pg) (e5:numAt s 12 4=lk) (e6:numAt s 16 8=tx) (e7:bd=s.extract 24 s.size) (h0:mayPg size kd ct pg lk tx bd=true) (h1 : ¬ pg=n) :
  Calls Tryz.prog 62 #[.int .i64 size,.int .u32 n,.string s] w fun e w'=>e=.returned (.tuple #[.agg #[.int .i64 0,.int .i64 0,.int .u32 0,.int .u32 0,.int .u64 0,.string .empty],.int .i64 4])∧Below w.heap.size w w':=by
 have hgp:=good_pos hg
 have l1:=numAt_lt s 4 1
 have l3:=numAt_lt s 6 2
 have l4:=numAt_lt s 8 4
 have l5:=numAt_lt s 12 4
 have l6:=numAt_lt s 16 8
 have l0:=numAt_lt s 0 4
 rw[e1] at l1
 rw[e3] at l3
 rw[e4] at l4
 rw[e5] at l5
 rw[e6] at l6
 rw[e0] at l0
 have i1:IntKind.i64.wrap (kd:Int)=(kd:Int):=by rw[IntKind.wrap_i64];omega
 have i3:IntKind.i64.wrap (ct:Int)=(ct:Int):=by rw[IntKind.wrap_i64];omega
 have i4:IntKind.u32.wrap (pg:Int)=(pg:Int):=by rw[IntKind.wrap_u32];omega
 have i5:IntKind.u32.wrap (lk:Int)=(lk:Int):=by rw[IntKind.wrap_u32];omega
 have hbs:bd.size=size-24:=by rw[e7,ByteArray.size_extract];omega
 have hri:=rest_is s (by omega)
 rw[e1,e3,e4,e5,e6,← e7,e2] at hri
 have q0:((s.size:Int)==(size:Int))=true:=by simp;omega
 have q0':((s.size:Int) != (size:Int))=false:=by simp;omega
 have HM:=fun w=>rmay_any size kd ct pg lk tx bd w
 rw[h0] at HM
 have q1:((pg:Int) != (n:Int))=true:=by simp;omega
 have q1':((pg:Int)==(n:Int))=false:=by simp;omega
 have q1n:(pg != n)=true:=by simp;omega
 have q1n':(pg==n)=false:=by simp;omega
 obtain⟨hz,hi⟩:=zero_of_info infoPg
 have HI:=Hd hi
 clear hi
 obtain⟨w0,hw0⟩ : ∃ w0,w0=w.alloc (.cells #[.int .i64 0,.int .i64 0,.int .u32 0,.int .u32 0,.int .u64 0,.string .empty] 41):=⟨_,rfl⟩
 have R0:=Hd (show Blk w0 w.heap.size 41 #[.int .i64 0,.int .i64 0,.int .u32 0,.int .u32 0,.int .u64 0,.string .empty] by rw[hw0];exact Blk.new _ _ _)
 have HB:=Hd (show Below w.heap.size w w0 by rw[hw0];exact (Below.refl _ _).alloc (Nat.le_refl _) _)
 have E7:=Hd e7
 have HS:=Hd (show 24≤s.size by omega)
 have G:=Hd hg
 have E0:=Hd e0
 have E1:=Hd e1
 have E2:=Hd e2
 have E3:=Hd e3
 have E4:=Hd e4
 have E5:=Hd e5
 have E6:=Hd e6
 clear e0 e1 e2 e3 e4 e5 e6 e7 hri hg hgp l0 l1 l3 l4 l5 l6 hbs hs h0
 go_enter Tryz.func62,Tryz.ntmps62
 go_wp2_with fail
 rw[← hw0]
 clear hw0
 refine (rgood_is size _ _ G.out).mono ?_
 rintro e wa ⟨rfl,rfl⟩
 go_wp2_with fail
 refine (rnew_any' s _).mono ?_
 rintro e w1 ⟨rfl,hr,hb,hlt⟩
 obtain⟨g,hgg⟩ : ∃ g,g=wa.heap.size:=⟨_,rfl⟩
 rw[← hgg] at hr hlt ⊢
 have hwg:w.heap.size<g:=by rw[hgg];exact R0.out.lt
 replace HB:=Hd (HB.out.trans (hb.mono HB.out.size))
 replace R0:=Hd (R0.out.below hb R0.out.lt)
 rw[← ext_all s] at hr
 have RD:=Hd (show IsRf w1 g (s.extract 0 s.size) from hr)
 have HG:=Hd hwg
 clear hb hr hlt hgg hwg
 go_wp2_with fail
 refine (rnum_at RD.out 4 4 (by omega) (by omega) (by have:=HS.out;omega) rfl ck E0.out).mono ?_
 rintro e w2 ⟨rfl,hr,hgr⟩
 replace RD:=Hd hr
 replace HB:=Hd (HB.out.grown hgr HB.out.size (by rintro k ⟨⟩;exact Nat.le_of_lt HG.out))
 replace R0:=Hd (R0.out.grown hgr (by intro h;injection h with h;have:=HG.out;omega))
 clear hr hgr
 go_wp2_with fail
 refine (rnum_at RD.out 1 5 (by omega) (by omega) (by have:=HS.out;omega) rfl kd E1.out).mono ?_
 rintro e w3 ⟨rfl,hr,hgr⟩
 replace RD:=Hd hr
 replace HB:=Hd (HB.out.grown hgr HB.out.size (by rintro k ⟨⟩;exact Nat.le_of_lt HG.out))
 replace R0:=Hd (R0.out.grown hgr (by intro h;injection h with h;have:=HG.out;omega))
 clear hr hgr
 go_wp2_with fail
 refine (rnum_at RD.out 1 6 (by omega) (by omega) (by have:=HS.out;omega) rfl vr E2.out).mono ?_
 rintro e w4 ⟨rfl,hr,hgr⟩
 replace RD:=Hd hr
 replace HB:=Hd (HB.out.grown hgr HB.out.size (by rintro k ⟨⟩;exact Nat.le_of_lt HG.out))
 replace R0:=Hd (R0.out.grown hgr (by intro h;injection h with h;have:=HG.out;omega))
 clear hr hgr
 go_wp2_with fail
 refine (rnum_at RD.out 2 8 (by omega) (by omega) (by have:=HS.out;omega) rfl ct E3.out).mono ?_
 rintro e w5 ⟨rfl,hr,hgr⟩
 replace RD:=Hd hr
 replace HB:=Hd (HB.out.grown hgr HB.out.size (by rintro k ⟨⟩;exact Nat.le_of_lt HG.out))
 replace R0:=Hd (R0.out.grown hgr (by intro h;injection h with h;have:=HG.out;omega))
 clear hr hgr
 go_wp2_with fail
 refine (rnum_at RD.out 4 12 (by omega) (by omega) (by have:=HS.out;omega) rfl pg E4.out).mono ?_
 rintro e w6 ⟨rfl,hr,hgr⟩
 replace RD:=Hd hr
 replace HB:=Hd (HB.out.grown hgr HB.out.size (by rintro k ⟨⟩;exact Nat.le_of_lt HG.out))
 replace R0:=Hd (R0.out.grown hgr (by intro h;injection h with h;have:=HG.out;omega))
 clear hr hgr
 go_wp2_with fail
 refine (rnum_at RD.out 4 16 (by omega) (by omega) (by have:=HS.out;omega) rfl lk E5.out).mono ?_
 rintro e w7 ⟨rfl,hr,hgr⟩
 replace RD:=Hd hr
 replace HB:=Hd (HB.out.grown hgr HB.out.size (by rintro k ⟨⟩;exact Nat.le_of_lt HG.out))
 replace R0:=Hd (R0.out.grown hgr (by intro h;injection h with h;have:=HG.out;omega))
 clear hr hgr
 go_wp2_with fail
 refine (rnum_at RD.out 8 24 (by omega) (by omega) (by have:=HS.out;omega) rfl tx E6.out).mono ?_
 rintro e w8 ⟨rfl,hr,hgr⟩
 replace RD:=Hd hr
 replace HB:=Hd (HB.out.grown hgr HB.out.size (by rintro k ⟨⟩;exact Nat.le_of_lt HG.out))
 replace R0:=Hd (R0.out.grown hgr (by intro h;injection h with h;have:=HG.out;omega))
 clear hr hgr
 have c0:=Blk.cell RD.out 0
 simp at c0
 rw[← E7.out] at c0
 obtain⟨wp,hwp⟩ : ∃ wp,wp=w8.alloc (.cells #[.int .i64 kd,.int .i64 ct,.int .u32 pg,.int .u32 lk,.int .u64 tx,.string bd] 41):=⟨_,rfl⟩
 have B0:=Hd (show Blk wp w8.heap.size 41 #[.int .i64 kd,.int .i64 ct,.int .u32 pg,.int .u32 lk,.int .u64 tx,.string bd] by rw[hwp];exact Blk.new _ _ _)
 replace HB:=Hd (show Below w.heap.size w wp by rw[hwp];exact HB.out.alloc HB.out.size _)
 replace R0:=Hd (show Blk wp w.heap.size 41 #[.int .i64 0,.int .i64 0,.int .u32 0,.int .u32 0,.int .u64 0,.string .empty] by rw[hwp];exact R0.out.alloc _)
 have HS4:(4:Int)≤(s.size:Int):=by have:=HS.out;omega
 clear E0 E1 E2 E3 E4 E5 E6
 go_wp2_with fail
 rw[← hwp]
 clear hwp c0
 replace B0:=Hd B0.out.drew
 replace R0:=Hd R0.out.drew
 replace HB:=Hd HB.out.drew
 refine wp_region_held_drew (S:=fun w'=>w'.cell? ⟨w8.heap.size,0,none⟩=some (.int .i64 kd)∧w'.cell? ⟨w8.heap.size,1,none⟩=some (.int .i64 ct)∧w'.cell? ⟨w8.heap.size,2,none⟩=some (.int .u32 pg)∧w'.cell? ⟨w8.heap.size,3,none⟩=some (.int .u32 lk)∧w'.cell? ⟨w8.heap.size,4,none⟩=some (.int .u64 tx)∧w'.cell? ⟨w8.heap.size,5,none⟩=some (.string bd)) (by kernel_rfl) (pg_cells B0.out) (fun hHeld=>?_)
 refine tkA (i:=0) ?_
 try simp only[tkP]
 refine tkA (i:=1) ?_
 try simp only[tkP]
 refine wpAnyH_ready (rs:=[2]) (by kernel_rfl) (by simp) ?_
 refine tkC (fun K hK=>?_)
 go_simp
 refine (HM _).mono ?_
 rintro e wq ⟨rfl,hb⟩
 replace B0:=Hd (B0.out.below hb B0.out.lt)
 replace R0:=Hd (R0.out.below hb R0.out.lt)
 replace HB:=Hd (HB.out.trans (hb.mono HB.out.size))
 clear hb
 refine hK.out _ _ (pg_cells B0.out) (fun hHeld=>?_)
 clear hK K
 try simp only[tkP]
 refine tkA (i:=3) ?_
 try simp only[tkP]
 refine tkA (i:=4) ?_
 try simp only[tkP]
 refine tkA (i:=5) ?_
 try simp only[tkP]
 refine tkA (i:=6) ?_
 try simp only[tkP]
 refine tkA (i:=7) ?_
 try simp only[tkP]
 refine tkA (i:=8) ?_
 try simp only[tkP]
 refine tkA (i:=9) ?_
 try simp only[tkP]
 refine tkA (i:=10) ?_
 try simp only[tkP]
 refine tkU (i:=11) ?_
 try simp only[tkP]
 refine tkU (i:=12) ?_
 try simp only[tkP]
 refine tkU (i:=13) ?_
 try simp only[tkP]
 refine tkU (i:=14) ?_
 try simp only[tkP]
 refine tkU (i:=15) ?_
 try simp only[tkP]
 refine tkA (i:=16) ?_
 try simp only[tkP]
 refine tkA (i:=17) ?_
 try simp only[tkP]
 refine tkU (i:=18) ?_
 try simp only[tkP]
 refine tkU (i:=19) ?_
 try simp only[tkP]
 refine tkU (i:=20) ?_
 try simp only[tkP]
 refine tkU (i:=21) ?_
 try simp only[tkP]
 refine tkU (i:=22) ?_
 try simp only[tkP]
 refine tkU (i:=23) ?_
 try simp only[tkP]
 refine tkA (i:=24) ?_
 try simp only[tkP]
 refine wpAnyH_done (by kernel_rfl) ?_ _
 have k0:=R0.out.cell 0
 have k1:=R0.out.cell 1
 have k2:=R0.out.cell 2
 have k3:=R0.out.cell 3
 have k4:=R0.out.cell 4
 have k5:=R0.out.cell 5
 have f0:=R0.out.frozen 0
 have f1:=R0.out.frozen 1
 have f2:=R0.out.frozen 2
 have f3:=R0.out.frozen 3
 have f4:=R0.out.frozen 4
 have f5:=R0.out.frozen 5
 simp at k0 k1 k2 k3 k4 k5
 go_wp2_with fail
 refine bodyPost_ret (read_row rfl _ _ _ w.heap.size #[.int .i64 0,.int .i64 0,.int .u32 0,.int .u32 0,.int .u64 0,.string .empty] rfl (load_page (six_at R0.out))) rfl ⟨rfl,six_below HB.out (Nat.le_refl _)⟩
theorem rget_2 (size:Nat) (n:Nat) (s:ByteArray) (ck kd vr ct pg lk tx:Nat) (bd:ByteArray) (w:World) (hg:goodSize size=true) (hs:s.size=size) (e0:numAt s 0 4=ck) (e1:numAt s 4 1=kd) (e2:numAt s 5 1=vr) (e3:numAt s 6 2=ct) (e4:numAt s 8 4=pg) (e5:numAt s 12 4=lk) (e6:numAt s 16 8=tx) (e7:bd=s.extract 24 s.size) (h0:mayPg size kd ct pg lk tx bd=true) (h1:pg=n) (h2 : ¬ vr=1) :
  Calls Tryz.prog 62 #[.int .i64 size,.int .u32 n,.string s] w fun e w'=>e=.returned (.tuple #[.agg #[.int .i64 0,.int .i64 0,.int .u32 0,.int .u32 0,.int .u64 0,.string .empty],.int .i64 4])∧Below w.heap.size w w':=by
 have hgp:=good_pos hg
 have l1:=numAt_lt s 4 1
 have l3:=numAt_lt s 6 2
 have l4:=numAt_lt s 8 4
 have l5:=numAt_lt s 12 4
 have l6:=numAt_lt s 16 8
 have l0:=numAt_lt s 0 4
 rw[e1] at l1
 rw[e3] at l3
 rw[e4] at l4
 rw[e5] at l5
 rw[e6] at l6
 rw[e0] at l0
 have i1:IntKind.i64.wrap (kd:Int)=(kd:Int):=by rw[IntKind.wrap_i64];omega
 have i3:IntKind.i64.wrap (ct:Int)=(ct:Int):=by rw[IntKind.wrap_i64];omega
 have i4:IntKind.u32.wrap (pg:Int)=(pg:Int):=by rw[IntKind.wrap_u32];omega
 have i5:IntKind.u32.wrap (lk:Int)=(lk:Int):=by rw[IntKind.wrap_u32];omega
 have hbs:bd.size=size-24:=by rw[e7,ByteArray.size_extract];omega
 have hri:=rest_is s (by omega)
 rw[e1,e3,e4,e5,e6,← e7,e2] at hri
 have q0:((s.size:Int)==(size:Int))=true:=by simp;omega
 have q0':((s.size:Int) != (size:Int))=false:=by simp;omega
 have HM:=fun w=>rmay_any size kd ct pg lk tx bd w
 rw[h0] at HM
 have q1:((pg:Int) != (n:Int))=false:=by simp;omega
 have q1':((pg:Int)==(n:Int))=true:=by simp;omega
 have q1n:(pg != n)=false:=by simp;omega
 have q1n':(pg==n)=true:=by simp;omega
 obtain⟨rs,hrs⟩ : ∃ rs:ByteArray,rs=⟨(restL kd ct pg lk tx bd).toArray⟩:=⟨_,rfl⟩
 have HR:=fun w=>rrest_any kd ct pg lk tx bd w (by omega) (by omega) (by omega) (by omega) (by omega) rs hrs
 rw[← hrs] at hri
 have hne : ¬ rs=s.extract 4 s.size:=fun h=>h2 (hri.1 h)
 have sne:=str_neq rs (s.extract 4 s.size) hne
 clear hne hrs h2
 clear h1
 obtain⟨hz,hi⟩:=zero_of_info infoPg
 have HI:=Hd hi
 clear hi
 obtain⟨w0,hw0⟩ : ∃ w0,w0=w.alloc (.cells #[.int .i64 0,.int .i64 0,.int .u32 0,.int .u32 0,.int .u64 0,.string .empty] 41):=⟨_,rfl⟩
 have R0:=Hd (show Blk w0 w.heap.size 41 #[.int .i64 0,.int .i64 0,.int .u32 0,.int .u32 0,.int .u64 0,.string .empty] by rw[hw0];exact Blk.new _ _ _)
 have HB:=Hd (show Below w.heap.size w w0 by rw[hw0];exact (Below.refl _ _).alloc (Nat.le_refl _) _)
 have E7:=Hd e7
 have HS:=Hd (show 24≤s.size by omega)
 have G:=Hd hg
 have E0:=Hd e0
 have E1:=Hd e1
 have E2:=Hd e2
 have E3:=Hd e3
 have E4:=Hd e4
 have E5:=Hd e5
 have E6:=Hd e6
 clear e0 e1 e2 e3 e4 e5 e6 e7 hri hg hgp l0 l1 l3 l4 l5 l6 hbs hs h0
 go_enter Tryz.func62,Tryz.ntmps62
 go_wp2_with fail
 rw[← hw0]
 clear hw0
 refine (rgood_is size _ _ G.out).mono ?_
 rintro e wa ⟨rfl,rfl⟩
 go_wp2_with fail
 refine (rnew_any' s _).mono ?_
 rintro e w1 ⟨rfl,hr,hb,hlt⟩
 obtain⟨g,hgg⟩ : ∃ g,g=wa.heap.size:=⟨_,rfl⟩
 rw[← hgg] at hr hlt ⊢
 have hwg:w.heap.size<g:=by rw[hgg];exact R0.out.lt
 replace HB:=Hd (HB.out.trans (hb.mono HB.out.size))
 replace R0:=Hd (R0.out.below hb R0.out.lt)
 rw[← ext_all s] at hr
 have RD:=Hd (show IsRf w1 g (s.extract 0 s.size) from hr)
 have HG:=Hd hwg
 clear hb hr hlt hgg hwg
 go_wp2_with fail
 refine (rnum_at RD.out 4 4 (by omega) (by omega) (by have:=HS.out;omega) rfl ck E0.out).mono ?_
 rintro e w2 ⟨rfl,hr,hgr⟩
 replace RD:=Hd hr
 replace HB:=Hd (HB.out.grown hgr HB.out.size (by rintro k ⟨⟩;exact Nat.le_of_lt HG.out))
 replace R0:=Hd (R0.out.grown hgr (by intro h;injection h with h;have:=HG.out;omega))
 clear hr hgr
 go_wp2_with fail
 refine (rnum_at RD.out 1 5 (by omega) (by omega) (by have:=HS.out;omega) rfl kd E1.out).mono ?_
 rintro e w3 ⟨rfl,hr,hgr⟩
 replace RD:=Hd hr
 replace HB:=Hd (HB.out.grown hgr HB.out.size (by rintro k ⟨⟩;exact Nat.le_of_lt HG.out))
 replace R0:=Hd (R0.out.grown hgr (by intro h;injection h with h;have:=HG.out;omega))
 clear hr hgr
 go_wp2_with fail
 refine (rnum_at RD.out 1 6 (by omega) (by omega) (by have:=HS.out;omega) rfl vr E2.out).mono ?_
 rintro e w4 ⟨rfl,hr,hgr⟩
 replace RD:=Hd hr
 replace HB:=Hd (HB.out.grown hgr HB.out.size (by rintro k ⟨⟩;exact Nat.le_of_lt HG.out))
 replace R0:=Hd (R0.out.grown hgr (by intro h;injection h with h;have:=HG.out;omega))
 clear hr hgr
 go_wp2_with fail
 refine (rnum_at RD.out 2 8 (by omega) (by omega) (by have:=HS.out;omega) rfl ct E3.out).mono ?_
 rintro e w5 ⟨rfl,hr,hgr⟩
 replace RD:=Hd hr
 replace HB:=Hd (HB.out.grown hgr HB.out.size (by rintro k ⟨⟩;exact Nat.le_of_lt HG.out))
 replace R0:=Hd (R0.out.grown hgr (by intro h;injection h with h;have:=HG.out;omega))
 clear hr hgr
 go_wp2_with fail
 refine (rnum_at RD.out 4 12 (by omega) (by omega) (by have:=HS.out;omega) rfl pg E4.out).mono ?_
 rintro e w6 ⟨rfl,hr,hgr⟩
 replace RD:=Hd hr
 replace HB:=Hd (HB.out.grown hgr HB.out.size (by rintro k ⟨⟩;exact Nat.le_of_lt HG.out))
 replace R0:=Hd (R0.out.grown hgr (by intro h;injection h with h;have:=HG.out;omega))
 clear hr hgr
 go_wp2_with fail
 refine (rnum_at RD.out 4 16 (by omega) (by omega) (by have:=HS.out;omega) rfl lk E5.out).mono ?_
 rintro e w7 ⟨rfl,hr,hgr⟩
 replace RD:=Hd hr
 replace HB:=Hd (HB.out.grown hgr HB.out.size (by rintro k ⟨⟩;exact Nat.le_of_lt HG.out))
 replace R0:=Hd (R0.out.grown hgr (by intro h;injection h with h;have:=HG.out;omega))
 clear hr hgr
 go_wp2_with fail
 refine (rnum_at RD.out 8 24 (by omega) (by omega) (by have:=HS.out;omega) rfl tx E6.out).mono ?_
 rintro e w8 ⟨rfl,hr,hgr⟩
 replace RD:=Hd hr
 replace HB:=Hd (HB.out.grown hgr HB.out.size (by rintro k ⟨⟩;exact Nat.le_of_lt HG.out))
 replace R0:=Hd (R0.out.grown hgr (by intro h;injection h with h;have:=HG.out;omega))
 clear hr hgr
 have c0:=Blk.cell RD.out 0
 simp at c0
 rw[← E7.out] at c0
 obtain⟨wp,hwp⟩ : ∃ wp,wp=w8.alloc (.cells #[.int .i64 kd,.int .i64 ct,.int .u32 pg,.int .u32 lk,.int .u64 tx,.string bd] 41):=⟨_,rfl⟩
 have B0:=Hd (show Blk wp w8.heap.size 41 #[.int .i64 kd,.int .i64 ct,.int .u32 pg,.int .u32 lk,.int .u64 tx,.string bd] by rw[hwp];exact Blk.new _ _ _)
 replace HB:=Hd (show Below w.heap.size w wp by rw[hwp];exact HB.out.alloc HB.out.size _)
 replace R0:=Hd (show Blk wp w.heap.size 41 #[.int .i64 0,.int .i64 0,.int .u32 0,.int .u32 0,.int .u64 0,.string .empty] by rw[hwp];exact R0.out.alloc _)
 have HS4:(4:Int)≤(s.size:Int):=by have:=HS.out;omega
 clear E0 E1 E2 E3 E4 E5 E6
 go_wp2_with fail
 rw[← hwp]
 clear hwp c0
 replace B0:=Hd B0.out.drew
 replace R0:=Hd R0.out.drew
 replace HB:=Hd HB.out.drew
 refine wp_region_held_drew (S:=fun w'=>w'.cell? ⟨w8.heap.size,0,none⟩=some (.int .i64 kd)∧w'.cell? ⟨w8.heap.size,1,none⟩=some (.int .i64 ct)∧w'.cell? ⟨w8.heap.size,2,none⟩=some (.int .u32 pg)∧w'.cell? ⟨w8.heap.size,3,none⟩=some (.int .u32 lk)∧w'.cell? ⟨w8.heap.size,4,none⟩=some (.int .u64 tx)∧w'.cell? ⟨w8.heap.size,5,none⟩=some (.string bd)) (by kernel_rfl) (pg_cells B0.out) (fun hHeld=>?_)
 refine tkA (i:=0) ?_
 try simp only[tkP]
 refine tkA (i:=1) ?_
 try simp only[tkP]
 refine wpAnyH_ready (rs:=[2]) (by kernel_rfl) (by simp) ?_
 refine tkC (fun K hK=>?_)
 go_simp
 refine (HM _).mono ?_
 rintro e wq ⟨rfl,hb⟩
 replace B0:=Hd (B0.out.below hb B0.out.lt)
 replace R0:=Hd (R0.out.below hb R0.out.lt)
 replace HB:=Hd (HB.out.trans (hb.mono HB.out.size))
 clear hb
 refine hK.out _ _ (pg_cells B0.out) (fun hHeld=>?_)
 clear hK K
 try simp only[tkP]
 refine tkA (i:=3) ?_
 try simp only[tkP]
 refine tkA (i:=4) ?_
 try simp only[tkP]
 refine tkA (i:=5) ?_
 try simp only[tkP]
 refine tkA (i:=6) ?_
 try simp only[tkP]
 refine tkA (i:=7) ?_
 try simp only[tkP]
 refine tkA (i:=8) ?_
 try simp only[tkP]
 refine tkA (i:=9) ?_
 try simp only[tkP]
 refine tkA (i:=10) ?_
 try simp only[tkP]
 refine tkA (i:=11) ?_
 try simp only[tkP]
 refine tkA (i:=13) ?_
 try simp only[tkP]
 refine tkA (i:=14) ?_
 try simp only[tkP]
 refine wpAnyH_ready (rs:=[12]) (by kernel_rfl) (by simp) ?_
 refine tkC (fun K hK=>?_)
 go_simp
 refine (HR _).mono ?_
 rintro e wq ⟨rfl,hb⟩
 replace B0:=Hd (B0.out.below hb B0.out.lt)
 replace R0:=Hd (R0.out.below hb R0.out.lt)
 replace HB:=Hd (HB.out.trans (hb.mono HB.out.size))
 clear hb
 refine hK.out _ _ (pg_cells B0.out) (fun hHeld=>?_)
 clear hK K
 try simp only[tkP]
 refine tkA (i:=15) ?_
 try simp only[tkP]
 refine tkA (i:=16) ?_
 try simp only[tkP]
 refine tkA (i:=17) ?_
 try simp only[tkP]
 refine tkU (i:=18) ?_
 try simp only[tkP]
 refine tkU (i:=19) ?_
 try simp only[tkP]
 refine tkU (i:=20) ?_
 try simp only[tkP]
 refine tkU (i:=21) ?_
 try simp only[tkP]
 refine tkU (i:=22) ?_
 try simp only[tkP]
 refine tkU (i:=23) ?_
 try simp only[tkP]
 refine tkA (i:=24) ?_
 try simp only[tkP]
 refine wpAnyH_done (by kernel_rfl) ?_ _
 have k0:=R0.out.cell 0
 have k1:=R0.out.cell 1
 have k2:=R0.out.cell 2
 have k3:=R0.out.cell 3
 have k4:=R0.out.cell 4
 have k5:=R0.out.cell 5
 have f0:=R0.out.frozen 0
 have f1:=R0.out.frozen 1
 have f2:=R0.out.frozen 2
 have f3:=R0.out.frozen 3
 have f4:=R0.out.frozen 4
 have f5:=R0.out.frozen 5
 simp at k0 k1 k2 k3 k4 k5
 go_wp2_with fail
 refine bodyPost_ret (read_row rfl _ _ _ w.heap.size #[.int .i64 0,.int .i64 0,.int .u32 0,.int .u32 0,.int .u64 0,.string .empty] rfl (load_page (six_at R0.out))) rfl ⟨rfl,six_below HB.out (Nat.le_refl _)⟩
theorem rget_3 (size:Nat) (n:Nat) (s:ByteArray) (ck kd vr ct pg lk tx:Nat) (bd:ByteArray) (w:World) (hg:goodSize size=true) (hs:s.size=size) (e0:numAt s 0 4=ck) (e1:numAt s 4 1=kd) (e2:numAt s 5 1=vr) (e3:numAt s 6 2=ct) (e4:numAt s 8 4=pg) (e5:numAt s 12 4=lk) (e6:numAt s 16 8=tx) (e7:bd=s.extract 24 s.size) (h0:mayPg size kd ct pg lk tx bd=true) (h1:pg=n) (h2:vr=1) (h3 : ¬ crcM 0 (List.drop 4 s.data.toList)=ck) :
  Calls Tryz.prog 62 #[.int .i64 size,.int .u32 n,.string s] w fun e w'=>e=.returned (.tuple #[.agg #[.int .i64 0,.int .i64 0,.int .u32 0,.int .u32 0,.int .u64 0,.string .empty],.int .i64 4])∧Below w.heap.size w w':=by
 have hgp:=good_pos hg
 have l1:=numAt_lt s 4 1
 have l3:=numAt_lt s 6 2
 have l4:=numAt_lt s 8 4
 have l5:=numAt_lt s 12 4
 have l6:=numAt_lt s 16 8
 have l0:=numAt_lt s 0 4
 rw[e1] at l1
 rw[e3] at l3
 rw[e4] at l4
 rw[e5] at l5
 rw[e6] at l6
 rw[e0] at l0
 have i1:IntKind.i64.wrap (kd:Int)=(kd:Int):=by rw[IntKind.wrap_i64];omega
 have i3:IntKind.i64.wrap (ct:Int)=(ct:Int):=by rw[IntKind.wrap_i64];omega
 have i4:IntKind.u32.wrap (pg:Int)=(pg:Int):=by rw[IntKind.wrap_u32];omega
 have i5:IntKind.u32.wrap (lk:Int)=(lk:Int):=by rw[IntKind.wrap_u32];omega
 have hbs:bd.size=size-24:=by rw[e7,ByteArray.size_extract];omega
 have hri:=rest_is s (by omega)
 rw[e1,e3,e4,e5,e6,← e7,e2] at hri
 have q0:((s.size:Int)==(size:Int))=true:=by simp;omega
 have q0':((s.size:Int) != (size:Int))=false:=by simp;omega
 have HM:=fun w=>rmay_any size kd ct pg lk tx bd w
 rw[h0] at HM
 have q1:((pg:Int) != (n:Int))=false:=by simp;omega
 have q1':((pg:Int)==(n:Int))=true:=by simp;omega
 have q1n:(pg != n)=false:=by simp;omega
 have q1n':(pg==n)=true:=by simp;omega
 obtain⟨rs,hrs⟩ : ∃ rs:ByteArray,rs=⟨(restL kd ct pg lk tx bd).toArray⟩:=⟨_,rfl⟩
 have HR:=fun w=>rrest_any kd ct pg lk tx bd w (by omega) (by omega) (by omega) (by omega) (by omega) rs hrs
 rw[← hrs] at hri
 rw[hri.2 h2] at HR
 clear hrs
 have HO:=fun w=>rof_any (s.extract 4 s.size) w (by rw[ByteArray.size_extract];unfold maxLen;omega)
 rw[show (s.extract 4 s.size).data.toList=List.drop 4 s.data.toList by rw[Lib.extract_data,List.take_of_length_le];rw[List.length_drop,size_list];exact Nat.le_refl _] at HO
 obtain⟨cr,hcr⟩ : ∃ cr,cr=crcM 0 (List.drop 4 s.data.toList):=⟨_,rfl⟩
 have hcl:=crcM_lt 0 (List.drop 4 s.data.toList)
 rw[← hcr] at HO h3 hcl
 have i9:IntKind.u64.wrap (cr:Int)=(cr:Int):=by rw[IntKind.wrap_u64];omega
 have q3:((cr:Int) != (ck:Int))=true:=by simp;omega
 have q3':((cr:Int)==(ck:Int))=false:=by simp;omega
 have q3n:(cr != ck)=true:=by simp;omega
 have q3n':(cr==ck)=false:=by simp;omega
 clear hcr hcl
 clear h1
 clear h3
 clear h2
 obtain⟨hz,hi⟩:=zero_of_info infoPg
 have HI:=Hd hi
 clear hi
 obtain⟨w0,hw0⟩ : ∃ w0,w0=w.alloc (.cells #[.int .i64 0,.int .i64 0,.int .u32 0,.int .u32 0,.int .u64 0,.string .empty] 41):=⟨_,rfl⟩
 have R0:=Hd (show Blk w0 w.heap.size 41 #[.int .i64 0,.int .i64 0,.int .u32 0,.int .u32 0,.int .u64 0,.string .empty] by rw[hw0];exact Blk.new _ _ _)
 have HB:=Hd (show Below w.heap.size w w0 by rw[hw0];exact (Below.refl _ _).alloc (Nat.le_refl _) _)
 have E7:=Hd e7
 have HS:=Hd (show 24≤s.size by omega)
 have G:=Hd hg
 have E0:=Hd e0
 have E1:=Hd e1
 have E2:=Hd e2
 have E3:=Hd e3
 have E4:=Hd e4
 have E5:=Hd e5
 have E6:=Hd e6
 clear e0 e1 e2 e3 e4 e5 e6 e7 hri hg hgp l0 l1 l3 l4 l5 l6 hbs hs h0
 go_enter Tryz.func62,Tryz.ntmps62
 go_wp2_with fail
 rw[← hw0]
 clear hw0
 refine (rgood_is size _ _ G.out).mono ?_
 rintro e wa ⟨rfl,rfl⟩
 go_wp2_with fail
 refine (rnew_any' s _).mono ?_
 rintro e w1 ⟨rfl,hr,hb,hlt⟩
 obtain⟨g,hgg⟩ : ∃ g,g=wa.heap.size:=⟨_,rfl⟩
 rw[← hgg] at hr hlt ⊢
 have hwg:w.heap.size<g:=by rw[hgg];exact R0.out.lt
 replace HB:=Hd (HB.out.trans (hb.mono HB.out.size))
 replace R0:=Hd (R0.out.below hb R0.out.lt)
 rw[← ext_all s] at hr
 have RD:=Hd (show IsRf w1 g (s.extract 0 s.size) from hr)
 have HG:=Hd hwg
 clear hb hr hlt hgg hwg
 go_wp2_with fail
 refine (rnum_at RD.out 4 4 (by omega) (by omega) (by have:=HS.out;omega) rfl ck E0.out).mono ?_
 rintro e w2 ⟨rfl,hr,hgr⟩
 replace RD:=Hd hr
 replace HB:=Hd (HB.out.grown hgr HB.out.size (by rintro k ⟨⟩;exact Nat.le_of_lt HG.out))
 replace R0:=Hd (R0.out.grown hgr (by intro h;injection h with h;have:=HG.out;omega))
 clear hr hgr
 go_wp2_with fail
 refine (rnum_at RD.out 1 5 (by omega) (by omega) (by have:=HS.out;omega) rfl kd E1.out).mono ?_
 rintro e w3 ⟨rfl,hr,hgr⟩
 replace RD:=Hd hr
 replace HB:=Hd (HB.out.grown hgr HB.out.size (by rintro k ⟨⟩;exact Nat.le_of_lt HG.out))
 replace R0:=Hd (R0.out.grown hgr (by intro h;injection h with h;have:=HG.out;omega))
 clear hr hgr
 go_wp2_with fail
 refine (rnum_at RD.out 1 6 (by omega) (by omega) (by have:=HS.out;omega) rfl vr E2.out).mono ?_
 rintro e w4 ⟨rfl,hr,hgr⟩
 replace RD:=Hd hr
 replace HB:=Hd (HB.out.grown hgr HB.out.size (by rintro k ⟨⟩;exact Nat.le_of_lt HG.out))
 replace R0:=Hd (R0.out.grown hgr (by intro h;injection h with h;have:=HG.out;omega))
 clear hr hgr
 go_wp2_with fail
 refine (rnum_at RD.out 2 8 (by omega) (by omega) (by have:=HS.out;omega) rfl ct E3.out).mono ?_
 rintro e w5 ⟨rfl,hr,hgr⟩
 replace RD:=Hd hr
 replace HB:=Hd (HB.out.grown hgr HB.out.size (by rintro k ⟨⟩;exact Nat.le_of_lt HG.out))
 replace R0:=Hd (R0.out.grown hgr (by intro h;injection h with h;have:=HG.out;omega))
 clear hr hgr
 go_wp2_with fail
 refine (rnum_at RD.out 4 12 (by omega) (by omega) (by have:=HS.out;omega) rfl pg E4.out).mono ?_
 rintro e w6 ⟨rfl,hr,hgr⟩
 replace RD:=Hd hr
 replace HB:=Hd (HB.out.grown hgr HB.out.size (by rintro k ⟨⟩;exact Nat.le_of_lt HG.out))
 replace R0:=Hd (R0.out.grown hgr (by intro h;injection h with h;have:=HG.out;omega))
 clear hr hgr
 go_wp2_with fail
 refine (rnum_at RD.out 4 16 (by omega) (by omega) (by have:=HS.out;omega) rfl lk E5.out).mono ?_
 rintro e w7 ⟨rfl,hr,hgr⟩
 replace RD:=Hd hr
 replace HB:=Hd (HB.out.grown hgr HB.out.size (by rintro k ⟨⟩;exact Nat.le_of_lt HG.out))
 replace R0:=Hd (R0.out.grown hgr (by intro h;injection h with h;have:=HG.out;omega))
 clear hr hgr
 go_wp2_with fail
 refine (rnum_at RD.out 8 24 (by omega) (by omega) (by have:=HS.out;omega) rfl tx E6.out).mono ?_
 rintro e w8 ⟨rfl,hr,hgr⟩
 replace RD:=Hd hr
 replace HB:=Hd (HB.out.grown hgr HB.out.size (by rintro k ⟨⟩;exact Nat.le_of_lt HG.out))
 replace R0:=Hd (R0.out.grown hgr (by intro h;injection h with h;have:=HG.out;omega))
 clear hr hgr
 have c0:=Blk.cell RD.out 0
 simp at c0
 rw[← E7.out] at c0
 obtain⟨wp,hwp⟩ : ∃ wp,wp=w8.alloc (.cells #[.int .i64 kd,.int .i64 ct,.int .u32 pg,.int .u32 lk,.int .u64 tx,.string bd] 41):=⟨_,rfl⟩
 have B0:=Hd (show Blk wp w8.heap.size 41 #[.int .i64 kd,.int .i64 ct,.int .u32 pg,.int .u32 lk,.int .u64 tx,.string bd] by rw[hwp];exact Blk.new _ _ _)
 replace HB:=Hd (show Below w.heap.size w wp by rw[hwp];exact HB.out.alloc HB.out.size _)
 replace R0:=Hd (show Blk wp w.heap.size 41 #[.int .i64 0,.int .i64 0,.int .u32 0,.int .u32 0,.int .u64 0,.string .empty] by rw[hwp];exact R0.out.alloc _)
 have HS4:(4:Int)≤(s.size:Int):=by have:=HS.out;omega
 clear E0 E1 E2 E3 E4 E5 E6
 go_wp2_with fail
 rw[← hwp]
 clear hwp c0
 replace B0:=Hd B0.out.drew
 replace R0:=Hd R0.out.drew
 replace HB:=Hd HB.out.drew
 refine wp_region_held_drew (S:=fun w'=>w'.cell? ⟨w8.heap.size,0,none⟩=some (.int .i64 kd)∧w'.cell? ⟨w8.heap.size,1,none⟩=some (.int .i64 ct)∧w'.cell? ⟨w8.heap.size,2,none⟩=some (.int .u32 pg)∧w'.cell? ⟨w8.heap.size,3,none⟩=some (.int .u32 lk)∧w'.cell? ⟨w8.heap.size,4,none⟩=some (.int .u64 tx)∧w'.cell? ⟨w8.heap.size,5,none⟩=some (.string bd)) (by kernel_rfl) (pg_cells B0.out) (fun hHeld=>?_)
 refine tkA (i:=0) ?_
 try simp only[tkP]
 refine tkA (i:=1) ?_
 try simp only[tkP]
 refine wpAnyH_ready (rs:=[2]) (by kernel_rfl) (by simp) ?_
 refine tkC (fun K hK=>?_)
 go_simp
 refine (HM _).mono ?_
 rintro e wq ⟨rfl,hb⟩
 replace B0:=Hd (B0.out.below hb B0.out.lt)
 replace R0:=Hd (R0.out.below hb R0.out.lt)
 replace HB:=Hd (HB.out.trans (hb.mono HB.out.size))
 clear hb
 refine hK.out _ _ (pg_cells B0.out) (fun hHeld=>?_)
 clear hK K
 try simp only[tkP]
 refine tkA (i:=3) ?_
 try simp only[tkP]
 refine tkA (i:=4) ?_
 try simp only[tkP]
 refine tkA (i:=5) ?_
 try simp only[tkP]
 refine tkA (i:=6) ?_
 try simp only[tkP]
 refine tkA (i:=7) ?_
 try simp only[tkP]
 refine tkA (i:=8) ?_
 try simp only[tkP]
 refine tkA (i:=9) ?_
 try simp only[tkP]
 refine tkA (i:=10) ?_
 try simp only[tkP]
 refine tkA (i:=11) ?_
 try simp only[tkP]
 refine tkA (i:=13) ?_
 try simp only[tkP]
 refine tkA (i:=14) ?_
 try simp only[tkP]
 refine wpAnyH_ready (rs:=[12]) (by kernel_rfl) (by simp) ?_
 refine tkC (fun K hK=>?_)
 go_simp
 refine (HR _).mono ?_
 rintro e wq ⟨rfl,hb⟩
 replace B0:=Hd (B0.out.below hb B0.out.lt)
 replace R0:=Hd (R0.out.below hb R0.out.lt)
 replace HB:=Hd (HB.out.trans (hb.mono HB.out.size))
 clear hb
 refine hK.out _ _ (pg_cells B0.out) (fun hHeld=>?_)
 clear hK K
 try simp only[tkP]
 refine tkA (i:=15) ?_
 try simp only[tkP]
 refine tkA (i:=16) ?_
 try simp only[tkP]
 refine tkA (i:=17) ?_
 try simp only[tkP]
 refine tkA (i:=18) ?_
 try simp only[tkP]
 refine tkA (i:=19) ?_
 try simp only[tkP]
 refine tkA (i:=22) ?_
 try simp only[tkP]
 refine wpAnyH_ready (rs:=[20]) (by kernel_rfl) (by simp) ?_
 refine tkC (fun K hK=>?_)
 go_simp
 refine (HO _).mono ?_
 rintro e wq ⟨rfl,hb⟩
 replace B0:=Hd (B0.out.below hb B0.out.lt)
 replace R0:=Hd (R0.out.below hb R0.out.lt)
 replace HB:=Hd (HB.out.trans (hb.mono HB.out.size))
 clear hb
 refine hK.out _ _ (pg_cells B0.out) (fun hHeld=>?_)
 clear hK K
 try simp only[tkP]
 refine tkA (i:=21) ?_
 try simp only[tkP]
 refine tkA (i:=23) ?_
 try simp only[tkP]
 refine tkA (i:=24) ?_
 try simp only[tkP]
 refine wpAnyH_done (by kernel_rfl) ?_ _
 have k0:=R0.out.cell 0
 have k1:=R0.out.cell 1
 have k2:=R0.out.cell 2
 have k3:=R0.out.cell 3
 have k4:=R0.out.cell 4
 have k5:=R0.out.cell 5
 have f0:=R0.out.frozen 0
 have f1:=R0.out.frozen 1
 have f2:=R0.out.frozen 2
 have f3:=R0.out.frozen 3
 have f4:=R0.out.frozen 4
 have f5:=R0.out.frozen 5
 simp at k0 k1 k2 k3 k4 k5
 go_wp2_with fail
 refine bodyPost_ret (read_row rfl _ _ _ w.heap.size #[.int .i64 0,.int .i64 0,.int .u32 0,.int .u32 0,.int .u64 0,.string .empty] rfl (load_page (six_at R0.out))) rfl ⟨rfl,six_below HB.out (Nat.le_refl _)⟩
theorem rget_4 (size:Nat) (n:Nat) (s:ByteArray) (ck kd vr ct pg lk tx:Nat) (bd:ByteArray) (w:World) (hg:goodSize size=true) (hs:s.size=size) (e0:numAt s 0 4=ck) (e1:numAt s 4 1=kd) (e2:numAt s 5 1=vr) (e3:numAt s 6 2=ct) (e4:numAt s 8 4=pg) (e5:numAt s 12 4=lk) (e6:numAt s 16 8=tx) (e7:bd=s.extract 24 s.size) (h0:mayPg size kd ct pg lk tx bd=true) (h1:pg=n) (h2:vr=1) (h3:crcM 0 (List.drop 4 s.data.toList)=ck) :
  Calls Tryz.prog 62 #[.int .i64 size,.int .u32 n,.string s] w fun e w'=>e=.returned (.tuple #[.agg #[.int .i64 kd,.int .i64 ct,.int .u32 pg,.int .u32 lk,.int .u64 tx,.string bd],.int .i64 0])∧Below w.heap.size w w':=by
 have hgp:=good_pos hg
 have l1:=numAt_lt s 4 1
 have l3:=numAt_lt s 6 2
 have l4:=numAt_lt s 8 4
 have l5:=numAt_lt s 12 4
 have l6:=numAt_lt s 16 8
 have l0:=numAt_lt s 0 4
 rw[e1] at l1
 rw[e3] at l3
 rw[e4] at l4
 rw[e5] at l5
 rw[e6] at l6
 rw[e0] at l0
 have i1:IntKind.i64.wrap (kd:Int)=(kd:Int):=by rw[IntKind.wrap_i64];omega
 have i3:IntKind.i64.wrap (ct:Int)=(ct:Int):=by rw[IntKind.wrap_i64];omega
 have i4:IntKind.u32.wrap (pg:Int)=(pg:Int):=by rw[IntKind.wrap_u32];omega
 have i5:IntKind.u32.wrap (lk:Int)=(lk:Int):=by rw[IntKind.wrap_u32];omega
 have hbs:bd.size=size-24:=by rw[e7,ByteArray.size_extract];omega
 have hri:=rest_is s (by omega)
 rw[e1,e3,e4,e5,e6,← e7,e2] at hri
 have q0:((s.size:Int)==(size:Int))=true:=by simp;omega
 have q0':((s.size:Int) != (size:Int))=false:=by simp;omega
 have HM:=fun w=>rmay_any size kd ct pg lk tx bd w
 rw[h0] at HM
 have q1:((pg:Int) != (n:Int))=false:=by simp;omega
 have q1':((pg:Int)==(n:Int))=true:=by simp;omega
 have q1n:(pg != n)=false:=by simp;omega
 have q1n':(pg==n)=true:=by simp;omega
 obtain⟨rs,hrs⟩ : ∃ rs:ByteArray,rs=⟨(restL kd ct pg lk tx bd).toArray⟩:=⟨_,rfl⟩
 have HR:=fun w=>rrest_any kd ct pg lk tx bd w (by omega) (by omega) (by omega) (by omega) (by omega) rs hrs
 rw[← hrs] at hri
 rw[hri.2 h2] at HR
 clear hrs
 have HO:=fun w=>rof_any (s.extract 4 s.size) w (by rw[ByteArray.size_extract];unfold maxLen;omega)
 rw[show (s.extract 4 s.size).data.toList=List.drop 4 s.data.toList by rw[Lib.extract_data,List.take_of_length_le];rw[List.length_drop,size_list];exact Nat.le_refl _] at HO
 obtain⟨cr,hcr⟩ : ∃ cr,cr=crcM 0 (List.drop 4 s.data.toList):=⟨_,rfl⟩
 have hcl:=crcM_lt 0 (List.drop 4 s.data.toList)
 rw[← hcr] at HO h3 hcl
 have i9:IntKind.u64.wrap (cr:Int)=(cr:Int):=by rw[IntKind.wrap_u64];omega
 have q3:((cr:Int) != (ck:Int))=false:=by simp;omega
 have q3':((cr:Int)==(ck:Int))=true:=by simp;omega
 have q3n:(cr != ck)=false:=by simp;omega
 have q3n':(cr==ck)=true:=by simp;omega
 clear hcr hcl
 clear h1
 clear h3
 clear h2
 obtain⟨hz,hi⟩:=zero_of_info infoPg
 have HI:=Hd hi
 clear hi
 obtain⟨w0,hw0⟩ : ∃ w0,w0=w.alloc (.cells #[.int .i64 0,.int .i64 0,.int .u32 0,.int .u32 0,.int .u64 0,.string .empty] 41):=⟨_,rfl⟩
 have R0:=Hd (show Blk w0 w.heap.size 41 #[.int .i64 0,.int .i64 0,.int .u32 0,.int .u32 0,.int .u64 0,.string .empty] by rw[hw0];exact Blk.new _ _ _)
 have HB:=Hd (show Below w.heap.size w w0 by rw[hw0];exact (Below.refl _ _).alloc (Nat.le_refl _) _)
 have E7:=Hd e7
 have HS:=Hd (show 24≤s.size by omega)
 have G:=Hd hg
 have E0:=Hd e0
 have E1:=Hd e1
 have E2:=Hd e2
 have E3:=Hd e3
 have E4:=Hd e4
 have E5:=Hd e5
 have E6:=Hd e6
 clear e0 e1 e2 e3 e4 e5 e6 e7 hri hg hgp l0 l1 l3 l4 l5 l6 hbs hs h0
 go_enter Tryz.func62,Tryz.ntmps62
 go_wp2_with fail
 rw[← hw0]
 clear hw0
 refine (rgood_is size _ _ G.out).mono ?_
 rintro e wa ⟨rfl,rfl⟩
 go_wp2_with fail
 refine (rnew_any' s _).mono ?_
 rintro e w1 ⟨rfl,hr,hb,hlt⟩
 obtain⟨g,hgg⟩ : ∃ g,g=wa.heap.size:=⟨_,rfl⟩
 rw[← hgg] at hr hlt ⊢
 have hwg:w.heap.size<g:=by rw[hgg];exact R0.out.lt
 replace HB:=Hd (HB.out.trans (hb.mono HB.out.size))
 replace R0:=Hd (R0.out.below hb R0.out.lt)
 rw[← ext_all s] at hr
 have RD:=Hd (show IsRf w1 g (s.extract 0 s.size) from hr)
 have HG:=Hd hwg
 clear hb hr hlt hgg hwg
 go_wp2_with fail
 refine (rnum_at RD.out 4 4 (by omega) (by omega) (by have:=HS.out;omega) rfl ck E0.out).mono ?_
 rintro e w2 ⟨rfl,hr,hgr⟩
 replace RD:=Hd hr
 replace HB:=Hd (HB.out.grown hgr HB.out.size (by rintro k ⟨⟩;exact Nat.le_of_lt HG.out))
 replace R0:=Hd (R0.out.grown hgr (by intro h;injection h with h;have:=HG.out;omega))
 clear hr hgr
 go_wp2_with fail
 refine (rnum_at RD.out 1 5 (by omega) (by omega) (by have:=HS.out;omega) rfl kd E1.out).mono ?_
 rintro e w3 ⟨rfl,hr,hgr⟩
 replace RD:=Hd hr
 replace HB:=Hd (HB.out.grown hgr HB.out.size (by rintro k ⟨⟩;exact Nat.le_of_lt HG.out))
 replace R0:=Hd (R0.out.grown hgr (by intro h;injection h with h;have:=HG.out;omega))
 clear hr hgr
 go_wp2_with fail
 refine (rnum_at RD.out 1 6 (by omega) (by omega) (by have:=HS.out;omega) rfl vr E2.out).mono ?_
 rintro e w4 ⟨rfl,hr,hgr⟩
 replace RD:=Hd hr
 replace HB:=Hd (HB.out.grown hgr HB.out.size (by rintro k ⟨⟩;exact Nat.le_of_lt HG.out))
 replace R0:=Hd (R0.out.grown hgr (by intro h;injection h with h;have:=HG.out;omega))
 clear hr hgr
 go_wp2_with fail
 refine (rnum_at RD.out 2 8 (by omega) (by omega) (by have:=HS.out;omega) rfl ct E3.out).mono ?_
 rintro e w5 ⟨rfl,hr,hgr⟩
 replace RD:=Hd hr
 replace HB:=Hd (HB.out.grown hgr HB.out.size (by rintro k ⟨⟩;exact Nat.le_of_lt HG.out))
 replace R0:=Hd (R0.out.grown hgr (by intro h;injection h with h;have:=HG.out;omega))
 clear hr hgr
 go_wp2_with fail
 refine (rnum_at RD.out 4 12 (by omega) (by omega) (by have:=HS.out;omega) rfl pg E4.out).mono ?_
 rintro e w6 ⟨rfl,hr,hgr⟩
 replace RD:=Hd hr
 replace HB:=Hd (HB.out.grown hgr HB.out.size (by rintro k ⟨⟩;exact Nat.le_of_lt HG.out))
 replace R0:=Hd (R0.out.grown hgr (by intro h;injection h with h;have:=HG.out;omega))
 clear hr hgr
 go_wp2_with fail
 refine (rnum_at RD.out 4 16 (by omega) (by omega) (by have:=HS.out;omega) rfl lk E5.out).mono ?_
 rintro e w7 ⟨rfl,hr,hgr⟩
 replace RD:=Hd hr
 replace HB:=Hd (HB.out.grown hgr HB.out.size (by rintro k ⟨⟩;exact Nat.le_of_lt HG.out))
 replace R0:=Hd (R0.out.grown hgr (by intro h;injection h with h;have:=HG.out;omega))
 clear hr hgr
 go_wp2_with fail
 refine (rnum_at RD.out 8 24 (by omega) (by omega) (by have:=HS.out;omega) rfl tx E6.out).mono ?_
 rintro e w8 ⟨rfl,hr,hgr⟩
 replace RD:=Hd hr
 replace HB:=Hd (HB.out.grown hgr HB.out.size (by rintro k ⟨⟩;exact Nat.le_of_lt HG.out))
 replace R0:=Hd (R0.out.grown hgr (by intro h;injection h with h;have:=HG.out;omega))
 clear hr hgr
 have c0:=Blk.cell RD.out 0
 simp at c0
 rw[← E7.out] at c0
 obtain⟨wp,hwp⟩ : ∃ wp,wp=w8.alloc (.cells #[.int .i64 kd,.int .i64 ct,.int .u32 pg,.int .u32 lk,.int .u64 tx,.string bd] 41):=⟨_,rfl⟩
 have B0:=Hd (show Blk wp w8.heap.size 41 #[.int .i64 kd,.int .i64 ct,.int .u32 pg,.int .u32 lk,.int .u64 tx,.string bd] by rw[hwp];exact Blk.new _ _ _)
 replace HB:=Hd (show Below w.heap.size w wp by rw[hwp];exact HB.out.alloc HB.out.size _)
 replace R0:=Hd (show Blk wp w.heap.size 41 #[.int .i64 0,.int .i64 0,.int .u32 0,.int .u32 0,.int .u64 0,.string .empty] by rw[hwp];exact R0.out.alloc _)
 have HS4:(4:Int)≤(s.size:Int):=by have:=HS.out;omega
 clear E0 E1 E2 E3 E4 E5 E6
 go_wp2_with fail
 rw[← hwp]
 clear hwp c0
 replace B0:=Hd B0.out.drew
 replace R0:=Hd R0.out.drew
 replace HB:=Hd HB.out.drew
 refine wp_region_held_drew (S:=fun w'=>w'.cell? ⟨w8.heap.size,0,none⟩=some (.int .i64 kd)∧w'.cell? ⟨w8.heap.size,1,none⟩=some (.int .i64 ct)∧w'.cell? ⟨w8.heap.size,2,none⟩=some (.int .u32 pg)∧w'.cell? ⟨w8.heap.size,3,none⟩=some (.int .u32 lk)∧w'.cell? ⟨w8.heap.size,4,none⟩=some (.int .u64 tx)∧w'.cell? ⟨w8.heap.size,5,none⟩=some (.string bd)) (by kernel_rfl) (pg_cells B0.out) (fun hHeld=>?_)
 refine tkA (i:=0) ?_
 try simp only[tkP]
 refine tkA (i:=1) ?_
 try simp only[tkP]
 refine wpAnyH_ready (rs:=[2]) (by kernel_rfl) (by simp) ?_
 refine tkC (fun K hK=>?_)
 go_simp
 refine (HM _).mono ?_
 rintro e wq ⟨rfl,hb⟩
 replace B0:=Hd (B0.out.below hb B0.out.lt)
 replace R0:=Hd (R0.out.below hb R0.out.lt)
 replace HB:=Hd (HB.out.trans (hb.mono HB.out.size))
 clear hb
 refine hK.out _ _ (pg_cells B0.out) (fun hHeld=>?_)
 clear hK K
 try simp only[tkP]
 refine tkA (i:=3) ?_
 try simp only[tkP]
 refine tkA (i:=4) ?_
 try simp only[tkP]
 refine tkA (i:=5) ?_
 try simp only[tkP]
 refine tkA (i:=6) ?_
 try simp only[tkP]
 refine tkA (i:=7) ?_
 try simp only[tkP]
 refine tkA (i:=8) ?_
 try simp only[tkP]
 refine tkA (i:=9) ?_
 try simp only[tkP]
 refine tkA (i:=10) ?_
 try simp only[tkP]
 refine tkA (i:=11) ?_
 try simp only[tkP]
 refine tkA (i:=13) ?_
 try simp only[tkP]
 refine tkA (i:=14) ?_
 try simp only[tkP]
 refine wpAnyH_ready (rs:=[12]) (by kernel_rfl) (by simp) ?_
 refine tkC (fun K hK=>?_)
 go_simp
 refine (HR _).mono ?_
 rintro e wq ⟨rfl,hb⟩
 replace B0:=Hd (B0.out.below hb B0.out.lt)
 replace R0:=Hd (R0.out.below hb R0.out.lt)
 replace HB:=Hd (HB.out.trans (hb.mono HB.out.size))
 clear hb
 refine hK.out _ _ (pg_cells B0.out) (fun hHeld=>?_)
 clear hK K
 try simp only[tkP]
 refine tkA (i:=15) ?_
 try simp only[tkP]
 refine tkA (i:=16) ?_
 try simp only[tkP]
 refine tkA (i:=17) ?_
 try simp only[tkP]
 refine tkA (i:=18) ?_
 try simp only[tkP]
 refine tkA (i:=19) ?_
 try simp only[tkP]
 refine tkA (i:=22) ?_
 try simp only[tkP]
 refine wpAnyH_ready (rs:=[20]) (by kernel_rfl) (by simp) ?_
 refine tkC (fun K hK=>?_)
 go_simp
 refine (HO _).mono ?_
 rintro e wq ⟨rfl,hb⟩
 replace B0:=Hd (B0.out.below hb B0.out.lt)
 replace R0:=Hd (R0.out.below hb R0.out.lt)
 replace HB:=Hd (HB.out.trans (hb.mono HB.out.size))
 clear hb
 refine hK.out _ _ (pg_cells B0.out) (fun hHeld=>?_)
 clear hK K
 try simp only[tkP]
 refine tkA (i:=21) ?_
 try simp only[tkP]
 refine tkA (i:=23) ?_
 try simp only[tkP]
 refine tkA (i:=24) ?_
 try simp only[tkP]
 refine wpAnyH_done (by kernel_rfl) ?_ _
 have k0:=R0.out.cell 0
 have k1:=R0.out.cell 1
 have k2:=R0.out.cell 2
 have k3:=R0.out.cell 3
 have k4:=R0.out.cell 4
 have k5:=R0.out.cell 5
 have f0:=R0.out.frozen 0
 have f1:=R0.out.frozen 1
 have f2:=R0.out.frozen 2
 have f3:=R0.out.frozen 3
 have f4:=R0.out.frozen 4
 have f5:=R0.out.frozen 5
 have b0:=B0.out.cell 0
 have b1:=B0.out.cell 1
 have b2:=B0.out.cell 2
 have b3:=B0.out.cell 3
 have b4:=B0.out.cell 4
 have b5:=B0.out.cell 5
 simp at k0 k1 k2 k3 k4 k5 b0 b1 b2 b3 b4 b5
 go_wp2_with fail
 refine bodyPost_ret (read_row rfl _ _ _ w.heap.size #[.int .i64 kd,.int .i64 ct,.int .u32 pg,.int .u32 lk,.int .u64 tx,.string bd] rfl (load_page (six_at R0.out))) rfl ⟨rfl,six_below HB.out (Nat.le_refl _)⟩
theorem rget_right (size:Int) (n:Nat) (s:ByteArray) (w:World) (h:blockOk size n s=true) :
  Calls Tryz.prog 62 #[.int .i64 size,.int .u32 n,.string s] w fun e w'=>e=.returned (.tuple #[.agg #[.int .i64 (numAt s 4 1),.int .i64 (numAt s 6 2),.int .u32 (numAt s 8 4),.int .u32 (numAt s 12 4),.int .u64 (numAt s 16 8),.string (s.extract 24 s.size)],.int .i64 0])∧Below w.heap.size w w':=by
 simp only[blockOk,Bool.and_eq_true,decide_eq_true_eq] at h
 obtain⟨h1,h2,h3,h4,h5⟩:=h
 have hg:goodSize size=true:=by
  simp only[mayPg,Bool.and_eq_true] at h5
  exact h5.1
 obtain⟨z,rfl,_,_,_⟩:=good_nat hg
 exact rget_4 z n s (numAt s 0 4) (numAt s 4 1) (numAt s 5 1) (numAt s 6 2) (numAt s 8 4) (numAt s 12 4) (numAt s 16 8) (s.extract 24 s.size) w hg (by omega) rfl rfl rfl rfl rfl rfl rfl rfl h5 h4 h3 h2.symm
theorem rget_wrong (size:Int) (n:Nat) (s:ByteArray) (w:World) (hg:goodSize size=true) (h:blockOk size n s=false) :
  Calls Tryz.prog 62 #[.int .i64 size,.int .u32 n,.string s] w fun e w'=>e=.returned (.tuple #[.agg #[.int .i64 0,.int .i64 0,.int .u32 0,.int .u32 0,.int .u64 0,.string .empty],.int .i64 4])∧Below w.heap.size w w':=by
 by_cases h1:(s.size:Int)=size
 case neg=>exact rget_len size s n w hg h1
 obtain⟨z,rfl,_,_,_⟩:=good_nat hg
 have hs:s.size=z:=by omega
 rcases h5:mayPg z (numAt s 4 1) (numAt s 6 2) (numAt s 8 4) (numAt s 12 4) (numAt s 16 8) (s.extract 24 s.size) with _ | _
 ·exact rget_0 z n s (numAt s 0 4) (numAt s 4 1) (numAt s 5 1) (numAt s 6 2) (numAt s 8 4) (numAt s 12 4) (numAt s 16 8) (s.extract 24 s.size) w hg hs rfl rfl rfl rfl rfl rfl rfl rfl h5
 by_cases h4:numAt s 8 4=n
 case neg=>exact rget_1 z n s (numAt s 0 4) (numAt s 4 1) (numAt s 5 1) (numAt s 6 2) (numAt s 8 4) (numAt s 12 4) (numAt s 16 8) (s.extract 24 s.size) w hg hs rfl rfl rfl rfl rfl rfl rfl rfl h5 h4
 by_cases h3:numAt s 5 1=1
 case neg=>exact rget_2 z n s (numAt s 0 4) (numAt s 4 1) (numAt s 5 1) (numAt s 6 2) (numAt s 8 4) (numAt s 12 4) (numAt s 16 8) (s.extract 24 s.size) w hg hs rfl rfl rfl rfl rfl rfl rfl rfl h5 h4 h3
 by_cases h2:crcM 0 (List.drop 4 s.data.toList)=numAt s 0 4
 ·rw[blockOk,h5] at h
  have h2':leNat (List.take 4 s.data.toList)=crcM 0 (List.drop 4 s.data.toList):=h2.symm
  simp[h1,h2',h3,h4] at h
 ·exact rget_3 z n s (numAt s 0 4) (numAt s 4 1) (numAt s 5 1) (numAt s 6 2) (numAt s 8 4) (numAt s 12 4) (numAt s 16 8) (s.extract 24 s.size) w hg hs rfl rfl rfl rfl rfl rfl rfl rfl h5 h4 h3 h2

theorem rpages_yes (size:Nat) (s:ByteArray) (w:World) (h:goodSize size=true) (hs:s.size≤maxLen) :
  Calls Tryz.prog 91 #[.int .i64 size,.string s] w fun e w'=>e=.returned (.int .i64 ((s.size/size:Nat):Int))∧w=w':=by
 have hp:=good_pos h
 have h0 : ¬ (size:Int)=0:=by omega
 have hq:wrap64 ((s.size:Int)/(size:Int))=((s.size/size:Nat):Int):=by
  have h1:s.size/size≤s.size:=Nat.div_le_self _ _
  unfold maxLen at hs
  rw[← Int.natCast_ediv]
  generalize s.size/size=q at *
  unfold wrap64
  omega
 go_enter Tryz.func91,Tryz.ntmps91
 go_wp2_with (go_at_call 32;refine (rgood_any _ _).mono ?_;rw[h];rintro e w' ⟨rfl,rfl⟩)
 go_ret
 exact⟨by rw[← hq];rfl,rfl⟩
theorem rat_yes (size n:Nat) (s:ByteArray) (w:World) (hg:goodSize size=true) (hs:s.size≤maxLen) (hn:n<s.size/size) :
  Calls Tryz.prog 61 #[.int .i64 size,.string s,.int .u32 n] w fun e w'=>e=.returned (.tuple #[.string (s.extract (n*size) (n*size+size)),.bool true])∧w=w':=by
 have hp:=good_pos hg
 have HP:=fun w=>rpages_yes size s w hg hs
 obtain⟨q,hq⟩ : ∃ q,q=s.size/size:=⟨_,rfl⟩
 have hb:n*size+size≤s.size:=by
  have h1:(n+1)*size≤s.size/size*size:=Nat.mul_le_mul_right _ hn
  have h2:=Nat.div_mul_le_self s.size size
  rw[Nat.add_mul,Nat.one_mul] at h1
  omega
 have hql:s.size/size≤s.size:=Nat.div_le_self _ _
 rw[← hq] at HP hql hn
 unfold maxLen at hs
 obtain⟨f,hf⟩ : ∃ f,f=n*size:=⟨_,rfl⟩
 rw[← hf] at hb ⊢
 have g1:decide (q≤n)=false:=by simp;omega
 have g2:(0:Int)≤f:=by omega
 have g4:(f:Int)≤((f+size:Nat):Int):=by omega
 have g5:((f+size:Nat):Int)≤s.size:=by omega
 have z1:n<18446744073709551616:=by omega
 have z2:q<18446744073709551616:=by omega
 have z3:n<9223372036854775808:=by omega
 have z4:f<9223372036854775808:=by omega
 have z5:f+size<9223372036854775808:=by omega
 have w3':=wrap64_nat n z3
 have w4:wrap64 ((n:Int)*(size:Int))=(f:Int):=by rw[← Int.natCast_mul,← hf];exact wrap64_nat f z4
 have g3:wrap64 ((f:Int)+(size:Int))=((f+size:Nat):Int):=by rw[← Int.natCast_add];exact wrap64_nat _ z5
 clear hq hf hn hql hs hp hb z1 z2 z3 z4 z5
 go_enter Tryz.func61,Tryz.ntmps61
 go_wp2_with fail
 refine (HP _).mono ?_
 rintro e w' ⟨rfl,rfl⟩
 go_wp2_with fail
 go_ret2
 exact⟨rfl,rfl⟩
theorem rat_no (size n:Nat) (s:ByteArray) (w:World) (hg:goodSize size=true) (hs:s.size≤maxLen) (hn : ¬ n<s.size/size) (hn2:n<4294967296) :
  Calls Tryz.prog 61 #[.int .i64 size,.string s,.int .u32 n] w fun e w'=>e=.returned (.tuple #[.string ⟨#[]⟩,.bool false])∧w=w':=by
 have HP:=fun w=>rpages_yes size s w hg hs
 obtain⟨q,hq⟩ : ∃ q,q=s.size/size:=⟨_,rfl⟩
 have hql:s.size/size≤s.size:=Nat.div_le_self _ _
 rw[← hq] at HP hql hn
 unfold maxLen at hs
 have g1:decide (q≤n)=true:=by simp;omega
 have w1:=u64_nat n (by omega)
 have w2:=u64_nat q (by omega)
 have hnn:n<9223372036854775808:=by omega
 have w1':=wrap64_nat n hnn
 clear hnn
 clear hq hn hql hs hn2
 go_enter Tryz.func61,Tryz.ntmps61
 go_wp2_with fail
 refine (HP _).mono ?_
 rintro e w' ⟨rfl,rfl⟩
 go_wp2_with fail
 go_ret2
 exact⟨rfl,rfl⟩
theorem rread_bad (size:Int) (s:ByteArray) (n:Nat) (w:World) (hg:goodSize size=false) :
  Calls Tryz.prog 30 #[.int .i64 size,.string s,.int .u32 n] w fun e w'=>e=.returned (.tuple #[.agg #[.int .i64 0,.int .i64 0,.int .u32 0,.int .u32 0,.int .u64 0,.string .empty],.int .i64 2])∧Below w.heap.size w w':=by
 obtain⟨hz,hi⟩:=zero_of_info infoPg
 have HI:=Hd hi
 clear hi
 obtain⟨w0,hw0⟩ : ∃ w0,w0=w.alloc (.cells #[.int .i64 0,.int .i64 0,.int .u32 0,.int .u32 0,.int .u64 0,.string .empty] 41):=⟨_,rfl⟩
 have R0:=Hd (show Blk w0 w.heap.size 41 #[.int .i64 0,.int .i64 0,.int .u32 0,.int .u32 0,.int .u64 0,.string .empty] by rw[hw0];exact Blk.new _ _ _)
 have HB0:=Hd (show Below w.heap.size w w0 by rw[hw0];exact (Below.refl _ _).alloc (Nat.le_refl _) _)
 go_enter Tryz.func30,Tryz.ntmps30
 go_wp2_with fail
 rw[← hw0]
 clear hw0
 refine (rgood_is size _ _ hg).mono ?_
 rintro e w' ⟨rfl,rfl⟩
 have k0:=R0.out.cell 0
 have k1:=R0.out.cell 1
 have k2:=R0.out.cell 2
 have k3:=R0.out.cell 3
 have k4:=R0.out.cell 4
 have k5:=R0.out.cell 5
 have f0:=R0.out.frozen 0
 have f1:=R0.out.frozen 1
 have f2:=R0.out.frozen 2
 have f3:=R0.out.frozen 3
 have f4:=R0.out.frozen 4
 have f5:=R0.out.frozen 5
 simp at k0 k1 k2 k3 k4 k5
 go_wp2_with fail
 refine bodyPost_ret (read_row rfl _ _ _ w.heap.size #[.int .i64 0,.int .i64 0,.int .u32 0,.int .u32 0,.int .u64 0,.string .empty] rfl (load_page (six_at R0.out))) rfl ⟨rfl,six_below HB0.out (Nat.le_refl _)⟩
theorem rread_none (size n:Nat) (s:ByteArray) (w:World) (hg:goodSize size=true) (hs:s.size≤maxLen) (hn : ¬ n<s.size/size) (hn2:n<4294967296) :
  Calls Tryz.prog 30 #[.int .i64 size,.string s,.int .u32 n] w fun e w'=>e=.returned (.tuple #[.agg #[.int .i64 0,.int .i64 0,.int .u32 0,.int .u32 0,.int .u64 0,.string .empty],.int .i64 5])∧Below w.heap.size w w':=by
 obtain⟨hz,hi⟩:=zero_of_info infoPg
 have HI:=Hd hi
 clear hi
 obtain⟨w0,hw0⟩ : ∃ w0,w0=w.alloc (.cells #[.int .i64 0,.int .i64 0,.int .u32 0,.int .u32 0,.int .u64 0,.string .empty] 41):=⟨_,rfl⟩
 have R0:=Hd (show Blk w0 w.heap.size 41 #[.int .i64 0,.int .i64 0,.int .u32 0,.int .u32 0,.int .u64 0,.string .empty] by rw[hw0];exact Blk.new _ _ _)
 have HB0:=Hd (show Below w.heap.size w w0 by rw[hw0];exact (Below.refl _ _).alloc (Nat.le_refl _) _)
 have HA:=fun w=>rat_no size n s w hg hs hn hn2
 clear hs hn hn2
 go_enter Tryz.func30,Tryz.ntmps30
 go_wp2_with fail
 rw[← hw0]
 clear hw0
 refine (rgood_is size _ _ hg).mono ?_
 rintro e w' ⟨rfl,rfl⟩
 go_wp2_with fail
 refine (HA _).mono ?_
 rintro e w' ⟨rfl,rfl⟩
 have k0:=R0.out.cell 0
 have k1:=R0.out.cell 1
 have k2:=R0.out.cell 2
 have k3:=R0.out.cell 3
 have k4:=R0.out.cell 4
 have k5:=R0.out.cell 5
 have f0:=R0.out.frozen 0
 have f1:=R0.out.frozen 1
 have f2:=R0.out.frozen 2
 have f3:=R0.out.frozen 3
 have f4:=R0.out.frozen 4
 have f5:=R0.out.frozen 5
 simp at k0 k1 k2 k3 k4 k5
 go_wp2_with fail
 refine bodyPost_ret (read_row rfl _ _ _ w.heap.size #[.int .i64 0,.int .i64 0,.int .u32 0,.int .u32 0,.int .u64 0,.string .empty] rfl (load_page (six_at R0.out))) rfl ⟨rfl,six_below HB0.out (Nat.le_refl _)⟩
theorem rread_get (size n:Nat) (s:ByteArray) (a0 a1:Int) (a2 a3 a4:Nat) (a5:ByteArray) (err:Int) (w:World) (hg:goodSize size=true) (hs:s.size≤maxLen) (hn:n<s.size/size)
  (hget : ∀ w:World,Calls Tryz.prog 62 #[.int .i64 size,.int .u32 n,.string (s.extract (n*size) (n*size+size))] w fun e w'=>e=.returned (.tuple #[.agg #[.int .i64 a0,.int .i64 a1,.int .u32 a2,.int .u32 a3,.int .u64 a4,.string a5],.int .i64 err])∧Below w.heap.size w w') :
  Calls Tryz.prog 30 #[.int .i64 size,.string s,.int .u32 n] w fun e w'=>e=.returned (.tuple #[.agg #[.int .i64 a0,.int .i64 a1,.int .u32 a2,.int .u32 a3,.int .u64 a4,.string a5],.int .i64 err])∧Below w.heap.size w w':=by
 obtain⟨hz,hi⟩:=zero_of_info infoPg
 have HI:=Hd hi
 clear hi
 obtain⟨w0,hw0⟩ : ∃ w0,w0=w.alloc (.cells #[.int .i64 0,.int .i64 0,.int .u32 0,.int .u32 0,.int .u64 0,.string .empty] 41):=⟨_,rfl⟩
 have R0:=Hd (show Blk w0 w.heap.size 41 #[.int .i64 0,.int .i64 0,.int .u32 0,.int .u32 0,.int .u64 0,.string .empty] by rw[hw0];exact Blk.new _ _ _)
 have HB0:=Hd (show Below w.heap.size w w0 by rw[hw0];exact (Below.refl _ _).alloc (Nat.le_refl _) _)
 have HA:=fun w=>rat_yes size n s w hg hs hn
 obtain⟨b,hb⟩ : ∃ b,b=s.extract (n*size) (n*size+size):=⟨_,rfl⟩
 rw[← hb] at HA hget
 clear hb hs hn
 go_enter Tryz.func30,Tryz.ntmps30
 go_wp2_with fail
 rw[← hw0]
 clear hw0
 refine (rgood_is size _ _ hg).mono ?_
 rintro e w' ⟨rfl,rfl⟩
 go_wp2_with fail
 refine (HA _).mono ?_
 rintro e w' ⟨rfl,rfl⟩
 go_wp2_with fail
 refine (hget _).mono ?_
 rintro e w1 ⟨rfl,hb1⟩
 replace HB0:=Hd (HB0.out.trans (hb1.mono HB0.out.size))
 replace R0:=Hd (R0.out.below hb1 R0.out.lt)
 clear hb1
 have k0:=R0.out.cell 0
 have k1:=R0.out.cell 1
 have k2:=R0.out.cell 2
 have k3:=R0.out.cell 3
 have k4:=R0.out.cell 4
 have k5:=R0.out.cell 5
 have f0:=R0.out.frozen 0
 have f1:=R0.out.frozen 1
 have f2:=R0.out.frozen 2
 have f3:=R0.out.frozen 3
 have f4:=R0.out.frozen 4
 have f5:=R0.out.frozen 5
 simp at k0 k1 k2 k3 k4 k5
 go_wp2_with fail
 refine bodyPost_ret (read_row rfl _ _ _ w.heap.size #[.int .i64 a0,.int .i64 a1,.int .u32 a2,.int .u32 a3,.int .u64 a4,.string a5] rfl (load_page (six_at R0.out))) rfl ⟨rfl,six_below HB0.out (Nat.le_refl _)⟩

end Go.Proofs.YtanbbnogdhnikaaGreat

namespace Go.Proofs.YtanbbnogdhnikaaGreat
open Go.RowKit
open Go.Lib hiding intOf

def errAt (size:Int) (s:ByteArray) (n:Nat):Int:=if (readAt size s n).isSome then 0 else if goodSize size then (if n<s.size/size.toNat then 4 else 5) else 2
def pageOf (size:Int) (s:ByteArray) (n:Nat):Pg:=(readAt size s n).getD Pg.zero
theorem errAt_some {size:Int} {s:ByteArray} {n:Nat} {p:Pg} (h:readAt size s n=some p):errAt size s n=0∧pageOf size s n=p:=by unfold errAt pageOf;rw[h];exact⟨rfl,rfl⟩
theorem errAt_none {size:Int} {s:ByteArray} {n:Nat} (h:readAt size s n=none):errAt size s n≠0∧pageOf size s n=Pg.zero:=by
 unfold errAt pageOf
 rw[h]
 refine⟨?_,rfl⟩
 simp only[Option.isSome_none,Bool.false_eq_true,if_false]
 split
 ·split<;>decide
 ·decide
theorem fread_all (size:Int) (s:ByteArray) (n:Nat) (w:World) (hs:s.size≤maxLen) (hn:n<4294967296) :
  Calls Tryz.prog 98 #[.int .i64 size,.string s,.int .u32 n] w fun e w'=>e=.returned (.tuple #[(pageOf size s n).agg,.int .i64 (errAt size s n)])∧Below w.heap.size w w':=by
 rcases hg:goodSize size with _ | _
 ·have hr:=readAt_bad (s:=s) (n:=n) hg
  rw[(errAt_none hr).2,show errAt size s n=2 by unfold errAt;rw[hr,hg];rfl]
  exact (fread_bad size s n w hg).mono fun e w' h=>⟨h.1,(by first | exact h.2 | (rw[h.2];exact Below.refl _ _) | (rw[← h.2];exact Below.refl _ _))⟩
 obtain⟨q,rfl,_,_,_⟩:=good_nat hg
 have hq:(q:Int).toNat=q:=by omega
 by_cases h2:n<s.size/q
 rotate_left
 ·have hr:readAt q s n=none:=by unfold readAt;rw[hq,decide_eq_false h2];simp
  rw[(errAt_none hr).2,show errAt q s n=5 by unfold errAt;rw[hr,hg,hq,if_neg (by simp),if_pos rfl,if_neg h2]]
  exact (fread_none q n s w hg hs h2 hn).mono fun e w' h=>⟨h.1,(by first | exact h.2 | (rw[h.2];exact Below.refl _ _) | (rw[← h.2];exact Below.refl _ _))⟩
 obtain⟨B,hB⟩ : ∃ B,B=blkOf q s n:=⟨_,rfl⟩
 rcases h3:blockOk q n B with _ | _
 ·have hr:readAt q s n=none:=by unfold readAt;rw[hq,← hB,h3];simp
  rw[(errAt_none hr).2,show errAt q s n=4 by unfold errAt;rw[hr,hg,hq,if_neg (by simp),if_pos rfl,if_pos h2]]
  have:=fread_get q n s 0 0 0 0 0 ByteArray.empty 4 w hg hs h2 fun w=>(by
   rw[show s.extract (n*q) (n*q+q)=B from hB.symm]
   exact get_wrong q n B w hg h3)
  exact this
 ·have hr:readAt q s n=some ⟨numAt B 4 1,numAt B 6 2,numAt B 8 4,numAt B 12 4,numAt B 16 8,B.extract 24 B.size⟩:=by unfold readAt;rw[hq,← hB,h3,hg,decide_eq_true h2];rfl
  rw[(errAt_some hr).1,(errAt_some hr).2]
  have:=fread_get q n s (numAt B 4 1) (numAt B 6 2) (numAt B 8 4) (numAt B 12 4) (numAt B 16 8) (B.extract 24 B.size) 0 w hg hs h2 fun w=>(by
   rw[show s.extract (n*q) (n*q+q)=B from hB.symm]
   exact get_right q n B w h3)
  exact this
theorem rread_all (size:Int) (s:ByteArray) (n:Nat) (w:World) (hs:s.size≤maxLen) (hn:n<4294967296) :
  Calls Tryz.prog 30 #[.int .i64 size,.string s,.int .u32 n] w fun e w'=>e=.returned (.tuple #[(pageOf size s n).agg,.int .i64 (errAt size s n)])∧Below w.heap.size w w':=by
 rcases hg:goodSize size with _ | _
 ·have hr:=readAt_bad (s:=s) (n:=n) hg
  rw[(errAt_none hr).2,show errAt size s n=2 by unfold errAt;rw[hr,hg];rfl]
  exact (rread_bad size s n w hg).mono fun e w' h=>⟨h.1,(by first | exact h.2 | (rw[h.2];exact Below.refl _ _) | (rw[← h.2];exact Below.refl _ _))⟩
 obtain⟨q,rfl,_,_,_⟩:=good_nat hg
 have hq:(q:Int).toNat=q:=by omega
 by_cases h2:n<s.size/q
 rotate_left
 ·have hr:readAt q s n=none:=by unfold readAt;rw[hq,decide_eq_false h2];simp
  rw[(errAt_none hr).2,show errAt q s n=5 by unfold errAt;rw[hr,hg,hq,if_neg (by simp),if_pos rfl,if_neg h2]]
  exact (rread_none q n s w hg hs h2 hn).mono fun e w' h=>⟨h.1,(by first | exact h.2 | (rw[h.2];exact Below.refl _ _) | (rw[← h.2];exact Below.refl _ _))⟩
 obtain⟨B,hB⟩ : ∃ B,B=blkOf q s n:=⟨_,rfl⟩
 rcases h3:blockOk q n B with _ | _
 ·have hr:readAt q s n=none:=by unfold readAt;rw[hq,← hB,h3];simp
  rw[(errAt_none hr).2,show errAt q s n=4 by unfold errAt;rw[hr,hg,hq,if_neg (by simp),if_pos rfl,if_pos h2]]
  have:=rread_get q n s 0 0 0 0 0 ByteArray.empty 4 w hg hs h2 fun w=>(by
   rw[show s.extract (n*q) (n*q+q)=B from hB.symm]
   exact rget_wrong q n B w hg h3)
  exact this
 ·have hr:readAt q s n=some ⟨numAt B 4 1,numAt B 6 2,numAt B 8 4,numAt B 12 4,numAt B 16 8,B.extract 24 B.size⟩:=by unfold readAt;rw[hq,← hB,h3,hg,decide_eq_true h2];rfl
  rw[(errAt_some hr).1,(errAt_some hr).2]
  have:=rread_get q n s (numAt B 4 1) (numAt B 6 2) (numAt B 8 4) (numAt B 12 4) (numAt B 16 8) (B.extract 24 B.size) 0 w hg hs h2 fun w=>(by
   rw[show s.extract (n*q) (n*q+q)=B from hB.symm]
   exact rget_right q n B w h3)
  exact this
end Go.Proofs.YtanbbnogdhnikaaGreat

