/-
  Texts that the main proof rests on, put together: LeRead, LeItem. No statement is proved here.
-/
import Derived.Test.YtanbbnogdhnikaaGreatJ29
set_option linter.unusedVariables false
set_option linter.unusedSimpArgs false
set_option maxRecDepth 300000
set_option maxHeartbeats 25600000
namespace Go.Proofs.YtanbbnogdhnikaaGreat
open Go.RowKit
open Go.Lib hiding intOf
attribute [local go_sem ↓] Go.wp_at_zero Go.wp_at_succ

theorem gr_below {w w':World} {r:Option Nat} (h:Below w.heap.size w w'):w.grownBy w' r:=⟨h.os,h.tape,h.output,h.size,fun k hk _=>h.block k hk⟩
theorem gr_own {a b c:World} {r r':Option Nat} (h1:a.grownBy b r) (h2:b.grownBy c r') (h : ∀ k,r'=some k→a.heap.size≤k):a.grownBy c r :=
 ⟨h2.os.trans h1.os,h2.tape.trans h1.tape,h2.output.trans h1.output,Nat.le_trans h1.size h2.size,fun k hk hne=>(h2.block k (Nat.lt_of_lt_of_le hk h1.size) (fun he=>by have:=h k he.symm;omega)).trans (h1.block k hk hne)⟩
theorem lby_tot {w:World} {g:Nat} {t:ByteArray} (h:IsRd w g t) (k:Nat) :
  Calls Tryz.prog 162 #[.pointer (some ⟨g,0,none⟩),.int .i64 k] w fun e w'=>∃ (v:ByteArray) (x:Int) (t':ByteArray),e=.returned (.tuple #[.string v,.int .i64 x])∧IsRd w' g t'∧w.grownBy w' (some g)∧tookB k t v x t'∧v.size≤t.size:=by
 by_cases hk:k≤t.size
 ·refine (bytes_ok' h k hk).mono ?_
  rintro e w' ⟨rfl,hr,hg⟩
  exact⟨_,_,_,rfl,hr,hg,.inl ⟨hk,rfl,rfl,rfl⟩,by rw[ByteArray.size_extract];omega⟩
 ·refine (bytes_more h k (by omega)).mono ?_
  rintro e w' ⟨rfl,rfl⟩
  exact⟨_,_,t,rfl,h,World.grownBy.refl _ _,.inr ⟨by omega,rfl,rfl⟩,Nat.zero_le _⟩
theorem infoItz:(Tryz.prog.info? 76).map (fun i=>(i.zero,i.size))=some (some (.agg #[.string .empty,.string .empty,.bool false,.int .i64 0,.int .u32 0]),5):=by kernel_rfl
theorem load_it {w:World} {g:Nat} {a0 a1 a2 a3 a4:Value} (h:Blk w g 76 #[a0,a1,a2,a3,a4]):(loadVar 76 ⟨g,0,none⟩).run Tryz.prog w=.ok (.agg #[a0,a1,a2,a3,a4]) w:=by
 obtain⟨hz,hi⟩:=zero_of_info infoItz
 exact run_loadVar_row w g 76 76 #[a0,a1,a2,a3,a4] (0,0) _ h Tryz.underlying76 rfl hi
theorem five_at {w:World} {b:Nat} {t:TypeId} {z0 z1 z2 z3 z4 a0 a1 a2 a3 a4:Value} (h:Blk w b t #[z0,z1,z2,z3,z4]):Blk (((((w.setCell ⟨b,0,none⟩ a0).setCell ⟨b,1,none⟩ a1).setCell ⟨b,2,none⟩ a2).setCell ⟨b,3,none⟩ a3).setCell ⟨b,4,none⟩ a4) b t #[a0,a1,a2,a3,a4] :=
 ((((h.set_ 0 a0).set_ 1 a1).set_ 2 a2).set_ 3 a3).set_ 4 a4
theorem five_far {w:World} {g b:Nat} {t:TypeId} {cs:Array Value} {a0 a1 a2 a3 a4:Value} (h:Blk w g t cs) (hne:g≠b):Blk (((((w.setCell ⟨b,0,none⟩ a0).setCell ⟨b,1,none⟩ a1).setCell ⟨b,2,none⟩ a2).setCell ⟨b,3,none⟩ a3).setCell ⟨b,4,none⟩ a4) g t cs :=
 ((((h.far (p:=⟨b,0,none⟩) hne a0).far (p:=⟨b,1,none⟩) hne a1).far (p:=⟨b,2,none⟩) hne a2).far (p:=⟨b,3,none⟩) hne a3).far (p:=⟨b,4,none⟩) hne a4
theorem five_grown {w0 w:World} {r:Option Nat} {b:Nat} {a0 a1 a2 a3 a4:Value} (h:w0.grownBy w r) (hb:w0.heap.size≤b):w0.grownBy (((((w.setCell ⟨b,0,none⟩ a0).setCell ⟨b,1,none⟩ a1).setCell ⟨b,2,none⟩ a2).setCell ⟨b,3,none⟩ a3).setCell ⟨b,4,none⟩ a4) r :=
 grown_cell (grown_cell (grown_cell (grown_cell (grown_cell h (p:=⟨b,0,none⟩) hb a0) (p:=⟨b,1,none⟩) hb a1) (p:=⟨b,2,none⟩) hb a2) (p:=⟨b,3,none⟩) hb a3) (p:=⟨b,4,none⟩) hb a4
theorem ltext_raw {w:World} {g:Nat} {s:ByteArray} (h:IsRd w g s) (hs:s.size≤100000) :
  Calls Tryz.prog 140 #[.agg #[.pointer (some ⟨g,0,none⟩)]] w fun e w'=>∃ (n:Nat) (x1 x2:Int) (t1 v t2:ByteArray),e=.returned (.tuple #[.string v,.int .i64 (orL [x1,x2])])∧IsRd w' g t2∧w.grownBy w' (some g)∧tookN 1 s n x1 t1∧tookB n t1 v x2 t2:=by
 obtain⟨w0,hw0⟩ : ∃ x,x=w.alloc (.cells #[.pointer (some ⟨g,0,none⟩)] 197):=⟨_,rfl⟩
 have Bx:=Hd (show Blk w0 w.heap.size 197 #[.pointer (some ⟨g,0,none⟩)] by rw[hw0];exact Blk.new _ _ _)
 have F:=Hd (show IsRd w0 g s by rw[hw0];exact Blk.alloc h _)
 have G:=Hd (show w.grownBy w0 (some g) by rw[hw0];exact World.grownBy_alloc _ _ _)
 have HNE:=Hd (show w.heap.size≠g by have:=Blk.lt h;omega)
 have Hs:=Hd hs
 clear h hs
 go_enter Tryz.func140,Tryz.ntmps140
 go_upto_region 1 with fail
 rw[← hw0]
 clear hw0
 have b0:=Bx.out.cell 0
 simp at b0
 go_wp2_with fail
 refine (cnum_tot F.out 1 (by decide) (by decide)).mono ?_
 rintro e w1 ⟨n,x1,t1,rfl,hf,hg,hv,hx⟩
 replace Bx:=Hd (Blk.grown Bx.out hg (fun e=>HNE.out (by injection e)))
 replace F:=Hd hf
 replace G:=Hd (grown_trans G.out hg)
 have X1:=Hd hx
 have hv':n<256:=hv
 clear hf hg hx hv b0
 have hwv:IntKind.i64.wrap (n:Int)=(n:Int):=by rw[IntKind.wrap_i64];omega
 have b0:=Bx.out.cell 0
 simp at b0
 go_wp2_with fail
 refine (lby_tot F.out n).mono ?_
 rintro e w2 ⟨v,x2,t2,rfl,hf,hg,hx,hvs⟩
 replace F:=Hd hf
 replace G:=Hd (grown_trans G.out hg)
 have X2:=Hd hx
 have hv2:v.size≤281474976710656:=by
  have h1:=tookN_le X1.out
  have h2:=Hs.out
  omega
 clear hf hg hx hwv hv' b0 hvs
 go_wp2_with fail
 refine (sclone_any v _ hv2).mono ?_
 rintro e w3 ⟨rfl,hb⟩
 replace F:=Hd (show IsRd w3 g t2 from Blk.below F.out hb (Blk.lt F.out))
 replace G:=Hd (grown_trans G.out (gr_below hb))
 clear hb hv2
 have E:=Hd (show Reads (w3.alloc (.cells #[.int .i64 x1,.int .i64 x2] 28)) (w3.alloc (.cells #[.int .i64 x1,.int .i64 x2] 28)).heap.size 1 (some ⟨w3.heap.size,0,none⟩) 2 (ecells [x1,x2]) from (reads_own (n:=2) (Blk.new w3 28 #[.int .i64 x1,.int .i64 x2]) rfl).more (by simp))
 replace F:=Hd (show IsRd (w3.alloc (.cells #[.int .i64 x1,.int .i64 x2] 28)) g t2 from Blk.alloc F.out _)
 replace G:=Hd (grown_trans G.out (World.grownBy_alloc w3 (.cells #[.int .i64 x1,.int .i64 x2] 28) _))
 go_wp2_with fail
 refine (cor_any _ 2 2 [x1,x2] _ E.out (by decide)).mono ?_
 rintro e wq ⟨rfl,rfl⟩
 go_wp2_with fail
 go_ret2
 exact⟨n,x1,x2,t1,v,t2,rfl,F.out,G.out,X1.out,X2.out⟩
theorem lplace_raw {w:World} {g:Nat} {s:ByteArray} (h:IsRd w g s) (hs:s.size≤100000) (ky:ByteArray) :
  Calls Tryz.prog 141 #[.agg #[.pointer (some ⟨g,0,none⟩)],.string ky] w fun e w'=>∃ (n:Nat) (x1 x2:Int) (t1 v t2:ByteArray),e=.returned (.tuple #[.agg #[.string ky,.string v,.bool false,.int .i64 0,.int .u32 0],.int .i64 (orL [x1,x2])])∧IsRd w' g t2∧w.grownBy w' (some g)∧tookN 1 s n x1 t1∧tookB n t1 v x2 t2:=by
 obtain⟨hz,hi⟩:=zero_of_info infoItz
 have HI:=Hd hi
 clear hi
 obtain⟨w0,hw0⟩ : ∃ x,x=(w.alloc (.cells #[.pointer (some ⟨g,0,none⟩)] 197)).alloc (.cells #[.string .empty,.string .empty,.bool false,.int .i64 0,.int .u32 0] 76):=⟨_,rfl⟩
 have Bx:=Hd (show Blk w0 w.heap.size 197 #[.pointer (some ⟨g,0,none⟩)] by rw[hw0];exact (Blk.new _ _ _).alloc _)
 have R0:=Hd (show Blk w0 (w.heap.size+1) 76 #[.string .empty,.string .empty,.bool false,.int .i64 0,.int .u32 0] by
  rw[hw0]
  have:=Blk.new (w.alloc (.cells #[.pointer (some ⟨g,0,none⟩)] 197)) 76 #[.string .empty,.string .empty,.bool false,.int .i64 0,.int .u32 0]
  simpa using this)
 have F:=Hd (show IsRd w0 g s by rw[hw0];exact Blk.alloc (Blk.alloc h _) _)
 have G:=Hd (show w.grownBy w0 (some g) by rw[hw0];exact grown_trans (World.grownBy_alloc _ _ _) (World.grownBy_alloc _ _ _))
 have HNE:=Hd (show w.heap.size+1≠g by have:=Blk.lt h;omega)
 clear h
 go_enter Tryz.func141,Tryz.ntmps141
 go_upto_region 1 with fail
 rw[← hw0]
 clear hw0
 have b0:=Bx.out.cell 0
 simp at b0
 go_wp2_with fail
 refine (ltext_raw F.out hs).mono ?_
 rintro e w1 ⟨n,x1,x2,t1,v,t2,rfl,hf,hg,h1,h2⟩
 replace R0:=Hd (Blk.grown R0.out hg (fun e=>HNE.out (by injection e)))
 replace F:=Hd hf
 replace G:=Hd (grown_trans G.out hg)
 have X1:=Hd h1
 have X2:=Hd h2
 clear hf hg h1 h2 b0
 have k0:=R0.out.cell 0
 have k1:=R0.out.cell 1
 have k2:=R0.out.cell 2
 have k3:=R0.out.cell 3
 have k4:=R0.out.cell 4
 have f0:=R0.out.frozen 0
 have f1:=R0.out.frozen 1
 have f2:=R0.out.frozen 2
 have f3:=R0.out.frozen 3
 have f4:=R0.out.frozen 4
 simp at k0 k1 k2 k3 k4
 go_wp2_with fail
 exact bodyPost_ret (read_row rfl _ _ _ (w.heap.size+1) #[.string ky,.string v,.bool false,.int .i64 0,.int .u32 0] rfl (load_it (five_at R0.out))) rfl ⟨n,x1,x2,t1,v,t2,rfl,five_far F.out (Ne.symm HNE.out),five_grown G.out (Nat.le_succ _),X1.out,X2.out⟩
theorem lover_raw {w:World} {g:Nat} {s:ByteArray} (h:IsRd w g s) (ky:ByteArray) :
  Calls Tryz.prog 142 #[.agg #[.pointer (some ⟨g,0,none⟩)],.string ky] w fun e w'=>∃ (v3 v4:Nat) (x3 x4:Int) (t3 t4:ByteArray),e=.returned (.tuple #[.agg #[.string ky,.string .empty,.bool true,.int .i64 v3,.int .u32 v4],.int .i64 (orL [x3,x4])])∧IsRd w' g t4∧w.grownBy w' (some g)∧tookN 4 s v3 x3 t3∧tookN 4 t3 v4 x4 t4:=by
 obtain⟨hz,hi⟩:=zero_of_info infoItz
 have HI:=Hd hi
 clear hi
 obtain⟨w0,hw0⟩ : ∃ x,x=(w.alloc (.cells #[.pointer (some ⟨g,0,none⟩)] 197)).alloc (.cells #[.string .empty,.string .empty,.bool false,.int .i64 0,.int .u32 0] 76):=⟨_,rfl⟩
 have Bx:=Hd (show Blk w0 w.heap.size 197 #[.pointer (some ⟨g,0,none⟩)] by rw[hw0];exact (Blk.new _ _ _).alloc _)
 have R0:=Hd (show Blk w0 (w.heap.size+1) 76 #[.string .empty,.string .empty,.bool false,.int .i64 0,.int .u32 0] by
  rw[hw0]
  have:=Blk.new (w.alloc (.cells #[.pointer (some ⟨g,0,none⟩)] 197)) 76 #[.string .empty,.string .empty,.bool false,.int .i64 0,.int .u32 0]
  simpa using this)
 have F:=Hd (show IsRd w0 g s by rw[hw0];exact Blk.alloc (Blk.alloc h _) _)
 have G:=Hd (show w.grownBy w0 (some g) by rw[hw0];exact grown_trans (World.grownBy_alloc _ _ _) (World.grownBy_alloc _ _ _))
 have HNE:=Hd (show w.heap.size+1≠g by have:=Blk.lt h;omega)
 have HNF:=Hd (show w.heap.size≠g by have:=Blk.lt h;omega)
 clear h
 go_enter Tryz.func142,Tryz.ntmps142
 go_upto_region 1 with fail
 rw[← hw0]
 clear hw0
 have b0:=Bx.out.cell 0
 simp at b0
 go_wp2_with fail
 refine (cnum_tot F.out 4 (by decide) (by decide)).mono ?_
 rintro e w1 ⟨v3,x3,t3,rfl,hf,hg,hv,hx⟩
 replace Bx:=Hd (Blk.grown Bx.out hg (fun e=>HNF.out (by injection e)))
 replace R0:=Hd (Blk.grown R0.out hg (fun e=>HNE.out (by injection e)))
 replace F:=Hd hf
 replace G:=Hd (grown_trans G.out hg)
 have X3:=Hd hx
 have hv3':v3<4294967296:=hv
 clear hf hg hx hv b0
 have b0:=Bx.out.cell 0
 simp at b0
 go_wp2_with fail
 refine (cnum_tot F.out 4 (by decide) (by decide)).mono ?_
 rintro e w2 ⟨v4,x4,t4,rfl,hf,hg,hv,hx⟩
 replace R0:=Hd (Blk.grown R0.out hg (fun e=>HNE.out (by injection e)))
 replace F:=Hd hf
 replace G:=Hd (grown_trans G.out hg)
 have X4:=Hd hx
 have hv4':v4<4294967296:=hv
 clear hf hg hx hv b0
 have hw3:IntKind.i64.wrap (v3:Int)=(v3:Int):=by rw[IntKind.wrap_i64];omega
 have hw4:IntKind.u32.wrap (v4:Int)=(v4:Int):=by rw[IntKind.wrap_u32];omega
 have E:=Hd (show Reads (w2.alloc (.cells #[.int .i64 x3,.int .i64 x4] 28)) (w2.alloc (.cells #[.int .i64 x3,.int .i64 x4] 28)).heap.size 1 (some ⟨w2.heap.size,0,none⟩) 2 (ecells [x3,x4]) from (reads_own (n:=2) (Blk.new w2 28 #[.int .i64 x3,.int .i64 x4]) rfl).more (by simp))
 replace R0:=Hd (R0.out.alloc (.cells #[.int .i64 x3,.int .i64 x4] 28))
 replace F:=Hd (show IsRd (w2.alloc (.cells #[.int .i64 x3,.int .i64 x4] 28)) g t4 from Blk.alloc F.out _)
 replace G:=Hd (grown_trans G.out (World.grownBy_alloc w2 (.cells #[.int .i64 x3,.int .i64 x4] 28) _))
 go_wp2_with fail
 refine (cor_any _ 2 2 [x3,x4] _ E.out (by decide)).mono ?_
 rintro e wq ⟨rfl,rfl⟩
 have k0:=R0.out.cell 0
 have k1:=R0.out.cell 1
 have k2:=R0.out.cell 2
 have k3:=R0.out.cell 3
 have k4:=R0.out.cell 4
 have f0:=R0.out.frozen 0
 have f1:=R0.out.frozen 1
 have f2:=R0.out.frozen 2
 have f3:=R0.out.frozen 3
 have f4:=R0.out.frozen 4
 simp at k0 k1 k2 k3 k4
 clear hw3 hw4 hv3' hv4'
 go_wp2_with fail
 exact bodyPost_ret (read_row rfl _ _ _ (w.heap.size+1) #[.string ky,.string .empty,.bool true,.int .i64 v3,.int .u32 v4] rfl (load_it (five_at R0.out))) rfl ⟨v3,v4,x3,x4,t3,t4,rfl,five_far F.out (Ne.symm HNE.out),five_grown G.out (Nat.le_succ _),X3.out,X4.out⟩
theorem blk5 {w:World} {g:Nat} {t:TypeId} {a0 a1 a2 a3 a4:Value} (h:Blk w g t #[a0,a1,a2,a3,a4]):w.cell? ⟨g,0,none⟩=some a0∧w.cell? ⟨g,1,none⟩=some a1∧w.cell? ⟨g,2,none⟩=some a2∧w.cell? ⟨g,3,none⟩=some a3∧w.cell? ⟨g,4,none⟩=some a4:=⟨h.cell 0,h.cell 1,h.cell 2,h.cell 3,h.cell 4⟩
theorem lread_item {w:World} {g:Nat} {s:ByteArray} (h:IsRd w g s) (hs:s.size≤100000) :
  Calls Tryz.prog 124 #[.agg #[.pointer (some ⟨g,0,none⟩)]] w fun e w'=>∃ (b:It) (x:Int) (s':ByteArray),e=.returned (.tuple #[.agg #[.string b.ky,.string b.vl,.bool b.ov,.int .i64 b.ln,.int .u32 b.hd],.int .i64 x])∧IsRd w' g s'∧w.grownBy w' (some g)∧itemOk s b x s':=by
 have hmf : ∀ (fn:Fn) (first cap:Array Value) (w:World),(Instr.makeFunc fn first cap).run Tryz.prog w=.ok (.func fn first cap) w:=fun _ _ _ _=>rfl
 have eg1 : ∀ args w,(callFunc 141 args).run Tryz.prog w=.ok (.enter 141 args) w:=fun _ _=>by first | rfl | kernel_rfl
 have eg2 : ∀ args w,(callFunc 142 args).run Tryz.prog w=.ok (.enter 142 args) w:=fun _ _=>by first | rfl | kernel_rfl
 obtain⟨hz,hi⟩:=zero_of_info infoItz
 have HI:=Hd hi
 clear hi
 obtain⟨w0,hw0⟩ : ∃ x,x=(w.alloc (.cells #[.pointer (some ⟨g,0,none⟩)] 197)).alloc (.cells #[.string .empty,.string .empty,.bool false,.int .i64 0,.int .u32 0] 76):=⟨_,rfl⟩
 have Bx:=Hd (show Blk w0 w.heap.size 197 #[.pointer (some ⟨g,0,none⟩)] by rw[hw0];exact (Blk.new _ _ _).alloc _)
 have R0:=Hd (show Blk w0 (w.heap.size+1) 76 #[.string .empty,.string .empty,.bool false,.int .i64 0,.int .u32 0] by
  rw[hw0]
  have:=Blk.new (w.alloc (.cells #[.pointer (some ⟨g,0,none⟩)] 197)) 76 #[.string .empty,.string .empty,.bool false,.int .i64 0,.int .u32 0]
  simpa using this)
 have F:=Hd (show IsRd w0 g s by rw[hw0];exact Blk.alloc (Blk.alloc h _) _)
 have G:=Hd (show w.grownBy w0 (some g) by rw[hw0];exact grown_trans (World.grownBy_alloc _ _ _) (World.grownBy_alloc _ _ _))
 have HNE:=Hd (show w.heap.size+1≠g by have:=Blk.lt h;omega)
 have HNF:=Hd (show w.heap.size≠g by have:=Blk.lt h;omega)
 have Hs:=Hd hs
 clear h hs
 go_enter Tryz.func124,Tryz.ntmps124
 go_upto_region 1 with fail
 rw[← hw0]
 clear hw0
 have b0:=Bx.out.cell 0
 simp at b0
 go_wp2_with fail
 refine (cnum_tot F.out 1 (by decide) (by decide)).mono ?_
 rintro e w1 ⟨vo,x0,t0,rfl,hf,hg,hv,hx⟩
 replace Bx:=Hd (Blk.grown Bx.out hg (fun e=>HNF.out (by injection e)))
 replace R0:=Hd (Blk.grown R0.out hg (fun e=>HNE.out (by injection e)))
 replace F:=Hd hf
 replace G:=Hd (grown_trans G.out hg)
 have X0:=Hd hx
 have ht0:t0.size≤100000:=Nat.le_trans (tookN_le hx) Hs.out
 clear hf hg hx hv b0
 have b0:=Bx.out.cell 0
 simp at b0
 go_wp2_with fail
 refine (ltext_raw F.out ht0).mono ?_
 rintro e w2 ⟨vn,x1,x2,t1,ky,t2,rfl,hf,hg,h1,h2⟩
 replace Bx:=Hd (Blk.grown Bx.out hg (fun e=>HNF.out (by injection e)))
 replace R0:=Hd (Blk.grown R0.out hg (fun e=>HNE.out (by injection e)))
 replace F:=Hd hf
 replace G:=Hd (grown_trans G.out hg)
 have X1:=Hd h1
 have X2:=Hd h2
 have HT2:=Hd (show t2.size≤100000 from Nat.le_trans (tookB_le h2) (Nat.le_trans (tookN_le h1) ht0))
 clear hf hg h1 h2 b0 ht0
 have b0:=Bx.out.cell 0
 simp at b0
 obtain⟨y1,hy1⟩ : ∃ y,y=orL [x1,x2]:=⟨_,rfl⟩
 rw[← hy1]
 have HY1:=Hd hy1
 clear hy1
 by_cases hvo:vo=1
 ·subst hvo
  go_wp2_with fail
  refine (lover_raw F.out ky).mono ?_
  rintro e w3 ⟨v3,v4,x3,x4,t3,t4,rfl,hf,hg,h3,h4⟩
  have HOK:=Hd (item_ov X0.out X1.out X2.out h3 h4)
  replace R0:=Hd (Blk.grown R0.out hg (fun e=>HNE.out (by injection e)))
  replace F:=Hd hf
  replace G:=Hd (grown_trans G.out hg)
  clear hf hg h3 h4 b0
  obtain⟨y2,hy2⟩ : ∃ y,y=orL [x3,x4]:=⟨_,rfl⟩
  rw[← HY1.out,← hy2] at HOK
  rw[← hy2]
  clear hy2
  go_upto_region 7 with fail
  obtain⟨w5,hw5⟩ : ∃ x,x=w3.alloc (.cells #[.string ky,.string .empty,.bool true,.int .i64 v3,.int .u32 v4] 76):=⟨_,rfl⟩
  have Bb:=Hd (show Blk w5 w3.heap.size 76 #[.string ky,.string .empty,.bool true,.int .i64 v3,.int .u32 v4] by rw[hw5];exact Blk.new _ _ _)
  have HLT:=Hd (show w.heap.size+1<w3.heap.size from R0.out.lt)
  replace R0:=Hd (show Blk w5 (w.heap.size+1) 76 #[.string .empty,.string .empty,.bool false,.int .i64 0,.int .u32 0] by rw[hw5];exact R0.out.alloc _)
  replace F:=Hd (show IsRd w5 g t4 by rw[hw5];exact Blk.alloc F.out _)
  replace G:=Hd (show w.grownBy w5 (some g) by rw[hw5];exact grown_trans G.out (World.grownBy_alloc _ _ _))
  rw[← hw5]
  clear hw5
  generalize w3.heap.size=gB at *
  refine wp_region_held_drew (S:=(fun w'=>w'.cell? ⟨gB,0,none⟩=some (.string ky)∧w'.cell? ⟨gB,1,none⟩=some (.string .empty)∧w'.cell? ⟨gB,2,none⟩=some (.bool true)∧w'.cell? ⟨gB,3,none⟩=some (.int .i64 v3)∧w'.cell? ⟨gB,4,none⟩=some (.int .u32 v4))) (by kernel_rfl) (blk5 Bb.out) (fun hHeld=>?_)
  refine tkA (i:=0) ?_
  try simp only[tkP]
  refine tkA (i:=1) ?_
  try simp only[tkP]
  refine tkA (i:=2) ?_
  try simp only[tkP]
  refine tkA (i:=3) ?_
  try simp only[tkP]
  refine wpAnyH_ready (rs:=[4]) (by kernel_rfl) (by simp) ?_
  refine tkC (fun K hK=>?_)
  go_simp
  refine hK.out _ _ (blk5 (Bb.out.alloc _)) (fun hHeld=>?_)
  clear hK K
  try simp only[tkP]
  have E:=Hd (show Reads (w5.alloc (.cells #[.int .i64 x0,.int .i64 y1,.int .i64 y2] 28)).drew (w5.heap.size+1) 1 (some ⟨w5.heap.size,0,none⟩) 3 (ecells [x0,y1,y2]) from (reads_own (n:=3) (Blk.new w5 28 #[.int .i64 x0,.int .i64 y1,.int .i64 y2]) rfl).drew)
  replace E:=Hd (show Reads (w5.alloc (.cells #[.int .i64 x0,.int .i64 y1,.int .i64 y2] 28)).drew (w5.alloc (.cells #[.int .i64 x0,.int .i64 y1,.int .i64 y2] 28)).drew.heap.size 1 (some ⟨w5.heap.size,0,none⟩) 3 (ecells [x0,y1,y2]) from E.out.more (by simp))
  replace Bb:=Hd ((Bb.out.alloc (.cells #[.int .i64 x0,.int .i64 y1,.int .i64 y2] 28)).drew)
  replace R0:=Hd ((R0.out.alloc (.cells #[.int .i64 x0,.int .i64 y1,.int .i64 y2] 28)).drew)
  replace F:=Hd (show IsRd (w5.alloc (.cells #[.int .i64 x0,.int .i64 y1,.int .i64 y2] 28)).drew g t4 from Blk.alloc F.out _)
  replace G:=Hd (grown_trans (grown_trans G.out (World.grownBy_alloc w5 (.cells #[.int .i64 x0,.int .i64 y1,.int .i64 y2] 28) _)) (grown_drew _ _))
  generalize (w5.alloc (.cells #[.int .i64 x0,.int .i64 y1,.int .i64 y2] 28)).drew=w6 at *
  refine wpAnyH_ready (rs:=[5]) (by kernel_rfl) (by simp) ?_
  refine tkC (fun K hK=>?_)
  go_simp
  refine (cor_any _ 3 3 [x0,y1,y2] _ E.out (by decide)).mono ?_
  rintro e wq ⟨rfl,rfl⟩
  refine hK.out _ _ (blk5 Bb.out) (fun hHeld=>?_)
  clear hK K
  try simp only[tkP]
  refine wpAnyH_ready (rs:=[6]) (by kernel_rfl) (by simp) ?_
  refine tkC (fun K hK=>?_)
  have k0:=R0.out.cell 0
  have k1:=R0.out.cell 1
  have k2:=R0.out.cell 2
  have k3:=R0.out.cell 3
  have k4:=R0.out.cell 4
  have f0:=R0.out.frozen 0
  have f1:=R0.out.frozen 1
  have f2:=R0.out.frozen 2
  have f3:=R0.out.frozen 3
  have f4:=R0.out.frozen 4
  simp at k0 k1 k2 k3 k4
  go_simp
  refine hK.out _ _ (blk5 (((((Bb.out.far (p:=⟨w.heap.size+1,0,none⟩) (Nat.ne_of_gt HLT.out) _).far (p:=⟨w.heap.size+1,1,none⟩) (Nat.ne_of_gt HLT.out) _).far (p:=⟨w.heap.size+1,2,none⟩) (Nat.ne_of_gt HLT.out) _).far (p:=⟨w.heap.size+1,3,none⟩) (Nat.ne_of_gt HLT.out) _).far (p:=⟨w.heap.size+1,4,none⟩) (Nat.ne_of_gt HLT.out) _)) (fun hHeld=>?_)
  clear hK K
  try simp only[tkP]
  refine tkA (i:=7) ?_
  try simp only[tkP]
  refine wpAnyH_done (by kernel_rfl) ?_ _
  go_wp2_with fail
  exact bodyPost_ret (read_row rfl _ _ _ (w.heap.size+1) #[.string ky,.string .empty,.bool true,.int .i64 v3,.int .u32 v4] rfl (load_it (five_at R0.out))) rfl ⟨⟨ky,⟨#[]⟩,true,(v3:Nat),v4⟩,orL [x0,y1,y2],t4,rfl,five_far F.out (Ne.symm HNE.out),five_grown G.out (Nat.le_succ _),HOK.out⟩
 ·have hvo1:((vo:Int)==1)=false:=by simp;omega
  have hvo2:(vo==1)=false:=by simp;omega
  go_wp2_with fail
  refine (lplace_raw F.out HT2.out ky).mono ?_
  rintro e w3 ⟨v3,x3,x4,t3,vl,t4,rfl,hf,hg,h3,h4⟩
  have HOK:=Hd (item_in hvo X0.out X1.out X2.out h3 h4)
  clear hvo1 hvo2
  replace R0:=Hd (Blk.grown R0.out hg (fun e=>HNE.out (by injection e)))
  replace F:=Hd hf
  replace G:=Hd (grown_trans G.out hg)
  clear hf hg h3 h4 b0
  obtain⟨y2,hy2⟩ : ∃ y,y=orL [x3,x4]:=⟨_,rfl⟩
  rw[← HY1.out,← hy2] at HOK
  rw[← hy2]
  clear hy2
  go_upto_region 7 with fail
  obtain⟨w5,hw5⟩ : ∃ x,x=w3.alloc (.cells #[.string ky,.string vl,.bool false,.int .i64 0,.int .u32 0] 76):=⟨_,rfl⟩
  have Bb:=Hd (show Blk w5 w3.heap.size 76 #[.string ky,.string vl,.bool false,.int .i64 0,.int .u32 0] by rw[hw5];exact Blk.new _ _ _)
  have HLT:=Hd (show w.heap.size+1<w3.heap.size from R0.out.lt)
  replace R0:=Hd (show Blk w5 (w.heap.size+1) 76 #[.string .empty,.string .empty,.bool false,.int .i64 0,.int .u32 0] by rw[hw5];exact R0.out.alloc _)
  replace F:=Hd (show IsRd w5 g t4 by rw[hw5];exact Blk.alloc F.out _)
  replace G:=Hd (show w.grownBy w5 (some g) by rw[hw5];exact grown_trans G.out (World.grownBy_alloc _ _ _))
  rw[← hw5]
  clear hw5
  generalize w3.heap.size=gB at *
  refine wp_region_held_drew (S:=(fun w'=>w'.cell? ⟨gB,0,none⟩=some (.string ky)∧w'.cell? ⟨gB,1,none⟩=some (.string vl)∧w'.cell? ⟨gB,2,none⟩=some (.bool false)∧w'.cell? ⟨gB,3,none⟩=some (.int .i64 0)∧w'.cell? ⟨gB,4,none⟩=some (.int .u32 0))) (by kernel_rfl) (blk5 Bb.out) (fun hHeld=>?_)
  refine tkA (i:=0) ?_
  try simp only[tkP]
  refine tkA (i:=1) ?_
  try simp only[tkP]
  refine tkA (i:=2) ?_
  try simp only[tkP]
  refine tkA (i:=3) ?_
  try simp only[tkP]
  refine wpAnyH_ready (rs:=[4]) (by kernel_rfl) (by simp) ?_
  refine tkC (fun K hK=>?_)
  go_simp
  refine hK.out _ _ (blk5 (Bb.out.alloc _)) (fun hHeld=>?_)
  clear hK K
  try simp only[tkP]
  have E:=Hd (show Reads (w5.alloc (.cells #[.int .i64 x0,.int .i64 y1,.int .i64 y2] 28)).drew (w5.heap.size+1) 1 (some ⟨w5.heap.size,0,none⟩) 3 (ecells [x0,y1,y2]) from (reads_own (n:=3) (Blk.new w5 28 #[.int .i64 x0,.int .i64 y1,.int .i64 y2]) rfl).drew)
  replace E:=Hd (show Reads (w5.alloc (.cells #[.int .i64 x0,.int .i64 y1,.int .i64 y2] 28)).drew (w5.alloc (.cells #[.int .i64 x0,.int .i64 y1,.int .i64 y2] 28)).drew.heap.size 1 (some ⟨w5.heap.size,0,none⟩) 3 (ecells [x0,y1,y2]) from E.out.more (by simp))
  replace Bb:=Hd ((Bb.out.alloc (.cells #[.int .i64 x0,.int .i64 y1,.int .i64 y2] 28)).drew)
  replace R0:=Hd ((R0.out.alloc (.cells #[.int .i64 x0,.int .i64 y1,.int .i64 y2] 28)).drew)
  replace F:=Hd (show IsRd (w5.alloc (.cells #[.int .i64 x0,.int .i64 y1,.int .i64 y2] 28)).drew g t4 from Blk.alloc F.out _)
  replace G:=Hd (grown_trans (grown_trans G.out (World.grownBy_alloc w5 (.cells #[.int .i64 x0,.int .i64 y1,.int .i64 y2] 28) _)) (grown_drew _ _))
  generalize (w5.alloc (.cells #[.int .i64 x0,.int .i64 y1,.int .i64 y2] 28)).drew=w6 at *
  refine wpAnyH_ready (rs:=[5]) (by kernel_rfl) (by simp) ?_
  refine tkC (fun K hK=>?_)
  go_simp
  refine (cor_any _ 3 3 [x0,y1,y2] _ E.out (by decide)).mono ?_
  rintro e wq ⟨rfl,rfl⟩
  refine hK.out _ _ (blk5 Bb.out) (fun hHeld=>?_)
  clear hK K
  try simp only[tkP]
  refine wpAnyH_ready (rs:=[6]) (by kernel_rfl) (by simp) ?_
  refine tkC (fun K hK=>?_)
  have k0:=R0.out.cell 0
  have k1:=R0.out.cell 1
  have k2:=R0.out.cell 2
  have k3:=R0.out.cell 3
  have k4:=R0.out.cell 4
  have f0:=R0.out.frozen 0
  have f1:=R0.out.frozen 1
  have f2:=R0.out.frozen 2
  have f3:=R0.out.frozen 3
  have f4:=R0.out.frozen 4
  simp at k0 k1 k2 k3 k4
  go_simp
  refine hK.out _ _ (blk5 (((((Bb.out.far (p:=⟨w.heap.size+1,0,none⟩) (Nat.ne_of_gt HLT.out) _).far (p:=⟨w.heap.size+1,1,none⟩) (Nat.ne_of_gt HLT.out) _).far (p:=⟨w.heap.size+1,2,none⟩) (Nat.ne_of_gt HLT.out) _).far (p:=⟨w.heap.size+1,3,none⟩) (Nat.ne_of_gt HLT.out) _).far (p:=⟨w.heap.size+1,4,none⟩) (Nat.ne_of_gt HLT.out) _)) (fun hHeld=>?_)
  clear hK K
  try simp only[tkP]
  refine tkA (i:=7) ?_
  try simp only[tkP]
  refine wpAnyH_done (by kernel_rfl) ?_ _
  go_wp2_with fail
  exact bodyPost_ret (read_row rfl _ _ _ (w.heap.size+1) #[.string ky,.string vl,.bool false,.int .i64 0,.int .u32 0] rfl (load_it (five_at R0.out))) rfl ⟨⟨ky,vl,false,0,0⟩,orL [x0,y1,y2],t4,rfl,five_far F.out (Ne.symm HNE.out),five_grown G.out (Nat.le_succ _),HOK.out⟩
end Go.Proofs.YtanbbnogdhnikaaGreat

