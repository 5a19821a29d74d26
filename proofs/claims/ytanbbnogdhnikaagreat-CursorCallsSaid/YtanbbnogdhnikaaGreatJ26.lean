/-
  Texts that the main proof rests on, put together: Ref8Of, BrFork. No statement is proved here.
-/
import Derived.Test.YtanbbnogdhnikaaGreatJ22
import Derived.Test.YtanbbnogdhnikaaGreatJ20
import Derived.Test.YtanbbnogdhnikaaGreatJ25
set_option linter.unusedVariables false
set_option linter.unusedSimpArgs false
set_option maxRecDepth 300000
set_option maxHeartbeats 25600000
namespace Go.Proofs.YtanbbnogdhnikaaGreat
open Go.RowKit
open Go.Lib hiding intOf
attribute [local go_sem ↓] Go.wp_at_zero Go.wp_at_succ

theorem infoIt:(Tryz.prog.info? 76).map (fun i=>(i.zero,i.size,i.bytes))=some (some (.agg #[.string .empty,.string .empty,.bool false,.int .i64 0,.int .u32 0]),5,56):=by kernel_rfl
theorem itc_one (l:List It) : ∀ u∈itc l,u.oneCell'=true:=by
 intro u hu
 unfold itc rowsOf at hu
 obtain⟨b,_,hb⟩:=List.mem_flatMap.1 hu
 simp[It.cells] at hb
 rcases hb with rfl | rfl | rfl | rfl | rfl<;>rfl
theorem it_one (b:It) : ∀ u∈b.cells,u.oneCell'=true:=by
 intro u hu
 simp[It.cells] at hu
 rcases hu with rfl | rfl | rfl | rfl | rfl<;>rfl
theorem page8_neq_no (a0 a1 a2 a3 a4:Int) (a5:ByteArray) (w:World):(binOp .neq 41 (.agg #[.int .i64 a0,.int .i64 a1,.int .u32 a2,.int .u32 a3,.int .u64 a4,.string a5]) (.agg #[.int .i64 a0,.int .i64 a1,.int .u32 a2,.int .u32 a3,.int .u64 a4,.string a5])).run Tryz.prog w=.ok (.bool false) w:=by
 simp[go_sem]
theorem page8_neq_yes (a0 a1 a2 a3 a4:Int) (a5:ByteArray) (b0 b1 b2 b3 b4:Int) (b5:ByteArray) (w:World) (h : ¬ (a0=b0∧a1=b1∧a2=b2∧a3=b3∧a4=b4∧a5=b5)):(binOp .neq 41 (.agg #[.int .i64 a0,.int .i64 a1,.int .u32 a2,.int .u32 a3,.int .u64 a4,.string a5]) (.agg #[.int .i64 b0,.int .i64 b1,.int .u32 b2,.int .u32 b3,.int .u64 b4,.string b5])).run Tryz.prog w=.ok (.bool true) w:=by
 have h1:(((((a0==b0&&a1==b1)&&a2==b2)&&a3==b3)&&a4==b4)&&a5.toList==b5.toList)=false:=by
  rw[Bool.eq_false_iff]
  intro ht
  simp only[Bool.and_eq_true,beq_iff_eq] at ht
  obtain⟨⟨⟨⟨⟨h0,h1⟩,h2⟩,h3⟩,h4⟩,h5⟩:=ht
  rw[ByteArray.toList_eq,ByteArray.toList_eq] at h5
  exact h ⟨h0,h1,h2,h3,h4,bytes_ext h5⟩
 simp[go_sem] at h1 ⊢
 exact h1
theorem list_none {t:ByteArray} (h:t.size<1):t.data.toList=[]:=List.eq_nil_of_length_eq_zero (by rw[size_list];omega)
theorem head8 {s t0 t1 t2 ky:ByteArray} {vo vn:Nat} {x0 x1 x2:Int} (h0:tookN 1 s vo x0 t0) (h1:tookN 1 t0 vn x1 t1) (h2:tookB vn t1 ky x2 t2) :
  (x0=0∧x1=0∧x2=0∧vo<256∧stepI s.data.toList=tailI (UInt8.ofNat vo) ky t2.data.toList)∨(¬ (x0=0∧x1=0∧x2=0)∧stepI s.data.toList=none):=by
 rcases h0 with ⟨a0,rfl,e0,f0⟩ | ⟨a0,rfl,f0⟩
 rotate_left
 ·exact .inr ⟨by simp,by rw[list_none a0];rfl⟩
 obtain⟨o,r,hs⟩:=list_one (l:=s.data.toList) (by rw[size_list];exact a0)
 have hv:vo=o.toNat:=by rw[e0,hs];exact leNat_one o
 have hr:t0.data.toList=r:=by rw[f0,ext_drop,hs];rfl
 rcases h1 with ⟨a1,rfl,e1,f1⟩ | ⟨a1,rfl,f1⟩
 rotate_left
 ·have:r=[]:=by rw[← hr];exact list_none a1
  exact .inr ⟨by simp,by rw[hs,this];rfl⟩
 obtain⟨n,q,hq⟩:=list_one (l:=t0.data.toList) (by rw[size_list];exact a1)
 have hn:vn=n.toNat:=by rw[e1,hq];exact leNat_one n
 have hq1:t1.data.toList=q:=by rw[f1,ext_drop,hq];rfl
 have hrq:r=n::q:=by rw[← hr,hq]
 have hl:t1.size=q.length:=by rw[← hq1,size_list]
 rcases h2 with ⟨a2,rfl,e2,f2⟩ | ⟨a2,rfl,f2⟩
 rotate_left
 ·refine .inr ⟨by simp,?_⟩
  rw[hs,hrq]
  simp only[stepI]
  rw[if_pos (by omega)]
 ·refine .inl ⟨rfl,rfl,rfl,by rw[hv];exact o.toNat_lt,?_⟩
  have h2':t2.data.toList=q.drop n.toNat:=by rw[f2,ext_drop,hq1,hn]
  have hky:ky=⟨(q.take n.toNat).toArray⟩:=by
   apply bytes_ext
   rw[e2,ext_take,hq1,hn]
  rw[hs,hrq]
  simp only[stepI]
  rw[if_neg (by omega),h2',hky,hv]
  congr 1
  simp
theorem tail8_ov {t t3 t4 ky:ByteArray} {v3 v4:Nat} {x3 x4:Int} (h3:tookN 4 t v3 x3 t3) (h4:tookN 4 t3 v4 x4 t4) :
  (x3=0∧x4=0∧tailI 1 ky t.data.toList=some (⟨ky,⟨#[]⟩,true,(v3:Nat),v4⟩,t4.data.toList))∨(¬ (x3=0∧x4=0)∧tailI 1 ky t.data.toList=none):=by
 have hl:t.data.toList.length=t.size:=size_list t
 rcases h3 with ⟨a3,rfl,e3,f3⟩ | ⟨a3,rfl,f3⟩
 rotate_left
 ·refine .inr ⟨by simp,?_⟩
  unfold tailI
  rw[if_neg (by decide),if_pos rfl,if_pos (by omega)]
 have hl3:t3.data.toList=t.data.toList.drop 4:=by rw[f3,ext_drop]
 have hs3:t3.size=t.size-4:=by rw[← size_list,hl3,List.length_drop,hl]
 rcases h4 with ⟨a4,rfl,e4,f4⟩ | ⟨a4,rfl,f4⟩
 rotate_left
 ·refine .inr ⟨by simp,?_⟩
  unfold tailI
  rw[if_neg (by decide),if_pos rfl,if_pos (by omega)]
 ·refine .inl ⟨rfl,rfl,?_⟩
  unfold tailI
  rw[if_neg (by decide),if_pos rfl,if_neg (by omega),e3,e4,f4,ext_drop,hl3]
theorem tail8_in {t t3 t4 ky vl:ByteArray} {v3:Nat} {x3 x4:Int} (h3:tookN 1 t v3 x3 t3) (h4:tookB v3 t3 vl x4 t4) :
  (x3=0∧x4=0∧tailI 0 ky t.data.toList=some (⟨ky,vl,false,0,0⟩,t4.data.toList))∨(¬ (x3=0∧x4=0)∧tailI 0 ky t.data.toList=none):=by
 rcases h3 with ⟨a3,rfl,e3,f3⟩ | ⟨a3,rfl,f3⟩
 rotate_left
 ·refine .inr ⟨by simp,?_⟩
  rw[list_none a3]
  rfl
 obtain⟨m,q,hq⟩:=list_one (l:=t.data.toList) (by rw[size_list];exact a3)
 have hm:v3=m.toNat:=by rw[e3,hq];exact leNat_one m
 have hq1:t3.data.toList=q:=by rw[f3,ext_drop,hq];rfl
 have hl:t3.size=q.length:=by rw[← hq1,size_list]
 rcases h4 with ⟨a4,rfl,e4,f4⟩ | ⟨a4,rfl,f4⟩
 rotate_left
 ·refine .inr ⟨by simp,?_⟩
  rw[hq]
  simp only[tailI,if_true]
  rw[if_pos (by omega)]
 ·refine .inl ⟨rfl,rfl,?_⟩
  have hvl:vl=⟨(q.take m.toNat).toArray⟩:=by
   apply bytes_ext
   rw[e4,ext_take,hq1,hm]
  rw[hq]
  simp only[tailI,if_true]
  rw[if_neg (by omega),f4,ext_drop,hq1,hm,hvl]
theorem grown_set (w:World) (g o:Nat) (v:Value):w.grownBy (w.setCell ⟨g,o,none⟩ v) (some g):=⟨rfl,rfl,rfl,by simp[World.setCell],fun k _ hne=>Below.heap_setCell _ _ _ _ (fun e=>hne (by rw[e]))⟩
def OfPost8 (o:Option (List It)) (w:World) (e:Ending) (w':World):Prop :=
 match o with
 | none=>e=.returned (.tuple #[.slice none 0 0,.int .i64 4])∧Below w.heap.size w w'
 | some l=>∃ A n c,e=.returned (.tuple #[.slice A n c,.int .i64 0])∧Reads w' w'.heap.size 5 A n (itc l)∧n≤c∧c≤maxLen∧Below w.heap.size w w'
def OfPost8n (o:Option (List It)) (w:World) (e:Ending) (w':World):Prop :=
 match o with
 | none=>e=.returned (.tuple #[.slice none 0 0,.int .i64 4])∧Below w.heap.size w w'
 | some l=>∃ A n c,e=.returned (.tuple #[.slice A n c,.int .i64 0])∧Reads w' w'.heap.size 5 A n (itc l)∧n≤c∧c≤maxLen∧Below w.heap.size w w'∧∀ ad,A=some ad→w.heap.size≤ad.block
theorem took_some (t:ByteArray) : ∃ v x t',tookN 4 t v x t':=by
 by_cases h:4≤t.size
 ·exact⟨_,_,_,.inl ⟨h,rfl,rfl,rfl⟩⟩
 ·exact⟨0,7,t,.inr ⟨by omega,rfl,rfl⟩⟩
theorem step_dead3 {t t1 t2 nm:ByteArray} {v:Nat} (h1:tookN 1 t v 0 t1) (h2:tookB v t1 nm 0 t2) (h3:t2.size<4):stepF t.data.toList=none:=by
 have h:=step7_is h1 h2 (show tookN 4 t2 0 7 t2 from .inr ⟨h3,rfl,rfl⟩)
 rcases hs:stepF t.data.toList with _ | ⟨b,r⟩
 ·rfl
 ·rw[hs] at h
  exact absurd h.2.2.1 (by decide)
theorem step_dead2 {t t1:ByteArray} {v:Nat} (h1:tookN 1 t v 0 t1) (h2:t1.size<v):stepF t.data.toList=none:=by
 obtain⟨v3,x3,t3,h3⟩:=took_some t1
 have h:=step7_is h1 (show tookB v t1 ByteArray.empty 7 t1 from .inr ⟨h2,rfl,rfl⟩) h3
 rcases hs:stepF t.data.toList with _ | ⟨b,r⟩
 ·rfl
 ·rw[hs] at h
  exact absurd h.2.1 (by decide)
theorem step_dead1 {t:ByteArray} (h1:t.size<1):stepF t.data.toList=none:=by
 have h0:t.data.toList=[]:=List.eq_nil_of_length_eq_zero (by rw[size_list];omega)
 rw[h0]
 rfl
def forkPost (o:Option (Fk×List UInt8)) (g:Nat) (e:Ending) (w':World):Prop:=match o with
 | none=>DiesB e
 | some (b,r)=>∃ s':ByteArray,e=.returned (.agg #[.string b.nm,.int .u32 b.rt])∧IsRd w' g s'∧s'.data.toList=r
theorem bfork_tot {w:World} {g:Nat} {t:ByteArray} (h:IsRd w g t) (hs:t.size≤100000) :
  Calls Tryz.prog 135 #[.agg #[.pointer (some ⟨g,0,none⟩)]] w fun e w'=>w.grownBy w' (some g)∧forkPost (stepF t.data.toList) g e w':=by
 obtain⟨i0,hi0,hz0,hz1,hz2⟩:=info_parts infoFk
 obtain⟨w0,hw0⟩ : ∃ x,x=(w.alloc (.cells #[.pointer (some ⟨g,0,none⟩)] 192)).alloc (.cells #[.string ⟨#[]⟩,.int .u32 0] 45):=⟨_,rfl⟩
 have Bx:=Hd (show Blk w0 w.heap.size 192 #[.pointer (some ⟨g,0,none⟩)] by rw[hw0];exact (Blk.new _ _ _).alloc _)
 have R0:=Hd (show Blk w0 (w.heap.size+1) 45 #[.string ⟨#[]⟩,.int .u32 0] by
  rw[hw0]
  have:=Blk.new (w.alloc (.cells #[.pointer (some ⟨g,0,none⟩)] 192)) 45 #[.string ⟨#[]⟩,.int .u32 0]
  simpa using this)
 have HF:=Hd (show IsRd w0 g t by rw[hw0];exact Blk.alloc (Blk.alloc h _) _)
 have HG:=Hd (show w.grownBy w0 (some g) by rw[hw0];exact grown_trans (World.grownBy_alloc _ _ _) (World.grownBy_alloc _ _ _))
 have hgl:=Hd (Blk.lt h)
 have HS:=Hd hs
 clear h hs
 go_enter Tryz.func135,Tryz.ntmps135
 go_wp2_with fail
 rw[← hw0]
 clear hw0
 replace Bx:=Hd (Bx.out.drew)
 replace R0:=Hd (R0.out.drew)
 replace HG:=Hd (grown_trans HG.out (grown_drew _ _))
 replace HF:=Hd (show IsRd w0.drew g t from Blk.drew HF.out)
 refine wp_region_held_drew (S:=(fun w'=>w'.cell? ⟨w.heap.size,0,none⟩=some (.pointer (some ⟨g,0,none⟩)))) (by kernel_rfl) (Bx.out.cell 0) (fun hHeld=>?_)
 refine tkA (i:=0) ?_
 try simp only[tkP]
 refine tkA (i:=1) ?_
 try simp only[tkP]
 refine wpAnyH_ready (rs:=[2]) (by kernel_rfl) (by simp) ?_
 refine tkC (fun K hK=>?_)
 go_simp
 refine (bnumr_tot HF.out 1 (by decide) (by decide)).mono ?_
 rintro e w2 ⟨hg,⟨v1,t1,rfl,hf,hv,ht⟩ | ⟨rfl,hk⟩⟩
 rotate_left
 ·have hE:=step_dead1 hk
  refine⟨rfl,grown_trans HG.out hg,?_⟩
  rw[hE]
  exact rfl
 replace Bx:=Hd (Blk.grown Bx.out hg (by intro h;injection h with h;have:=hgl.out;omega))
 replace R0:=Hd (Blk.grown R0.out hg (by intro h;injection h with h;have:=hgl.out;omega))
 replace HG:=Hd (grown_trans HG.out hg)
 replace HF:=Hd hf
 have T1:=Hd ht
 have HV:=Hd (show v1<256 from hv)
 clear hg hf hv ht
 refine hK.out _ _ (Bx.out.cell 0) (fun hHeld=>?_)
 clear hK K
 try simp only[tkP]
 have hwv:IntKind.i64.wrap (v1:Int)=(v1:Int):=by have:=HV.out;rw[IntKind.wrap_i64];omega
 refine wpAnyH_takeL (i:=3) (v:=.int .i64 (v1:Int)) rfl (by kernel_rfl) (by kernel_rfl) (by kernel_rfl) (fun _ _ _ h=>h) (Or.inl ⟨by rfl,?_⟩) (by first | trivial | assumption) ?_
 ·intro wz hSz;(try dsimp only at hSz);go_simp;(try with_reducible rfl)
 try simp only[tkP]
 clear hwv
 refine wpAnyH_ready (rs:=[4]) (by kernel_rfl) (by simp) ?_
 refine tkC (fun K hK=>?_)
 go_simp
 have hs1:t1.size≤100000:=by
  have h1:=HS.out
  rcases T1.out with ⟨_,_,_,h2⟩ | ⟨_,_,h2⟩
  ·rw[h2,ByteArray.size_extract];omega
  ·rw[h2];exact h1
 refine (btext_tot HF.out v1 hs1).mono ?_
 rintro e w3 ⟨hg,⟨nm,t2,rfl,hf,ht⟩ | ⟨rfl,hk⟩⟩
 rotate_left
 ·have hE:=step_dead2 T1.out hk
  refine⟨rfl,grown_trans HG.out hg,?_⟩
  rw[hE]
  exact rfl
 replace Bx:=Hd (Blk.grown Bx.out hg (by intro h;injection h with h;have:=hgl.out;omega))
 replace R0:=Hd (Blk.grown R0.out hg (by intro h;injection h with h;have:=hgl.out;omega))
 replace HG:=Hd (grown_trans HG.out hg)
 replace HF:=Hd hf
 have T2:=Hd ht
 clear hg hf ht
 refine hK.out _ _ (Bx.out.cell 0) (fun hHeld=>?_)
 clear hK K
 try simp only[tkP]
 refine tkA (i:=5) ?_
 try simp only[tkP]
 refine wpAnyH_done (by kernel_rfl) ?_ _
 clear hHeld
 have b0:=Bx.out.cell 0
 simp at b0
 go_wp2_with fail
 refine (bnumr_tot HF.out 4 (by decide) (by decide)).mono ?_
 rintro e w4 ⟨hg,⟨v3,t3,rfl,hf,hv,ht⟩ | ⟨rfl,hk⟩⟩
 rotate_left
 ·have hE:=step_dead3 T1.out T2.out hk
  refine⟨rfl,grown_trans HG.out hg,?_⟩
  rw[hE]
  exact rfl
 have hv3:v3<4294967296:=hv
 have hw3:IntKind.u32.wrap (v3:Int)=(v3:Int):=by rw[IntKind.wrap_u32];omega
 replace R0:=Hd (Blk.grown R0.out hg (by intro h;injection h with h;have:=hgl.out;omega))
 replace HG:=Hd (grown_trans HG.out hg)
 replace HF:=Hd hf
 have hst:=step7_is T1.out T2.out ht
 obtain⟨r',hsf,hr'⟩ : ∃ r',stepF t.data.toList=some (⟨nm,v3⟩,r')∧t3.data.toList=r':=by
  rcases hq:stepF t.data.toList with _ | ⟨b,r⟩
  ·rw[hq] at hst
   simp at hst
  ·rw[hq] at hst
   exact⟨r,by rw[hst.2.2.2.1],hst.2.2.2.2⟩
 have HE:=Hd hsf
 have HR:=Hd hr'
 clear hg hf hv ht hst hsf hr' T1 T2 b0 Bx
 have k0:=R0.out.cell 0
 have k1:=R0.out.cell 1
 have f0:=R0.out.frozen 0
 have f1:=R0.out.frozen 1
 simp at k0 k1
 go_wp2_with fail
 rw[HE.out]
 refine bodyPost_ret (results_cell_row rfl _ _ (w.heap.size+1) 45 #[.string nm,.int .u32 v3] (0,0) _ rfl ((R0.out.set_ 0 _).set_ 1 _) Tryz.underlying45 rfl (by rw[hi0];simpa using hz1)) rfl ?_
 refine⟨grown_cell (grown_cell HG.out (Nat.le_succ _) _) (Nat.le_succ _) _,t3,rfl,?_,HR.out⟩
 have hne:g≠w.heap.size+1:=by have:=hgl.out;omega
 exact Blk.far (Blk.far HF.out hne _) hne _
end Go.Proofs.YtanbbnogdhnikaaGreat

