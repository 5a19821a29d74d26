/-
  Contract of the reference's item of layer 12. No statement is proved here.
-/
import Derived.Test.YtanbbnogdhnikaaGreatJ50
import Derived.Test.YtanbbnogdhnikaaGreatJ45
set_option linter.unusedVariables false
set_option linter.unusedSimpArgs false
set_option maxRecDepth 300000
set_option maxHeartbeats 25600000
namespace Go.Proofs.YtanbbnogdhnikaaGreat
open Go.RowKit
open Go.Lib hiding intOf
attribute [local go_sem ↓] Go.wp_at_zero Go.wp_at_succ

theorem results_void {P:Program} {fn:Func} (h:fn.results=#[]) (tmps:Array Value) (w:World):(results fn tmps).run P w=.ok (.tuple #[]) w:=by simp[results,h]
theorem body_void {P:Program} {fn:Func} {R:Ending→World→Prop} {a:Act} {w:World} (hr:fn.results=#[]) (hd:a.defers=[]) (hR:R (.returned (.tuple #[])) w):bodyPost P fn R .normal a w :=
 bodyPost_end (v:=.tuple #[]) (results_void hr _ _) hd hR
def GoSt (b:Nat) (sz:Int) (img:ByteArray) (V Vp:Value) (ps:List Pr) (w:World) (t:Tv) (w':World):Prop :=
 ∃ (L':List Nat) (e':Int) (V' Vp':Value),FarG b V Vp w V' Vp' w'∧Gr w' b sz img L' (ps++t.1) e' V' Vp'∧match t.2 with
  | some M=>e'=0∧L'=M
  | none=>e'=4
theorem infoPr12:(Tryz.prog.info? 55).map (fun i=>(i.zero,i.size,i.bytes))=some (some (.agg #[.string .empty,.string .empty]),2,32):=by kernel_rfl
theorem prc_one12 (l:List Pr) : ∀ u∈prc l,u.oneCell'=true:=by
 intro u hu
 simp only[prc,rowsOf,List.mem_flatMap] at hu
 obtain⟨x,_,hx⟩:=hu
 simp only[Pr.cells,List.mem_cons,List.not_mem_nil,or_false] at hx
 rcases hx with rfl | rfl<;>rfl
theorem Gr.pair {b:Nat} {sz:Int} {img:ByteArray} {L:List Nat} {ps:List Pr} {e0:Int} {V Vp Vp':Value} {w w1 w6:World} (x:Pr) (hf:Below w.heap.size w w1) (h:Gr w1 b sz img L ps e0 V Vp)
  (hown:w6.ownsRow 0 55 2 Vp' (ps.length+1) (prc ps++prc [x])) (hg:w1.grownBy w6 Vp.ownBlock) (hat:Vp'.ownBlock=Vp.ownBlock∨Vp'.ownBlock=some w1.heap.size) :
  Gr (w6.setCell ⟨b,3,none⟩ Vp') b sz img L (ps++[x]) e0 V Vp'∧FarG b V Vp w V Vp' (w6.setCell ⟨b,3,none⟩ Vp'):=by
 have hne:=own_ne_blk h.prs h.blk (by decide)
 have hb:=h.blk.grown hg (fun e=>hne e.symm)
 have hap:Apart Vp V:=fun g hg=>own_ne_own h.prs h.row (by decide) hg
 have hr6:=hap.keeps h.row hg
 have hown':w6.ownsRow 0 55 2 Vp' (ps++[x]).length (prc (ps++[x])):=by
  rw[List.length_append,prc_append]
  exact hown
 refine⟨⟨by have:=hb.set_ 3 Vp';simpa using this,hr6.kept (grown_setC _ _ _ _) (.inr fun e=>own_ne_blk hr6 hb (by decide) e),hown'.kept (grown_setC _ _ _ _) (.inr fun e=>own_ne_blk hown' hb (by decide) e)⟩,⟨((Kept.of_new hf).grown hg (fun g hg=>.inl (.inr (.inr hg)))).setCell (.inl (.inl rfl)) _,?_⟩⟩
 rintro k (rfl | h1 | h1)
 ·exact .inl (.inl rfl)
 ·exact .inl (.inr (.inl h1))
 ·rcases hat with h | h
  ·rw[h] at h1
   exact .inl (.inr (.inr h1))
  ·rw[h] at h1
   injection h1 with h1
   right
   have:=hf.size
   omega
theorem ritem_any {b:Nat} {sz:Int} {img:ByteArray} {L:List Nat} {ps:List Pr} {V Vp:Value} (x:It) {w:World} (h:Gr w b sz img L ps 0 V Vp) (hg:goodSize sz=true) (hs:img.size≤400000) (hx:x.hd<4294967296) (hl:L.length≤400000) (hp:ps.length≤50000000000) :
  Calls Tryz.prog 109 #[.pointer (some ⟨b,0,none⟩),.agg #[.string x.ky,.string x.vl,.bool x.ov,.int .i64 x.ln,.int .u32 x.hd]] w fun e w'=>e=.returned (.tuple #[])∧GoSt b sz img V Vp ps w (itemsT sz img [x] L) w':=by
 obtain⟨i0,hi0,hz0,hz1,hz2⟩:=info_parts infoPr12
 obtain⟨ky,vl,ov,ln,hd⟩:=x
 dsimp only at hx ⊢
 obtain⟨w0,hw0⟩ : ∃ y,y=w.alloc (.cells #[.string ky,.string vl,.bool ov,.int .i64 ln,.int .u32 hd] 76):=⟨_,rfl⟩
 have XB:=Hd (show Blk w0 w.heap.size 76 #[.string ky,.string vl,.bool ov,.int .i64 ln,.int .u32 hd] by rw[hw0];exact Blk.new _ _ _)
 have hb0:Below w.heap.size w w0:=by rw[hw0];exact (Below.refl _ _).alloc (Nat.le_refl _) _
 have HG0:=Hd (h.below hb0)
 have HF0:=Hd (FarG.of_below (b:=b) (V:=V) (Vp:=Vp) hb0)
 have HLt:=Hd (show b<w.heap.size from h.blk.lt)
 have HltF:=Hd h.ltF
 clear h hb0
 have i0':=XB.out.cell 0
 have i1':=XB.out.cell 1
 have i2':=XB.out.cell 2
 simp at i0' i1' i2'
 cases ov with
 | false =>
  have HT:=Hd (show itemsT sz img [⟨ky,vl,false,ln,hd⟩] L=([⟨ky,vl⟩],some L) by simp[itemsT,valN,visitL])
  have b3:=HG0.out.blk.cell 3
  simp at b3
  obtain⟨o,ho⟩ : ∃ o,o=Obj.cells #[.string ky,.string vl] 55:=⟨_,rfl⟩
  have HGa:=Hd (HG0.out.below (w1:=(w0.alloc (.cells #[.string ky,.string vl] 55)).drew) (((Below.refl _ w0).alloc (Nat.le_refl _) _).drew))
  have c3:=HGa.out.blk.cell 3
  simp at c3
  have HNe:=Hd (own_ne_blk HGa.out.prs HGa.out.blk (by decide))
  go_enter Tryz.func109,Tryz.ntmps109
  go_wp2_with fail
  rw[← hw0]
  clear hw0
  go_upto_region 2 with fail
  go_region_law
   ((refine step_append_any (by rfl) (.tmp 15) (.tmp 21) _ (by rfl) 0 55 i0 _ 2 32 Tryz.underlying26 hi0 hz0 hz1 hz2 rfl (by omega) Vp ps.length (prc ps) (by rfl) HGa.out.prs (w0.heap.size+1) (some ⟨w0.heap.size,0,none⟩) 1 1 (prc [⟨ky,vl⟩]) (by rfl) (reads_own (n:=1) (Blk.new w0 _ _).drew rfl) (prc_one12 _) (by unfold maxLen;omega) (by omega) (Nat.zero_le _) ?_;intro v7 w7 hown7 hg7 hat7;obtain⟨A7,c7,rfl,_,_,_⟩:=own_form hown7;have HO7:=Hd hown7;have HG7:=Hd hg7;have HA7:=Hd hat7;have b7:=HGa.out.blk.grown hg7 (fun e=>HNe.out e.symm);have x3:=b7.frozen 3;have y3:=b7.cell 3;simp at y3;clear hown7 hg7 hat7 b7))
  all_goals
   go_wp2_with fail
   obtain⟨e1,e2⟩:=Gr.pair ⟨ky,vl⟩ (((Below.refl _ w0).alloc (Nat.le_refl _) _).drew) HGa.out HO7.out HG7.out HA7.out
   exact bodyPost_ret (v:=.tuple #[]) (results_void rfl _ _) rfl ⟨rfl,L,0,V,_,HF0.out.trans e2,by rw[HT.out];exact e1,by rw[HT.out];exact⟨rfl,rfl⟩⟩
 | true =>
  have HRd:=Hd (fun w=>rread11_new sz img hd ln w (by omega) hx)
  have hT:itemsT sz img [⟨ky,vl,true,ln,hd⟩] L=(match readV sz img hd ln with
    | none=>([],none)
    | some (v,ns)=>match visitL L ns with
     | none=>([],none)
     | some M=>([⟨ky,v⟩],some M)):=by
   simp only[itemsT,valN,if_true]
   rcases readV sz img hd ln with _ | ⟨v,ns⟩
   ·rfl
   ·rcases visitL L ns with _ | M<;>rfl
  obtain⟨o,ho⟩ : ∃ o,o=readV sz img hd ln:=⟨_,rfl⟩
  have hPl:(rdPs o).length≤img.size∧∀ x∈rdPs o,x<4294967296:=by
   rcases hov:o with _ | ⟨v,ns⟩
   ·exact⟨Nat.zero_le _,fun x hx=>by cases hx⟩
   ·exact valN_len (size:=sz) (s:=img) (i:=⟨ky,vl,true,ln,hd⟩) (v:=v) (by unfold valN;rw[if_pos rfl,← ho,hov];rfl)
  have hEr:rdErr sz o=if o.isSome then 0 else 4:=by unfold rdErr;rw[hg];rfl
  rw[← ho] at hT HRd
  have HT:=Hd hT
  have HPl:=Hd hPl
  rw[hEr] at HRd
  obtain⟨Ps,hPs⟩ : ∃ q,q=rdPs o:=⟨_,rfl⟩
  obtain⟨Sv,hSv⟩ : ∃ q,q=rdStr o:=⟨_,rfl⟩
  rw[← hPs] at HRd HPl
  rw[← hSv] at HRd
  obtain⟨E,hE⟩ : ∃ q:Int,q=if o.isSome then 0 else 4:=⟨_,rfl⟩
  rw[← hE] at HRd
  have HE:=Hd hE
  have HPs:=Hd hPs
  have HSv:=Hd hSv
  have b0:=HG0.out.blk.cell 0
  have b1:=HG0.out.blk.cell 1
  have i3':=XB.out.cell 3
  have i4':=XB.out.cell 4
  simp at b0 b1 i3' i4'
  clear ho hT hPl hEr hPs hSv hE
  go_enter Tryz.func109,Tryz.ntmps109
  go_wp2_with fail
  rw[← hw0]
  clear hw0
  go_upto_region 3 with fail
  obtain⟨gX,hgX⟩ : ∃ g,g=w.heap.size:=⟨_,rfl⟩
  have HgX:=Hd (show b<gX by rw[hgX];exact HLt.out)
  have HgX2:=Hd hgX
  rw[← hgX] at XB i0' i1' i2' i3' i4' ⊢
  clear hgX
  go_region_held3 (fun w'=>w'.cell? ⟨b,0,none⟩=some (.int .i64 sz)∧w'.cell? ⟨b,1,none⟩=some (.string img)∧w'.cell? ⟨gX,3,none⟩=some (.int .i64 ln)∧w'.cell? ⟨gX,4,none⟩=some (.int .u32 hd))
   (first | exact⟨b0,b1,i3',i4'⟩ | exact⟨j0,j1,j3,j4⟩)
   ((go_at_call 58;refine (HRd.out _).mono ?_;rintro e w1 ⟨A1,n1,c1,rfl,hr1,hb1⟩;have XB1:=Hd (XB.out.drew.below hb1 XB.out.lt);have HG1:=Hd ((HG0.out.below (((Below.refl _ w0)).drew)).below hb1);have HF1:=Hd (HF0.out.trans ((FarG.of_below (((Below.refl _ w0)).drew)).trans (FarG.of_below hb1)));have j0:=HG1.out.blk.cell 0;have j1:=HG1.out.blk.cell 1;have j3:=XB1.out.cell 3;have j4:=XB1.out.cell 4;simp at j0 j1 j3 j4;have HR1:=Hd hr1;clear hr1 hb1))
  go_wp2_with fail
  have HA1:=Hd (show ∀ a,A1=some a→¬ FG b V Vp a.block from fun a e hf=>by
   have h1:=HltF.out _ hf
   have h2:=HR1.out.2 a e
   have h3:=XB.out.lt
   have h4:w.heap.size≤w0.heap.size:=by rw[HgX2.out] at h3;omega
   have h5:w0.heap.size≤a.block:=h2
   omega)
  have HAg:=Hd (show ¬ FG b V Vp gX from fun hf=>by have h1:=HltF.out _ hf;rw[HgX2.out] at h1;exact Nat.lt_irrefl _ h1)
  have hlen:Ps.length=n1:=ulen HR1.out.1
  clear j0 j1 j3 j4 b0 b1 i0' i1' i2' i3' i4' HRd XB HG0 HF0
  rcases hov:o with _ | ⟨v,ns⟩
  ·have h1:Ps=[]:=by rw[HPs.out,hov];rfl
   obtain rfl:n1=0:=by rw[← hlen,h1];rfl
   obtain rfl:E=4:=by rw[HE.out,hov];rfl
   have HT2:=Hd (show itemsT sz img [⟨ky,vl,true,ln,hd⟩] L=([],none) by rw[HT.out,hov])
   clear hov h1 hlen HT HE
   go_loop [6,7] (fun e i=>e=.int .i64 4∧i=.int .i64 0) (fun _ _=>0)
   case atStart=>exact⟨rfl,rfl⟩
   case round =>
    obtain⟨rfl,rfl⟩:=hrel
    have c4:=HG1.out.blk.cell 4
    have f4:=HG1.out.blk.frozen 4
    simp at c4
    obtain⟨e1,e2⟩:=HG1.out.err 4
    go_wp2_with fail
    exact body_void rfl rfl ⟨rfl,L,4,V,Vp,HF1.out.trans e2,by rw[HT2.out,List.append_nil];exact e1,by rw[HT2.out]⟩
  ·have h1:Ps=ns:=by rw[HPs.out,hov];rfl
   have h2:Sv=v:=by rw[HSv.out,hov];rfl
   subst h1 h2
   obtain rfl:E=0:=by rw[HE.out,hov];rfl
   have HT2:=Hd (show itemsT sz img [⟨ky,Sv,true,ln,hd⟩] L=itemsT sz img [⟨ky,Sv,true,ln,hd⟩] L from rfl)
   have HT3:=Hd (show itemsT sz img [⟨ky,vl,true,ln,hd⟩] L=(match visitL L Ps with
     | none=>([],none)
     | some M=>([⟨ky,Sv⟩],some M)) by rw[HT.out,hov])
   clear hov HT HE HT2 HPs HSv
   have hn9:n1≤1000000:=by rw[← hlen];exact Nat.le_trans HPl.out.1 (by omega)
   have HLe:=Hd hlen
   clear hlen
   have HF2:=Hd (FarG.refl b V Vp w1)
   go_loopw [6,7] (fun e i wr=>∃ (k:Nat) (L':List Nat) (V1:Value),k≤n1∧i=.int .i64 k∧((e=.int .i64 0∧Hid (visitL L (Ps.take k)=some L'))∨(e=.int .i64 4∧Hid (visitL L Ps=none)))∧Hid (Gr wr b sz img L' ps 0 V1 Vp)∧Hid (FarG b V Vp w1 V1 Vp wr)) (fun _ i _=>n1-(intOf i).toNat)
   case atStart=>exact⟨0,L,V,Nat.zero_le _,rfl,.inl ⟨rfl,Hd (by simp[visitL])⟩,HG1,HF2⟩
   case round =>
    clear HF2
    obtain⟨k,L',V1,hk,rfl,hst,HGr,HFr⟩:=hrel
    have c4:=HGr.out.blk.cell 4
    have f4:=HGr.out.blk.frozen 4
    simp at c4
    rcases hst with ⟨rfl,HVk⟩ | ⟨rfl,HVn⟩
    rotate_left
    ·obtain⟨e1,e2⟩:=HGr.out.err 4
     have HTn:=Hd (show itemsT sz img [⟨ky,vl,true,ln,hd⟩] L=([],none) by rw[HT3.out,HVn.out])
     by_cases hlt:k<n1
     ·have hlt2:(k:Int)<(n1:Int):=by omega
      go_wp2_with fail
      exact body_void rfl rfl ⟨rfl,L',4,V1,Vp,HF1.out.trans (HFr.out.trans e2),by rw[HTn.out,List.append_nil];exact e1,by rw[HTn.out]⟩
     ·have hlt2 : ¬ (k:Int)<(n1:Int):=by omega
      go_wp2_with fail
      exact body_void rfl rfl ⟨rfl,L',4,V1,Vp,HF1.out.trans (HFr.out.trans e2),by rw[HTn.out,List.append_nil];exact e1,by rw[HTn.out]⟩
    by_cases hlt:k<n1
    ·have hlt2:(k:Int)<(n1:Int):=by omega
     have hk0:(0:Int)≤(k:Int):=by omega
     obtain⟨ad,x,rfl,hab,hx,hc⟩:=uread HR1.out.1 hlt
     have c0:=(HFr.out.kept.cell (p:=ad.add k) (by rw[block_add];exact hab) (by rw[block_add];exact HA1.out ad rfl)).trans hc
     have hx9:=HPl.out.2 x (List.mem_of_getElem? hx)
     have hl9:L'.length≤1000000:=by
      rw[visitL_some HVk.out,List.length_append,List.length_take]
      have:=HLe.out
      have:=HPl.out.1
      omega
     have HVx:=Hd (show visitL L (Ps.take (k+1))=if x∈L' then none else some (L'++[x]) by rw[take_snoc_at hx,visitL_snoc,HVk.out])
     clear hc hab hx
     go_wp2_with fail
     refine (come_any x HGr.out hx9 hl9).mono ?_
     rintro e w5 ⟨rfl,V2,hf2,hg2⟩
     have HG2:=Hd hg2
     have HF2:=Hd (HFr.out.trans hf2)
     clear hg2 hf2 c0 hl9 c4 f4
     by_cases hm:x∈L'
     ·have hd1:decide (x ∉ L')=false:=decide_eq_false (fun h=>h hm)
      have HVn:=Hd (show visitL L Ps=none from visitL_front (k:=k+1) (by rw[HVx.out,if_pos hm]))
      have HG3:=Hd (show Gr w5 b sz img L' ps 0 V2 Vp by have:=HG2.out;rw[if_pos hm] at this;exact this)
      clear hm HG2 HVx
      go_wp2_with fail
      go_roundw
      case rel =>
       first
        | exact⟨k+1,L',V2,by omega,by go_num,.inr ⟨rfl,HVn⟩,HG3,HF2⟩
        | ((repeat apply Exists.intro);exact⟨⟨k+1,L',V2,by omega,by go_num,.inr ⟨rfl,HVn⟩,HG3,HF2⟩,rfl⟩)
      case measure=>simp[intOf];omega
     ·have hd1:decide (x ∉ L')=true:=decide_eq_true hm
      have HVn:=Hd (show visitL L (Ps.take (k+1))=some (L'++[x]) by rw[HVx.out,if_neg hm])
      have HG3:=Hd (show Gr w5 b sz img (L'++[x]) ps 0 V2 Vp by have:=HG2.out;rw[if_neg hm] at this;exact this)
      clear hm HG2 HVx
      go_wp2_with fail
      go_roundw
      case rel =>
       first
        | exact⟨k+1,L'++[x],V2,by omega,by go_num,.inl ⟨rfl,HVn⟩,HG3,HF2⟩
        | ((repeat apply Exists.intro);exact⟨⟨k+1,L'++[x],V2,by omega,by go_num,.inl ⟨rfl,HVn⟩,HG3,HF2⟩,rfl⟩)
      case measure=>simp[intOf];omega
    ·obtain rfl:k=n1:=by omega
     have hlt2 : ¬ (k:Int)<(k:Int):=by omega
     have HVp:=Hd (show visitL L Ps=some L' by have:=HVk.out;rwa [List.take_of_length_le (by rw[HLe.out];exact Nat.le_refl _)] at this)
     have HT4:=Hd (show itemsT sz img [⟨ky,vl,true,ln,hd⟩] L=([⟨ky,Sv⟩],some L') by rw[HT3.out,HVp.out])
     obtain⟨e1,e2⟩:=HGr.out.err 0
     have XBr:=Hd (HFr.out.kept.blk XB1.out HAg.out)
     have HG4:=Hd e1
     have HF4:=Hd (HF1.out.trans (HFr.out.trans e2))
     have XB4:=Hd (e2.kept.blk XBr.out (fun hf=>by
      have h1:=HFr.out.own gX hf
      rcases h1 with h1 | h1
      ·exact HAg.out h1
      ·have:=XB1.out.lt;omega))
     clear e1 e2 hlt HVk HT3
     go_upto_region 10 with fail
     obtain⟨w4,hw4⟩ : ∃ y,y=wr.setCell ⟨b,4,none⟩ (.int .i64 0):=⟨_,rfl⟩
     rw[← hw4] at HG4 HF4 XB4 ⊢
     clear hw4 c4 f4
     have b3:=HG4.out.blk.cell 3
     have x0:=XB4.out.cell 0
     simp at b3 x0
     have HGa:=Hd (HG4.out.below (w1:=(w4.alloc (.cells #[.string ky,.string Sv] 55)).drew) (((Below.refl _ w4).alloc (Nat.le_refl _) _).drew))
     have c3:=HGa.out.blk.cell 3
     simp at c3
     have HNe:=Hd (own_ne_blk HGa.out.prs HGa.out.blk (by decide))
     go_upto_region 11 with fail
     go_region_law
      ((refine step_append_any (by rfl) (.tmp 69) (.tmp 74) _ (by rfl) 0 55 i0 _ 2 32 Tryz.underlying26 hi0 hz0 hz1 hz2 rfl (by omega) Vp ps.length (prc ps) (by rfl) HGa.out.prs (w4.heap.size+1) (some ⟨w4.heap.size,0,none⟩) 1 1 (prc [⟨ky,Sv⟩]) (by rfl) (reads_own (n:=1) (Blk.new w4 _ _).drew rfl) (prc_one12 _) (by unfold maxLen;omega) (by omega) (Nat.zero_le _) ?_;intro v7 w7 hown7 hg7 hat7;obtain⟨A7,c7,rfl,_,_,_⟩:=own_form hown7;have HO7:=Hd hown7;have HG7:=Hd hg7;have HA7:=Hd hat7;have b7:=HGa.out.blk.grown hg7 (fun e=>HNe.out e.symm);have x3:=b7.frozen 3;have y3:=b7.cell 3;simp at y3;clear hown7 hg7 hat7 b7))
     all_goals
      go_wp2_with fail
      obtain⟨e1,e2⟩:=Gr.pair ⟨ky,Sv⟩ (((Below.refl _ w4).alloc (Nat.le_refl _) _).drew) HGa.out HO7.out HG7.out HA7.out
      exact body_void rfl rfl ⟨rfl,L',0,V1,_,HF4.out.trans e2,by rw[HT4.out];exact e1,by rw[HT4.out];exact⟨rfl,rfl⟩⟩
end Go.Proofs.YtanbbnogdhnikaaGreat

