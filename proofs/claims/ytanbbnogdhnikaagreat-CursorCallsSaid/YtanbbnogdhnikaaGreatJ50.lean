/-
  Texts that the main proof rests on, put together: Ref12, Ref12R. No statement is proved here.
-/
import Derived.Test.YtanbbnogdhnikaaGreatJ39
import Derived.Test.YtanbbnogdhnikaaGreatJ49
set_option linter.unusedVariables false
set_option linter.unusedSimpArgs false
set_option maxRecDepth 300000
set_option maxHeartbeats 25600000
namespace Go.Proofs.YtanbbnogdhnikaaGreat
open Go.RowKit
open Go.Lib hiding intOf
attribute [local go_sem ↓] Go.wp_at_zero Go.wp_at_succ

structure Gr (w:World) (b:Nat) (sz:Int) (img:ByteArray) (L:List Nat) (ps:List Pr) (e:Int) (V Vp:Value):Prop where
 blk:Blk w b 112 #[.int .i64 sz,.string img,V,Vp,.int .i64 e]
 row:w.ownsRow 0 23 1 V L.length (ucells L)
 prs:w.ownsRow 0 55 2 Vp ps.length (prc ps)
def FG (b:Nat) (V Vp:Value):Nat→Prop:=fun k=>k=b∨V.ownBlock=some k∨Vp.ownBlock=some k
structure FarG (b:Nat) (V Vp:Value) (w:World) (V' Vp':Value) (w':World):Prop where
 kept:Kept (FG b V Vp) w w'
 own : ∀ k,FG b V' Vp' k→FG b V Vp k∨w.heap.size≤k
section
variable {b:Nat} {V V1 V2 Vp Vp1 Vp2:Value} {w w1 w2:World} {sz:Int} {img:ByteArray} {L:List Nat} {ps:List Pr} {e:Int}
theorem FarG.refl (b:Nat) (V Vp:Value) (w:World):FarG b V Vp w V Vp w:=⟨Kept.refl _ _,fun _ h=>.inl h⟩
theorem FarG.trans (h:FarG b V Vp w V1 Vp1 w1) (k:FarG b V1 Vp1 w1 V2 Vp2 w2):FarG b V Vp w V2 Vp2 w2:=by
 have hs:=h.kept.size
 refine⟨h.kept.then k.kept fun i hi=>h.own i hi,fun i hi=>?_⟩
 rcases k.own i hi with h1 | h1
 ·exact h.own i h1
 ·right;omega
theorem FarG.of_below (h:Below w.heap.size w w1):FarG b V Vp w V Vp w1:=⟨Kept.of_new h,fun _ h=>.inl h⟩
theorem Gr.ltF (h:Gr w b sz img L ps e V Vp) : ∀ k,FG b V Vp k→k<w.heap.size:=by
 rintro k (rfl | h1 | h1)
 ·exact h.blk.lt
 ·exact (h.row.lt k h1).2
 ·exact (h.prs.lt k h1).2
theorem Gr.kept {F:Nat→Prop} (h:Gr w b sz img L ps e V Vp) (hk:Kept F w w1) (hn : ∀ k,FG b V Vp k→¬ F k):Gr w1 b sz img L ps e V Vp :=
 ⟨hk.blk h.blk (hn _ (.inl rfl)),hk.own h.row fun k e=>hn k (.inr (.inl e)),hk.own h.prs fun k e=>hn k (.inr (.inr e))⟩
theorem Gr.below (h:Gr w b sz img L ps e V Vp) (hb:Below w.heap.size w w1):Gr w1 b sz img L ps e V Vp:=h.kept (F:=fun _=>False) (Kept.of_new hb) (fun _ _ h=>h)
theorem Gr.err (h:Gr w b sz img L ps e V Vp) (e':Int):Gr (w.setCell ⟨b,4,none⟩ (.int .i64 e')) b sz img L ps e' V Vp∧FarG b V Vp w V Vp (w.setCell ⟨b,4,none⟩ (.int .i64 e')):=by
 have hb:=h.blk.set_ 4 (.int .i64 e')
 refine⟨⟨by simpa using hb,?_,?_⟩,(Kept.refl _ _).setCell (.inl (.inl rfl)) _,fun _ h=>.inl h⟩
 ·exact h.row.kept (grown_setC _ _ _ _) (.inr fun e=>own_ne_blk h.row h.blk (by decide) e)
 ·exact h.prs.kept (grown_setC _ _ _ _) (.inr fun e=>own_ne_blk h.prs h.blk (by decide) e)
end
theorem come_any {b:Nat} {sz:Int} {img:ByteArray} {L:List Nat} {ps:List Pr} {e0:Int} {V Vp:Value} (n:Nat) {w:World} (h:Gr w b sz img L ps e0 V Vp) (hn:n<4294967296) (hl:L.length≤1000000) :
  Calls Tryz.prog 59 #[.pointer (some ⟨b,0,none⟩),.int .u32 n] w fun e w'=>e=.returned (.bool (decide (n ∉ L)))∧∃ V',FarG b V Vp w V' Vp w'∧Gr w' b sz img (if n∈L then L else L++[n]) ps e0 V' Vp:=by
 obtain⟨i0,hi0,hz0,hz1,hz2⟩:=info_parts infoU32
 have HG:=Hd h
 obtain⟨A,c,rfl,hc1,hc2,_⟩:=own_form h.row
 have HR:=Hd (Reads.of_own h.row)
 have v2:=h.blk.cell 2
 simp at v2
 clear h
 go_enter Tryz.func59,Tryz.ntmps59
 go_wp2_with fail
 go_loop [5] (fun i=>∃ k:Nat,k≤L.length∧i=.int .i64 k∧Hid (n ∉ L.take k)) (fun i=>L.length-(intOf i).toNat)
 case atStart=>exact⟨0,Nat.zero_le _,rfl,Hd (by simp)⟩
 case round =>
  obtain⟨k,hk,rfl,HZ⟩:=hrel
  by_cases hlt:k<L.length
  ·obtain⟨ad,z,rfl,hb,hz,hc⟩:=uread HR.out hlt
   have HK:=Hd hz
   clear hz hb
   by_cases he:n=z
   ·subst he
    have hm:n∈L:=List.mem_of_getElem? HK.out
    have HM:=Hd hm
    clear hm
    go_wp2_with fail
    go_ret
    refine⟨by first | (rw[decide_eq_false (fun h=>h HM.out)]) | rfl,_,FarG.refl _ _ _ _,?_⟩
    first
     | exact HG.out
     | (rw[if_pos HM.out];exact HG.out)
   ·have he1:((n:Int)==(z:Int))=false:=by simp;omega
    have he2:(n==z)=false:=by simpa using he
    have he3:((z:Int)==(n:Int))=false:=by simp;omega
    have he4:(z==n)=false:=by simpa using fun h=>he h.symm
    have HN:=Hd (show n ∉ L.take (k+1) by
     have h0:=HZ.out
     obtain⟨h1,h2⟩:=List.getElem?_eq_some_iff.1 HK.out
     rw[List.take_succ_eq_append_getElem h1,h2]
     simp only[List.mem_append,List.mem_singleton,not_or]
     exact⟨h0,he⟩)
    clear he
    go_wp2_with fail
    go_round
    case rel=>exact⟨k+1,by omega,by go_num,HN⟩
    case measure=>simp[intOf];omega
  ·have HM:=Hd (show n ∉ L by
    have h0:=HZ.out
    rwa [List.take_of_length_le (by omega)] at h0)
   have RA:=Hd (HG.out.row.alloc (.cells #[.int .u32 n] 23))
   have hb3:=HG.out.blk
   have hne:=own_ne_blk HG.out.row HG.out.blk (by decide)
   have HNe:=Hd hne
   clear hne
   go_wp2_with (at_builtin;refine wpList_append_any _ rfl (.tmp 28) (.tmp 30) _ rfl 0 23 i0 _ 1 4 Tryz.underlying31 hi0 hz0 hz1 hz2 rfl (by omega) _ L.length _ rfl RA.out (w.heap.size+1) (some ⟨w.heap.size,0,none⟩) 1 1 [.int .u32 n] rfl (reads_own (n:=1) (Blk.new _ _ _) rfl) (ucells_one [n]) (by unfold maxLen;omega) (by omega) (by omega) ?_;intro v6 w6 hown6 hg6 hat6;obtain⟨A6,c6,hv6,_,_,_⟩:=own_form hown6;subst hv6;have b6:=(hb3.alloc (.cells #[.int .u32 n] 23)).grown hg6 (fun e=>HNe.out e.symm);have f3:=b6.frozen 2;have c3:=b6.cell 2;simp at c3)
   go_ret
   have hap:Apart (.slice A L.length c) Vp:=fun g hg=>own_ne_own HG.out.row HG.out.prs (by decide) hg
   have hp6:=hap.keeps (HG.out.prs.alloc (.cells #[.int .u32 n] 23)) hg6
   have hown7:w6.ownsRow 0 23 1 (.slice A6 (L.length+1) c6) (L++[n]).length (ucells (L++[n])):=by
    rw[List.length_append]
    have h1:=hown6
    rw[show ucells L++[Value.int IntKind.u32 (n:Int)]=ucells (L++[n]) by simp[ucells]] at h1
    exact h1
   refine⟨by first | (rw[decide_eq_true HM.out]) | rfl,.slice A6 (L.length+1) c6,⟨(((Kept.refl _ _).alloc _).grown hg6 (fun g hg=>.inl (.inr (.inl hg)))).setCell (.inl (.inl rfl)) _,?_⟩,?_⟩
   ·rintro k (rfl | h1 | h1)
    ·exact .inl (.inl rfl)
    ·rcases hat6 with h | h
     ·rw[h] at h1
      exact .inl (.inr (.inl h1))
     ·rw[h] at h1
      injection h1 with h1
      right
      simp at h1
      omega
    ·exact .inl (.inr (.inr h1))
   ·try rw[if_neg HM.out]
    have hb:=b6.set_ 2 (.slice A6 (L.length+1) c6)
    refine⟨by simpa using hb,?_,?_⟩
    ·exact hown7.kept (grown_setC _ _ _ _) (.inr fun e=>own_ne_blk hown7 b6 (by decide) e)
    ·exact hp6.kept (grown_setC _ _ _ _) (.inr fun e=>own_ne_blk hp6 b6 (by decide) e)
end Go.Proofs.YtanbbnogdhnikaaGreat

namespace Go.Proofs.YtanbbnogdhnikaaGreat
open Go.RowKit
open Go.Lib hiding intOf
attribute [local go_sem ↓] Go.wp_at_zero Go.wp_at_succ

theorem infoNd12:(Tryz.prog.info? 114).map (fun i=>(i.zero,i.size))=some (some (.agg #[.int .u32 0,.int .u64 0,.bool false,.slice none 0 0,.slice none 0 0]),5):=by kernel_rfl
theorem results_cell_tmp {P:Program} {fn:Func} {p q:Tmp} {ty:TypeId} (h:fn.results=#[.cell p ty,.tmp q]) (tmps:Array Value) (w:World) (g:Nat) (u v:Value)
  (hp:tmps.getD p undef=.pointer (some ⟨g,0,none⟩)) (hq:tmps.getD q undef=v) (hu:(loadVar ty ⟨g,0,none⟩).run P w=.ok u w) :
  (results fn tmps).run P w=.ok (.tuple #[u,v]) w:=by
 have hp':tmps[p]?.getD undef=.pointer (some ⟨g,0,none⟩):=by simpa using hp
 have hq':tmps[q]?.getD undef=v:=by simpa using hq
 simp[results,h,hp',hq',asAddr,hu]
theorem load_nd12 {w:World} {g:Nat} {a0 a1 a2 a3 a4:Value} (h:Blk w g 114 #[a0,a1,a2,a3,a4]):(loadVar 114 ⟨g,0,none⟩).run Tryz.prog w=.ok (.agg #[a0,a1,a2,a3,a4]) w:=by
 obtain⟨hz,hi⟩:=zero_of_info infoNd12
 exact run_loadVar_row w g 114 114 #[a0,a1,a2,a3,a4] (0,0) _ h Tryz.underlying114 rfl hi
theorem set5 {w:World} {g:Nat} {t:TypeId} {a0 a1 a2 a3 a4:Value} (b0 b1 b2 b3 b4:Value) (h:Blk w g t #[a0,a1,a2,a3,a4]):Blk (((((w.setCell ⟨g,0,none⟩ b0).setCell ⟨g,1,none⟩ b1).setCell ⟨g,2,none⟩ b2).setCell ⟨g,3,none⟩ b3).setCell ⟨g,4,none⟩ b4) g t #[b0,b1,b2,b3,b4]:=by
 have:=((((h.set_ 0 b0).set_ 1 b1).set_ 2 b2).set_ 3 b3).set_ 4 b4
 simpa using this
theorem below5 {w w':World} {B g:Nat} (b0 b1 b2 b3 b4:Value) (h:Below B w w') (hg:B≤g):Below B w (((((w'.setCell ⟨g,0,none⟩ b0).setCell ⟨g,1,none⟩ b1).setCell ⟨g,2,none⟩ b2).setCell ⟨g,3,none⟩ b3).setCell ⟨g,4,none⟩ b4) :=
 ((((h.setCell (p:=⟨g,0,none⟩) hg b0).setCell (p:=⟨g,1,none⟩) hg b1).setCell (p:=⟨g,2,none⟩) hg b2).setCell (p:=⟨g,3,none⟩) hg b3).setCell (p:=⟨g,4,none⟩) hg b4
theorem keep5 {w:World} {g lo size n:Nat} {A:Option Addr} {xs:List Value} (b0 b1 b2 b3 b4:Value) (h:Reads w w.heap.size size A n xs) (hlo : ∀ ad,A=some ad→lo≤ad.block) (hg:g<lo) :
  Reads (((((w.setCell ⟨g,0,none⟩ b0).setCell ⟨g,1,none⟩ b1).setCell ⟨g,2,none⟩ b2).setCell ⟨g,3,none⟩ b3).setCell ⟨g,4,none⟩ b4) (((((w.setCell ⟨g,0,none⟩ b0).setCell ⟨g,1,none⟩ b1).setCell ⟨g,2,none⟩ b2).setCell ⟨g,3,none⟩ b3).setCell ⟨g,4,none⟩ b4).heap.size size A n xs:=by
 refine (h.keep_from hlo fun p hp=>?_).more (by simp[World.setCell])
 rw[World.cell?_setCell_other _ _ _ _ (fun e=>by subst e;simp at hp;omega),World.cell?_setCell_other _ _ _ _ (fun e=>by subst e;simp at hp;omega),World.cell?_setCell_other _ _ _ _ (fun e=>by subst e;simp at hp;omega),World.cell?_setCell_other _ _ _ _ (fun e=>by subst e;simp at hp;omega),World.cell?_setCell_other _ _ _ _ (fun e=>by subst e;simp at hp;omega)]
def NdTell (o:Nd) (B:Nat) (w:World) (ok lf:Bool) (A:Option Addr) (n c:Nat) (A2:Option Addr) (n2 c2:Nat):Prop:=match o with
 | .none=>ok=false
 | .br l=>ok=true∧lf=false∧ReadsN B w 2 A n (fkc l)∧n2=0
 | .lf l=>ok=true∧lf=true∧n=0∧ReadsN B w 5 A2 n2 (itc l)
def RNode (o:Nd) (w:World) (e:Ending) (w':World):Prop :=
 ∃ (pg tx:Nat) (ok lf:Bool) (A:Option Addr) (n c:Nat) (A2:Option Addr) (n2 c2:Nat),e=.returned (.tuple #[.agg #[.int .u32 pg,.int .u64 tx,.bool lf,.slice A n c,.slice A2 n2 c2],.bool ok])∧NdTell o w.heap.size w' ok lf A n c A2 n2 c2∧Below w.heap.size w w'
theorem rnode_any (size:Int) (s:ByteArray) (n:Nat) (w:World) (hs:s.size≤1000000) (hn:n<4294967296) :
  Calls Tryz.prog 56 #[.int .i64 size,.string s,.int .u32 n] w (RNode (nodeN size s n) w):=by
 have HRd:=Hd (fun (w:World)=>rread_all size s n w (Nat.le_trans hs (by decide)) hn)
 have hbd:=pageOf_bd size s n
 have hN2:n<2→nodeN size s n=.none:=fun h=>node_two h
 have hND:nodeN size s n=match readAt size s n with | some p=>p.node | none=>.none:=rfl
 obtain⟨o,ho⟩ : ∃ o,o=nodeN size s n:=⟨_,rfl⟩
 rw[← ho] at hN2 hND ⊢
 have HND:=Hd hND
 clear ho hND
 obtain⟨hz,hi0⟩:=zero_of_info infoNd12
 have HI:=Hd hi0
 obtain⟨hzp,hip⟩:=zero_of_info infoPg
 have HIP:=Hd hip
 clear hi0 hip
 obtain⟨w0,hw0⟩ : ∃ x,x=w.alloc (.cells #[.int .u32 0,.int .u64 0,.bool false,.slice none 0 0,.slice none 0 0] 114):=⟨_,rfl⟩
 have R0:=Hd (show Blk w0 w.heap.size 114 #[.int .u32 0,.int .u64 0,.bool false,.slice none 0 0,.slice none 0 0] by rw[hw0];exact Blk.new _ _ _)
 have HB:=Hd (show Below w.heap.size w w0 by rw[hw0];exact (Below.refl _ _).alloc (Nat.le_refl _) _)
 have hbase : ∀ (E:Int) (q:Pg),q=pageOf size s n→E=errAt size s n→(E=0→readAt size s n=some q)→(E≠0→readAt size s n=none)→Calls Tryz.prog 56 #[.int .i64 size,.string s,.int .u32 n] w (RNode o w):=by
  intro E q hq hE h0 h1
  rw[← hE,← hq] at HRd
  rw[← hq] at hbd
  obtain⟨qk,qc,qp,ql,qt,qb⟩:=q
  simp only[Pg.agg] at HRd hbd
  have HBd:=Hd hbd
  clear hq hE hbd
  go_enter Tryz.func56,Tryz.ntmps56
  go_wp2_with fail
  rw[← hw0]
  clear hw0
  refine (HRd.out _).mono ?_
  rintro e w1 ⟨rfl,hb⟩
  replace R0:=Hd (R0.out.below hb R0.out.lt)
  replace HB:=Hd (HB.out.trans (hb.mono HB.out.size))
  clear hb HRd
  go_upto_region 2 with fail
  obtain⟨w2,hw2⟩ : ∃ y,y=w1.alloc (.cells #[.int .i64 qk,.int .i64 qc,.int .u32 qp,.int .u32 ql,.int .u64 qt,.string qb] 41):=⟨_,rfl⟩
  obtain⟨gP,hgP⟩ : ∃ y,y=w1.heap.size:=⟨_,rfl⟩
  have PB:=Hd (show Blk w2 gP 41 #[.int .i64 qk,.int .i64 qc,.int .u32 qp,.int .u32 ql,.int .u64 qt,.string qb] by rw[hw2,hgP];exact Blk.new _ _ _)
  have HRl:=Hd (show w.heap.size<gP by rw[hgP];exact R0.out.lt)
  replace R0:=Hd (show Blk w2 w.heap.size 114 #[.int .u32 0,.int .u64 0,.bool false,.slice none 0 0,.slice none 0 0] by rw[hw2];exact R0.out.alloc _)
  replace HB:=Hd (show Below w.heap.size w w2 by rw[hw2];exact HB.out.alloc HB.out.size _)
  rw[← hw2,← hgP]
  clear hw2 hgP
  by_cases hE0:E=0
  ·subst hE0
   by_cases hn2:n<2
   ·have HO:=Hd (hN2 hn2)
    have hn3:(n:Int)<2:=by omega
    clear h0 h1 hN2 HND
    have r0:=R0.out.cell 0
    have r1:=R0.out.cell 1
    have r2:=R0.out.cell 2
    have r3:=R0.out.cell 3
    have r4:=R0.out.cell 4
    have g0:=R0.out.frozen 0
    have g1:=R0.out.frozen 1
    have g2:=R0.out.frozen 2
    have g3:=R0.out.frozen 3
    have g4:=R0.out.frozen 4
    simp at r0 r1 r2 r3 r4
    go_wp2_with fail
    exact bodyPost_ret (v:=.tuple #[.agg #[.int .u32 (0:Nat),.int .u64 (0:Nat),.bool false,.slice none 0 0,.slice none 0 0],.bool false]) (results_cell_tmp rfl _ _ w.heap.size _ _ rfl rfl (load_nd12 (set5 _ _ _ _ _ R0.out))) rfl ⟨0,0,false,false,none,0,0,none,0,0,rfl,by rw[HO.out];rfl,below5 _ _ _ _ _ HB.out (Nat.le_refl _)⟩
   ·have hn3 : ¬ (n:Int)<2:=by omega
    have hNo:o=Pg.node ⟨qk,qc,qp,ql,qt,qb⟩:=by rw[HND.out,h0 rfl]
    clear h0 h1 hN2 HND hn2
    have p0:=PB.out.cell 0
    have p1:=PB.out.cell 1
    have p2:=PB.out.cell 2
    have p3:=PB.out.cell 3
    have p4:=PB.out.cell 4
    have p5:=PB.out.cell 5
    simp at p0 p1 p2 p3 p4 p5
    go_wp2_with fail
    refine (rof7_new qk qc qp ql qt qb _ HBd.out).mono ?_
    rintro e w3 hp
    rcases hf:readF qk qc qp ql qt qb with _ | l
    ·rw[hf] at hp
     obtain⟨rfl,hb⟩:=hp
     replace R0:=Hd (R0.out.below hb R0.out.lt)
     replace PB:=Hd (PB.out.below hb PB.out.lt)
     have HS2:=Hd (show gP<w3.heap.size from PB.out.lt)
     replace HB:=Hd (HB.out.trans (hb.mono HB.out.size))
     clear hb p0 p1 p2 p3 p4 p5
     have p0:=PB.out.cell 0
     have p1:=PB.out.cell 1
     have p2:=PB.out.cell 2
     have p3:=PB.out.cell 3
     have p4:=PB.out.cell 4
     have p5:=PB.out.cell 5
     simp at p0 p1 p2 p3 p4 p5
     go_wp2_with fail
     refine (rof8_new qk qc qp ql qt qb _ HBd.out).mono ?_
     rintro e w4 hp
     rcases hg:readI qk qc qp ql qt qb with _ | l
     ·rw[hg] at hp
      obtain⟨rfl,hb⟩:=hp
      replace R0:=Hd (R0.out.below hb R0.out.lt)
      replace PB:=Hd (PB.out.below hb PB.out.lt)
      replace HB:=Hd (HB.out.trans (hb.mono HB.out.size))
      have HO:=Hd (show o=.none by rw[hNo];unfold Pg.node;simp only[hf,hg])
      clear hb p0 p1 p2 p3 p4 p5 hNo hf hg
      have p4:=PB.out.cell 4
      simp at p4
      have r0:=R0.out.cell 0
      have r1:=R0.out.cell 1
      have r2:=R0.out.cell 2
      have r3:=R0.out.cell 3
      have r4:=R0.out.cell 4
      have g0:=R0.out.frozen 0
      have g1:=R0.out.frozen 1
      have g2:=R0.out.frozen 2
      have g3:=R0.out.frozen 3
      have g4:=R0.out.frozen 4
      simp at r0 r1 r2 r3 r4
      go_wp2_with fail
      exact bodyPost_ret (v:=.tuple #[.agg #[.int .u32 n,.int .u64 qt,.bool true,.slice none 0 0,.slice none 0 0],.bool false]) (results_cell_tmp rfl _ _ w.heap.size _ _ rfl rfl (load_nd12 (set5 _ _ _ _ _ R0.out))) rfl ⟨n,qt,false,true,none,0,0,none,0,0,rfl,by rw[HO.out];rfl,below5 _ _ _ _ _ HB.out (Nat.le_refl _)⟩
     ·rw[hg] at hp
      obtain⟨A,m,c,rfl,hrd,hnc,hcm,hb,hlo⟩:=hp
      have HRw:=Hd hrd
      have HL:=Hd hlo
      have HBs:=Hd (Nat.le_trans HB.out.size (Nat.le_refl _))
      replace R0:=Hd (R0.out.below hb R0.out.lt)
      replace PB:=Hd (PB.out.below hb PB.out.lt)
      replace HB:=Hd (HB.out.trans (hb.mono HB.out.size))
      have HO:=Hd (show o=.lf l by rw[hNo];unfold Pg.node;simp only[hf,hg])
      clear hb p0 p1 p2 p3 p4 p5 hNo hf hg hrd hnc hcm hlo
      have p4:=PB.out.cell 4
      simp at p4
      have r0:=R0.out.cell 0
      have r1:=R0.out.cell 1
      have r2:=R0.out.cell 2
      have r3:=R0.out.cell 3
      have r4:=R0.out.cell 4
      have g0:=R0.out.frozen 0
      have g1:=R0.out.frozen 1
      have g2:=R0.out.frozen 2
      have g3:=R0.out.frozen 3
      have g4:=R0.out.frozen 4
      simp at r0 r1 r2 r3 r4
      go_wp2_with fail
      exact bodyPost_ret (v:=.tuple #[.agg #[.int .u32 n,.int .u64 qt,.bool true,.slice none 0 0,.slice A m c],.bool true]) (results_cell_tmp rfl _ _ w.heap.size _ _ rfl rfl (load_nd12 (set5 _ _ _ _ _ R0.out))) rfl ⟨n,qt,true,true,none,0,0,A,m,c,rfl,by rw[HO.out];exact⟨rfl,rfl,rfl,keep5 _ _ _ _ _ HRw.out HL.out (by have:=HS2.out;have:=HRl.out;omega),fun ad e=>Nat.le_trans (by have:=HS2.out;have:=HRl.out;omega) (HL.out ad e)⟩,below5 _ _ _ _ _ HB.out (Nat.le_refl _)⟩
    ·rw[hf] at hp
     obtain⟨A,m,c,rfl,hrd,hnc,hcm,hb,hlo⟩:=hp
     have HS2:=Hd (show gP<w2.heap.size from PB.out.lt)
     have HRw:=Hd hrd
     have HL:=Hd hlo
     replace R0:=Hd (R0.out.below hb R0.out.lt)
     replace PB:=Hd (PB.out.below hb PB.out.lt)
     replace HB:=Hd (HB.out.trans (hb.mono HB.out.size))
     have HO:=Hd (show o=.br l by rw[hNo];unfold Pg.node;simp only[hf])
     clear hb p0 p1 p2 p3 p4 p5 hNo hf hrd hnc hcm hlo
     have p4:=PB.out.cell 4
     simp at p4
     have r0:=R0.out.cell 0
     have r1:=R0.out.cell 1
     have r2:=R0.out.cell 2
     have r3:=R0.out.cell 3
     have r4:=R0.out.cell 4
     have g0:=R0.out.frozen 0
     have g1:=R0.out.frozen 1
     have g2:=R0.out.frozen 2
     have g3:=R0.out.frozen 3
     have g4:=R0.out.frozen 4
     simp at r0 r1 r2 r3 r4
     go_wp2_with fail
     exact bodyPost_ret (v:=.tuple #[.agg #[.int .u32 n,.int .u64 qt,.bool false,.slice A m c,.slice none 0 0],.bool true]) (results_cell_tmp rfl _ _ w.heap.size _ _ rfl rfl (load_nd12 (set5 _ _ _ _ _ R0.out))) rfl ⟨n,qt,true,false,A,m,c,none,0,0,rfl,by rw[HO.out];exact⟨rfl,rfl,⟨keep5 _ _ _ _ _ HRw.out HL.out (by have:=HS2.out;have:=HRl.out;omega),fun ad e=>Nat.le_trans (by have:=HS2.out;have:=HRl.out;omega) (HL.out ad e)⟩,rfl⟩,below5 _ _ _ _ _ HB.out (Nat.le_refl _)⟩
  ·have hE1:(E==0)=false:=by simpa using hE0
   have hE2:(E != 0)=true:=by simpa using hE0
   have HO:=Hd (show o=.none by rw[HND.out,h1 hE0])
   clear h0 h1 hN2 HND
   have r0:=R0.out.cell 0
   have r1:=R0.out.cell 1
   have r2:=R0.out.cell 2
   have r3:=R0.out.cell 3
   have r4:=R0.out.cell 4
   have g0:=R0.out.frozen 0
   have g1:=R0.out.frozen 1
   have g2:=R0.out.frozen 2
   have g3:=R0.out.frozen 3
   have g4:=R0.out.frozen 4
   simp at r0 r1 r2 r3 r4
   go_wp2_with fail
   exact bodyPost_ret (v:=.tuple #[.agg #[.int .u32 (0:Nat),.int .u64 (0:Nat),.bool false,.slice none 0 0,.slice none 0 0],.bool false]) (results_cell_tmp rfl _ _ w.heap.size _ _ rfl rfl (load_nd12 (set5 _ _ _ _ _ R0.out))) rfl ⟨0,0,false,false,none,0,0,none,0,0,rfl,by rw[HO.out];rfl,below5 _ _ _ _ _ HB.out (Nat.le_refl _)⟩
 rcases hr:readAt size s n with _ | p
 ·obtain⟨e1,e2⟩:=errAt_none hr
  exact hbase _ _ rfl rfl (fun h=>absurd h e1) (fun _=>hr)
 ·obtain⟨e1,e2⟩:=errAt_some hr
  exact hbase _ _ rfl rfl (fun _=>by rw[e2];exact hr) (fun h=>absurd e1 h)
end Go.Proofs.YtanbbnogdhnikaaGreat

