/-
  Texts that the main proof rests on, put together: BrCatch, BrOf, LeTimes. No statement is proved here.
-/
import Derived.Test.YtanbbnogdhnikaaGreatJ27
import Derived.Test.YtanbbnogdhnikaaGreatJ30
set_option linter.unusedVariables false
set_option linter.unusedSimpArgs false
set_option maxRecDepth 300000
set_option maxHeartbeats 25600000
namespace Go.Proofs.YtanbbnogdhnikaaGreat
open Go.RowKit
open Go.Lib hiding intOf

theorem bhead_any (kd ct:Int) (pg lk ty:Nat) (bd:ByteArray) (w:World) (hbd:bd.size≤100000) :
  Calls Tryz.prog 119 #[.agg #[.int .i64 kd,.int .i64 ct,.int .u32 pg,.int .u32 lk,.int .u64 ty,.string bd]] w fun e w'=>e=.returned (.bool (headF kd pg lk ty bd))∧Below w.heap.size w w':=by
 have HN:=fun w=>bnum_any pg w
 obtain⟨z,hz⟩ : ∃ z:Nat,z=bd.size+24:=⟨_,rfl⟩
 have hE:headF kd pg lk ty bd=(decide (kd=3)&&(decide (lk=0)&&(numB pg&&(decide (ty≤4611686018427387904)&&goodSize ((z:Nat):Int))))):=by rw[headF,hz]
 have hws:IntKind.i64.wrap ((bd.size:Int)+24)=(z:Int):=by rw[IntKind.wrap_i64];omega
 have hws2:((bd.size:Int)+24)=(z:Int):=by omega
 have hwz:wrap64 (z:Int)=(z:Int):=wrap64_nat z (by omega)
 obtain⟨w0,hw0⟩ : ∃ x,x=w.alloc (.cells #[.int .i64 kd,.int .i64 ct,.int .u32 pg,.int .u32 lk,.int .u64 ty,.string bd] 41):=⟨_,rfl⟩
 have Pp:=Hd (show Blk w0 w.heap.size 41 #[.int .i64 kd,.int .i64 ct,.int .u32 pg,.int .u32 lk,.int .u64 ty,.string bd] by rw[hw0];exact Blk.new _ _ _)
 have HB:=Hd (show Below w.heap.size w w0 by rw[hw0];exact (Below.refl _ _).alloc (Nat.le_refl _) _)
 clear hz
 go_enter Tryz.func119,Tryz.ntmps119
 go_upto_region 1 with fail
 rw[← hw0]
 clear hw0 hbd
 have c0:=Pp.out.cell 0
 have c2:=Pp.out.cell 2
 have c3:=Pp.out.cell 3
 have c4:=Pp.out.cell 4
 have c5:=Pp.out.cell 5
 simp at c0 c2 c3 c4 c5
 by_cases h1:kd=3
 rotate_left
 ·have q1:(kd==3)=false:=by simpa using h1
  have HE:=Hd (show headF kd pg lk ty bd=false by rw[hE,decide_eq_false h1];rfl)
  clear hE h1
  go_wp2_with fail
  go_ret
  exact⟨by rw[HE.out];rfl,HB.out⟩
 subst h1
 by_cases h2:lk=0
 rotate_left
 ·have q2:((lk:Int)==0)=false:=by simp;omega
  have HE:=Hd (show headF 3 pg lk ty bd=false by rw[hE,decide_eq_false h2];rfl)
  clear hE h2
  go_wp2_with fail
  go_ret
  exact⟨by rw[HE.out];rfl,HB.out⟩
 subst h2
 simp at c3
 rcases hnb:numB pg with _ | _
 ·rw[hnb] at HN
  have HE:=Hd (show headF 3 pg 0 ty bd=false by rw[hE,hnb];rfl)
  clear hE hnb
  go_wp2_with (go_at_call 134;refine (HN _).mono ?_;rintro e w' ⟨rfl,rfl⟩)
  go_ret
  exact⟨by rw[HE.out];rfl,HB.out⟩
 rw[hnb] at HN hE
 by_cases h4:ty≤4611686018427387904
 rotate_left
 ·have q4:decide ((ty:Int)≤4611686018427387904)=false:=by simp;omega
  have HE:=Hd (show headF 3 pg 0 ty bd=false by rw[hE,decide_eq_false h4];rfl)
  clear hE hnb h4
  go_wp2_with (go_at_call 134;refine (HN _).mono ?_;rintro e w' ⟨rfl,rfl⟩)
  go_ret
  exact⟨by rw[HE.out];rfl,HB.out⟩
 have q4:decide ((ty:Int)≤4611686018427387904)=true:=by simp;omega
 rw[decide_eq_true h4] at hE
 rcases hg:goodSize (z:Int) with _ | _
 ·have HM:=fun w=>room_no z w hg
  have HE:=Hd (show headF 3 pg 0 ty bd=false by rw[hE,hg];rfl)
  clear hE hnb h4 hg
  go_wp2_with (first | (go_at_call 134;refine (HN _).mono ?_;rintro e w' ⟨rfl,rfl⟩) | (go_at_call 122;refine (HM _).mono ?_;rintro e w' ⟨rfl,rfl⟩))
  go_ret
  exact⟨by rw[HE.out];rfl,HB.out⟩
 ·have HM:=fun w=>room_yes z w hg
  have hgp:=good_pos hg
  have q5:decide ((0:Int)<(z:Int)-24)=true:=by simp;omega
  have HQ6:=Hd (show decide ((24:Int)<(z:Int))=true by simp;omega)
  have HE:=Hd (show headF 3 pg 0 ty bd=true by rw[hE,hg];rfl)
  clear hE hnb h4 hg hgp
  go_wp2_with (first | (go_at_call 134;refine (HN _).mono ?_;rintro e w' ⟨rfl,rfl⟩) | (go_at_call 122;refine (HM _).mono ?_;rintro e w' ⟨rfl,rfl⟩))
  go_ret
  exact⟨by rw[HE.out];show Ending.returned (.bool (decide ((24:Int)<(z:Int))))=_;rw[HQ6.out],HB.out⟩
theorem bad_is (W:World) (v:Value):(Instr.typeAssert (.iface 186 v) 20 186 true).run Tryz.prog W=.ok (.tuple #[v,.bool true]) W:=by kernel_rfl
theorem bcatch_bad (a b:Nat) (ta tb:TypeId) (older:List PanicEntry) (w:World) (x y:Value) (hP:Blk w a ta #[x]) (hQ:Blk w b tb #[y]) (hne:b≠a) :
  CallsD Tryz.prog 117 #[.pointer (some ⟨a,0,none⟩),.pointer (some ⟨b,0,none⟩)] (.panicking ({ v:=.iface 186 (.agg #[]),recovered:=false }::older)) w fun e u' w' =>
   e=.returned (.tuple #[])∧u'=.panicking ({ v:=.iface 186 (.agg #[]),recovered:=true }::older)∧w'=((w.alloc (.cells #[] 186)).setCell ⟨a,0,none⟩ (.slice none 0 0)).setCell ⟨b,0,none⟩ (.int .i64 4):=by
 have hp1:=(hP.alloc (.cells #[] 186)).cell 0
 have hpz:=(hP.alloc (.cells #[] 186)).frozen 0
 have hq1:=((hQ.alloc (.cells #[] 186)).far (p:=⟨a,0,none⟩) hne (.slice none 0 0)).cell 0
 have hqz:=((hQ.alloc (.cells #[] 186)).far (p:=⟨a,0,none⟩) hne (.slice none 0 0)).frozen 0
 simp at hp1 hq1
 refine callsD_of_wpS Tryz.func117 rfl fun c₀ cs hu=>?_
 apply wpS_seq
 apply wpS_region
 simp[wpOpsS,go_sem,recoverD,hu,Tryz.ntmps117,Exit.thenS]
 refine wpS_of_wp ?_
 have hwr:=bad_is
 rw[show (#[Value.pointer (some ⟨a,0,none⟩),Value.pointer (some ⟨b,0,none⟩)]++(Array.replicate 9 undef).setIfInBounds 3 (Value.iface 186 (Value.agg #[])))=#[.pointer (some ⟨a,0,none⟩),.pointer (some ⟨b,0,none⟩),undef,undef,undef,Value.iface 186 (Value.agg #[]),undef,undef,undef,undef,undef] from rfl]
 go_wp2
 simp[bodyPostS,results,Tryz.results117]
theorem bcatch_idle (p q:Addr) (w:World) :
  CallsD Tryz.prog 117 #[.pointer (some p),.pointer (some q)] .returning w fun e u' w'=>e=.returned (.tuple #[])∧u'=.returning∧w'=w:=by
 refine callsD_of_wpS Tryz.func117 rfl fun c₀ cs hu=>?_
 apply wpS_seq
 apply wpS_region
 simp[wpOpsS,go_sem,recoverD,hu,Tryz.ntmps117,Exit.thenS]
 refine wpS_of_wp ?_
 rw[show (#[Value.pointer (some p),Value.pointer (some q)]++(Array.replicate 9 undef).setIfInBounds 3 Value.nilIface)=#[.pointer (some p),.pointer (some q),undef,undef,undef,Value.nilIface,undef,undef,undef,undef,undef] from rfl]
 go_wp2
 cases c₀
 simp_all [bodyPostS,results,Tryz.results117]
end Go.Proofs.YtanbbnogdhnikaaGreat

namespace Go.Proofs.YtanbbnogdhnikaaGreat
open Go.RowKit
open Go.Lib hiding intOf
attribute [local go_sem ↓] Go.wp_at_zero Go.wp_at_succ

theorem results_cell_cell {P:Program} {fn:Func} {p q:Tmp} {ty tq:TypeId} (h:fn.results=#[.cell p ty,.cell q tq]) (tmps:Array Value) (w:World) (g g':Nat) (u v:Value)
  (hp:tmps.getD p undef=.pointer (some ⟨g,0,none⟩)) (hq:tmps.getD q undef=.pointer (some ⟨g',0,none⟩)) (hu:(loadVar ty ⟨g,0,none⟩).run P w=.ok u w) (hv:(loadVar tq ⟨g',0,none⟩).run P w=.ok v w) :
  (results fn tmps).run P w=.ok (.tuple #[u,v]) w:=by
 have hp':tmps[p]?.getD undef=.pointer (some ⟨g,0,none⟩):=by simpa using hp
 have hq':tmps[q]?.getD undef=.pointer (some ⟨g',0,none⟩):=by simpa using hq
 simp[results,h,hp',hq',asAddr,hu,hv]
theorem load_errno7 (w:World) (g:Nat) (n:Int) (h:w.cell? ⟨g,0,none⟩=some (.int .i64 n)):(loadVar 28 ⟨g,0,none⟩).run Tryz.prog w=.ok (.int .i64 n) w:=by
 simp[go_sem,h]
theorem load_fks (w:World) (g:Nat) (v:Value) (h:w.cell? ⟨g,0,none⟩=some v):(loadVar 46 ⟨g,0,none⟩).run Tryz.prog w=.ok v w:=by
 simp[go_sem,h]
theorem bof7_new (kd ct:Int) (pg lk ty:Nat) (bd:ByteArray) (w:World) (hbd:bd.size≤100000) :
  Calls Tryz.prog 99 #[.agg #[.int .i64 kd,.int .i64 ct,.int .u32 pg,.int .u32 lk,.int .u64 ty,.string bd]] w (OfPost7n (readF kd ct pg lk ty bd) w):=by
 have hmf : ∀ (fn:Fn) (first cap:Array Value) (w:World),(Instr.makeFunc fn first cap).run Tryz.prog w=.ok (.func fn first cap) w:=fun _ _ _ _=>rfl
 obtain⟨hz,hi⟩:=zero_of_info infoPg
 have HI:=Hd hi
 clear hi
 have HRd:=Hd (readF_is kd ct pg lk ty bd)
 obtain⟨w0,hw0⟩ : ∃ w0,w0=((w.alloc (.cells #[.int .i64 kd,.int .i64 ct,.int .u32 pg,.int .u32 lk,.int .u64 ty,.string bd] 41)).alloc (.cells #[.slice none 0 0] 46)).alloc (.cells #[.int .i64 0] 28):=⟨_,rfl⟩
 have Pp:=Hd (show Blk w0 w.heap.size 41 #[.int .i64 kd,.int .i64 ct,.int .u32 pg,.int .u32 lk,.int .u64 ty,.string bd] by rw[hw0];exact ((Blk.new _ _ _).alloc _).alloc _)
 have L0:=Hd (show Blk w0 (w.heap.size+1) 46 #[.slice none 0 0] by
  rw[hw0]
  have:=(Blk.new (w.alloc (.cells #[.int .i64 kd,.int .i64 ct,.int .u32 pg,.int .u32 lk,.int .u64 ty,.string bd] 41)) 46 #[.slice none 0 0]).alloc (.cells #[.int .i64 0] 28)
  simpa using this)
 have E0:=Hd (show Blk w0 (w.heap.size+2) 28 #[.int .i64 0] by
  rw[hw0]
  have:=Blk.new ((w.alloc (.cells #[.int .i64 kd,.int .i64 ct,.int .u32 pg,.int .u32 lk,.int .u64 ty,.string bd] 41)).alloc (.cells #[.slice none 0 0] 46)) 28 #[.int .i64 0]
  simpa using this)
 have HB:=Hd (show Below w.heap.size w w0 by rw[hw0];exact (((Below.refl _ _).alloc (Nat.le_refl _) _).alloc (by simp) _).alloc (by simp;omega) _)
 have Hbd:=Hd hbd
 have HZ0:=Hd (show w.heap.size+3≤w0.heap.size by rw[hw0];simp)
 clear hbd
 go_enter_defers Tryz.func99,Tryz.ntmps99
 go_upto_region 2 with fail
 rw[← hw0]
 clear hw0
 have c0:=Pp.out.cell 0
 have c1:=Pp.out.cell 1
 have c2:=Pp.out.cell 2
 have c3:=Pp.out.cell 3
 have c4:=Pp.out.cell 4
 have c5:=Pp.out.cell 5
 simp at c0 c1 c2 c3 c4 c5
 go_wp2_with fail
 refine (bhead_any kd ct pg lk ty bd _ Hbd.out).mono ?_
 rintro e w1 ⟨rfl,hb⟩
 replace Pp:=Hd (Pp.out.below hb Pp.out.lt)
 replace L0:=Hd (L0.out.below hb L0.out.lt)
 replace E0:=Hd (E0.out.below hb E0.out.lt)
 replace HB:=Hd (HB.out.trans (hb.mono HB.out.size))
 obtain⟨gR,hgR⟩ : ∃ gR,gR=w1.heap.size:=⟨_,rfl⟩
 have HgR:=Hd (show w.heap.size+3≤gR by rw[hgR];exact Nat.le_trans HZ0.out hb.size)
 have HgE:=Hd hgR
 clear hb c0 c1 c2 c3 c4 c5 hgR HZ0
 rcases hh:headF kd pg lk ty bd with _ | _
 ·have HE:=Hd (show readF kd ct pg lk ty bd=none by rw[HRd.out,hh];rfl)
  clear HRd hh
  go_wp2_with fail
  refine (bneed_no _).mono ?_
  rintro e w2 ⟨rfl,rfl⟩
  refine leaves_cons (f:=117) (args:=#[.pointer (some ⟨w.heap.size+1,0,none⟩),.pointer (some ⟨w.heap.size+2,0,none⟩)]) (by simp) (by simp[go_sem]) ?_
  refine (bcatch_bad (w.heap.size+1) (w.heap.size+2) _ _ [] _ _ _ L0.out E0.out (by omega)).mono ?_
  rintro e u' w'' ⟨rfl,rfl,rfl⟩
  have L1:=Hd (((L0.out.alloc (.cells #[] 186)).set_ 0 (.slice none 0 0)).far (p:=⟨w.heap.size+2,0,none⟩) (show w.heap.size+1≠w.heap.size+2 by omega) (.int .i64 4))
  have E1:=Hd (((E0.out.alloc (.cells #[] 186)).far (p:=⟨w.heap.size+1,0,none⟩) (show w.heap.size+2≠w.heap.size+1 by omega) (.slice none 0 0)).set_ 0 (.int .i64 4))
  have HB1:=Hd (((HB.out.alloc HB.out.size (.cells #[] 186)).setCell (p:=⟨w.heap.size+1,0,none⟩) (Nat.le_succ _) (.slice none 0 0)).setCell (p:=⟨w.heap.size+2,0,none⟩) (show w.heap.size≤w.heap.size+2 by omega) (.int .i64 4))
  show Leaves _ _ _ _ [] .returning _
  refine⟨_,results_cell_cell rfl _ _ (w.heap.size+1) (w.heap.size+2) (.slice none 0 0) (.int .i64 4) rfl rfl (load_fks _ _ _ (L1.out.cell 0)) (load_errno7 _ _ _ (E1.out.cell 0)),?_⟩
  rw[HE.out]
  exact⟨rfl,HB1.out⟩
 ·replace HRd:=Hd (show readF kd ct pg lk ty bd=forksF ct bd.data.toList by rw[HRd.out,hh];rfl)
  clear hh
  have c1:=Pp.out.cell 1
  have c5:=Pp.out.cell 5
  simp at c1 c5
  go_wp2_with (go_at_call 118;refine (bneed_yes _).mono ?_;rintro e w' ⟨rfl,rfl⟩)
  refine (new_any' bd _).mono ?_
  rintro e w2 ⟨rfl,hrf,hb,hlt2⟩
  replace Pp:=Hd (Pp.out.below hb Pp.out.lt)
  replace L0:=Hd (L0.out.below hb L0.out.lt)
  replace E0:=Hd (E0.out.below hb E0.out.lt)
  replace HB:=Hd (HB.out.trans (hb.mono HB.out.size))
  have HF:=Hd hrf
  clear hb hrf hlt2 c1 c5
  rw[← HgE.out] at HF ⊢
  clear HgE
  have HBx:=Hd (HB.out.alloc HB.out.size (.cells #[.pointer (some ⟨gR,0,none⟩)] 192))
  obtain⟨w3,hw3⟩ : ∃ x,x=w2.alloc (.cells #[.pointer (some ⟨gR,0,none⟩)] 192):=⟨_,rfl⟩
  have Rx:=Hd (show Blk w3 w2.heap.size 192 #[.pointer (some ⟨gR,0,none⟩)] by rw[hw3];exact Blk.new _ _ _)
  replace Pp:=Hd (show Blk w3 w.heap.size 41 #[.int .i64 kd,.int .i64 ct,.int .u32 pg,.int .u32 lk,.int .u64 ty,.string bd] by rw[hw3];exact Pp.out.alloc _)
  replace L0:=Hd (show Blk w3 (w.heap.size+1) 46 #[.slice none 0 0] by rw[hw3];exact L0.out.alloc _)
  replace E0:=Hd (show Blk w3 (w.heap.size+2) 28 #[.int .i64 0] by rw[hw3];exact E0.out.alloc _)
  replace HB:=Hd (show Below w.heap.size w w3 by rw[hw3];exact HBx.out)
  replace HF:=Hd (show IsRd w3 gR bd by rw[hw3];exact Blk.alloc HF.out _)
  go_upto_region 4 with fail
  rw[← hw3]
  have HXl:=Hd (show gR<w3.heap.size from Blk.lt HF.out)
  clear hw3 HBx
  generalize w2.heap.size=gX at *
  have c1:=Pp.out.cell 1
  have x0:=Rx.out.cell 0
  simp at c1 x0
  go_wp2_with fail
  refine (bforks_tot HF.out Hbd.out ct).mono ?_
  rintro e w4 ⟨hg,hp⟩
  rw[← HRd.out] at hp
  have hne1:some (w.heap.size+1)≠some gR:=by intro h;injection h with h;have:=HgR.out;omega
  have hne2:some (w.heap.size+2)≠some gR:=by intro h;injection h with h;have:=HgR.out;omega
  replace L0:=Hd (L0.out.grown hg hne1)
  replace E0:=Hd (E0.out.grown hg hne2)
  replace HB:=Hd (HB.out.trans (below_of_grown hg (by have:=HgR.out;omega) HB.out.size))
  rcases hr:readF kd ct pg lk ty bd with _ | l
  ·rw[hr] at hp
   have he:e=.panicked [{ v:=.iface 186 (.agg #[]),recovered:=false }]:=hp
   subst he
   have HE:=Hd hr
   clear hp hg hr
   refine leaves_cons (f:=117) (args:=#[.pointer (some ⟨w.heap.size+1,0,none⟩),.pointer (some ⟨w.heap.size+2,0,none⟩)]) (by simp) (by simp[go_sem]) ?_
   refine (bcatch_bad (w.heap.size+1) (w.heap.size+2) _ _ [] _ _ _ L0.out E0.out (by omega)).mono ?_
   rintro e u' w'' ⟨rfl,rfl,rfl⟩
   have L1:=Hd (((L0.out.alloc (.cells #[] 186)).set_ 0 (.slice none 0 0)).far (p:=⟨w.heap.size+2,0,none⟩) (show w.heap.size+1≠w.heap.size+2 by omega) (.int .i64 4))
   have E1:=Hd (((E0.out.alloc (.cells #[] 186)).far (p:=⟨w.heap.size+1,0,none⟩) (show w.heap.size+2≠w.heap.size+1 by omega) (.slice none 0 0)).set_ 0 (.int .i64 4))
   have HB1:=Hd (((HB.out.alloc HB.out.size (.cells #[] 186)).setCell (p:=⟨w.heap.size+1,0,none⟩) (Nat.le_succ _) (.slice none 0 0)).setCell (p:=⟨w.heap.size+2,0,none⟩) (show w.heap.size≤w.heap.size+2 by omega) (.int .i64 4))
   show Leaves _ _ _ _ [] .returning _
   refine⟨_,results_cell_cell rfl _ _ (w.heap.size+1) (w.heap.size+2) (.slice none 0 0) (.int .i64 4) rfl rfl (load_fks _ _ _ (L1.out.cell 0)) (load_errno7 _ _ _ (E1.out.cell 0)),?_⟩
   exact⟨rfl,HB1.out⟩
  ·rw[hr] at hp
   obtain⟨A,n,c,rfl,hrd,hnc,hcm,hlo⟩:=hp
   have HE:=Hd hr
   have HRw:=Hd hrd
   have HLo:=Hd (show ∀ ad,A=some ad→w.heap.size≤ad.block from fun ad e=>by have h1:=hlo ad e;have h2:=HgR.out;have h3:=HXl.out;omega)
   have HC:=Hd hnc
   have HMx:=Hd hcm
   clear hg hr hrd hnc hcm c1 x0
   have k0:=L0.out.cell 0
   have f0:=L0.out.frozen 0
   simp at k0
   have E1:=Hd (E0.out.far (p:=⟨w.heap.size+1,0,none⟩) (show w.heap.size+2≠w.heap.size+1 by omega) (.slice A n c))
   have L1:=Hd (L0.out.set_ 0 (.slice A n c))
   have HB1:=Hd (HB.out.setCell (p:=⟨w.heap.size+1,0,none⟩) (Nat.le_succ _) (.slice A n c))
   have k1:=E1.out.cell 0
   have f1:=E1.out.frozen 0
   simp at k1
   have HR1:=Hd (show Reads ((w4.setCell ⟨w.heap.size+1,0,none⟩ (.slice A n c)).setCell ⟨w.heap.size+2,0,none⟩ (.int .i64 0)) ((w4.setCell ⟨w.heap.size+1,0,none⟩ (.slice A n c)).setCell ⟨w.heap.size+2,0,none⟩ (.int .i64 0)).heap.size 2 A n (fkc l) by
    have hgg:=HgR.out
    have hxx:=HXl.out
    refine (HRw.out.keep_from hlo fun p hp=>?_).more (by simp[World.setCell])
    rw[World.cell?_setCell_other _ _ _ _ (fun e=>by subst e;simp at hp;omega),World.cell?_setCell_other _ _ _ _ (fun e=>by subst e;simp at hp;omega)])
   have L2:=Hd (L1.out.far (p:=⟨w.heap.size+2,0,none⟩) (show w.heap.size+1≠w.heap.size+2 by omega) (.int .i64 0))
   have E2:=Hd (E1.out.set_ 0 (.int .i64 0))
   have HB2:=Hd (HB1.out.setCell (p:=⟨w.heap.size+2,0,none⟩) (show w.heap.size≤w.heap.size+2 by omega) (.int .i64 0))
   clear hlo
   go_wp2_with fail
   refine leaves_cons (f:=117) (args:=#[.pointer (some ⟨w.heap.size+1,0,none⟩),.pointer (some ⟨w.heap.size+2,0,none⟩)]) (by simp) (by simp[go_sem]) ?_
   refine (bcatch_idle ⟨w.heap.size+1,0,none⟩ ⟨w.heap.size+2,0,none⟩ _).mono ?_
   rintro e u' w'' ⟨rfl,rfl,rfl⟩
   show Leaves _ _ _ _ [] .returning _
   refine⟨_,results_cell_cell rfl _ _ (w.heap.size+1) (w.heap.size+2) (.slice A n c) (.int .i64 0) rfl rfl (load_fks _ _ _ (L2.out.cell 0)) (load_errno7 _ _ _ (E2.out.cell 0)),?_⟩
   (try rw[HE.out])
   exact⟨A,n,c,rfl,HR1.out,HC.out,HMx.out,HB2.out,HLo.out⟩
def timesPost (B:Nat) (o:Option (List It×List UInt8)) (e:Ending) (w':World):Prop:=match o with
 | none=>∃ x:Int,e=.returned (.tuple #[.slice none 0 0,.int .i64 x])∧x≠0
 | some (l,_)=>∃ A n c,e=.returned (.tuple #[.slice A n c,.int .i64 0])∧Reads w' w'.heap.size 5 A n (itc l)∧n≤c∧c≤maxLen∧∀ ad,A=some ad→B≤ad.block
theorem ltimes_any {w:World} {g:Nat} {bd:ByteArray} (h:IsRd w g bd) (hs:bd.size≤100000) (ct:Int) :
  Calls Tryz.prog 123 #[.int .i64 ct,.func (.func 124) #[.agg #[.pointer (some ⟨g,0,none⟩)]] #[]] w fun e w'=>w.grownBy w' (some g)∧timesPost w.heap.size (parseC ct.toNat bd.data.toList) e w':=by
 have eg1 : ∀ args w,(callFunc 124 args).run Tryz.prog w=.ok (.enter 124 args) w:=fun _ _=>by first | rfl | kernel_rfl
 obtain⟨i0,hi0,hz0,hz1,hz2⟩:=info_parts infoIt
 obtain⟨hz,hi⟩:=zero_of_info infoItz
 have HI:=Hd hi
 clear hi
 have Hbd:=Hd hs
 have HF:=Hd h
 have HG:=Hd (World.grownBy.refl w (some g))
 have hgl:=Hd (Blk.lt h)
 clear h hs
 go_enter Tryz.func123,Tryz.ntmps123
 go_wp2_with fail
 go_loopw [6,7,8,10] (fun v _ _ i wr=>∃ (k:Nat) (A:Option Addr) (c:Nat) (l:List It) (r:List UInt8) (s:ByteArray),k≤ct.toNat∧i=.int .i64 k∧v=.slice A k c∧Hid (parseC k bd.data.toList=some (l,r))∧Hid (s.data.toList=r)∧Hid (IsRd wr g s)∧Hid (wr.ownsRow w.heap.size 76 5 (.slice A k c) k (itc l))∧Hid (w.grownBy wr (some g))) (fun _ _ _ i _=>ct.toNat-(intOf i).toNat)
 case atStart=>exact⟨0,none,0,[],_,bd,Nat.zero_le _,rfl,rfl,Hd rfl,Hd rfl,HF,Hd (World.ownsRow_nil _ _ _ _),HG⟩
 case round =>
  clear HF HG
  obtain⟨k,A,c,l,r,s,hk,rfl,rfl,HPr,HSr,HF,HO,HG⟩:=hrel
  have hsz:=parseC_size HPr.out
  rw[size_list] at hsz
  have hk9:k≤100000:=by
   have h2:=three_le l
   rw[parseC_len HPr.out] at h2
   have h3:=Hbd.out
   omega
  have hss:s.size≤100000:=by
   have h1:=HSr.out
   have h2:=size_list s
   rw[h1] at h2
   have h3:=Hbd.out
   omega
  clear hsz
  by_cases hlt:(k:Int)<ct
  ·have hkc:k+1≤ct.toNat:=by omega
   go_wp2_with fail
   refine (lread_item HF.out hss).mono ?_
   rintro e w2 ⟨b,x,s',rfl,hf,hg,hok⟩
   have HG2:=Hd (grown_trans HG.out hg)
   unfold itemOk at hok
   rw[HSr.out] at hok
   replace HO:=Hd (HO.out.kept hg (own_apart HO.out hgl.out))
   have HF2:=Hd hf
   obtain⟨ky,vl,ov,ln,hd⟩:=b
   dsimp only
   rcases hsf:stepC r with _ | ⟨b,r'⟩
   ·rw[hsf] at hok
    have hx1:(x != 0)=true:=by simpa using hok
    have hx2:(x==0)=false:=by simpa using hok
    have HX:=Hd hok
    have HE:=Hd (show parseC ct.toNat bd.data.toList=none by
     have h1:=parseC_none (parseC_stop HPr.out hsf) (ct.toNat-(k+1))
     rw[show k+1+(ct.toNat-(k+1))=ct.toNat by omega] at h1
     exact h1)
    have HG3:=Hd (grown_trans HG2.out (World.grownBy_alloc w2 (.cells #[.string ky,.string vl,.bool ov,.int .i64 ln,.int .u32 hd] 76) _))
    clear hok hsf hf hg HF
    go_wp2_with fail
    go_ret2
    refine⟨HG3.out,?_⟩
    rw[HE.out]
    exact⟨x,rfl,HX.out⟩
   ·rw[hsf] at hok
    obtain⟨rfl,hb,hr'⟩:=hok
    have HP4:=Hd (parseC_step HPr.out hsf)
    rw[hb] at HP4
    have HS4:=Hd hr'
    clear hf hb hr' hsf hg HF
    obtain⟨w3,hw3⟩ : ∃ x,x=w2.alloc (.cells #[.string ky,.string vl,.bool ov,.int .i64 ln,.int .u32 hd] 76):=⟨_,rfl⟩
    have M:=Hd (show Blk w3 w2.heap.size 76 #[.string ky,.string vl,.bool ov,.int .i64 ln,.int .u32 hd] by rw[hw3];exact Blk.new _ _ _)
    replace HG2:=Hd (show w.grownBy w3 (some g) by rw[hw3];exact grown_trans HG2.out (World.grownBy_alloc _ _ _))
    replace HO:=Hd (show w3.ownsRow w.heap.size 76 5 (.slice A k c) k (itc l) by rw[hw3];exact HO.out.alloc _)
    replace HF2:=Hd (show IsRd w3 g s' by rw[hw3];exact Blk.alloc HF2.out _)
    go_upto_region 7 with fail
    rw[← hw3]
    clear hw3
    generalize w2.heap.size=gM at *
    have m0:=M.out.cell 0
    have m1:=M.out.cell 1
    have m2:=M.out.cell 2
    have m3:=M.out.cell 3
    have m4:=M.out.cell 4
    simp at m0 m1 m2 m3 m4
    have HA:=Hd (HO.out.alloc (.cells #[.string ky,.string vl,.bool ov,.int .i64 ln,.int .u32 hd] 76))
    have hgl2:w.heap.size≤w3.heap.size:=HG2.out.size
    have HF3:=Hd (show IsRd (w3.alloc (.cells #[.string ky,.string vl,.bool ov,.int .i64 ln,.int .u32 hd] 76)) g s' from Blk.alloc HF2.out _)
    have HG3:=Hd (grown_trans HG2.out (World.grownBy_alloc w3 (.cells #[.string ky,.string vl,.bool ov,.int .i64 ln,.int .u32 hd] 76) _))
    go_upto_region 8 with (at_builtin;refine wpList_append_any _ rfl (.tmp 20) (.tmp 22) _ rfl w.heap.size 76 i0 _ 5 56 Tryz.underlying62 hi0 hz0 hz1 hz2 rfl (by omega) _ k _ rfl HA.out (w3.heap.size+1) (some ⟨w3.heap.size,0,none⟩) 1 1 (It.cells ⟨ky,vl,ov,ln,hd⟩) rfl (reads_own (n:=1) (Blk.new _ _ _) rfl) (it_one _) (by unfold maxLen;omega) (by omega) (by simp;omega) ?_;intro v5 w5 hown4 hg4 hat)
    clear hat
    rw[itc_snoc] at hown4
    obtain⟨A4,c4,rfl,_,_,_⟩:=own_form hown4
    have HO4:=Hd hown4
    have HF4:=Hd (show IsRd w5 g s' from Blk.grown HF3.out hg4 (own_ne HA.out hgl.out))
    have HG4:=Hd (gr_own HG3.out hg4 (fun j hj=>(HA.out.lt j hj).1))
    clear hown4 hg4 HA HF3 HG3 HG2 HO HF2 HG M m0 m1 m2 m3 m4
    go_wp2_with fail
    go_roundw
    case rel =>
     first
      | exact⟨k+1,A4,c4,_,r',s',by omega,by go_num,rfl,HP4,HS4,HF4,HO4,HG4⟩
      | ((repeat apply Exists.intro);exact⟨⟨k+1,A4,c4,_,r',s',by omega,by go_num,rfl,HP4,HS4,HF4,HO4,HG4⟩,rfl⟩)
    case measure=>simp[intOf];omega
  ·have hkc:k=ct.toNat:=by omega
   obtain⟨A',c',he,h1,h2,_⟩:=own_form HO.out
   injection he with e1 e2 e3
   subst e1
   subst e3
   have HR:=Hd (Reads.of_own HO.out)
   have HC:=Hd h1
   have HMx:=Hd h2
   have HLo:=Hd (show ∀ ad,A=some ad→w.heap.size≤ad.block from fun ad h=>(HO.out.lt ad.block (by rw[h];rfl)).1)
   have HQ:=Hd (show parseC ct.toNat bd.data.toList=some (l,r) by rw[← hkc];exact HPr.out)
   clear h1 h2 HO hkc
   go_wp2_with fail
   go_ret2
   refine⟨HG.out,?_⟩
   rw[HQ.out]
   exact⟨A,k,c,rfl,HR.out,HC.out,HMx.out,HLo.out⟩
end Go.Proofs.YtanbbnogdhnikaaGreat

