/-
  Contracts of the reference's through, All, From, Pages of layer 12. No statement is proved here.
-/
import Derived.Test.YtanbbnogdhnikaaGreatJ52
import Derived.Test.YtanbbnogdhnikaaGreatJ48
set_option linter.unusedVariables false
set_option linter.unusedSimpArgs false
set_option maxRecDepth 300000
set_option maxHeartbeats 25600000
namespace Go.Proofs.YtanbbnogdhnikaaGreat
open Go.RowKit
open Go.Lib hiding intOf
attribute [local go_sem ↓] Go.wp_at_zero Go.wp_at_succ

def ThrPost (sz:Int) (img:ByteArray) (root:Nat) (w:World) (e:Ending) (w':World):Prop :=
 ∃ (b:Nat) (L':List Nat) (V Vp:Value),e=.returned (.pointer (some ⟨b,0,none⟩))∧Below w.heap.size w w'∧Gr w' b sz img L' (treeV sz img root).1 (treeE sz img root) V Vp∧(treeE sz img root=0→L'=((treeV sz img root).2).getD [])
theorem gr_new (w:World) (sz:Int) (img:ByteArray):Gr (w.alloc (.cells #[.int .i64 sz,.string img,.slice none 0 0,.slice none 0 0,.int .i64 0] 112)) w.heap.size sz img [] [] 0 (.slice none 0 0) (.slice none 0 0) :=
 ⟨Blk.new _ _ _,⟨rfl,.inl ⟨rfl,rfl⟩⟩,⟨rfl,.inl ⟨rfl,rfl⟩⟩⟩
theorem rthrough_any (sz:Int) (img:ByteArray) (root:Nat) (w:World) (hs:img.size≤400000) (hr:root<4294967296) :
  Calls Tryz.prog 55 #[.int .i64 sz,.string img,.int .u32 root] w (ThrPost sz img root w):=by
 have HGd:=fun w=>rgood_any sz w
 obtain⟨w0,hw0⟩ : ∃ y,y=w.alloc (.cells #[.int .i64 sz,.string img,.slice none 0 0,.slice none 0 0,.int .i64 0] 112):=⟨_,rfl⟩
 have HG:=Hd (show Gr w0 w.heap.size sz img [] [] 0 (.slice none 0 0) (.slice none 0 0) by rw[hw0];exact gr_new w sz img)
 have HB:=Hd (show Below w.heap.size w w0 by rw[hw0];exact (Below.refl _ _).alloc (Nat.le_refl _) _)
 rcases hg:goodSize sz with _ | _
 ·rw[hg] at HGd
  have HV:=Hd (show (treeV sz img root).1=[] by unfold treeV;rw[hg];rfl)
  have HE:=Hd (show treeE sz img root=2 by unfold treeE;rw[hg];rfl)
  have c4:=HG.out.blk.cell 4
  have f4:=HG.out.blk.frozen 4
  simp at c4
  obtain⟨e1,e2⟩:=HG.out.err 2
  clear hg
  go_enter Tryz.func55,Tryz.ntmps55
  go_wp2_with fail
  rw[← hw0]
  clear hw0
  refine (HGd _).mono ?_
  rintro e w1 ⟨rfl,rfl⟩
  go_wp2_with fail
  go_ret
  exact⟨_,[],_,_,rfl,HB.out.setCell (p:=⟨w.heap.size,4,none⟩) (Nat.le_refl _) _,by rw[HV.out,HE.out];exact e1,fun h=>by rw[HE.out] at h;cases h⟩
 ·rw[hg] at HGd
  by_cases h0:root=0
  ·subst h0
   have HV:=Hd (show treeV sz img 0=([],some []) by unfold treeV;rw[hg];rfl)
   have HE:=Hd (show treeE sz img 0=0 by unfold treeE;rw[hg,HV.out];rfl)
   clear hg
   go_enter Tryz.func55,Tryz.ntmps55
   go_wp2_with fail
   rw[← hw0]
   clear hw0
   refine (HGd _).mono ?_
   rintro e w1 ⟨rfl,rfl⟩
   go_wp2_with fail
   go_ret
   exact⟨_,[],_,_,rfl,HB.out,by rw[HE.out,HV.out];exact HG.out,fun _=>by rw[HV.out];rfl⟩
  ·have hr0:((root:Int)==0)=false:=by simp;omega
   have hr1:((root:Int) != 0)=true:=by simp;omega
   have HV:=Hd (show treeV sz img root=trav sz img 16 root [] by unfold treeV;rw[hg,if_pos rfl,if_neg h0])
   have HE:=Hd (show treeE sz img root=if (trav sz img 16 root []).2.isSome then 0 else 4 by unfold treeE;rw[hg,HV.out];rfl)
   have HC:=Hd (rgo1_any sz img hg hs w.heap.size 16 1 rfl root [] [] _ _ w0 hr (InL.nil img) (by simp) HG.out)
   clear hg h0
   go_enter Tryz.func55,Tryz.ntmps55
   go_wp2_with fail
   rw[← hw0]
   clear hw0
   refine (HGd _).mono ?_
   rintro e w1 ⟨rfl,rfl⟩
   go_wp2_with fail
   refine HC.out.mono ?_
   rintro e w2 ⟨rfl,L',e',V',Vp',hf,hgr,hm⟩
   have HGr:=Hd hgr
   have HM:=Hd hm
   have HB2:=Hd (HB.out.trans (hf.kept.below (B:=w.heap.size) (by rintro k (rfl | h | h);exact Nat.le_refl _;simp[Value.ownBlock] at h;simp[Value.ownBlock] at h) HB.out.size))
   clear hf hgr hm HC
   go_wp2_with fail
   go_ret
   refine⟨_,L',V',Vp',rfl,HB2.out,?_,?_⟩
   ·rw[HV.out,HE.out]
    have h1:=HM.out
    have h2:=HGr.out
    rw[List.nil_append] at h2
    rcases ht:(trav sz img 16 root []).2 with _ | M
    ·rw[ht] at h1
     have h3:e'=4:=h1
     subst h3
     exact h2
    ·rw[ht] at h1
     obtain⟨h3,_⟩:=h1
     subst h3
     exact h2
   ·intro he
    rw[HE.out] at he
    rw[HV.out]
    have h1:=HM.out
    rcases ht:(trav sz img 16 root []).2 with _ | M
    ·rw[ht] at he;cases he
    ·rw[ht] at h1
     exact h1.2
end Go.Proofs.YtanbbnogdhnikaaGreat

