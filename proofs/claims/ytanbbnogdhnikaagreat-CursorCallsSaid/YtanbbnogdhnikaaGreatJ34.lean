/-
  Contract of leaf.Of: the items of which a page is the page. (Written by wip/tools/gen_leof.py.)
-/
import Derived.Test.YtanbbnogdhnikaaGreatJ31
import Derived.Test.YtanbbnogdhnikaaGreatJ33
set_option linter.unusedVariables false
set_option linter.unusedSimpArgs false
set_option maxRecDepth 300000
set_option maxHeartbeats 25600000
namespace Go.Proofs.YtanbbnogdhnikaaGreat
open Go.RowKit
open Go.Lib hiding intOf
attribute [local go_sem ↓] Go.wp_at_zero Go.wp_at_succ

theorem parseC_vl : ∀ {k:Nat} {bs:List UInt8} {l:List It} {r:List UInt8},parseC k bs=some (l,r)→∀ b,b∈l→b.ov=true→b.vl.size=0
 | 0,bs,l,r,h,b,hb=>by simp[parseC] at h;obtain⟨rfl,_⟩:=h;cases hb
 | k+1,bs,l,r,h,b,hb=>by
  simp only[parseC] at h
  split at h
  ·cases h
  ·rename_i l0 r0 h0
   split at h
   ·cases h
   ·rename_i x r1 hs
    injection h with h
    injection h with h1 _
    rw[← h1] at hb
    rcases List.mem_append.1 hb with hb | hb
    ·exact parseC_vl h0 b hb
    ·simp only[List.mem_singleton] at hb
     subst hb
     exact stepI_vl hs
theorem parseC_near {k:Nat} {bs:List UInt8} {l:List It} {r:List UInt8} (h:parseC k bs=some (l,r)) (hs:bs.length≤100000):NearI l:=fun b hb=>by
 have h2:=parseC_size h
 have h3:=sizeI_mem hb
 have h4:=parseC_vl h b hb
 unfold oneI at h3
 split at h3
 ·rename_i hov
  have:=h4 hov
  exact⟨by omega,by omega⟩
 ·exact⟨by omega,by omega⟩
theorem lof8_new (kd ct:Int) (pg lk ty:Nat) (bd:ByteArray) (w:World) (hbd:bd.size≤100000) :
  Calls Tryz.prog 100 #[.agg #[.int .i64 kd,.int .i64 ct,.int .u32 pg,.int .u32 lk,.int .u64 ty,.string bd]] w (OfPost8n (readI kd ct pg lk ty bd) w):=by
 have hmf : ∀ (fn:Fn) (first cap:Array Value) (w:World),(Instr.makeFunc fn first cap).run Tryz.prog w=.ok (.func fn first cap) w:=fun _ _ _ _=>rfl
 obtain⟨w0,hw0⟩ : ∃ x,x=w.alloc (.cells #[.int .i64 kd,.int .i64 ct,.int .u32 pg,.int .u32 lk,.int .u64 ty,.string bd] 41):=⟨_,rfl⟩
 have Pp:=Hd (show Blk w0 w.heap.size 41 #[.int .i64 kd,.int .i64 ct,.int .u32 pg,.int .u32 lk,.int .u64 ty,.string bd] by rw[hw0];exact Blk.new _ _ _)
 have HB:=Hd (show Below w.heap.size w w0 by rw[hw0];exact (Below.refl _ _).alloc (Nat.le_refl _) _)
 have hws:IntKind.i64.wrap ((bd.size:Int)+24)=((bd.size+24:Nat):Int):=by rw[IntKind.wrap_i64];omega
 have hws2:((bd.size:Int)+24)=((bd.size+24:Nat):Int):=by omega
 have Hbd:=Hd hbd
 obtain⟨z,hz⟩ : ∃ z:Nat,z=bd.size+24:=⟨_,rfl⟩
 have hwz:wrap64 (z:Int)=(z:Int):=wrap64_nat z (by omega)
 rw[← hz] at hws hws2
 rcases hg:goodSize z with _ | _
 ·have HM:=fun w=>room_no z w hg
  have HE:=Hd (show readI kd ct pg lk ty bd=none from readI_unfit fun l=>by rw[← hz,mayP8,hg];rfl)
  clear hg hbd hz
  go_enter Tryz.func100,Tryz.ntmps100
  go_upto_region 1 with fail
  rw[← hw0]
  clear hw0
  have p5:=Pp.out.cell 5
  simp at p5
  go_wp2_with (go_at_call 122;refine (HM _).mono ?_;rintro e w' ⟨rfl,rfl⟩)
  go_ret2
  rw[HE.out]
  exact⟨rfl,HB.out⟩
 have HM:=fun w=>room_yes z w hg
 have hgp:=good_pos hg
 have hr0:(((z:Int)-24)==0)=false:=by simp;omega
 obtain⟨hzp,hi⟩:=zero_of_info infoPg
 have HI:=Hd hi
 have HZ:=Hd hz
 clear hi hg hgp hbd hz
 rcases hpc:parseC ct.toNat bd.data.toList with _ | ⟨l,r⟩
 ·have HPc:=Hd hpc
  have HE:=Hd (show readI kd ct pg lk ty bd=none from readI_unread hpc)
  clear hpc
  go_enter Tryz.func100,Tryz.ntmps100
  go_upto_region 1 with fail
  rw[← hw0]
  clear hw0
  have p5:=Pp.out.cell 5
  simp at p5
  go_upto_region 4 with (go_at_call 122;refine (HM _).mono ?_;rintro e w' ⟨rfl,rfl⟩)
  clear p5 hws hwz hws2 hr0 HM
  have HLt:=Hd Pp.out.lt
  have B0:=Hd Pp.out.drew
  replace HB:=Hd HB.out.drew
  refine wp_region_held_drew (S:=(fun w'=>w'.cell? ⟨w.heap.size,1,none⟩=some (.int .i64 ct)∧w'.cell? ⟨w.heap.size,5,none⟩=some (.string bd))) (by kernel_rfl) ⟨B0.out.cell 1,B0.out.cell 5⟩ (fun hHeld=>?_)
  refine tkA (i:=0) ?_
  try simp only[tkP]
  refine tkA (i:=1) ?_
  try simp only[tkP]
  refine tkA (i:=2) ?_
  try simp only[tkP]
  refine tkA (i:=3) ?_
  try simp only[tkP]
  refine wpAnyH_ready (rs:=[4]) (by kernel_rfl) (by simp) ?_
  refine tkC (fun K hK=>?_)
  go_simp
  refine (new_any' bd _).mono ?_
  rintro e w1 ⟨rfl,hrf,hb,hlt1⟩
  replace B0:=Hd (B0.out.below hb B0.out.lt)
  have HG:=Hd hb.size
  replace HB:=Hd (HB.out.trans (hb.mono HB.out.size))
  have HF:=Hd hrf
  clear hb hrf hlt1
  refine hK.out _ _ (⟨B0.out.cell 1,B0.out.cell 5⟩) (fun hHeld=>?_)
  clear hK K
  try simp only[tkP]
  refine tkA (i:=5) ?_
  try simp only[tkP]
  refine tkA (i:=6) ?_
  try simp only[tkP]
  refine wpAnyH_ready (rs:=[7]) (by kernel_rfl) (by simp) ?_
  refine tkC (fun K hK=>?_)
  go_simp
  refine (ltimes_any HF.out Hbd.out ct).mono ?_
  rintro e w2 ⟨hg,hp⟩
  rw[HPc.out] at hp
  obtain⟨x,rfl,hx⟩:=hp
  have HX:=Hd hx
  replace B0:=Hd (Blk.grown B0.out hg (by intro h;injection h with h;have h2:w.heap.size<w0.drew.heap.size:=HLt.out;omega))
  replace HB:=Hd (HB.out.trans (below_of_grown hg (Nat.le_of_lt HLt.out) HB.out.size))
  clear hg
  refine hK.out _ _ (⟨B0.out.cell 1,B0.out.cell 5⟩) (fun hHeld=>?_)
  clear hK K
  try simp only[tkP]
  refine tkA (i:=8) ?_
  try simp only[tkP]
  refine tkA (i:=9) ?_
  try simp only[tkP]
  refine tkA (i:=10) ?_
  try simp only[tkP]
  refine tkA (i:=11) ?_
  try simp only[tkP]
  refine tkA (i:=12) ?_
  try simp only[tkP]
  refine wpAnyH_done (by kernel_rfl) ?_ _
  have hx1:(x != 0)=true:=by simpa using HX.out
  have hx2:(x==0)=false:=by simpa using HX.out
  go_wp2_with fail
  go_ret2
  rw[HE.out]
  exact⟨rfl,HB.out⟩
 ·have HPc:=Hd hpc
  have hsz:=parseC_size hpc
  rw[size_list] at hsz
  have h3:=three_le l
  have HNe:=Hd (parseC_near hpc (by rw[size_list];exact Hbd.out))
  have HL3:=Hd (show l.length≤100000 by have:=Hbd.out;omega)
  clear hpc hsz h3
  go_enter Tryz.func100,Tryz.ntmps100
  go_upto_region 1 with fail
  rw[← hw0]
  clear hw0
  have p5:=Pp.out.cell 5
  simp at p5
  go_upto_region 4 with (go_at_call 122;refine (HM _).mono ?_;rintro e w' ⟨rfl,rfl⟩)
  clear p5 hws hwz hws2 hr0 HM
  have HLt:=Hd Pp.out.lt
  have B0:=Hd Pp.out.drew
  replace HB:=Hd HB.out.drew
  refine wp_region_held_drew (S:=(fun w'=>w'.cell? ⟨w.heap.size,1,none⟩=some (.int .i64 ct)∧w'.cell? ⟨w.heap.size,5,none⟩=some (.string bd))) (by kernel_rfl) ⟨B0.out.cell 1,B0.out.cell 5⟩ (fun hHeld=>?_)
  refine tkA (i:=0) ?_
  try simp only[tkP]
  refine tkA (i:=1) ?_
  try simp only[tkP]
  refine tkA (i:=2) ?_
  try simp only[tkP]
  refine tkA (i:=3) ?_
  try simp only[tkP]
  refine wpAnyH_ready (rs:=[4]) (by kernel_rfl) (by simp) ?_
  refine tkC (fun K hK=>?_)
  go_simp
  refine (new_any' bd _).mono ?_
  rintro e w1 ⟨rfl,hrf,hb,hlt1⟩
  replace B0:=Hd (B0.out.below hb B0.out.lt)
  have HG:=Hd hb.size
  replace HB:=Hd (HB.out.trans (hb.mono HB.out.size))
  have HF:=Hd hrf
  clear hb hrf hlt1
  refine hK.out _ _ (⟨B0.out.cell 1,B0.out.cell 5⟩) (fun hHeld=>?_)
  clear hK K
  try simp only[tkP]
  refine tkA (i:=5) ?_
  try simp only[tkP]
  refine tkA (i:=6) ?_
  try simp only[tkP]
  refine wpAnyH_ready (rs:=[7]) (by kernel_rfl) (by simp) ?_
  refine tkC (fun K hK=>?_)
  go_simp
  refine (ltimes_any HF.out Hbd.out ct).mono ?_
  rintro e w2 ⟨hg,hp⟩
  rw[HPc.out] at hp
  obtain⟨A',n',c',rfl,hr,hc,hm,hlo⟩:=hp
  have HLo:=Hd (show ∀ ad,A'=some ad→w.heap.size≤ad.block from fun ad e=>by have h1:=hlo ad e;have h2:=HLt.out;have h3:=HG.out;(try simp at h3);omega)
  clear hlo
  have HR:=Hd hr
  have HC:=Hd hc
  have HMx:=Hd hm
  clear hr hc hm
  replace B0:=Hd (Blk.grown B0.out hg (by intro h;injection h with h;have h2:w.heap.size<w0.drew.heap.size:=HLt.out;omega))
  replace HB:=Hd (HB.out.trans (below_of_grown hg (Nat.le_of_lt HLt.out) HB.out.size))
  clear hg
  refine hK.out _ _ (⟨B0.out.cell 1,B0.out.cell 5⟩) (fun hHeld=>?_)
  clear hK K
  try simp only[tkP]
  refine tkA (i:=8) ?_
  try simp only[tkP]
  refine tkA (i:=9) ?_
  try simp only[tkP]
  refine tkA (i:=10) ?_
  try simp only[tkP]
  refine tkA (i:=11) ?_
  try simp only[tkP]
  refine tkA (i:=12) ?_
  try simp only[tkP]
  refine wpAnyH_done (by kernel_rfl) ?_ _
  have HL:=Hd (it_len HR.out)
  have hn:n'≤2513169434916:=by have h1:=HL3.out;have h2:=HL.out;omega
  replace Pp:=Hd B0.out
  clear B0 HF HG
  have c2:=Pp.out.cell 2
  have c4:=Pp.out.cell 4
  simp at c2 c4
  rcases hy:mayP8 z pg ty l with _ | _
  ·have HE:=Hd (show readI kd ct pg lk ty bd=none by
    rcases hr:readI kd ct pg lk ty bd with _ | l'
    ·rfl
    ·have h1:=(readI_some hr).1
     rw[readI_read HPc.out hr,← HZ.out,hy] at h1
     cases h1)
   have HP:=lpage8_no z pg ty A' n' c' l _ HR.out hn HNe.out hy
   clear hy
   go_wp2_with fail
   refine HP.mono ?_
   rintro e w3 ⟨rfl,hb⟩
   replace HB:=Hd (HB.out.trans (hb.mono HB.out.size))
   clear hb HP
   go_wp2_with fail
   go_ret2
   rw[HE.out]
   exact⟨rfl,HB.out.alloc HB.out.size _⟩
  ·have HP:=lpage8_yes z pg ty A' n' c' l _ HR.out hn hy
   obtain⟨B,hB⟩ : ∃ B,B=itemBody z l:=⟨_,rfl⟩
   rw[← hB] at HP
   have HBz:=Hd hB
   have HYy:=Hd hy
   clear hB hy hn
   go_wp2_with fail
   refine HP.mono ?_
   rintro e w3 ⟨rfl,hb⟩
   replace Pp:=Hd (Pp.out.below hb Pp.out.lt)
   replace HB:=Hd (HB.out.trans (hb.mono HB.out.size))
   replace HR:=Hd ((HR.out.below hb).more hb.size)
   clear hb HP c2 c4
   obtain⟨w4,hw4⟩ : ∃ x,x=w3.alloc (.cells #[.int .i64 4,.int .i64 n',.int .u32 pg,.int .u32 0,.int .u64 ty,.string B] 41):=⟨_,rfl⟩
   have Q:=Hd (show Blk w4 w3.heap.size 41 #[.int .i64 4,.int .i64 n',.int .u32 pg,.int .u32 0,.int .u64 ty,.string B] by rw[hw4];exact Blk.new _ _ _)
   replace Pp:=Hd (show Blk w4 w.heap.size 41 #[.int .i64 kd,.int .i64 ct,.int .u32 pg,.int .u32 lk,.int .u64 ty,.string bd] by rw[hw4];exact Pp.out.alloc _)
   replace HB:=Hd (show Below w.heap.size w w4 by rw[hw4];exact HB.out.alloc HB.out.size _)
   replace HR:=Hd (show Reads w4 w4.heap.size 5 A' n' (itc l) by rw[hw4];exact (HR.out.alloc (Nat.le_refl _) _).more (by simp))
   go_upto_region 8 with fail
   rw[← hw4]
   clear hw4
   generalize w3.heap.size=gQ at *
   have c0:=Pp.out.cell 0
   have c1:=Pp.out.cell 1
   have c2:=Pp.out.cell 2
   have c3:=Pp.out.cell 3
   have c4:=Pp.out.cell 4
   have c5:=Pp.out.cell 5
   have q0:=Q.out.cell 0
   have q1:=Q.out.cell 1
   have q2:=Q.out.cell 2
   have q3:=Q.out.cell 3
   have q4:=Q.out.cell 4
   have q5:=Q.out.cell 5
   simp at c0 c1 c2 c3 c4 c5 q0 q1 q2 q3 q4 q5
   by_cases hd:(4:Int)=kd∧(n':Int)=ct∧(0:Int)=lk∧B=bd
   ·obtain⟨rfl,rfl,hlk,rfl⟩:=hd
    have hlk0:lk=0:=by omega
    subst hlk0
    clear hlk
    simp at c3
    have HE:=Hd (show readI 4 n' pg 0 ty B=some l by
     have h1:=readI_page HYy.out
     rw[HL.out,← HBz.out] at h1
     exact h1)
    have hpq:=fun w=>page8_neq_no 4 n' pg 0 ty B w
    go_wp2_with fail
    go_ret2
    rw[HE.out]
    exact⟨A',n',c',rfl,HR.out,HC.out,HMx.out,HB.out,HLo.out⟩
   ·have HE:=Hd (show readI kd ct pg lk ty bd=none by
     rcases hr:readI kd ct pg lk ty bd with _ | l'
     ·rfl
     ·have h1:=readI_some hr
      rw[readI_read HPc.out hr,← HZ.out,← HBz.out] at h1
      obtain⟨_,e1,e2,e3,e4⟩:=h1
      have h2:=HL.out
      exact absurd ⟨e1.symm,by omega,by omega,e4.symm⟩ hd)
    have hpq:=fun w=>page8_neq_yes 4 n' pg 0 ty B kd ct pg lk ty bd w (by intro ⟨e1,e2,_,e4,_,e6⟩;exact hd ⟨e1,e2,e4,e6⟩)
    clear hd
    go_wp2_with fail
    go_ret2
    rw[HE.out]
    exact⟨rfl,HB.out⟩
end Go.Proofs.YtanbbnogdhnikaaGreat

