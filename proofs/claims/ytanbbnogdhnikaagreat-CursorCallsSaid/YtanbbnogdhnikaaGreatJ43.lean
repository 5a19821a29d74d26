/-
  Contract of the statements' laid: an image with a tree of pairs. No statement is proved here.
-/
import Derived.Test.YtanbbnogdhnikaaGreatJ41
import Derived.Test.YtanbbnogdhnikaaGreatJ42
set_option linter.unusedVariables false
set_option linter.unusedSimpArgs false
set_option maxRecDepth 300000
set_option maxHeartbeats 25600000
namespace Go.Proofs.YtanbbnogdhnikaaGreat
open Go.RowKit
open Go.Lib hiding intOf
attribute [local go_sem ↓] Go.wp_at_zero Go.wp_at_succ

def PrAt (w:World) (p:Addr) (b:Pr):Prop:=w.cell? p=some (.string b.ky)∧w.cell? ⟨p.block,p.off+1,none⟩=some (.string b.vl)
theorem pr_at {w:World} {B n i:Nat} {A:Option Addr} {l:List Pr} (h:Reads w B 2 A n (prc l)) (hi:i<n) :
  ∃ ad x,A=some ad∧ad.block<B∧(ad.add (i*2)).block<B∧l[i]? = some x∧PrAt w (ad.add (i*2)) x:=by
 obtain⟨ad,x,hA,hb,hx,hc⟩:=row_at (fun b=>Pr.cells_len b) (by decide) h hi
 exact⟨ad,x,hA,hb,by rw[block_add];exact hb,hx,cells2 hc⟩
theorem pr_len {w:World} {B n:Nat} {A:Option Addr} {l:List Pr} (h:Reads w B 2 A n (prc l)):l.length=n:=rows_len (fun b=>Pr.cells_len b) (by decide) h
def LevOk:Nat→List Pg→List Fk→Prop
 | 0,L,F=>F.length≤1∧L.length≤1000000
 | d+1,L,F=>(F.length≤1∧L.length≤1000000)∨(2≤F.length∧brMay 128 (2+L.length) (cutG sizeF 104 F.length F)=true∧F.length≤1000∧sizeF F≤1000000∧L.length≤100000∧LevOk d (L++brPgs 128 (2+L.length) (cutG sizeF 104 F.length F)) (brFks (2+L.length) (cutG sizeF 104 F.length F)))
def ptsY (l:List Pr):List (List It):=cutG sizeI 104 l.length (itemsY 128 [] l).2
def pgsY (l:List Pr):List Pg:=(itemsY 128 [] l).1++leafPgs 128 (2+(itemsY 128 [] l).1.length) (ptsY l)
def fksY (l:List Pr):List Fk:=leafFks (2+(itemsY 128 [] l).1.length) (ptsY l)
def okY (l:List Pr):Bool:=leafMay 128 (2+(itemsY 128 [] l).1.length) (ptsY l)
def topY (l:List Pr):List Pg×List Fk:=levelsY 128 l.length (pgsY l) (fksY l)
def rootY (l:List Pr):Nat:=((topY l).2.head?.map (·.rt)).getD 0
structure LayOk (l:List Pr):Prop where
 few:l.length≤1000
 vals : ∀ p∈l,p.vl.size≤4096
 pgs : ∀ k,(itemsY 128 [] (l.take k)).1.length≤100000
 near:NearI (itemsY 128 [] l).2
 size:sizeI (itemsY 128 [] l).2≤1000000
 lev:okY l=true→LevOk l.length (pgsY l) (fksY l)
def LaidPost (l:List Pr) (w:World) (e:Ending) (w':World):Prop :=
 Below w.heap.size w w'∧((okY l=false∧e=.returned (.tuple #[.string ⟨#[]⟩,.int .u32 0,.bool false])) ∨
  (okY l=true∧e=.returned (.tuple #[.string (layStr 128 ⟨#[]⟩ (topY l).1),.int .u32 (rootY l),.bool (decide (layErr 128 ⟨#[]⟩ (topY l).1=0))])))
theorem LyStep.deep {b:Nat} {w w0 w':World} {V':Value} (h:LyStep b (.slice none 0 0) w0 V' w') (h0:Below w.heap.size w w0) (hb:w.heap.size≤b):Below w.heap.size w w' :=
 h0.trans ((h.kept.below (B:=w.heap.size) (by rintro k (rfl | hk);exact hb;simp[Value.ownBlock] at hk) h0.size).mono (Nat.le_refl _))
theorem row_grow {w wa w5:World} {b n B sz:Nat} {V V' so:Value} {L:List Pg} {xs:List Value} {e:TypeId} (hL:LyAt wa b V' L) (hS:LyStep b V w V' wa) (ho:wa.ownsRow B e sz so n xs) (hB:w.heap.size≤B) (hg:wa.grownBy w5 so.ownBlock) (h1:41≠e) (h2:e≠74) :
  LyAt w5 b V' L∧LyStep b V w V' w5 :=
 have hk:Kept (fun k=>so.ownBlock=some k) wa w5:=Kept.of_grown hg fun k e=>e
 ⟨hL.kept hk (own_ne_blk ho hL.blk h2) (fun k hv hf=>own_ne_own hL.own ho h1 hv hf),⟨hS.kept.then hk (fun i hi=>.inr (Nat.le_trans hB (own_base ho i hi))),hS.own⟩⟩
theorem levelsY_one {z d:Nat} {L:List Pg} {F:List Fk} (h:F.length≤1):levelsY z d L F=(L,F):=by
 cases d with
 | zero=>rfl
 | succ d=>rw[levelsY,if_pos h]
theorem levelsY_more {d:Nat} {L:List Pg} {F:List Fk} (h:2≤F.length):levelsY 128 (d+1) L F=levelsY 128 d (L++brPgs 128 (2+L.length) (cutG sizeF 104 F.length F)) (brFks (2+L.length) (cutG sizeF 104 F.length F)):=by
 rw[levelsY,if_neg (by omega)]
theorem laid_any (A:Option Addr) (n c:Nat) (l:List Pr) (w:World) (hr:Reads w w.heap.size 2 A n (prc l)) (hk:LayOk l) :
  Calls Tryz.prog 11 #[.int .i64 128,.slice A n c] w (LaidPost l w):=by
 have hln:=pr_len hr
 have hn9:n≤1000:=hln ▸ hk.few
 have HL:=Hd hln
 have HK:=Hd hk
 have HR:=Hd hr
 obtain⟨w0,hw0⟩ : ∃ x,x=w.alloc (.cells #[.int .i64 128,.slice none 0 0] 74):=⟨_,rfl⟩
 have HB0:=Hd (show Below w.heap.size w w0 by rw[hw0];exact (Below.refl _ _).alloc (Nat.le_refl _) _)
 have HLy0:=Hd (show LyAt w0 w.heap.size (.slice none 0 0) [] from ⟨by rw[hw0];exact Blk.new _ _ _,World.ownsRow_nil _ _ _ _⟩)
 obtain⟨i0,hi0,hz0,hz1,hz2⟩:=info_parts infoIt
 clear hr hk hln
 go_enter Tryz.func11,Tryz.ntmps11
 go_upto_region 2 with fail
 rw[← hw0]
 clear hw0
 go_wp2_with fail
 go_loopw [8,9] (fun vo vi wr=>∃ (k:Nat) (A':Option Addr) (c':Nat) (V':Value),k≤n∧vi=.int .i64 k∧vo=.slice A' k c'∧Hid (wr.ownsRow w0.heap.size 76 5 (.slice A' k c') k (itc (itemsY 128 [] (l.take k)).2))∧Hid (LyAt wr w.heap.size V' (itemsY 128 [] (l.take k)).1)∧Hid (LyStep w.heap.size (.slice none 0 0) w0 V' wr)) (fun _ vi _=>n-(intOf vi).toNat)
 case atStart=>exact⟨0,none,0,_,Nat.zero_le _,rfl,rfl,Hd (World.ownsRow_nil _ _ _ _),HLy0,Hd (LyStep.refl _ _ _)⟩
 case round =>
  obtain⟨k,A',c',V',hkn,rfl,rfl,HO,HLy,HSt⟩:=hrel
  rename World=>wo
  by_cases hlt:k<n
  ·have HRo:=HR.out.below (HSt.out.deep HB0.out (Nat.le_refl _))
   obtain⟨ad,⟨ky,vl⟩,rfl,hab,hab2,hx,hat⟩:=pr_at HRo hlt
   have k0:=hat.1
   have k1:=hat.2
   dsimp only at k0 k1
   have hv:vl.size≤4096:=HK.out.vals _ (List.mem_of_getElem? hx)
   have hg:decide ((4096:Int)<(vl.size:Int))=false:=by simp;omega
   have hsn:itemsY 128 [] (l.take (k+1))=((itemY 128 (itemsY 128 [] (l.take k)).1 ⟨ky,vl⟩).1,(itemsY 128 [] (l.take k)).2++[(itemY 128 (itemsY 128 [] (l.take k)).1 ⟨ky,vl⟩).2]):=by rw[take_snoc_at hx,itemsY_snoc]
   have hI:=yitem_any ky vl HLy.out (HK.out.pgs k) hv
   obtain⟨LK,hLK⟩ : ∃ x,x=(itemsY 128 [] (l.take k)).1:=⟨_,rfl⟩
   obtain⟨IK,hIK⟩ : ∃ x,x=(itemsY 128 [] (l.take k)).2:=⟨_,rfl⟩
   rw[← hLK] at HLy hI hsn
   rw[← hIK] at HO hsn
   obtain⟨Lx,hLx⟩ : ∃ x,x=(itemY 128 LK ⟨ky,vl⟩).1:=⟨_,rfl⟩
   obtain⟨y,hy⟩ : ∃ x,x=(itemY 128 LK ⟨ky,vl⟩).2:=⟨_,rfl⟩
   rw[← hLx,← hy] at hI hsn
   obtain⟨yk,yv,yo,yl,yh⟩:=y
   have HI:Calls Tryz.prog 36 #[.pointer (some ⟨w.heap.size,0,none⟩),.agg #[.string ky,.string vl]] wo fun e w'=>e=.returned (.agg #[.string yk,.string yv,.bool yo,.int .i64 yl,.int .u32 yh])∧∃ V1,LyAt w' w.heap.size V1 Lx∧LyStep w.heap.size V' wo V1 w':=hI
   have HSn:=Hd hsn
   clear hLK hIK hLx hy hI hsn hv hat hx hab HRo
   go_wp2_with (first
    | (go_at_call 36;refine HI.mono ?_;rintro e w1 ⟨rfl,V1,hL1,hS1⟩;have HL1:=Hd (hL1.below ((Below.refl _ w1).alloc (Nat.le_refl _) (.cells #[.string yk,.string yv,.bool yo,.int .i64 yl,.int .u32 yh] 76)));have HS1:=Hd ((HSt.out.trans hS1).below ((Below.refl _ w1).alloc (Nat.le_refl _) (.cells #[.string yk,.string yv,.bool yo,.int .i64 yl,.int .u32 yh] 76)));have HX:=Hd ((hS1.row HO.out (own_ne_blk HO.out HLy.out.blk (by decide)) (fun k hv hk=>own_ne_own HLy.out.own HO.out (by decide) hv hk)).alloc (.cells #[.string yk,.string yv,.bool yo,.int .i64 yl,.int .u32 yh] 76));clear hL1 hS1)
    | (at_builtin;refine wpList_append_any _ rfl (.tmp 31) (.tmp 38) _ rfl w0.heap.size 76 i0 _ 5 56 Tryz.underlying62 hi0 hz0 hz1 hz2 rfl (by omega) (.slice A' k c') k _ rfl HX.out (w1.heap.size+1) (some ⟨w1.heap.size,0,none⟩) 1 1 (itc [⟨yk,yv,yo,yl,yh⟩]) rfl (reads_own (n:=1) (Blk.new _ _ _) rfl) (itc_one _) (by unfold maxLen;omega) (by omega) HS1.out.kept.size ?_;intro v5 w5 hown5 hg5 hat5;rw[← itc_append] at hown5;obtain⟨A5,c5,rfl,_,_,_⟩:=own_form hown5;have HO5:=Hd hown5;have HG5:=Hd hg5;clear hown5 hg5 hat5))
   go_roundw
   case rel =>
    obtain⟨e1,e2⟩:=row_grow HL1.out HS1.out HX.out (Nat.le_refl _) HG5.out (by decide) (by decide)
    have E1:=HO5
    rw[show IK++[⟨yk,yv,yo,yl,yh⟩]=(itemsY 128 [] (l.take (k+1))).2 by rw[HSn.out]] at E1
    have E2:=Hd e1
    rw[show Lx=(itemsY 128 [] (l.take (k+1))).1 by rw[HSn.out]] at E2
    have E3:=Hd e2
    first
     | exact⟨k+1,A5,c5,V1,by omega,by go_num,rfl,E1,E2,E3⟩
     | ((repeat apply Exists.intro);exact⟨⟨k+1,A5,c5,V1,by omega,by go_num,rfl,E1,E2,E3⟩,rfl⟩)
   case measure=>simp[intOf];omega
  ·obtain rfl:k=n:=by omega
   have htk:l.take k=l:=List.take_of_length_le (by rw[HL.out];exact Nat.le_refl _)
   rw[htk] at HO HLy
   have hlv:=yleaves_any HLy.out HO.out hn9 HK.out.near HK.out.size (by have:=HK.out.pgs k;rwa [htk] at this)
   clear hlt htk
   go_wp2_with (go_at_call 37;refine hlv.mono ?_;rintro e w1 ⟨V1,hS1,⟨hm1,A1,n1,c1,rfl,hL1,hO1⟩ | ⟨hm1,rfl⟩⟩)
   rotate_left
   ·have HP:=Hd (show Below w.heap.size w w1 from (HSt.out.trans hS1).deep HB0.out (Nat.le_refl _))
    have HM:=Hd (show okY l=false by unfold okY ptsY;rw[HL.out];exact hm1)
    clear hm1 hS1
    go_wp2_with fail
    go_ret3
    exact⟨HP.out,.inl ⟨HM.out,rfl⟩⟩
   ·have HS1:=Hd (HSt.out.trans hS1)
    have HM:=Hd (show okY l=true by unfold okY ptsY;rw[HL.out];exact hm1)
    have HL1:=Hd (show LyAt w1 w.heap.size V1 (pgsY l) by unfold pgsY ptsY;rw[HL.out];exact hL1)
    have HO1:=Hd (show w1.ownsRow w0.heap.size 45 2 (.slice A1 n1 c1) n1 (fkc (fksY l)) by unfold fksY ptsY;rw[HL.out];exact own_low hO1 HSt.out.kept.size)
    have HN1:=Hd (show (fksY l).length=n1 from fk_len (Reads.of_own HO1.out))
    have HLev:=Hd (show LevOk k (pgsY l) (fksY l) by have:=HK.out.lev HM.out;rwa [HL.out] at this)
    clear hm1 hS1 hL1 hO1
    have hn1:=HN1.out
    subst hn1
    go_loopg [10] k (fun gd vf wr=>∃ (L:List Pg) (F:List Fk) (A2:Option Addr) (c2:Nat) (V2:Value),vf=.slice A2 F.length c2∧Hid (topY l=levelsY 128 gd L F)∧Hid (LevOk gd L F)∧Hid (wr.ownsRow w0.heap.size 45 2 (.slice A2 F.length c2) F.length (fkc F))∧Hid (LyAt wr w.heap.size V2 L)∧Hid (LyStep w.heap.size (.slice none 0 0) w0 V2 wr))
    case atStart=>exact⟨_,_,A1,c1,V1,rfl,Hd (by unfold topY;rw[HL.out]),HLev,HO1,HL1,HS1⟩
    case round =>
     obtain⟨L,F,A2,c2,V2,rfl,HT,HLv,HO2,HL2,HS2⟩:=hrel
     rename World=>wl
     by_cases h2:2≤F.length
     ·obtain⟨gd',hgd⟩ : ∃ d,gk=d+1:=by
       cases gk with
       | zero=>exact absurd HLv.out.1 (by omega)
       | succ d=>exact⟨d,rfl⟩
      subst hgd
      obtain⟨hb1,hb2,hb3,hb4,hb5⟩:brMay 128 (2+L.length) (cutG sizeF 104 F.length F)=true∧F.length≤1000∧sizeF F≤1000000∧L.length≤100000∧LevOk gd' (L++brPgs 128 (2+L.length) (cutG sizeF 104 F.length F)) (brFks (2+L.length) (cutG sizeF 104 F.length F)):=by
       rcases HLv.out with h | h
       ·exact absurd h.1 (by omega)
       ·exact h.2
      have HLv2:=Hd hb5
      have HT2:=Hd (HT.out.trans (levelsY_more h2))
      have hbr:=ybranches_any HL2.out HO2.out hb2 hb1 hb3 hb4
      have hg1:decide ((1:Int)<(F.length:Int))=true:=by simp;omega
      have hg2:decide (1<F.length)=true:=by simp;omega
      clear hb1 hb2 hb3 hb4 hb5
      go_wp2_with (go_at_call 38;refine hbr.mono ?_;rintro e w3 ⟨V3,hS3,A3,n3,c3,rfl,hL3,hO3⟩)
      have hn3:=fk_len (Reads.of_own hO3)
      subst hn3
      have HO3:=Hd (own_low hO3 HS2.out.kept.size)
      have HL3:=Hd hL3
      have HS3:=Hd (HS2.out.trans hS3)
      clear hO3 hL3 hS3 hbr
      go_roundg gd'
      case rel =>
       first
        | exact⟨_,_,A3,c3,V3,rfl,HT2,HLv2,HO3,HL3,HS3⟩
        | ((repeat apply Exists.intro);exact⟨⟨_,_,A3,c3,V3,rfl,HT2,HLv2,HO3,HL3,HS3⟩,rfl⟩)
      case measure=>omega
     ·have hF1:F.length≤1:=by omega
      have hT:=HT.out.trans (levelsY_one hF1)
      have hLl:L.length≤1000000:=by
       cases gk with
       | zero=>exact HLv.out.2
       | succ d =>
        rcases HLv.out with h | h
        ·exact h.2
        ·exact absurd h.1 h2
      have hg1:decide ((1:Int)<(F.length:Int))=false:=by simp;omega
      have hg2:decide (1<F.length)=false:=by simp;omega
      obtain⟨A4,c4,rfl,_,_,_⟩:=own_form HL2.out.own
      have HLay:=rlay11_any 128 ⟨#[]⟩ A4 L.length c4 L wl (by show (0:Nat)≤_;omega) (Reads.of_own HL2.out.own) hLl
      have HT2:=Hd hT
      have cb1:=HL2.out.c1
      have HB2:=Hd (HS2.out.deep HB0.out (Nat.le_refl _))
      obtain⟨im,him⟩ : ∃ x,x=layStr 128 ⟨#[]⟩ L:=⟨_,rfl⟩
      obtain⟨er,her⟩ : ∃ x,x=layErr 128 ⟨#[]⟩ L:=⟨_,rfl⟩
      rw[← him,← her] at HLay
      have HIm:=Hd him
      have HEr:=Hd her
      have HEnd:=Hd (fun (b:Bool) (hb:decide (er=0)=b) (rt:Nat) (hrt:rt=(F.head?.map (·.rt)).getD 0) (w5:World) (hb5:Below w.heap.size w w5)=>(show LaidPost l w (.returned (.tuple #[.string im,.int .u32 rt,.bool b])) w5 from ⟨hb5,.inr ⟨HM.out,by rw[HIm.out,hrt,← hb,HEr.out];unfold rootY;rw[HT2.out]⟩⟩))
      clear hT hLl HT HLv him her
      match F,hF1,HO2,HT2,HEnd with
      | [],_,HO2,HT2,HEnd =>
       go_wp2_with (go_at_call 19;refine HLay.mono ?_;rintro e w5 ⟨rfl,hb5⟩;have HB5:=Hd (HB2.out.trans (hb5.mono HB2.out.size));clear hb5)
       go_ret3
       exact HEnd.out _ (by first | rfl | exact (beq_eq_decide _ _).symm | simp) 0 rfl _ HB5.out
      | [f],_,HO2,HT2,HEnd =>
       obtain⟨g,cap,hv,_,_⟩:=HO2.out.form (by simp)
       injection hv with hA
       subst hA
       have q1:wl.cell? ⟨g,1,none⟩=some (.int .u32 f.rt):=HO2.out.cells (g:=g) rfl 1 (.int .u32 f.rt) rfl
       go_wp2_with (go_at_call 19;refine HLay.mono ?_;rintro e w5 ⟨rfl,hb5⟩;have HB5:=Hd (HB2.out.trans (hb5.mono HB2.out.size));clear hb5)
       go_ret3
       exact HEnd.out _ (by first | rfl | exact (beq_eq_decide _ _).symm | simp) f.rt rfl _ HB5.out
end Go.Proofs.YtanbbnogdhnikaaGreat

