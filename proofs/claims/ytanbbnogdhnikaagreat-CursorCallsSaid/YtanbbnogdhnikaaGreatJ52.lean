/-
  Contract of the reference's go1 of layer 12: it goes through a tree. No statement is proved here.
-/
import Derived.Test.YtanbbnogdhnikaaGreatJ51
set_option linter.unusedVariables false
set_option linter.unusedSimpArgs false
set_option maxRecDepth 300000
set_option maxHeartbeats 25600000
namespace Go.Proofs.YtanbbnogdhnikaaGreat
open Go.RowKit
open Go.Lib hiding intOf
attribute [local go_sem ↓] Go.wp_at_zero Go.wp_at_succ

theorem itemsT_cnt (size:Int) (s:ByteArray) : ∀ (l:List It) (L:List Nat),(itemsT size s l L).1.length≤l.length∧∀ M,(itemsT size s l L).2=some M→L.length≤M.length
 | [],L=>⟨by simp[itemsT],fun M h=>by simp[itemsT] at h;rw[h];exact Nat.le_refl _⟩
 | i::t,L=>by
  simp only[itemsT]
  rcases valN size s i with _ | ⟨v,ps⟩
  ·exact⟨by simp,fun M h=>by cases h⟩
  ·simp only
   rcases hv:visitL L ps with _ | M0
   ·exact⟨by simp,fun M h=>by cases h⟩
   ·obtain⟨h1,h2⟩:=itemsT_cnt size s t M0
    refine⟨by simp;omega,fun M h=>Nat.le_trans ?_ (h2 M h)⟩
    rw[visitL_some hv,List.length_append]
    omega
theorem forksT_cnt {f:Nat→List Nat→Tv} (hf : ∀ n L M,(f n L).2=some M→L.length≤M.length∧(f n L).1.length+100000*L.length≤100000*M.length) : ∀ (l:List Fk) (L M:List Nat),(forksT f l L).2=some M→L.length≤M.length∧(forksT f l L).1.length+100000*L.length≤100000*M.length
 | [],L,M,h=>by simp[forksT] at h;subst h;simp[forksT]
 | b::t,L,M,h=>by
  simp only[forksT] at h ⊢
  rcases hb:(f b.rt L).2 with _ | M0
  ·rw[hb] at h;cases h
  ·rw[hb] at h
   obtain⟨h1,h2⟩:=hf b.rt L M0 hb
   obtain⟨h3,h4⟩:=forksT_cnt hf t M0 M h
   refine⟨by omega,?_⟩
   simp only[List.length_append]
   omega
theorem trav_cnt {size:Int} {s:ByteArray} : ∀ (d n:Nat) (L M:List Nat),(trav size s d n L).2=some M→L.length≤M.length∧(trav size s d n L).1.length+100000*L.length≤100000*M.length
 | 0,n,L,M,h=>by cases h
 | d+1,n,L,M,h=>by
  simp only[trav] at h ⊢
  split at h
  ·cases h
  ·rename_i hm
   rw[if_neg hm]
   rcases hn:nodeN size s n with _ | l | l
   ·rw[hn] at h;cases h
   ·rw[hn] at h
    have:=forksT_cnt (f:=trav size s d) (fun n L M h=>trav_cnt d n L M h) l (L++[n]) M h
    rw[List.length_append] at this
    simp at this ⊢
    omega
   ·rw[hn] at h
    obtain⟨h1,h2⟩:=itemsT_cnt size s l (L++[n])
    have h3:=h2 M h
    have h4:=item_size hn
    rw[List.length_append] at h3
    simp at h3 ⊢
    omega
theorem NdTell.keep {o:Nd} {B B':Nat} {w w':World} {ok lf:Bool} {A:Option Addr} {n c:Nat} {A2:Option Addr} {n2 c2:Nat} (h:NdTell o B w ok lf A n c A2 n2 c2) (hs:w.heap.size≤w'.heap.size) (hB:B'≤B) (hk : ∀ p:Addr,B≤p.block→p.block<w.heap.size→w'.cell? p=w.cell? p):NdTell o B' w' ok lf A n c A2 n2 c2:=by
 cases o with
 | none=>exact h
 | br l=>exact⟨h.1,h.2.1,h.2.2.1.keep hs hB hk,h.2.2.2⟩
 | lf l=>exact⟨h.1,h.2.1,h.2.2.1,h.2.2.2.keep hs hB hk⟩
def NdAt (o:Nd) (w:World) (p q:Value) (wx:World):Prop:=∃ (g pg tx:Nat) (ok lf:Bool) (A:Option Addr) (n c:Nat) (A2:Option Addr) (n2 c2:Nat),p=.pointer (some ⟨g,0,none⟩)∧q=.bool ok∧w.heap.size≤g∧Below w.heap.size w wx∧Blk wx g 114 #[.int .u32 pg,.int .u64 tx,.bool lf,.slice A n c,.slice A2 n2 c2]∧NdTell o w.heap.size wx ok lf A n c A2 n2 c2
theorem NdAt.late {o:Nd} {w w3:World} {pg tx:Nat} {ok lf:Bool} {A:Option Addr} {n c:Nat} {A2:Option Addr} {n2 c2:Nat} (hb:Below w.heap.size w w3) (h:NdTell o w.heap.size w3 ok lf A n c A2 n2 c2) :
  NdAt o w (.pointer (some ⟨w3.heap.size,0,none⟩)) (.bool ok) (w3.alloc (.cells #[.int .u32 pg,.int .u64 tx,.bool lf,.slice A n c,.slice A2 n2 c2] 114)) :=
 ⟨_,pg,tx,ok,lf,A,n,c,A2,n2,c2,rfl,rfl,hb.size,hb.alloc hb.size _,Blk.new _ _ _,h.keep (by simp) (Nat.le_refl _) fun p _ hp=>World.cell?_alloc_lt _ _ _ hp⟩
theorem NdAt.early {o:Nd} {w w3:World} {pg tx:Nat} {ok lf:Bool} {A:Option Addr} {n c:Nat} {A2:Option Addr} {n2 c2:Nat} {a0 a1 a2 a3 a4:Value} (hb:Below (w.heap.size+1) (w.alloc (.cells #[a0,a1,a2,a3,a4] 114)) w3) (h:NdTell o (w.heap.size+1) w3 ok lf A n c A2 n2 c2) :
  NdAt o w (.pointer (some ⟨w.heap.size,0,none⟩)) (.bool ok) (((((w3.setCell ⟨w.heap.size,0,none⟩ (.int .u32 pg)).setCell ⟨w.heap.size,1,none⟩ (.int .u64 tx)).setCell ⟨w.heap.size,2,none⟩ (.bool lf)).setCell ⟨w.heap.size,3,none⟩ (.slice A n c)).setCell ⟨w.heap.size,4,none⟩ (.slice A2 n2 c2)):=by
 refine⟨_,pg,tx,ok,lf,A,n,c,A2,n2,c2,rfl,rfl,Nat.le_refl _,below5 _ _ _ _ _ (((Below.refl _ w).alloc (Nat.le_refl _) _).trans (hb.mono (Nat.le_succ _))) (Nat.le_refl _),set5 _ _ _ _ _ ((Blk.new w _ _).below hb (Nat.lt_succ_self _)),h.keep (by simp[World.setCell]) (Nat.le_succ _) fun p hp _=>?_⟩
 rw[World.cell?_setCell_other _ _ _ _ (fun e=>by subst e;simp at hp;omega),World.cell?_setCell_other _ _ _ _ (fun e=>by subst e;simp at hp;omega),World.cell?_setCell_other _ _ _ _ (fun e=>by subst e;simp at hp;omega),World.cell?_setCell_other _ _ _ _ (fun e=>by subst e;simp at hp;omega),World.cell?_setCell_other _ _ _ _ (fun e=>by subst e;simp at hp;omega)]
theorem rgo1_any (sz:Int) (img:ByteArray) (hg:goodSize sz=true) (hs:img.size≤400000) (b:Nat) :
  ∀ (d deep:Nat),deep+d=17→∀ (n:Nat) (L:List Nat) (ps:List Pr) (V Vp:Value) (w:World),n<4294967296→InL img L→ps.length≤100000*L.length→Gr w b sz img L ps 0 V Vp →
   Calls Tryz.prog 87 #[.pointer (some ⟨b,0,none⟩),.int .u32 n,.int .i64 deep] w fun e w'=>e=.returned (.tuple #[])∧GoSt b sz img V Vp ps w (trav sz img d n L) w':=by
 intro d
 induction d with
 | zero =>
  intro deep hd n L ps V Vp w hn hL hp h
  obtain rfl:deep=17:=by omega
  obtain⟨hz,hi0⟩:=zero_of_info infoNd12
  have HI:=Hd hi0
  have HNd:=Hd (fun w=>rnode_any sz img n w (by omega) hn)
  have HG:=Hd h
  obtain⟨o,ho⟩ : ∃ o,o=nodeN sz img n:=⟨_,rfl⟩
  rw[← ho] at HNd
  have v0:=h.blk.cell 0
  have v1:=h.blk.cell 1
  simp at v0 v1
  clear hi0 h hL hp hn hd ho
  go_enter Tryz.func87,Tryz.ntmps87
  go_upto_region 0 with fail
  go_cut [6,7] from 10 to 23 (fun p q wx=>NdAt o w p q wx)
  case first =>
   have d0:=(HG.out.blk.drew.alloc (.cells #[.int .u32 0,.int .u64 0,.bool false,.slice none 0 0,.slice none 0 0] 114)).cell 0
   have d1:=(HG.out.blk.drew.alloc (.cells #[.int .u32 0,.int .u64 0,.bool false,.slice none 0 0,.slice none 0 0] 114)).cell 1
   simp at d0 d1
   have d2:=(HG.out.blk.alloc (.cells #[.int .u32 0,.int .u64 0,.bool false,.slice none 0 0,.slice none 0 0] 114)).drew.cell 0
   have d3:=(HG.out.blk.alloc (.cells #[.int .u32 0,.int .u64 0,.bool false,.slice none 0 0,.slice none 0 0] 114)).drew.cell 1
   simp at d2 d3
   go_region_with (go_at_call 56;refine (HNd.out _).mono ?_;rintro e w3 ⟨pg,tx,ok,lf,A,n1,c1,A2,n2,c2,rfl,hni,hb3⟩;first | (have nb:Blk w3 w.heap.size 114 #[.int .u32 0,.int .u64 0,.bool false,.slice none 0 0,.slice none 0 0]:=(Blk.new w 114 #[.int .u32 0,.int .u64 0,.bool false,.slice none 0 0,.slice none 0 0]).drew.below hb3 (by simp);have n0:=nb.cell 0;have n1':=nb.cell 1;have n2':=nb.cell 2;have n3':=nb.cell 3;have n4':=nb.cell 4;have m0:=nb.frozen 0;have m1:=nb.frozen 1;have m2:=nb.frozen 2;have m3:=nb.frozen 3;have m4:=nb.frozen 4;simp at n0 n1' n2' n3' n4';have HAt:=Hd (NdAt.early (pg:=pg) (tx:=tx) ((Below.refl (w.heap.size+1) (w.alloc (.cells #[.int .u32 0,.int .u64 0,.bool false,.slice none 0 0,.slice none 0 0] 114))).drew.trans (hb3.mono (by simp))) (by simpa using hni))) | (have HAt:=Hd (NdAt.late (pg:=pg) (tx:=tx) ((Below.refl _ w).drew.trans hb3) hni)))
   all_goals
    go_wp2_with fail
    go_meet
    case rel =>
     with_reducible exact HAt.out
  case rest =>
   obtain⟨g,pg,tx,ok,lf,A,n1,c1,A2,n2,c2,rfl,rfl,hgw,hbc,hbl,hni⟩:=hcut
   have HF:=Hd (FarG.of_below (b:=b) (V:=V) (Vp:=Vp) hbc)
   have HGc:=Hd (HG.out.below hbc)
   have HT:=Hd (show trav sz img 0 n L=([],none) from rfl)
   clear hgw hbc hbl HNd v0 v1 hni
   have c4:=HGc.out.blk.cell 4
   have f4:=HGc.out.blk.frozen 4
   simp at c4
   obtain⟨e1,e2⟩:=HGc.out.err 4
   rcases ok with _ | _
   all_goals
    go_wp2_with fail
    exact bodyPost_ret (v:=.tuple #[]) (results_void rfl _ _) rfl ⟨rfl,L,4,V,Vp,HF.out.trans e2,by rw[HT.out,List.append_nil];exact e1,by rw[HT.out]⟩
 | succ d ih =>
  intro deep hd n L ps V Vp w hn hL hp h
  have hd16:deep≤16:=by omega
  have hgd:decide ((16:Int)<(deep:Int))=false:=by simp;omega
  obtain⟨hz,hi0⟩:=zero_of_info infoNd12
  have HI:=Hd hi0
  have HNd:=Hd (fun w=>rnode_any sz img n w (by omega) hn)
  have HG:=Hd h
  have HL:=Hd hL
  have HP:=Hd hp
  have HN:=Hd hn
  have HD:=Hd hd
  have HltF:=Hd h.ltF
  have IH:=Hd ih
  have HTr:=Hd (show trav sz img (d+1) n L=if n∈L then ([],none) else match nodeN sz img n with
    | .none=>([],none)
    | .lf l=>itemsT sz img l (L++[n])
    | .br l=>forksT (trav sz img d) l (L++[n]) from rfl)
  obtain⟨o,ho⟩ : ∃ o,o=nodeN sz img n:=⟨_,rfl⟩
  rw[← ho] at HNd HTr
  have HO:=Hd ho
  have v0:=h.blk.cell 0
  have v1:=h.blk.cell 1
  simp at v0 v1
  clear hi0 h hL hp hn hd ih ho
  go_enter Tryz.func87,Tryz.ntmps87
  go_upto_region 0 with fail
  go_cut [6,7] from 10 to 23 (fun p q wx=>NdAt o w p q wx)
  case first =>
   have d0:=(HG.out.blk.drew.alloc (.cells #[.int .u32 0,.int .u64 0,.bool false,.slice none 0 0,.slice none 0 0] 114)).cell 0
   have d1:=(HG.out.blk.drew.alloc (.cells #[.int .u32 0,.int .u64 0,.bool false,.slice none 0 0,.slice none 0 0] 114)).cell 1
   simp at d0 d1
   have d2:=(HG.out.blk.alloc (.cells #[.int .u32 0,.int .u64 0,.bool false,.slice none 0 0,.slice none 0 0] 114)).drew.cell 0
   have d3:=(HG.out.blk.alloc (.cells #[.int .u32 0,.int .u64 0,.bool false,.slice none 0 0,.slice none 0 0] 114)).drew.cell 1
   simp at d2 d3
   go_region_with (go_at_call 56;refine (HNd.out _).mono ?_;rintro e w3 ⟨pg,tx,ok,lf,A,n1,c1,A2,n2,c2,rfl,hni,hb3⟩;first | (have nb:Blk w3 w.heap.size 114 #[.int .u32 0,.int .u64 0,.bool false,.slice none 0 0,.slice none 0 0]:=(Blk.new w 114 #[.int .u32 0,.int .u64 0,.bool false,.slice none 0 0,.slice none 0 0]).drew.below hb3 (by simp);have n0:=nb.cell 0;have n1':=nb.cell 1;have n2':=nb.cell 2;have n3':=nb.cell 3;have n4':=nb.cell 4;have m0:=nb.frozen 0;have m1:=nb.frozen 1;have m2:=nb.frozen 2;have m3:=nb.frozen 3;have m4:=nb.frozen 4;simp at n0 n1' n2' n3' n4';have HAt:=Hd (NdAt.early (pg:=pg) (tx:=tx) ((Below.refl (w.heap.size+1) (w.alloc (.cells #[.int .u32 0,.int .u64 0,.bool false,.slice none 0 0,.slice none 0 0] 114))).drew.trans (hb3.mono (by simp))) (by simpa using hni))) | (have HAt:=Hd (NdAt.late (pg:=pg) (tx:=tx) ((Below.refl _ w).drew.trans hb3) hni)))
   all_goals
    go_wp2_with fail
    go_meet
    case rel =>
     with_reducible exact HAt.out
  case rest =>
   obtain⟨g,pg,tx,ok,lf,A,n1,c1,A2,n2,c2,rfl,rfl,hgw,hbc,hbl,hni⟩:=hcut
   have NB:=Hd hbl
   have HF:=Hd (FarG.of_below (b:=b) (V:=V) (Vp:=Vp) hbc)
   have HGc:=Hd (HG.out.below hbc)
   have HNi:=Hd hni
   have HgF:=Hd (show ∀ k,w.heap.size≤k→¬ FG b V Vp k from fun k hk hf=>by have:=HltF.out k hf;omega)
   have Hgw:=Hd hgw
   clear hgw hbc hbl HNd v0 v1
   cases o with
   | none =>
    obtain rfl:ok=false:=HNi.out
    have HT:=Hd (show trav sz img (d+1) n L=([],none) by rw[HTr.out];split<;>rfl)
    have c4:=HGc.out.blk.cell 4
    have f4:=HGc.out.blk.frozen 4
    simp at c4
    obtain⟨e1,e2⟩:=HGc.out.err 4
    clear HTr
    go_wp2_with fail
    exact bodyPost_ret (v:=.tuple #[]) (results_void rfl _ _) rfl ⟨rfl,L,4,V,Vp,HF.out.trans e2,by rw[HT.out,List.append_nil];exact e1,by rw[HT.out]⟩
   | br l =>
    obtain rfl:ok=true:=HNi.out.1
    have hl9:L.length≤1000000:=by have:=HL.out.len;omega
    go_wp2_with fail
    refine (come_any n HGc.out HN.out hl9).mono ?_
    rintro e w5 ⟨rfl,V1,hf2,hg2⟩
    have HF2:=Hd hf2
    have HG2:=Hd hg2
    have HWs:=Hd (show w.heap.size≤wc.heap.size from HF.out.kept.size)
    have NB5:=Hd (hf2.kept.blk NB.out (HgF.out g Hgw.out))
    have HgF5:=Hd (show ∀ k,w.heap.size≤k→k<wc.heap.size→¬ FG b V1 Vp k from fun k hk hk2 hf=>by
     rcases HF2.out.own k hf with h1 | h1
     ·exact HgF.out k hk h1
     ·omega)
    have Hgc:=Hd NB.out.lt
    clear hf2 hg2 hl9
    by_cases hm:n∈L
    ·have hd1:decide (n ∉ L)=false:=decide_eq_false (fun h=>h hm)
     have HT:=Hd (show trav sz img (d+1) n L=([],none) by rw[HTr.out,if_pos hm])
     have HG3:=Hd (show Gr w5 b sz img L ps 0 V1 Vp by have:=HG2.out;rw[if_pos hm] at this;exact this)
     have c4:=HG3.out.blk.cell 4
     have f4:=HG3.out.blk.frozen 4
     simp at c4
     obtain⟨e1,e2⟩:=HG3.out.err 4
     clear HTr HG2 hm
     go_wp2_with fail
     exact bodyPost_ret (v:=.tuple #[]) (results_void rfl _ _) rfl ⟨rfl,L,4,V1,Vp,HF.out.trans (HF2.out.trans e2),by rw[HT.out,List.append_nil];exact e1,by rw[HT.out]⟩
    have hd1:decide (n ∉ L)=true:=decide_eq_true hm
    have HG3:=Hd (show Gr w5 b sz img (L++[n]) ps 0 V1 Vp by have:=HG2.out;rw[if_neg hm] at this;exact this)
    have HL3:=Hd (HL.out.snoc hm (node_lt (by rw[← HO.out];simp)))
    have hlL:L.length≤400000:=by have:=HL.out.len;omega
    have HT:=Hd (show trav sz img (d+1) n L=forksT (trav sz img d) l (L++[n]) by rw[HTr.out,if_neg hm])
    obtain⟨_,rfl,hrn,rfl⟩:=HNi.out
    have hnl:l.length=n1:=fk_len hrn.1
    have HRF:=Hd (show Reads w5 wc.heap.size 2 A n1 (fkc l) from HF2.out.kept.reads hrn.1 (Nat.le_refl _) (fun a e=>HgF.out a.block (hrn.2 a e)))
    have HAb:=Hd (show ∀ a,A=some a→w.heap.size≤a.block from hrn.2)
    have hn9:n1≤100000:=by rw[← hnl];exact fork_size HO.out.symm
    have HNl:=Hd hnl
    have x3:=NB5.out.cell 3
    simp at x3
    obtain⟨hzf,hif⟩:=zero_of_info infoFkz
    have HIF:=Hd hif
    clear hm HG2 HTr hnl hrn hif HNi
    go_upto_region 4 with fail
    have HF0:=Hd (FarG.refl b V1 Vp w5)
    have HG0:=Hd (show Gr w5 b sz img (L++[n]) (ps++[]) 0 V1 Vp by rw[List.append_nil];exact HG3.out)
    go_loopw [8] (fun v wr=>∃ (k:Nat) (L':List Nat) (e':Int) (V' Vp':Value) (xs:List Pr),k≤n1∧v=.int .i64 k∧((e'=0∧Hid (forksT (trav sz img d) (l.take k) (L++[n])=(xs,some L')))∨(e'=4∧Hid (forksT (trav sz img d) l (L++[n])=(xs,none))))∧Hid (Gr wr b sz img L' (ps++xs) e' V' Vp')∧Hid (FarG b V1 Vp w5 V' Vp' wr)) (fun v _=>n1-(intOf v).toNat)
    case atStart=>exact⟨0,L++[n],0,V1,Vp,[],Nat.zero_le _,rfl,.inl ⟨rfl,Hd rfl⟩,HG0,HF0⟩
    case round =>
     clear HF0 HG0
     obtain⟨k,L',e',V',Vp',xs,hk,rfl,hst,HGr,HFr⟩:=hrel
     have c4:=HGr.out.blk.cell 4
     simp at c4
     have NBr:=Hd (HFr.out.kept.blk NB5.out (HgF5.out g Hgw.out Hgc.out))
     have x3r:=NBr.out.cell 3
     have x4r:=NBr.out.cell 4
     simp at x3r x4r
     clear x3
     rcases hst with ⟨rfl,HVk⟩ | ⟨rfl,HVn⟩
     rotate_left
     ·have HFin:=Hd (show GoSt b sz img V Vp ps w (trav sz img (d+1) n L) wr from ⟨L',4,V',Vp',HF.out.trans (HF2.out.trans HFr.out),by rw[HT.out,HVn.out];exact HGr.out,by rw[HT.out,HVn.out]⟩)
      by_cases hlt:k<n1
      ·have hlt2:(k:Int)<(n1:Int):=by omega
       go_upto_region 8 with fail
       go_loopw [9] (fun v w'=>v=.int .i64 0∧w'=wr) (fun _ _=>0)
       case atStart=>exact⟨rfl,rfl⟩
       case round =>
        obtain⟨rfl,rfl⟩:=hrel
        go_wp2_with fail
        exact body_void rfl rfl ⟨rfl,HFin.out⟩
      ·have hlt2 : ¬ (k:Int)<(n1:Int):=by omega
       go_upto_region 8 with fail
       go_loopw [9] (fun v w'=>v=.int .i64 0∧w'=wr) (fun _ _=>0)
       case atStart=>exact⟨rfl,rfl⟩
       case round =>
        obtain⟨rfl,rfl⟩:=hrel
        go_wp2_with fail
        exact body_void rfl rfl ⟨rfl,HFin.out⟩
     by_cases hlt:k<n1
     ·have hlt2:(k:Int)<(n1:Int):=by omega
      have hk0:(0:Int)≤(k:Int):=by omega
      obtain⟨ad,x,rfl,hab,hab2,hx,hfk⟩:=fk_at HRF.out hlt
      have hrt:=fork_num HO.out.symm hx
      have f1:=(HFr.out.kept.cell (p:=⟨(ad.add (k*2)).block,(ad.add (k*2)).off+1,none⟩) (Nat.lt_of_lt_of_le hab2 HF2.out.kept.size) (by rw[show (⟨(ad.add (k*2)).block,(ad.add (k*2)).off+1,none⟩:Addr).block=ad.block from block_add _ _];exact HgF5.out ad.block (HAb.out ad rfl) hab)).trans hfk.2
      obtain⟨nm,rt⟩:=x
      dsimp only at f1 hrt
      have hcnt:=forksT_cnt (f:=trav sz img d) (fun n L M h=>trav_cnt d n L M h) (l.take k) (L++[n]) L' (by rw[HVk.out])
      rw[HVk.out,List.length_append] at hcnt
      have HC:=IH.out (deep+1) (by have:=HD.out;omega) rt L' (ps++xs) V' Vp' wr hrt (forksT_in (fun n L M h he=>trav_in h he) HL3.out (by rw[HVk.out])) (by rw[List.length_append];have:=HP.out;simp at hcnt;omega) HGr.out
      rw[show ((deep+1:Nat):Int)=(deep:Int)+1 by omega] at HC
      have HC2:=Hd HC
      have HX:=Hd hx
      clear HC hcnt hx hfk hab hab2
      go_wp2_with fail
      refine HC2.out.mono ?_
      rintro e w6 ⟨rfl,L5,e5,V5,Vp5,hf5,hg5,hm5⟩
      have HF5:=Hd (HFr.out.trans hf5)
      have HG5:=Hd (show Gr w6 b sz img L5 (ps++(xs++(trav sz img d rt L').1)) e5 V5 Vp5 by rw[← List.append_assoc];exact hg5)
      clear HC2 hf5 hg5 f1
      rcases ht:(trav sz img d rt L').2 with _ | M
      ·rw[ht] at hm5
       have HV5:=Hd (forksT_none HVk.out HX.out ht)
       have h5:e5=4:=hm5
       clear ht hm5
       go_wp2_with fail
       go_roundw
       case rel =>
        first
         | exact⟨k+1,L5,e5,V5,Vp5,_,by omega,by go_num,.inr ⟨h5,HV5⟩,HG5,HF5⟩
         | ((repeat apply Exists.intro);exact⟨⟨k+1,L5,e5,V5,Vp5,_,by omega,by go_num,.inr ⟨h5,HV5⟩,HG5,HF5⟩,rfl⟩)
       case measure=>simp[intOf];omega
      ·rw[ht] at hm5
       obtain⟨h5,rfl⟩:=hm5
       have HV5:=Hd (forksT_next HVk.out HX.out ht)
       clear ht
       go_wp2_with fail
       go_roundw
       case rel =>
        first
         | exact⟨k+1,L5,e5,V5,Vp5,_,by omega,by go_num,.inl ⟨h5,HV5⟩,HG5,HF5⟩
         | ((repeat apply Exists.intro);exact⟨⟨k+1,L5,e5,V5,Vp5,_,by omega,by go_num,.inl ⟨h5,HV5⟩,HG5,HF5⟩,rfl⟩)
       case measure=>simp[intOf];omega
     ·obtain rfl:k=n1:=by omega
      have hlt2 : ¬ (k:Int)<(k:Int):=by omega
      have HVf:=Hd (show forksT (trav sz img d) l (L++[n])=(xs,some L') by have:=HVk.out;rwa [List.take_of_length_le (by rw[HNl.out];exact Nat.le_refl _)] at this)
      have HFin:=Hd (show GoSt b sz img V Vp ps w (trav sz img (d+1) n L) wr from ⟨L',0,V',Vp',HF.out.trans (HF2.out.trans HFr.out),by rw[HT.out,HVf.out];exact HGr.out,by rw[HT.out,HVf.out];exact⟨rfl,rfl⟩⟩)
      go_upto_region 8 with fail
      go_loopw [9] (fun v w'=>v=.int .i64 0∧w'=wr) (fun _ _=>0)
      case atStart=>exact⟨rfl,rfl⟩
      case round =>
       obtain⟨rfl,rfl⟩:=hrel
       go_wp2_with fail
       exact body_void rfl rfl ⟨rfl,HFin.out⟩
   | lf l =>
    obtain rfl:ok=true:=HNi.out.1
    have hl9:L.length≤1000000:=by have:=HL.out.len;omega
    go_wp2_with fail
    refine (come_any n HGc.out HN.out hl9).mono ?_
    rintro e w5 ⟨rfl,V1,hf2,hg2⟩
    have HF2:=Hd hf2
    have HG2:=Hd hg2
    have HWs:=Hd (show w.heap.size≤wc.heap.size from HF.out.kept.size)
    have NB5:=Hd (hf2.kept.blk NB.out (HgF.out g Hgw.out))
    have HgF5:=Hd (show ∀ k,w.heap.size≤k→k<wc.heap.size→¬ FG b V1 Vp k from fun k hk hk2 hf=>by
     rcases HF2.out.own k hf with h1 | h1
     ·exact HgF.out k hk h1
     ·omega)
    have Hgc:=Hd NB.out.lt
    clear hf2 hg2 hl9
    by_cases hm:n∈L
    ·have hd1:decide (n ∉ L)=false:=decide_eq_false (fun h=>h hm)
     have HT:=Hd (show trav sz img (d+1) n L=([],none) by rw[HTr.out,if_pos hm])
     have HG3:=Hd (show Gr w5 b sz img L ps 0 V1 Vp by have:=HG2.out;rw[if_pos hm] at this;exact this)
     have c4:=HG3.out.blk.cell 4
     have f4:=HG3.out.blk.frozen 4
     simp at c4
     obtain⟨e1,e2⟩:=HG3.out.err 4
     clear HTr HG2 hm
     go_wp2_with fail
     exact bodyPost_ret (v:=.tuple #[]) (results_void rfl _ _) rfl ⟨rfl,L,4,V1,Vp,HF.out.trans (HF2.out.trans e2),by rw[HT.out,List.append_nil];exact e1,by rw[HT.out]⟩
    have hd1:decide (n ∉ L)=true:=decide_eq_true hm
    have HG3:=Hd (show Gr w5 b sz img (L++[n]) ps 0 V1 Vp by have:=HG2.out;rw[if_neg hm] at this;exact this)
    have HL3:=Hd (HL.out.snoc hm (node_lt (by rw[← HO.out];simp)))
    have hlL:L.length≤400000:=by have:=HL.out.len;omega
    have HT:=Hd (show trav sz img (d+1) n L=itemsT sz img l (L++[n]) by rw[HTr.out,if_neg hm])
    obtain⟨_,rfl,rfl,hrn⟩:=HNi.out
    have hnl:l.length=n2:=it_len hrn.1
    have HRF:=Hd (show Reads w5 wc.heap.size 5 A2 n2 (itc l) from HF2.out.kept.reads hrn.1 (Nat.le_refl _) (fun a e=>HgF.out a.block (hrn.2 a e)))
    have HAb:=Hd (show ∀ a,A2=some a→w.heap.size≤a.block from hrn.2)
    have hn9:n2≤100000:=by rw[← hnl];exact item_size HO.out.symm
    have HNl:=Hd hnl
    have x3:=NB5.out.cell 3
    have x4:=NB5.out.cell 4
    simp at x3 x4
    obtain⟨hzi,hii⟩:=zero_of_info infoItz
    have HII:=Hd hii
    have c4:=HG3.out.blk.cell 4
    simp at c4
    clear hm HG2 HTr hnl hrn hii HNi
    go_upto_region 4 with fail
    go_loopw [8] (fun v w'=>v=.int .i64 0∧w'=w5) (fun _ _=>0)
    case atStart=>exact⟨rfl,rfl⟩
    case round =>
    obtain⟨rfl,rfl⟩:=hrel
    go_upto_region 8 with fail
    obtain⟨wo,hwo⟩ : ∃ wo,wo=wr:=⟨_,rfl⟩
    subst hwo
    have HF0:=Hd (FarG.refl b V1 Vp wo)
    have HG0:=Hd (show Gr wo b sz img (L++[n]) (ps++[]) 0 V1 Vp by rw[List.append_nil];exact HG3.out)
    clear x3 x4 c4
    go_loopw [9] (fun v wr=>∃ (k:Nat) (L':List Nat) (e':Int) (V' Vp':Value) (xs:List Pr),k≤n2∧v=.int .i64 k∧((e'=0∧Hid (itemsT sz img (l.take k) (L++[n])=(xs,some L')))∨(e'=4∧Hid (itemsT sz img l (L++[n])=(xs,none))))∧Hid (Gr wr b sz img L' (ps++xs) e' V' Vp')∧Hid (FarG b V1 Vp wo V' Vp' wr)) (fun v _=>n2-(intOf v).toNat)
    case atStart=>exact⟨0,L++[n],0,V1,Vp,[],Nat.zero_le _,rfl,.inl ⟨rfl,Hd rfl⟩,HG0,HF0⟩
    case round =>
     clear HF0 HG0
     obtain⟨k,L',e',V',Vp',xs,hk,rfl,hst,HGr,HFr⟩:=hrel
     have c4:=HGr.out.blk.cell 4
     simp at c4
     have NBr:=Hd (HFr.out.kept.blk NB5.out (HgF5.out g Hgw.out Hgc.out))
     have x4r:=NBr.out.cell 4
     simp at x4r
     rcases hst with ⟨rfl,HVk⟩ | ⟨rfl,HVn⟩
     rotate_left
     ·have HFin:=Hd (show GoSt b sz img V Vp ps w (trav sz img (d+1) n L) wr from ⟨L',4,V',Vp',HF.out.trans (HF2.out.trans HFr.out),by rw[HT.out,HVn.out];exact HGr.out,by rw[HT.out,HVn.out]⟩)
      by_cases hlt:k<n2
      ·have hlt2:(k:Int)<(n2:Int):=by omega
       go_wp2_with fail
       exact body_void rfl rfl ⟨rfl,HFin.out⟩
      ·have hlt2 : ¬ (k:Int)<(n2:Int):=by omega
       go_wp2_with fail
       exact body_void rfl rfl ⟨rfl,HFin.out⟩
     by_cases hlt:k<n2
     ·have hlt2:(k:Int)<(n2:Int):=by omega
      have hk0:(0:Int)≤(k:Int):=by omega
      obtain⟨ad,x,rfl,hab,hab2,hx,hfk⟩:=it_at HRF.out hlt
      have hin:=item_num HO.out.symm hx
      have hnb : ¬ FG b V1 Vp (ad.add (k*5)).block:=by rw[block_add];exact HgF5.out ad.block (HAb.out ad rfl) hab
      have hlb:(ad.add (k*5)).block<wo.heap.size:=Nat.lt_of_lt_of_le hab2 HF2.out.kept.size
      have f0:=(HFr.out.kept.cell (p:=ad.add (k*5)) hlb hnb).trans hfk.1
      have f1:=(HFr.out.kept.cell (p:=⟨(ad.add (k*5)).block,(ad.add (k*5)).off+1,none⟩) hlb hnb).trans hfk.2.1
      have f2:=(HFr.out.kept.cell (p:=⟨(ad.add (k*5)).block,(ad.add (k*5)).off+2,none⟩) hlb hnb).trans hfk.2.2.1
      have f3:=(HFr.out.kept.cell (p:=⟨(ad.add (k*5)).block,(ad.add (k*5)).off+3,none⟩) hlb hnb).trans hfk.2.2.2.1
      have f4:=(HFr.out.kept.cell (p:=⟨(ad.add (k*5)).block,(ad.add (k*5)).off+4,none⟩) hlb hnb).trans hfk.2.2.2.2
      have hIn:=itemsT_in HL3.out (M:=L') (by rw[HVk.out])
      have hxs:xs.length≤100000:=by
       have h1:=(itemsT_cnt sz img (l.take k) (L++[n])).1
       rw[HVk.out,List.length_take] at h1
       simp at h1
       omega
      have HC:=Hd (ritem_any x HGr.out hg hs hin.1 (by have:=hIn.len;omega) (by rw[List.length_append];have:=HP.out;omega))
      obtain⟨ky,vl,ov,ln,hd'⟩:=x
      dsimp only at f0 f1 f2 f3 f4 HC
      have HX:=Hd hx
      clear hx hfk hab hab2 hnb hlb hin hIn hxs
      go_wp2_with fail
      refine HC.out.mono ?_
      rintro e w6 ⟨rfl,L5,e5,V5,Vp5,hf5,hg5,hm5⟩
      have HF5:=Hd (HFr.out.trans hf5)
      have HG5:=Hd (show Gr w6 b sz img L5 (ps++(xs++(itemsT sz img [⟨ky,vl,ov,ln,hd'⟩] L').1)) e5 V5 Vp5 by rw[← List.append_assoc];exact hg5)
      have hnx:itemsT sz img (l.take (k+1)) (L++[n])=(xs++(itemsT sz img [⟨ky,vl,ov,ln,hd'⟩] L').1,(itemsT sz img [⟨ky,vl,ov,ln,hd'⟩] L').2):=by rw[take_snoc_at HX.out,itemsT_append,HVk.out]
      clear HC hf5 hg5 f0 f1 f2 f3 f4
      rcases ht:(itemsT sz img [⟨ky,vl,ov,ln,hd'⟩] L').2 with _ | M
      ·rw[ht] at hm5 hnx
       have HV5:=Hd (show itemsT sz img l (L++[n])=(xs++(itemsT sz img [⟨ky,vl,ov,ln,hd'⟩] L').1,none) by
        conv=>lhs;rw[← List.take_append_drop (k+1) l]
        rw[itemsT_append,hnx])
       have h5:e5=4:=hm5
       clear ht hm5 hnx
       go_wp2_with fail
       go_roundw
       case rel =>
        first
         | exact⟨k+1,L5,e5,V5,Vp5,_,by omega,by go_num,.inr ⟨h5,HV5⟩,HG5,HF5⟩
         | ((repeat apply Exists.intro);exact⟨⟨k+1,L5,e5,V5,Vp5,_,by omega,by go_num,.inr ⟨h5,HV5⟩,HG5,HF5⟩,rfl⟩)
       case measure=>simp[intOf];omega
      ·rw[ht] at hm5 hnx
       obtain⟨h5,rfl⟩:=hm5
       have HV5:=Hd hnx
       clear ht hnx
       go_wp2_with fail
       go_roundw
       case rel =>
        first
         | exact⟨k+1,L5,e5,V5,Vp5,_,by omega,by go_num,.inl ⟨h5,HV5⟩,HG5,HF5⟩
         | ((repeat apply Exists.intro);exact⟨⟨k+1,L5,e5,V5,Vp5,_,by omega,by go_num,.inl ⟨h5,HV5⟩,HG5,HF5⟩,rfl⟩)
       case measure=>simp[intOf];omega
     ·obtain rfl:k=n2:=by omega
      have hlt2 : ¬ (k:Int)<(k:Int):=by omega
      have HVf:=Hd (show itemsT sz img l (L++[n])=(xs,some L') by have:=HVk.out;rwa [List.take_of_length_le (by rw[HNl.out];exact Nat.le_refl _)] at this)
      have HFin:=Hd (show GoSt b sz img V Vp ps w (trav sz img (d+1) n L) wr from ⟨L',0,V',Vp',HF.out.trans (HF2.out.trans HFr.out),by rw[HT.out,HVf.out];exact HGr.out,by rw[HT.out,HVf.out];exact⟨rfl,rfl⟩⟩)
      go_wp2_with fail
      exact body_void rfl rfl ⟨rfl,HFin.out⟩
end Go.Proofs.YtanbbnogdhnikaaGreat

