/-
  Texts that the main proof rests on, put together: LaY, LaCut. No statement is proved here.
-/
import Derived.Test.YtanbbnogdhnikaaGreatJ39
import Derived.Lib.SliceRun
set_option linter.unusedVariables false
set_option linter.unusedSimpArgs false
set_option maxRecDepth 300000
set_option maxHeartbeats 25600000
namespace Go.Proofs.YtanbbnogdhnikaaGreat
open Go.RowKit
open Go.Lib hiding intOf

structure LyAt (w:World) (b:Nat) (V:Value) (L:List Pg):Prop where
  blk:Blk w b 74 #[.int .i64 128,V]
  own:w.ownsRow 0 41 6 V L.length (pgcs L)
structure LyStep (b:Nat) (V:Value) (w:World) (V':Value) (w':World):Prop where
  kept:Kept (fun k=>k=b∨V.ownBlock=some k) w w'
  own : ∀ k,V'.ownBlock=some k→V.ownBlock=some k∨w.heap.size≤k
theorem LyStep.refl (b:Nat) (V:Value) (w:World):LyStep b V w V w:=⟨Kept.refl _ _,fun _ h=>.inl h⟩
theorem LyStep.trans {b:Nat} {V V1 V2:Value} {w w1 w2:World} (h:LyStep b V w V1 w1) (k:LyStep b V1 w1 V2 w2):LyStep b V w V2 w2:=by
  refine⟨h.kept.then k.kept ?_,?_⟩
  · rintro i (rfl | hi)
    · exact .inl (.inl rfl)
    · rcases h.own i hi with h1 | h1
      · exact .inl (.inr h1)
      · exact .inr h1
  · intro i hi
    rcases k.own i hi with h1 | h1
    · exact h.own i h1
    · exact .inr (Nat.le_trans h.kept.size h1)
theorem LyStep.below {b:Nat} {V V':Value} {w w1 w':World} (h:LyStep b V w V' w') (hb:Below w'.heap.size w' w1):LyStep b V w V' w1 :=
  ⟨h.kept.then (Kept.of_new (F:=fun _=>False) hb) (fun _ hf=>hf.elim),h.own⟩
theorem LyStep.new {b:Nat} {V:Value} {w w':World} (hb:Below w.heap.size w w'):LyStep b V w V w':=(LyStep.refl b V w).below hb
theorem LyAt.below {w w':World} {b:Nat} {V:Value} {L:List Pg} (h:LyAt w b V L) (hb:Below w.heap.size w w'):LyAt w' b V L:=⟨h.blk.below hb h.blk.lt,own_below h.own hb⟩
theorem LyAt.ne {w:World} {b:Nat} {V:Value} {L:List Pg} (h:LyAt w b V L):V.ownBlock≠some b:=own_ne_blk h.own h.blk (by decide)
theorem LyAt.grown {w w':World} {b:Nat} {V V':Value} {L:List Pg} (h:LyAt w b V L) (hg:w.grownBy w' V.ownBlock) (hv:V'.ownBlock=V.ownBlock∨V'.ownBlock=some w.heap.size) :
    Blk w' b 74 #[.int .i64 128,V]∧V'.ownBlock≠some b:=by
  have hne:V'.ownBlock≠some b:=by
    rcases hv with h1 | h1
    · rw[h1];exact h.ne
    · rw[h1]
      intro he
      injection he with he
      have:=h.blk.lt
      omega
  exact⟨(hg.block b h.blk.lt (fun e=>h.ne e.symm)).trans h.blk,hne⟩
theorem LyAt.put {w w':World} {b:Nat} {V V':Value} {L L':List Pg} (h:LyAt w b V L) (hg:w.grownBy w' V.ownBlock) (ho:w'.ownsRow 0 41 6 V' L'.length (pgcs L')) (hv:V'.ownBlock=V.ownBlock∨V'.ownBlock=some w.heap.size) :
    LyAt (w'.setCell ⟨b,1,none⟩ V') b V' L'∧LyStep b V w V' (w'.setCell ⟨b,1,none⟩ V'):=by
  obtain⟨hbk,hne⟩:=h.grown hg hv
  refine⟨⟨hbk.set_ 1 V',?_⟩,?_,?_⟩
  · exact (Kept.setCell (F:=fun k=>k=b) (Kept.refl _ w') (p:=⟨b,1,none⟩) (.inl rfl) V').own ho fun k hk hf=>hne (hf ▸ hk)
  · refine ((Kept.refl _ w).grown hg (fun k hk=>?_)).setCell (p:=⟨b,1,none⟩) (.inl (.inl rfl)) V'
    exact .inl (.inr hk)
  · intro k hk
    rcases hv with h1 | h1
    · exact .inl (h1 ▸ hk)
    · rw[h1] at hk
      injection hk with hk
      exact .inr (Nat.le_of_eq hk)
theorem ynext_any {w:World} {b:Nat} {V:Value} {L:List Pg} (h:LyAt w b V L) (hl:L.length≤1000000) :
    Calls Tryz.prog 68 #[.pointer (some ⟨b,0,none⟩)] w fun e w'=>e=.returned (.int .u32 ((2+L.length:Nat):Int))∧w'=w:=by
  obtain⟨A,c,rfl,_,_,_⟩:=own_form h.own
  have c1:=h.blk.cell 1
  have f1:=h.blk.frozen 1
  simp at c1
  obtain⟨n,hn⟩ : ∃ n,n=L.length:=⟨_,rfl⟩
  rw[← hn] at c1 hl ⊢
  clear h hn
  go_enter Tryz.func68,Tryz.ntmps68
  go_wp2_with fail
  go_ret
  exact⟨by first | rfl | (simp only[Ending.returned.injEq,Value.int.injEq,true_and];omega),rfl⟩
theorem five_belowY {w0 w:World} {B b:Nat} {a0 a1 a2 a3 a4:Value} (h:Below B w0 w) (hb:B≤b):Below B w0 (((((w.setCell ⟨b,0,none⟩ a0).setCell ⟨b,1,none⟩ a1).setCell ⟨b,2,none⟩ a2).setCell ⟨b,3,none⟩ a3).setCell ⟨b,4,none⟩ a4) :=
  ((((h.setCell hb a0).setCell hb a1).setCell hb a2).setCell hb a3).setCell hb a4
theorem five_kept {F:Nat→Prop} {w0 w:World} {b:Nat} {a0 a1 a2 a3 a4:Value} (h:Kept F w0 w) (hb:F b∨w0.heap.size≤b):Kept F w0 (((((w.setCell ⟨b,0,none⟩ a0).setCell ⟨b,1,none⟩ a1).setCell ⟨b,2,none⟩ a2).setCell ⟨b,3,none⟩ a3).setCell ⟨b,4,none⟩ a4) :=
  ((((h.setCell (p:=⟨b,0,none⟩) hb a0).setCell (p:=⟨b,1,none⟩) hb a1).setCell (p:=⟨b,2,none⟩) hb a2).setCell (p:=⟨b,3,none⟩) hb a3).setCell (p:=⟨b,4,none⟩) hb a4
theorem LyAt.kept {F:Nat→Prop} {w w':World} {b:Nat} {V:Value} {L:List Pg} (h:LyAt w b V L) (hk:Kept F w w') (h1 : ¬ F b) (h2 : ∀ k,V.ownBlock=some k→¬ F k):LyAt w' b V L:=⟨hk.blk h.blk h1,hk.own h.own h2⟩
theorem LyAt.kept1 {w w':World} {b g:Nat} {V:Value} {L:List Pg} {t:TypeId} {cs:Array Value} (h:LyAt w b V L) (hg:Blk w g t cs) (hk:Kept (fun k=>k=g) w w') (h1:g≠b) (h2:41≠t):LyAt w' b V L :=
  h.kept hk (fun e=>h1 e.symm) (fun k hv e=>by subst e;exact own_ne_blk h.own hg h2 hv)
theorem LyStep.more {b g:Nat} {V V':Value} {w w1 w':World} (h:LyStep b V w V' w') (hk:Kept (fun k=>k=g) w' w1) (hg:w.heap.size≤g):LyStep b V w V' w1 :=
  ⟨h.kept.then hk (fun _ hf=>.inr (by rw[hf];exact hg)),h.own⟩
theorem onY_len {size:Int} {tx:Nat} {ps:List Nat} {v:ByteArray}:((onL size tx ps v).getD []).length≤ps.length:=by
  unfold onL
  split
  · simp
  · simp
theorem pagesY_len {size:Int} {tx f:Nat} {v:ByteArray} (hv:v.size≤1000000):((pagesL size tx f v).getD []).length≤1000000:=by
  have h1:=onY_len (size:=size) (tx:=tx) (ps:=runW f (needN size v.size)) (v:=v)
  rw[runW_len] at h1
  have h2:=needN_le size v.size hv
  exact Nat.le_trans h1 h2
theorem pgsPost_any {o:Option (List Pg)} {w:World} {e:Ending} {w':World} (h:PgsPost o w e w') : ∃ A n c er,e=.returned (.tuple #[.slice A n c,er])∧Reads w' w'.heap.size 6 A n (pgcs (o.getD []))∧Below w.heap.size w w':=by
  cases o with
  | none=>exact⟨none,0,0,_,h.1,Reads.none_,h.2⟩
  | some L =>
    obtain⟨A,n,c,h1,h2,h3⟩:=h
    exact⟨A,n,c,_,h1,h2,h3⟩
theorem LyAt.c0 {w:World} {b:Nat} {V:Value} {L:List Pg} (h:LyAt w b V L):w.cell? ⟨b,0,none⟩=some (.int .i64 128):=by rw[h.blk.cell 0];rfl
theorem LyAt.c1 {w:World} {b:Nat} {V:Value} {L:List Pg} (h:LyAt w b V L):w.cell? ⟨b,1,none⟩=some V:=by rw[h.blk.cell 1];rfl
theorem two_cells {w:World} {g:Nat} {t:TypeId} {a b:Value} (h:Blk w g t #[a,b]):w.cell? ⟨g,0,none⟩=some a∧w.cell? ⟨g,1,none⟩=some b:=⟨by rw[h.cell 0];rfl,by rw[h.cell 1];rfl⟩
theorem yitem_any {w:World} {b:Nat} {V:Value} {L:List Pg} (ky vl:ByteArray) (h:LyAt w b V L) (hl:L.length≤100000) (hv:vl.size≤4096) :
    Calls Tryz.prog 36 #[.pointer (some ⟨b,0,none⟩),.agg #[.string ky,.string vl]] w fun e w'=>e=.returned (.agg (itemY 128 L ⟨ky,vl⟩).2.cells.toArray)∧∃ V',LyAt w' b V' (itemY 128 L ⟨ky,vl⟩).1∧LyStep b V w V' w':=by
  have HIn : ∀ w:World,Calls Tryz.prog 67 #[.int .i64 128,.int .i64 vl.size] w fun e w'=>e=.returned (.bool (inB 128 vl.size))∧w'=w:=fun w=>rin_any 128 (vl.size:Int) w (by omega)
  have HB0:=Hd (show Below w.heap.size w ((w.alloc (.cells #[.string ky,.string vl] 55)).alloc (.cells #[.string .empty,.string .empty,.bool false,.int .i64 0,.int .u32 0] 76)) from ((Below.refl _ _).alloc (Nat.le_refl _) _).alloc (by simp) _)
  have HP0:=Hd (show Blk ((w.alloc (.cells #[.string ky,.string vl] 55)).alloc (.cells #[.string .empty,.string .empty,.bool false,.int .i64 0,.int .u32 0] 76)) w.heap.size 55 #[.string ky,.string vl] from (Blk.new _ _ _).alloc _)
  have HI0:=Hd (show Blk ((w.alloc (.cells #[.string ky,.string vl] 55)).alloc (.cells #[.string .empty,.string .empty,.bool false,.int .i64 0,.int .u32 0] 76)) (w.heap.size+1) 76 #[.string .empty,.string .empty,.bool false,.int .i64 0,.int .u32 0] from by have:=Blk.new (w.alloc (.cells #[.string ky,.string vl] 55)) 76 #[.string .empty,.string .empty,.bool false,.int .i64 0,.int .u32 0];rwa [World.size_alloc] at this)
  have H:=Hd h
  obtain⟨hzi,hii⟩:=zero_of_info infoItz
  have HII:=Hd hii
  obtain⟨w0,hw0⟩ : ∃ x,x=((w.alloc (.cells #[.string ky,.string vl] 55)).alloc (.cells #[.string .empty,.string .empty,.bool false,.int .i64 0,.int .u32 0] 76)):=⟨_,rfl⟩
  rw[← hw0] at HB0 HP0 HI0
  have HN:=Hd (show b<w.heap.size from h.blk.lt)
  obtain⟨g1,hg1⟩ : ∃ g,g=w.heap.size+1:=⟨_,rfl⟩
  rcases hin:inB 128 vl.size with _ | _
  rotate_left
  · have HE:=Hd (show itemY 128 L ⟨ky,vl⟩=(L,⟨ky,vl,false,0,0⟩) by unfold itemY;rw[if_pos hin])
    rw[hin] at HIn
    have HH:=Hd ((h.below HB0.out))
    clear h hii hl hv hin
    go_enter Tryz.func36,Tryz.ntmps36
    go_upto_region 1 with fail
    rw[← hw0,← hg1]
    rw[← hg1] at HI0
    have HG1:=Hd (show w.heap.size≤g1 by omega)
    clear hw0 hg1
    have c0:=HH.out.blk.cell 0
    have p0:=HP0.out.cell 0
    have p1:=HP0.out.cell 1
    have i0:=HI0.out.cell 0
    have i1:=HI0.out.cell 1
    have i2:=HI0.out.cell 2
    have i3:=HI0.out.cell 3
    have i4:=HI0.out.cell 4
    have j0:=HI0.out.frozen 0
    have j1:=HI0.out.frozen 1
    have j2:=HI0.out.frozen 2
    have j3:=HI0.out.frozen 3
    have j4:=HI0.out.frozen 4
    simp at c0 p0 p1 i0 i1 i2 i3 i4
    go_region_held3 (fun w'=>w'.cell? ⟨b,0,none⟩=some (.int .i64 128)∧w'.cell? ⟨w.heap.size,0,none⟩=some (.string ky)∧w'.cell? ⟨w.heap.size,1,none⟩=some (.string vl)) (exact⟨c0,p0,p1⟩)
      (first
      | (go_at_call 67
         with_reducible refine (HIn _).mono ?_
         rintro e w' ⟨rfl,rfl⟩))
    all_goals (go_wp2_with fail)
    exact bodyPost_ret (v:=.agg #[.string ky,.string vl,.bool false,.int .i64 0,.int .u32 0]) (results_cell_one rfl _ _ g1 _ rfl (load_it (five_at HI0.out).drew)) rfl ⟨by rw[HE.out];rfl,_,by rw[HE.out];exact H.out.below (five_belowY HB0.out HG1.out).drew,LyStep.new (five_belowY HB0.out HG1.out).drew⟩
  have HE:=Hd (show itemY 128 L ⟨ky,vl⟩=(L++(pagesL 128 3 (2+L.length) vl).getD [],⟨ky,⟨#[]⟩,true,vl.size,2+L.length⟩) by unfold itemY;rw[if_neg (by rw[hin];decide)];rfl)
  rw[hin] at HIn
  have HH:=Hd ((h.below HB0.out))
  have HNx:=fun (wx:World) (hx:LyAt wx b V L)=>ynext_any hx (by omega)
  have HPg : ∀ wx:World,Calls Tryz.prog 69 #[.int .i64 128,.int .u64 3,.int .u32 ((2+L.length:Nat):Int),.string vl] wx (PgsPost (pagesL 128 3 (2+L.length) vl) wx):=fun wx=>rpages11_any 128 3 (2+L.length) vl wx (by omega) (by omega)
  obtain⟨o,ho⟩ : ∃ o,o=pagesL 128 3 (2+L.length) vl:=⟨_,rfl⟩
  rw[← ho] at HE HPg
  obtain⟨N,hN⟩ : ∃ N,N=2+L.length:=⟨_,rfl⟩
  rw[← hN] at HE HPg HNx
  have HLen:=Hd (show (o.getD []).length≤1000000 by have:=pagesY_len (size:=128) (tx:=3) (f:=2+L.length) (v:=vl) (by omega);rw[← ho] at this;exact this)
  have HL0:=Hd hl
  obtain⟨i0,hi0,hz0,hz1,hz2⟩:=info_parts infoPg11
  clear h hii hl hv hin ho hN
  go_enter Tryz.func36,Tryz.ntmps36
  go_upto_region 1 with fail
  rw[← hw0,← hg1]
  rw[← hg1] at HI0
  have HG1:=Hd (show w.heap.size≤g1 by omega)
  clear hw0 hg1
  replace HH:=Hd (HH.out.below (Below.refl _ _).drew)
  replace HP0:=Hd HP0.out.drew
  replace HI0:=Hd HI0.out.drew
  replace HB0:=Hd HB0.out.drew
  have c0:=HH.out.blk.cell 0
  have p0:=HP0.out.cell 0
  have p1:=HP0.out.cell 1
  simp at c0 p0 p1
  go_region_held3 (fun w'=>w'.cell? ⟨b,0,none⟩=some (.int .i64 128)∧w'.cell? ⟨w.heap.size,0,none⟩=some (.string ky)∧w'.cell? ⟨w.heap.size,1,none⟩=some (.string vl)) (exact⟨c0,p0,p1⟩)
    (first
    | (go_at_call 67
       with_reducible refine (HIn _).mono ?_
       rintro e w' ⟨rfl,rfl⟩))
  go_upto_region 4 with (go_at_call 68;refine (HNx _ HH.out).mono ?_;rintro e w' ⟨rfl,rfl⟩)
  replace HH:=Hd (HH.out.below (Below.refl _ _).drew)
  replace HP0:=Hd HP0.out.drew
  replace HI0:=Hd HI0.out.drew
  replace HB0:=Hd HB0.out.drew
  go_region_held3 (fun w'=>w'.cell? ⟨b,0,none⟩=some (.int .i64 128)∧w'.cell? ⟨w.heap.size,0,none⟩=some (.string ky)∧w'.cell? ⟨w.heap.size,1,none⟩=some (.string vl)) (exact⟨HH.out.c0,two_cells HP0.out⟩)
    (first
    | (go_at_call 69
       with_reducible refine (HPg _).mono ?_
       rintro e w1 hp1
       obtain⟨A1,n1,c1,er,rfl,hr1,hb1⟩:=pgsPost_any hp1
       have HR1:=Hd hr1
       replace HH:=Hd (HH.out.below hb1)
       replace HP0:=Hd (HP0.out.below hb1 HP0.out.lt)
       replace HI0:=Hd (HI0.out.below hb1 HI0.out.lt)
       replace HB0:=Hd (HB0.out.trans (hb1.mono HB0.out.size))
       clear hb1 hr1 hp1))
  have hn1:=pgcs_len HR1.out
  have hlen:=HLen.out
  have hl0:=HL0.out
  have cb1:=HH.out.c1
  have fb1:=HH.out.blk.frozen 1
  go_upto_region 6 with (at_builtin;refine wpList_append_any _ rfl (.tmp 38) (.tmp 39) _ rfl 0 41 i0 _ 6 48 Tryz.underlying48 hi0 hz0 hz1 hz2 rfl (by omega) V L.length _ rfl HH.out.own w1.heap.size A1 n1 c1 (pgcs (o.getD [])) rfl HR1.out (pgcs_one _) (by unfold maxLen;omega) (by omega) (Nat.zero_le _) ?_;intro v5 w5 hown5 hg5 hat5;rw[← pgcs_append] at hown5;obtain⟨A5,c5,rfl,_,_,_⟩:=own_form hown5;have HO5:=Hd hown5;have HG5:=Hd hg5;have HA5:=Hd hat5;have b1:=(HH.out.grown hg5 hat5).1.cell 1;have x1:=(HH.out.grown hg5 hat5).1.frozen 1;simp at b1;clear hown5 hg5 hat5)
  have HPut:=HH.out.put HG5.out (L':=L++o.getD []) (by rw[List.length_append,hn1];exact HO5.out) HA5.out
  obtain⟨w6,hw6⟩ : ∃ x,x=w5.setCell ⟨b,1,none⟩ (.slice A5 (L.length+n1) c5):=⟨_,rfl⟩
  rw[← hw6] at HPut ⊢
  clear hw6 cb1 fb1 b1 x1 HG5 HO5 HA5
  have HH6:=Hd HPut.1
  have HS6:=Hd ((LyStep.new HB0.out).trans HPut.2)
  have HP6:=Hd (HPut.2.kept.blk HP0.out (by rintro (h | h);exact Nat.ne_of_gt HN.out h;exact own_ne_blk HH.out.own HP0.out (by decide) h))
  have HI6:=Hd (HPut.2.kept.blk HI0.out (by rintro (h | h);have:=HN.out;have:=HG1.out;omega;exact own_ne_blk HH.out.own HI0.out (by decide) h))
  have hgb:g1≠b:=by have:=HN.out;have:=HG1.out;omega
  have HGB:=Hd hgb
  clear HPut hn1 hlen hl0 hgb
  have p0:=(two_cells HP6.out).1
  have p1:=(two_cells HP6.out).2
  have i0:=HI6.out.cell 0
  have i1:=HI6.out.cell 1
  have i2:=HI6.out.cell 2
  have i3:=HI6.out.cell 3
  have i4:=HI6.out.cell 4
  have j0:=HI6.out.frozen 0
  have j1:=HI6.out.frozen 1
  have j2:=HI6.out.frozen 2
  have j3:=HI6.out.frozen 3
  have j4:=HI6.out.frozen 4
  simp at i0 i1 i2 i3 i4
  go_wp2_with fail
  exact bodyPost_ret (v:=.agg #[.string ky,.string .empty,.bool true,.int .i64 vl.size,.int .u32 N]) (results_cell_one rfl _ _ g1 _ rfl (load_it (five_at HI6.out))) rfl ⟨by rw[HE.out];rfl,_,by rw[HE.out];exact HH6.out.kept1 HI6.out (five_kept (Kept.refl _ _) (.inl rfl)) HGB.out (by decide),HS6.out.more (five_kept (Kept.refl _ _) (.inl rfl)) HG1.out⟩
theorem own_cap {w:World} {base size n c:Nat} {e:TypeId} {A:Option Addr} {xs:List Value} (h:w.ownsRow base e size (.slice A n c) n xs):n≤c:=by
 obtain⟨A',c',he,hc,_,_⟩:=own_form h
 injection he with _ _ e3
 omega
theorem LyStep.row {b:Nat} {V V':Value} {w w':World} (h:LyStep b V w V' w') {base size n:Nat} {e:TypeId} {v:Value} {xs:List Value} (ho:w.ownsRow base e size v n xs) (h1:v.ownBlock≠some b) (h2 : ∀ k,V.ownBlock=some k→v.ownBlock≠some k):w'.ownsRow base e size v n xs :=
 h.kept.own ho fun k hk=>by
  rintro (rfl | h3)
  ·exact h1 hk
  ·exact h2 k h3 hk
theorem out_grow {w wa w5:World} {b g n:Nat} {V V' so:Value} {L:List Pg} {xs:List Value} {cs:Array Value} (hL:LyAt wa b V' L) (hS:LyStep b V w V' wa) (ho:wa.ownsRow w.heap.size 45 2 so n xs) (hg:wa.grownBy w5 so.ownBlock) (hb:Blk wa g 41 cs) :
  LyAt w5 b V' L∧LyStep b V w V' w5∧Blk w5 g 41 cs :=
 have hk:Kept (fun k=>so.ownBlock=some k) wa w5:=Kept.of_grown hg fun k e=>e
 ⟨hL.kept hk (own_ne_blk ho hL.blk (by decide)) (fun k hv hf=>own_ne_own hL.own ho (by decide) hv hf),⟨hS.kept.then hk (fun i hi=>.inr (own_base ho i hi)),hS.own⟩,Blk.grown hb hg (fun e=>own_ne_blk ho hb (by decide) e.symm)⟩
theorem pgs_grow {w wa w7:World} {b n:Nat} {V V' V7 so:Value} {L L':List Pg} {xs:List Value} (hS:LyStep b V w V' wa) (hL:LyAt wa b V' L) (hg:wa.grownBy w7 V'.ownBlock) (ho:w7.ownsRow 0 41 6 V7 L'.length (pgcs L')) (hv:V7.ownBlock=V'.ownBlock∨V7.ownBlock=some wa.heap.size) (hO:wa.ownsRow w.heap.size 45 2 so n xs) :
  LyAt (w7.setCell ⟨b,1,none⟩ V7) b V7 L'∧LyStep b V w V7 (w7.setCell ⟨b,1,none⟩ V7)∧(w7.setCell ⟨b,1,none⟩ V7).ownsRow w.heap.size 45 2 so n xs:=by
 obtain⟨h1,h2⟩:=hL.put hg ho hv
 exact⟨h1,hS.trans h2,h2.row hO (own_ne_blk hO hL.blk (by decide)) (fun k hv hk=>own_ne_own hL.own hO (by decide) hv hk)⟩
theorem sizeI_appendY (a b:List It):sizeI (a++b)=sizeI a+sizeI b:=by
 induction a with
 | nil=>simp[sizeI]
 | cons x a ih=>simp only[List.cons_append,sizeI,ih];omega
theorem sizeF_appendY (a b:List Fk):sizeF (a++b)=sizeF a+sizeF b:=by
 induction a with
 | nil=>simp[sizeF]
 | cons x a ih=>simp only[List.cons_append,sizeF,ih];omega
theorem sizeI_dropY (l:List It) (k:Nat):sizeI (l.drop k)≤sizeI l:=by
 have:=sizeI_appendY (l.take k) (l.drop k)
 rw[List.take_append_drop] at this
 omega
theorem sizeF_dropY (l:List Fk) (k:Nat):sizeF (l.drop k)≤sizeF l:=by
 have:=sizeF_appendY (l.take k) (l.drop k)
 rw[List.take_append_drop] at this
 omega
theorem sizeI_takeY (l:List It) (k:Nat):sizeI (l.take k)≤sizeI l:=by
 have:=sizeI_appendY (l.take k) (l.drop k)
 rw[List.take_append_drop] at this
 omega
theorem sizeF_takeY (l:List Fk) (k:Nat):sizeF (l.take k)≤sizeF l:=by
 have:=sizeF_appendY (l.take k) (l.drop k)
 rw[List.take_append_drop] at this
 omega
theorem partI (A:Option Addr) (n c i j:Nat) (zi zj:Int) (hzi:zi=i) (hzj:zj=j) (hi:i≤j) (hj:j≤n) (hc:n≤c) : ∃ X r,(∀ w:World,(Instr.sliceAt 62 (.slice A n c) (some (.int .i64 zi)) (some (.int .i64 zj)) none).run Tryz.prog w=.ok (.slice X (j-i) r) w) ∧
  ∀ (w:World) (B:Nat) (l:List It),Reads w B 5 A n (itc l)→Reads w B 5 X (j-i) (itc ((l.drop i).take (j-i))):=by
 refine⟨(if c=i then A else A.map (·.add (i*5))),c-i,fun w=>?_,fun w B l h=>?_⟩
 ·obtain⟨i0,hi0,hz0,hz1,hz2⟩:=info_parts infoIt
  have he:Tryz.prog.elem 62=76:=by kernel_rfl
  have hu:Tryz.prog.underlying 62=some (.slice (Tryz.prog.elem 62)):=by rw[he];exact Tryz.underlying62
  rw[run_sliceAt_slice w _ _ _ _ _ hu,run_slice_lh w _ A n c hu .i64 .i64 zi zj (by omega) (by omega) (by omega),he]
  simp[sizeOf,typeInfo,hi0,hz1,sliced,hzi,hzj]
 ·have h1:=rows_drop (fun x=>It.cells_len x) h (show i≤n by omega) hc
  exact rows_take (fun x=>It.cells_len x) h1 (show j-i≤n-i by omega)
theorem partF (A:Option Addr) (n c i j:Nat) (zi zj:Int) (hzi:zi=i) (hzj:zj=j) (hi:i≤j) (hj:j≤n) (hc:n≤c) : ∃ X r,(∀ w:World,(Instr.sliceAt 46 (.slice A n c) (some (.int .i64 zi)) (some (.int .i64 zj)) none).run Tryz.prog w=.ok (.slice X (j-i) r) w) ∧
  ∀ (w:World) (B:Nat) (l:List Fk),Reads w B 2 A n (fkc l)→Reads w B 2 X (j-i) (fkc ((l.drop i).take (j-i))):=by
 refine⟨(if c=i then A else A.map (·.add (i*2))),c-i,fun w=>?_,fun w B l h=>?_⟩
 ·obtain⟨i0,hi0,hz0,hz1,hz2⟩:=info_parts infoFk
  have he:Tryz.prog.elem 46=45:=by kernel_rfl
  have hu:Tryz.prog.underlying 46=some (.slice (Tryz.prog.elem 46)):=by rw[he];exact Tryz.underlying46
  rw[run_sliceAt_slice w _ _ _ _ _ hu,run_slice_lh w _ A n c hu .i64 .i64 zi zj (by omega) (by omega) (by omega),he]
  simp[sizeOf,typeInfo,hi0,hz1,sliced,hzi,hzj]
 ·have h1:=rows_drop (fun x=>Fk.cells_len x) h (show i≤n by omega) hc
  exact rows_take (fun x=>Fk.cells_len x) h1 (show j-i≤n-i by omega)
theorem nearI_part {l r:List It} (h:NearI l) (k m:Nat) (hr:r=l.drop k):NearI (r.take m):=fun x hx=>h x (List.mem_of_mem_drop (hr ▸ List.mem_of_mem_take hx))
def brMay (z:Nat):Nat→List (List Fk)→Bool
 | _,[]=>true
 | n,p::t=>mayP7 z n 3 p&&brMay z (n+1) t
theorem brMay_append (z:Nat) : ∀ (a b:List (List Fk)) (n:Nat),brMay z n (a++b)=(brMay z n a&&brMay z (n+a.length) b)
 | [],b,n=>by simp[brMay]
 | p::a,b,n=>by simp[brMay,brMay_append z a b (n+1),Nat.add_comm,Nat.add_left_comm,Bool.and_assoc]
end Go.Proofs.YtanbbnogdhnikaaGreat

