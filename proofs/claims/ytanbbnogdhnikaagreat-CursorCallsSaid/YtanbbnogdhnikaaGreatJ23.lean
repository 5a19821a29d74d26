/-
  Texts that the main proof rests on, put together: CuVisit, LeValid. No statement is proved here.
-/
import Derived.Maps.OwnSet
import Derived.Maps.OwnOps
import Derived.Test.YtanbbnogdhnikaaGreatJ20
set_option linter.unusedVariables false
set_option linter.unusedSimpArgs false
set_option maxRecDepth 300000
set_option maxHeartbeats 25600000
namespace Go.Proofs.YtanbbnogdhnikaaGreat
open Go.RowKit
open Go.Lib hiding intOf
attribute [local go_sem ↓] Go.wp_at_zero Go.wp_at_succ

theorem grown_setC (w:World) (g o:Nat) (v:Value):w.grownBy (w.setCell ⟨g,o,none⟩ v) (some g):=⟨rfl,rfl,rfl,by simp[World.setCell],fun k _ hne=>Below.heap_setCell _ _ _ _ (fun e=>hne (by rw[e]))⟩
def keysU (L:List Nat):List Lit:=L.map fun (n:Nat)=>Lit.int .u32 (n:Int)
theorem keysU_ok (L:List Nat) : ∀ x∈keysU L,WideAt.IsKeyLit x:=fun x hx=>by
 obtain⟨p,_,rfl⟩:=List.mem_map.1 hx
 simp[WideAt.IsKeyLit]
theorem has_keysU (L:List Nat) (h:Nat):Maps.has (Maps.setOf (H:=Unit) (.agg []) (keysU L)) (.int .u32 (h:Int))=decide (h∈L):=by
 rw[Maps.has_setOf _ _ _ (keysU_ok L)]
 unfold keysU
 rw[List.any_map]
 induction L with
 | nil=>simp
 | cons a t ih =>
  simp only[List.any_cons,ih,List.mem_cons,Bool.decide_or]
  congr 1
  simp only[Function.comp,Lit.sameKey,true_and,decide_eq_decide]
  constructor<;>intro h<;>omega
structure Vis (w:World) (bv bm:Nat) (sz:Int) (img:ByteArray) (L:List Nat) (V:Value):Prop where
 blk:Blk w bv 93 #[.int .i64 sz,.string img,.map (some bm),V]
 map:w.ownsMap Tryz.prog 23 (unitElem (H:=Unit)) bm L.length (Maps.setOf (.agg []) (keysU L))
 row:w.ownsRow 0 23 1 V L.length (ucells L)
def FV (bv bm:Nat) (V:Value):Nat→Prop:=fun k=>k=bv∨k=bm∨V.ownBlock=some k
theorem Vis.ltV {w:World} {bv bm:Nat} {sz:Int} {img:ByteArray} {L:List Nat} {V:Value} (h:Vis w bv bm sz img L V):bv<w.heap.size:=h.blk.lt
theorem Vis.ltM {w:World} {bv bm:Nat} {sz:Int} {img:ByteArray} {L:List Nat} {V:Value} (h:Vis w bv bm sz img L V):bm<w.heap.size:=h.map.lt
theorem Vis.ltF {w:World} {bv bm:Nat} {sz:Int} {img:ByteArray} {L:List Nat} {V:Value} (h:Vis w bv bm sz img L V) : ∀ k,FV bv bm V k→k<w.heap.size:=by
 rintro k (rfl | rfl | h1)
 ·exact h.ltV
 ·exact h.ltM
 ·exact (h.row.lt k h1).2
theorem Vis.ne {w:World} {bv bm:Nat} {sz:Int} {img:ByteArray} {L:List Nat} {V:Value} (h:Vis w bv bm sz img L V):bm≠bv∧V.ownBlock≠some bv∧V.ownBlock≠some bm:=by
 obtain⟨es,ck,hh,_⟩:=h.map
 refine⟨?_,own_ne_blk h.row h.blk (by decide),?_⟩
 ·rintro rfl
  have:=h.blk
  unfold Blk at this
  rw[hh] at this
  cases this
 ·intro he
  rcases h.row.2 with ⟨rfl,_⟩ | ⟨g,cap,cur,rfl,_,hg,_⟩
  ·simp[Value.ownBlock] at he
  ·simp[Value.ownBlock] at he
   subst he
   rw[hh] at hg
   cases hg
theorem ownsMap_kept {w w':World} {F:Nat→Prop} {b n:Nat} {k:TypeId} {D:DataW Unit} (hk:Kept F w w') (hn : ¬ F b) (h:w.ownsMap Tryz.prog k (unitElem (H:=Unit)) b n D):w'.ownsMap Tryz.prog k (unitElem (H:=Unit)) b n D:=by
 obtain⟨es,ck,hh,hr⟩:=h
 exact⟨es,ck,(hk.block b (Array.getElem?_eq_some_iff.1 hh).1 hn).trans hh,hr⟩
theorem Vis.kept {w w':World} {F:Nat→Prop} {bv bm:Nat} {sz:Int} {img:ByteArray} {L:List Nat} {V:Value} (h:Vis w bv bm sz img L V) (hk:Kept F w w') (hn : ∀ k,FV bv bm V k→¬ F k):Vis w' bv bm sz img L V :=
 ⟨hk.blk h.blk (hn _ (.inl rfl)),ownsMap_kept hk (hn _ (.inr (.inl rfl))) h.map,hk.own h.row fun k e=>hn k (.inr (.inr e))⟩
theorem Vis.below {w w':World} {bv bm:Nat} {sz:Int} {img:ByteArray} {L:List Nat} {V:Value} (h:Vis w bv bm sz img L V) (hb:Below w.heap.size w w'):Vis w' bv bm sz img L V :=
 h.kept (F:=fun _=>False) (Kept.of_new hb |>.mono (fun _ h=>h)) (fun _ _ h=>h)
def VisitPost (bv bm:Nat) (sz:Int) (img:ByteArray) (L ps:List Nat) (V:Value) (w:World) (e:Ending) (w':World):Prop :=
 Kept (FV bv bm V) w w'∧match visitL L ps with
  | some M=>e=.returned (.bool true)∧∃ V',Vis w' bv bm sz img M V'∧∀ g,V'.ownBlock=some g→V.ownBlock=some g∨w.heap.size≤g
  | none=>e=.returned (.bool false)
theorem visit_any (bv bm:Nat) (sz:Int) (img:ByteArray) (L ps:List Nat) (V:Value) (A:Option Addr) (n c:Nat) (w:World) (hv:Vis w bv bm sz img L V) (hr:Reads w w.heap.size 1 A n (ucells ps)) (hA : ∀ ad,A=some ad→¬ FV bv bm V ad.block)
  (hps : ∀ p∈ps,p<4294967296) (hn:L.length+n≤1000000) :
  Calls Tryz.prog 106 #[.pointer (some ⟨bv,0,none⟩),.slice A n c] w (VisitPost bv bm sz img L ps V w):=by
 obtain⟨i0,hi0,hz0,hz1,hz2⟩:=info_parts infoU32
 have HV:=Hd hv
 have HR:=Hd hr
 have HA:=Hd hA
 have HP:=Hd hps
 have hlen:ps.length=n:=by have:=hr.1;simpa [ucells] using this
 have HLn:=Hd hlen
 have HN9:=Hd hn
 have HK0:=Hd (Kept.refl (FV bv bm V) w)
 clear hv hr hA hps hlen hn
 go_enter Tryz.func106,Tryz.ntmps106
 go_wp2_with fail
 go_loopw [11] (fun i wr=>∃ (k:Nat) (M:List Nat) (V':Value),k≤n∧i=.int .i64 k∧Hid (visitL L (ps.take k)=some M)∧Hid (Vis wr bv bm sz img M V')∧Hid (Kept (FV bv bm V) w wr)∧Hid (∀ g,V'.ownBlock=some g→V.ownBlock=some g∨w.heap.size≤g)) (fun i _=>n-(intOf i).toNat)
 case atStart=>exact⟨0,L,V,Nat.zero_le _,rfl,Hd rfl,HV,HK0,Hd fun g h=>.inl h⟩
 case round =>
  clear HK0
  obtain⟨k,M,V',hk,rfl,HVs,HV',HK,HG⟩:=hrel
  by_cases hlt:k<n
  ·obtain⟨ad,u,rfl,hb,hu,hc⟩:=HR.out.at_ hlt
   obtain⟨x,hx,rfl⟩ : ∃ x,ps[k]? = some x∧u=.int .u32 (x:Int):=by
    unfold ucells at hu
    rw[List.getElem?_map] at hu
    rcases hp:ps[k]? with _ | x
    ·rw[hp] at hu;cases hu
    ·rw[hp] at hu;injection hu with hu;exact⟨x,rfl,hu.symm⟩
   have hx9:x<4294967296:=HP.out x (List.mem_of_getElem? hx)
   have hca:wr.cell? (ad.add k)=some (.int .u32 (x:Int)):=(HK.out.cell (p:=ad.add k) (by rw[block_add];exact hb) (by rw[block_add];exact HA.out ad rfl)).trans hc
   have HT:=Hd (take_snoc_at hx)
   have HCa:=Hd hca
   have hVn:visitL L (ps.take (k+1))=if x∈M then none else some (M++[x]):=by rw[HT.out,visitL_snoc,HVs.out]
   have HVn:=Hd hVn
   have hM9:M.length+1≤1000000:=by
    have h1:=visitL_some HVs.out
    have h2:=HN9.out
    rw[h1,List.length_append,List.length_take]
    omega
   have hkey:keyOf Tryz.prog 23 (.int .u32 x)=some (.int .u32 x):=Maps.keyOf_int_mk Tryz.underlying23 (by simp[Lit.wf,IntKind.min,IntKind.max,IntKind.signed,IntKind.bits];omega)
   have HT2:=Hd (has_keysU M x)
   have v2:=HV'.out.blk.cell 2
   simp at v2
   have hown:=HV'.out.map
   clear hc hu hx hVn HT hb
   by_cases hm:x∈M
   ·have HM:=Hd (show visitL L ps=none from visitL_front (k:=k+1) (by rw[HVn.out,if_pos hm]))
    have hT3:decide (x∈M)=true:=decide_eq_true hm
    clear hm
    go_wp2_with (at_lookup;refine wpList_lookup_own_unit _ rfl _ _ 91 rfl 23 185 (Maps.int_keyed Tryz.underlying23) Tryz.underlying91 (Tryz.zeroValue185 _) bm M.length _ rfl hown _ _ rfl hkey ?_;rw[HT2.out,hT3])
    go_ret
    unfold VisitPost
    rw[HM.out]
    exact⟨HK.out.alloc _,rfl⟩
   ·have HVy:=Hd (show visitL L (ps.take (k+1))=some (M++[x]) by rw[HVn.out,if_neg hm])
    have hT3:decide (x∈M)=false:=decide_eq_false hm
    clear hm hca
    have hca:wr.cell? (ad.add k)=some (.int .u32 (x:Int)):=HCa.out
    go_upto_region 7 with (at_lookup;refine wpList_lookup_own_unit _ rfl _ _ 91 rfl 23 185 (Maps.int_keyed Tryz.underlying23) Tryz.underlying91 (Tryz.zeroValue185 _) bm M.length _ rfl hown _ _ rfl hkey ?_;rw[HT2.out,hT3])
    clear v2 hown hca
    obtain⟨wa,hwa⟩ : ∃ y,y=wr.alloc (.cells #[] 185):=⟨_,rfl⟩
    have Va:=Hd (show Vis wa bv bm sz img M V' by rw[hwa];exact HV'.out.below ((Below.refl _ _).alloc (Nat.le_refl _) _))
    have Ka:=Hd (show Kept (FV bv bm V) w wa by rw[hwa];exact HK.out.alloc _)
    rw[← hwa]
    clear hwa HV' HK
    have v2:=Va.out.blk.cell 2
    simp at v2
    have hown:=Va.out.map
    have hk9:M.length<maxLen:=by unfold maxLen;omega
    go_upto_region 8 with (at_mapUpdate;refine wpList_mapUpdate_own _ rfl _ _ _ 91 rfl 23 185 (Maps.int_keyed Tryz.underlying23) Tryz.underlying91 (unitElem (H:=Unit)) bm M.length _ rfl hown hk9 _ _ _ rfl rfl hkey _ [] unitElem_mk ?_;intro w5 hown5 hgrow5)
    clear v2 hown hkey hk9
    have hne:=Va.out.ne
    have B5:=Hd (Va.out.blk.grown hgrow5 (fun e=>hne.1 (by injection e with e;exact e.symm)))
    have R5:=Hd (Va.out.row.kept hgrow5 (.inr hne.2.2))
    have K5:=Hd (Ka.out.grown hgrow5 (fun k e=>by cases e;exact .inl (.inr (.inl rfl))))
    have M5:=Hd (show w5.ownsMap Tryz.prog 23 (unitElem (H:=Unit)) bm (M++[x]).length (Maps.setOf (.agg []) (keysU (M++[x]))) by
     have:Maps.setOf (H:=Unit) (.agg []) (keysU (M++[x]))=(Maps.setOf (.agg []) (keysU M)).put (.int .u32 x) (.agg []):=by
      unfold keysU
      rw[List.map_append,List.map_cons,List.map_nil,Maps.setOf_snoc]
     rw[this,List.length_append]
     exact hown5)
    have HNe:=Hd hne
    clear hown5 hgrow5 Va Ka hne
    obtain⟨A',c',hV',hc1,hc2,_⟩:=own_form R5.out
    subst hV'
    have b3:=B5.out.cell 3
    simp at b3
    have RA:=Hd (R5.out.alloc (.cells #[.int .u32 x] 23))
    have HZ:=Hd (B5.out.lt)
    go_upto_region 9 with (at_builtin;refine wpList_append_any _ rfl (.tmp 35) (.tmp 37) _ rfl 0 23 i0 _ 1 4 Tryz.underlying31 hi0 hz0 hz1 hz2 rfl (by omega) _ M.length _ rfl RA.out (w5.heap.size+1) (some ⟨w5.heap.size,0,none⟩) 1 1 [.int .u32 x] rfl (reads_own (n:=1) (Blk.new _ _ _) rfl) (ucells_one [x]) (by unfold maxLen;omega) (by omega) (by omega) ?_;intro v6 w6 hown6 hg6 hat6;obtain⟨A6,c6,hv6,_,_,_⟩:=own_form hown6;subst hv6;have b6:=(B5.out.alloc (.cells #[.int .u32 x] 23)).grown hg6 (fun e=>HNe.out.2.1 e.symm);have f3:=b6.frozen 3;have c3:=b6.cell 3;simp at c3)
    have B6:=Hd b6
    have R6:=Hd hown6
    have G6:=Hd hg6
    have HT6:=Hd hat6
    clear b6 hown6 hg6 hat6 c3 f3 b3
    have HKn:=Hd (show Kept (FV bv bm V) w (w6.setCell ⟨bv,3,none⟩ (.slice A6 (M.length+1) c6)) from
     ((K5.out.alloc _).grown G6.out (fun g hg=>(HG.out g hg).elim (fun h=>.inl (.inr (.inr h))) .inr)).setCell (.inl (.inl rfl)) _)
    have HVn2:=Hd (show Vis (w6.setCell ⟨bv,3,none⟩ (.slice A6 (M.length+1) c6)) bv bm sz img (M++[x]) (.slice A6 (M.length+1) c6) from by
     have hb:=B6.out.set_ 3 (.slice A6 (M.length+1) c6)
     refine⟨by simpa using hb,?_,?_⟩
     ·exact ((M5.out.alloc _).kept G6.out (fun e=>HNe.out.2.2 e.symm)).kept (grown_setC _ _ _ _) (fun e=>HNe.out.1 (by injection e))
     ·have h1:=R6.out
      rw[show ucells M++[Value.int IntKind.u32 ↑x]=ucells (M++[x]) by simp[ucells]] at h1
      rw[List.length_append]
      exact h1.kept (grown_setC _ _ _ _) (.inr fun e=>own_ne_blk h1 B6.out (by decide) e))
    have HGn:=Hd (show ∀ g,(Value.slice A6 (M.length+1) c6).ownBlock=some g→V.ownBlock=some g∨w.heap.size≤g from fun g hg=>by
     rcases HT6.out with h | h
     ·rw[h] at hg
      exact HG.out g hg
     ·rw[h] at hg
      injection hg with hg
      have h1:=K5.out.size
      simp at hg
      right
      omega)
    clear B6 R6 G6 HT6 K5 M5 R5 B5 RA HG
    have hn9:n≤1000000:=by have:=HN9.out;omega
    go_wp2_with fail
    go_roundw
    case rel =>
     exact⟨k+1,M++[x],_,by omega,by go_num,HVy,HVn2,HKn,HGn⟩
    case measure=>simp[intOf];omega
  ·have HE:=Hd (show visitL L ps=some M by have:=HVs.out;rwa [List.take_of_length_le (by have:=HLn.out;omega)] at this)
   go_wp2_with fail
   go_ret
   unfold VisitPost
   rw[HE.out]
   exact⟨HK.out,rfl,V',HV'.out,HG.out⟩
theorem lvalid_any (A:Option Addr) (n c:Nat) (l:List It) (w:World) (hr:Reads w w.heap.size 5 A n (itc l)) (hn:n≤2513169434916) :
  Calls Tryz.prog 144 #[.slice A n c] w fun e w'=>e=.returned (.bool (mayI l))∧Below w.heap.size w w':=by
 have HL:=Hd (it_len hr)
 have HR:=Hd hr
 clear hr
 go_enter Tryz.func144,Tryz.ntmps144
 go_wp2_with fail
 go_loopw [3,6] (fun _ i wr=>∃ k:Nat,k≤n∧i=.int .i64 k∧Hid (∀ j,j<k→okAtI l j=true)∧Hid (Below w.heap.size w wr)) (fun _ i _=>n-(intOf i).toNat)
 case atStart=>exact⟨0,Nat.zero_le _,rfl,Hd fun j hj=>absurd hj (by omega),Hd (Below.refl _ _)⟩
 case round =>
  obtain⟨k,hk,rfl,HF,HB⟩:=hrel
  by_cases hlt:k<n
  ·obtain⟨ad,x,rfl,_,hp,hx,hc⟩:=it_at HR.out hlt
   have HP:=Hd hp
   have hk0:(0:Int)≤k:=by omega
   have hk1:(k:Int)<n:=by omega
   have HX:=Hd hx
   have hkl:k<l.length:=by rw[HL.out];exact hlt
   have HM:=fun w=>litem_any x w
   have HC:=Hd (show ItAt wr.drew (ad.add (k*5)) x from ItAt.below (w':=wr) hc HB.out hp)
   have HBd:=Hd HB.out.drew
   go_upto_region 4 with fail
   clear hx hp
   rcases hok:okIt x with _ | _
   ·have HE:=Hd (show mayI l=false by rw[mayI,allOkI_no hkl (by rw[okAtI_of HX.out,hok];rfl)];rfl)
    rw[hok] at HM
    clear hkl hok hc
    refine wp_region_held_drew (S:=(fun w'=>w'.cell? (ad.add (k*5))=some (.string x.ky)∧w'.cell? ⟨(ad.add (k*5)).block,(ad.add (k*5)).off+1,none⟩=some (.string x.vl)∧w'.cell? ⟨(ad.add (k*5)).block,(ad.add (k*5)).off+2,none⟩=some (.bool x.ov)∧w'.cell? ⟨(ad.add (k*5)).block,(ad.add (k*5)).off+3,none⟩=some (.int .i64 x.ln)∧w'.cell? ⟨(ad.add (k*5)).block,(ad.add (k*5)).off+4,none⟩=some (.int .u32 x.hd))) (by kernel_rfl) (HC.out) (fun hHeld=>?_)
    refine tkA (i:=0) ?_
    try simp only[tkP]
    refine tkA (i:=1) ?_
    try simp only[tkP]
    refine tkA (i:=2) ?_
    try simp only[tkP]
    refine tkA (i:=3) ?_
    try simp only[tkP]
    refine wpAnyH_ready (rs:=[4]) (by kernel_rfl) (by simp) ?_
    refine tkC (fun K hK=>?_)
    go_simp
    refine (HM _).mono ?_
    rintro e w2 ⟨rfl,hb⟩
    replace HC:=Hd (HC.out.below hb (Nat.lt_of_lt_of_le HP.out HBd.out.size))
    replace HBd:=Hd (HBd.out.trans (hb.mono HBd.out.size))
    clear hb
    refine hK.out _ _ (HC.out) (fun hHeld=>?_)
    clear hK K
    try simp only[tkP]
    refine tkA (i:=5) ?_
    try simp only[tkP]
    refine tkA (i:=6) ?_
    try simp only[tkP]
    refine tkU (i:=7) ?_
    try simp only[tkP]
    refine tkU (i:=8) ?_
    try simp only[tkP]
    refine tkU (i:=9) ?_
    try simp only[tkP]
    refine tkU (i:=10) ?_
    try simp only[tkP]
    refine tkU (i:=11) ?_
    try simp only[tkP]
    refine tkU (i:=12) ?_
    try simp only[tkP]
    refine tkU (i:=13) ?_
    try simp only[tkP]
    refine tkU (i:=14) ?_
    try simp only[tkP]
    refine tkU (i:=15) ?_
    try simp only[tkP]
    refine tkU (i:=16) ?_
    try simp only[tkP]
    refine tkU (i:=17) ?_
    try simp only[tkP]
    refine tkU (i:=18) ?_
    try simp only[tkP]
    refine tkU (i:=19) ?_
    try simp only[tkP]
    refine tkU (i:=20) ?_
    try simp only[tkP]
    refine tkU (i:=21) ?_
    try simp only[tkP]
    refine tkU (i:=22) ?_
    try simp only[tkP]
    refine tkA (i:=23) ?_
    try simp only[tkP]
    refine wpAnyH_done (by kernel_rfl) ?_ _
    go_wp2_with fail
    go_ret
    exact⟨by rw[HE.out];rfl,HBd.out⟩
   rw[hok] at HM
   by_cases hk00:k=0
   ·have HE:=Hd (show okAtI l k=true by rw[okAtI_of HX.out,hok,hk00];rfl)
    have hk3:decide ((k:Int) > 0)=false:=by simp;omega
    have hk4:decide (0<k)=false:=by simp;omega
    clear hk00 hok hkl hc
    refine wp_region_held_drew (S:=(fun w'=>w'.cell? (ad.add (k*5))=some (.string x.ky)∧w'.cell? ⟨(ad.add (k*5)).block,(ad.add (k*5)).off+1,none⟩=some (.string x.vl)∧w'.cell? ⟨(ad.add (k*5)).block,(ad.add (k*5)).off+2,none⟩=some (.bool x.ov)∧w'.cell? ⟨(ad.add (k*5)).block,(ad.add (k*5)).off+3,none⟩=some (.int .i64 x.ln)∧w'.cell? ⟨(ad.add (k*5)).block,(ad.add (k*5)).off+4,none⟩=some (.int .u32 x.hd))) (by kernel_rfl) (HC.out) (fun hHeld=>?_)
    refine tkA (i:=0) ?_
    try simp only[tkP]
    refine tkA (i:=1) ?_
    try simp only[tkP]
    refine tkA (i:=2) ?_
    try simp only[tkP]
    refine tkA (i:=3) ?_
    try simp only[tkP]
    refine wpAnyH_ready (rs:=[4]) (by kernel_rfl) (by simp) ?_
    refine tkC (fun K hK=>?_)
    go_simp
    refine (HM _).mono ?_
    rintro e w2 ⟨rfl,hb⟩
    replace HC:=Hd (HC.out.below hb (Nat.lt_of_lt_of_le HP.out HBd.out.size))
    replace HBd:=Hd (HBd.out.trans (hb.mono HBd.out.size))
    clear hb
    refine hK.out _ _ (HC.out) (fun hHeld=>?_)
    clear hK K
    try simp only[tkP]
    refine tkA (i:=5) ?_
    try simp only[tkP]
    refine tkA (i:=6) ?_
    try simp only[tkP]
    refine tkA (i:=7) ?_
    try simp only[tkP]
    refine tkA (i:=8) ?_
    try simp only[tkP]
    refine tkA (i:=9) ?_
    try simp only[tkP]
    refine tkU (i:=10) ?_
    try simp only[tkP]
    refine tkU (i:=11) ?_
    try simp only[tkP]
    refine tkU (i:=12) ?_
    try simp only[tkP]
    refine tkU (i:=13) ?_
    try simp only[tkP]
    refine tkU (i:=14) ?_
    try simp only[tkP]
    refine tkU (i:=15) ?_
    try simp only[tkP]
    refine tkU (i:=16) ?_
    try simp only[tkP]
    refine tkU (i:=17) ?_
    try simp only[tkP]
    refine tkU (i:=18) ?_
    try simp only[tkP]
    refine tkU (i:=19) ?_
    try simp only[tkP]
    refine tkU (i:=20) ?_
    try simp only[tkP]
    refine tkU (i:=21) ?_
    try simp only[tkP]
    refine tkA (i:=22) ?_
    try simp only[tkP]
    refine tkA (i:=23) ?_
    try simp only[tkP]
    refine wpAnyH_done (by kernel_rfl) ?_ _
    have HF':=Hd (fun j (hj:j<k+1)=>show okAtI l j=true from by
     by_cases hjk:j<k
     ·exact HF.out j hjk
     ·have e:j=k:=by omega
      rw[e];exact HE.out)
    go_wp2_with fail
    go_roundw
    case rel =>
     first
      | exact⟨k+1,by omega,by go_num,HF',HBd⟩
      | ((repeat apply Exists.intro);exact⟨⟨k+1,by omega,by go_num,HF',HBd⟩,rfl⟩)
    case measure=>simp[intOf];omega
   obtain⟨j,hkj⟩ : ∃ j,k=j+1:=⟨k-1,by omega⟩
   obtain⟨ad',y,had,_,hpy,hy,hcy⟩:=it_at HR.out (show j<n by omega)
   injection had with had
   subst had
   have HPY:=Hd hpy
   have HY:=Hd (show wr.drew.cell? (ad.add (j*5))=some (.string y.ky) from (ItAt.below (w':=wr) hcy HB.out hpy).1)
   have hj1:IntKind.i64.wrap ((k:Int)-1)=(j:Int):=by rw[IntKind.wrap_i64];omega
   have hj2:(k:Int)-1=(j:Int):=by omega
   have hj5:IntKind.i64.wrap (j:Int)=(j:Int):=by rw[IntKind.wrap_i64];omega
   have hj3:(0:Int)≤j:=by omega
   have hj4:(j:Int)<n:=by omega
   have hk3:decide ((k:Int) > 0)=true:=by simp;omega
   have hk4:decide (0<k)=true:=by simp;omega
   have hle:(Op.bytesLess x.ky.toList y.ky.toList || x.ky.toList==y.ky.toList) = !Op.bytesLess y.ky.toList x.ky.toList:=leq_not _ _
   have hat:okAtI l k=Op.bytesLess y.ky.toList x.ky.toList:=by rw[okAtI_of HX.out,hok,hkj];simp[hy]
   rcases hless:Op.bytesLess y.ky.toList x.ky.toList with _ | _
   ·have HE:=Hd (show mayI l=false by rw[mayI,allOkI_no hkl (by rw[hat,hless])];rfl)
    rw[hless] at hle
    clear hat hkl hok hy hkj hk00 hcy hpy hc
    refine wp_region_held_drew (S:=(fun w'=>(w'.cell? (ad.add (k*5))=some (.string x.ky)∧w'.cell? ⟨(ad.add (k*5)).block,(ad.add (k*5)).off+1,none⟩=some (.string x.vl)∧w'.cell? ⟨(ad.add (k*5)).block,(ad.add (k*5)).off+2,none⟩=some (.bool x.ov)∧w'.cell? ⟨(ad.add (k*5)).block,(ad.add (k*5)).off+3,none⟩=some (.int .i64 x.ln)∧w'.cell? ⟨(ad.add (k*5)).block,(ad.add (k*5)).off+4,none⟩=some (.int .u32 x.hd))∧w'.cell? (ad.add (j*5))=some (.string y.ky))) (by kernel_rfl) (⟨HC.out,HY.out⟩) (fun hHeld=>?_)
    refine tkA (i:=0) ?_
    try simp only[tkP]
    refine tkA (i:=1) ?_
    try simp only[tkP]
    refine tkA (i:=2) ?_
    try simp only[tkP]
    refine tkA (i:=3) ?_
    try simp only[tkP]
    refine wpAnyH_ready (rs:=[4]) (by kernel_rfl) (by simp) ?_
    refine tkC (fun K hK=>?_)
    go_simp
    refine (HM _).mono ?_
    rintro e w2 ⟨rfl,hb⟩
    replace HC:=Hd (HC.out.below hb (Nat.lt_of_lt_of_le HP.out HBd.out.size))
    replace HY:=Hd ((hb.cell (p:=ad.add (j*5)) (Nat.lt_of_lt_of_le HPY.out HBd.out.size)).trans HY.out)
    replace HBd:=Hd (HBd.out.trans (hb.mono HBd.out.size))
    clear hb
    refine hK.out _ _ (⟨HC.out,HY.out⟩) (fun hHeld=>?_)
    clear hK K
    try simp only[tkP]
    refine tkA (i:=5) ?_
    try simp only[tkP]
    refine tkA (i:=6) ?_
    try simp only[tkP]
    refine tkA (i:=7) ?_
    try simp only[tkP]
    refine tkA (i:=8) ?_
    try simp only[tkP]
    refine tkA (i:=9) ?_
    try simp only[tkP]
    refine tkA (i:=10) ?_
    try simp only[tkP]
    refine tkA (i:=11) ?_
    try simp only[tkP]
    refine tkA (i:=12) ?_
    try simp only[tkP]
    refine tkA (i:=13) ?_
    try simp only[tkP]
    refine tkA (i:=14) ?_
    try simp only[tkP]
    refine tkA (i:=15) ?_
    try simp only[tkP]
    refine tkA (i:=16) ?_
    try simp only[tkP]
    refine tkA (i:=17) ?_
    try simp only[tkP]
    refine tkA (i:=18) ?_
    try simp only[tkP]
    refine tkA (i:=19) ?_
    try simp only[tkP]
    refine tkA (i:=20) ?_
    try simp only[tkP]
    refine tkA (i:=21) ?_
    try simp only[tkP]
    refine tkA (i:=22) ?_
    try simp only[tkP]
    refine tkA (i:=23) ?_
    try simp only[tkP]
    refine wpAnyH_done (by kernel_rfl) ?_ _
    go_wp2_with fail
    go_ret
    exact⟨by rw[HE.out];rfl,HBd.out⟩
   ·have HE:=Hd (show okAtI l k=true by rw[hat,hless])
    rw[hless] at hle
    clear hat hkl hok hy hkj hk00 hcy hpy hc
    refine wp_region_held_drew (S:=(fun w'=>(w'.cell? (ad.add (k*5))=some (.string x.ky)∧w'.cell? ⟨(ad.add (k*5)).block,(ad.add (k*5)).off+1,none⟩=some (.string x.vl)∧w'.cell? ⟨(ad.add (k*5)).block,(ad.add (k*5)).off+2,none⟩=some (.bool x.ov)∧w'.cell? ⟨(ad.add (k*5)).block,(ad.add (k*5)).off+3,none⟩=some (.int .i64 x.ln)∧w'.cell? ⟨(ad.add (k*5)).block,(ad.add (k*5)).off+4,none⟩=some (.int .u32 x.hd))∧w'.cell? (ad.add (j*5))=some (.string y.ky))) (by kernel_rfl) (⟨HC.out,HY.out⟩) (fun hHeld=>?_)
    refine tkA (i:=0) ?_
    try simp only[tkP]
    refine tkA (i:=1) ?_
    try simp only[tkP]
    refine tkA (i:=2) ?_
    try simp only[tkP]
    refine tkA (i:=3) ?_
    try simp only[tkP]
    refine wpAnyH_ready (rs:=[4]) (by kernel_rfl) (by simp) ?_
    refine tkC (fun K hK=>?_)
    go_simp
    refine (HM _).mono ?_
    rintro e w2 ⟨rfl,hb⟩
    replace HC:=Hd (HC.out.below hb (Nat.lt_of_lt_of_le HP.out HBd.out.size))
    replace HY:=Hd ((hb.cell (p:=ad.add (j*5)) (Nat.lt_of_lt_of_le HPY.out HBd.out.size)).trans HY.out)
    replace HBd:=Hd (HBd.out.trans (hb.mono HBd.out.size))
    clear hb
    refine hK.out _ _ (⟨HC.out,HY.out⟩) (fun hHeld=>?_)
    clear hK K
    try simp only[tkP]
    refine tkA (i:=5) ?_
    try simp only[tkP]
    refine tkA (i:=6) ?_
    try simp only[tkP]
    refine tkA (i:=7) ?_
    try simp only[tkP]
    refine tkA (i:=8) ?_
    try simp only[tkP]
    refine tkA (i:=9) ?_
    try simp only[tkP]
    refine tkA (i:=10) ?_
    try simp only[tkP]
    refine tkA (i:=11) ?_
    try simp only[tkP]
    refine tkA (i:=12) ?_
    try simp only[tkP]
    refine tkA (i:=13) ?_
    try simp only[tkP]
    refine tkA (i:=14) ?_
    try simp only[tkP]
    refine tkA (i:=15) ?_
    try simp only[tkP]
    refine tkA (i:=16) ?_
    try simp only[tkP]
    refine tkA (i:=17) ?_
    try simp only[tkP]
    refine tkA (i:=18) ?_
    try simp only[tkP]
    refine tkA (i:=19) ?_
    try simp only[tkP]
    refine tkA (i:=20) ?_
    try simp only[tkP]
    refine tkA (i:=21) ?_
    try simp only[tkP]
    refine tkA (i:=22) ?_
    try simp only[tkP]
    refine tkA (i:=23) ?_
    try simp only[tkP]
    refine wpAnyH_done (by kernel_rfl) ?_ _
    clear hj1 hj2 hj5
    have HF':=Hd (fun j (hj:j<k+1)=>show okAtI l j=true from by
     by_cases hjk:j<k
     ·exact HF.out j hjk
     ·have e:j=k:=by omega
      rw[e];exact HE.out)
    go_wp2_with fail
    go_roundw
    case rel =>
     first
      | exact⟨k+1,by omega,by go_num,HF',HBd⟩
      | ((repeat apply Exists.intro);exact⟨⟨k+1,by omega,by go_num,HF',HBd⟩,rfl⟩)
    case measure=>simp[intOf];omega
  ·obtain rfl:k=n:=by omega
   have ha:allOkI l=true:=allOkI_yes fun j hj=>HF.out j (by rw[← HL.out];exact hj)
   have HE:=Hd (show mayI l=decide (0<k) by rw[mayI,ha,HL.out];rfl)
   clear ha hlt
   go_wp2_with fail
   go_ret
   exact⟨by rw[HE.out];rfl,HB.out⟩
end Go.Proofs.YtanbbnogdhnikaaGreat

