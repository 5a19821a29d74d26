/-
  Texts that the main proof rests on, put together: CuTrav, CuTree, CuAll, CuFrom. No statement is proved here.
-/
import Derived.Test.YtanbbnogdhnikaaGreatJ39
set_option linter.unusedVariables false
set_option linter.unusedSimpArgs false
set_option maxRecDepth 300000
set_option maxHeartbeats 25600000
namespace Go.Proofs.YtanbbnogdhnikaaGreat
open Go.RowKit Go.Shelf
attribute [local go_sem] Oper.semAt_some
attribute [local go_sem ↓] Go.wp_at_zero Go.wp_at_succ

structure Far (bv bm:Nat) (V:Value) (U:Nat→Prop) (w:World) (V':Value) (U':Nat→Prop) (w':World):Prop where
 kept:Kept (fun k=>FV bv bm V k∨U k) w w'
 own : ∀ k,U' k→U k∨w.heap.size≤k
 vis : ∀ k,FV bv bm V' k→FV bv bm V k∨w.heap.size≤k
section
variable {bv bm:Nat} {V V1 V2:Value} {U U1 U2:Nat→Prop} {w w1 w2:World}
theorem Far.refl (bv bm:Nat) (V:Value) (U:Nat→Prop) (w:World):Far bv bm V U w V U w:=⟨Kept.refl _ _,fun _ h=>.inl h,fun _ h=>.inl h⟩
theorem Far.trans (h:Far bv bm V U w V1 U1 w1) (k:Far bv bm V1 U1 w1 V2 U2 w2):Far bv bm V U w V2 U2 w2:=by
 have hs:=h.kept.size
 refine⟨h.kept.then k.kept fun i hi=>?_,fun i hi=>?_,fun i hi=>?_⟩
 ·rcases hi with hi | hi
  ·rcases h.vis i hi with h1 | h1
   ·exact .inl (.inl h1)
   ·exact .inr h1
  ·rcases h.own i hi with h1 | h1
   ·exact .inl (.inr h1)
   ·exact .inr h1
 ·rcases k.own i hi with h1 | h1
  ·exact h.own i h1
  ·right;omega
 ·rcases k.vis i hi with h1 | h1
  ·exact h.vis i h1
  ·right;omega
theorem Far.of_below (h:Below w.heap.size w w1):Far bv bm V U w V U w1:=⟨Kept.of_new h,fun _ h=>.inl h,fun _ h=>.inl h⟩
theorem Far.of_visit (h:Kept (FV bv bm V) w w1) (hv : ∀ g,V1.ownBlock=some g→V.ownBlock=some g∨w.heap.size≤g):Far bv bm V U w V1 U w1 :=
 ⟨h.mono fun _ h=>.inl h,fun _ h=>.inl h,fun k hk=>by
  rcases hk with h1 | h1 | h1
  ·exact .inl (.inl h1)
  ·exact .inl (.inr (.inl h1))
  ·rcases hv k h1 with h2 | h2
   ·exact .inl (.inr (.inr h2))
   ·exact .inr h2⟩
theorem Far.of_round {β:Type} {J:β→(Nat→Prop)→World→Prop} {xs:β} (h:RoundU J xs U w w1) : ∃ U',Far bv bm V U w V U' w1∧J xs U' w1:=by
 obtain⟨U',h1,h2,h3⟩:=h
 exact⟨U',⟨h2.mono fun _ h=>.inr h,h1,fun _ h=>.inl h⟩,h3⟩
theorem Far.blk (h:Far bv bm V U w V1 U1 w1) {g:Nat} {t:TypeId} {cs:Array Value} (hb:Blk w g t cs) (h1 : ¬ FV bv bm V g) (h2 : ¬ U g):Blk w1 g t cs:=h.kept.blk hb (fun h=>h.elim h1 h2)
end
def TravPost (bv bm:Nat) (sz:Int) (img:ByteArray) (J Jx:List (Pr×Int)→(Nat→Prop)→World→Prop) (pre:List (Pr×Int)) (V:Value) (U:Nat→Prop) (w:World) (t:Tv) (e:Ending) (w':World):Prop :=
 ∃ (V':Value) (U':Nat→Prop),Far bv bm V U w V' U' w' ∧
  ((∃ M,t.2=some M∧e=.returned (.bool true)∧Vis w' bv bm sz img M V'∧(∀ k,FV bv bm V' k→¬ U' k)∧J (pre++stepsV t) U' w')
  ∨ (e=.returned (.bool false)∧t.2=none∧J (pre++stepsV t) U' w')
  ∨ (e=.returned (.bool false)∧∃ q,q <+: stepsV t∧Jx (pre++q) U' w'))
theorem TravPost.of_fail {bv bm:Nat} {sz:Int} {img:ByteArray} {J Jx:List (Pr×Int)→(Nat→Prop)→World→Prop} {pre:List (Pr×Int)} {V V1:Value} {U U1:Nat→Prop} {w w1:World} {e:Ending} {w':World} {t:Tv} {xs:List Pr}
  (hf:Far bv bm V U w V1 U1 w1) (ht:t=(xs,none)) (h:FailPost J Jx (pre++xs.map (fun p=>(p,(0:Int)))++[(Pr.zero,4)]) U1 w1 e w'):TravPost bv bm sz img J Jx pre V U w t e w':=by
 subst ht
 obtain⟨rfl,h⟩:=h
 rcases h with h | h
 ·obtain⟨U',h1,h2⟩:=Far.of_round (bv:=bv) (bm:=bm) (V:=V1) h
  exact⟨V1,U',hf.trans h1,.inr (.inl ⟨rfl,rfl,by rw[stepsV_none,← List.append_assoc];exact h2⟩)⟩
 ·obtain⟨U',h1,h2⟩:=Far.of_round (bv:=bv) (bm:=bm) (V:=V1) h
  exact⟨V1,U',hf.trans h1,.inr (.inr ⟨rfl,_,List.prefix_rfl,by rw[stepsV_none,← List.append_assoc];exact h2⟩)⟩
theorem stab_far {J:List (Pr×Int)→(Nat→Prop)→World→Prop} (hs:StabU J) {bv bm:Nat} {V:Value} {pre:List (Pr×Int)} {U:Nat→Prop} {w w':World} (hj:J pre U w) (hk:Kept (FV bv bm V) w w') (hd : ∀ k,FV bv bm V k→¬ U k):J pre U w' :=
 hs _ _ _ _ hj (KeepsU.of_kept hk fun k hu hf=>hd k hf hu)
def NodeIs (o:Nd) (B:Nat) (w:World) (kd:Int) (A:Option Addr) (n c:Nat) (A2:Option Addr) (n2 c2:Nat):Prop:=match o with
 | .none=>kd=0
 | .br l=>kd=3∧ReadsN B w 2 A n (fkc l)∧n≤c∧c≤maxLen∧n2=0
 | .lf l=>kd=4∧n=0∧ReadsN B w 5 A2 n2 (itc l)∧n2≤c2∧c2≤maxLen
theorem NodePost.letters {o:Nd} {w:World} {e:Ending} {w':World} (h:NodePost o w e w') : ∃ kd A n c A2 n2 c2,e=.returned (.agg #[.int .i64 kd,.slice A n c,.slice A2 n2 c2])∧Below w.heap.size w w'∧NodeIs o w.heap.size w' kd A n c A2 n2 c2:=by
 obtain⟨hb,h⟩:=h
 cases o with
 | none=>exact⟨0,none,0,0,none,0,0,h,hb,rfl⟩
 | br l =>
  obtain⟨A,n,c,h1,h2,h3,h4⟩:=h
  exact⟨3,A,n,c,none,0,0,h1,hb,rfl,h2,h3,h4,rfl⟩
 | lf l =>
  obtain⟨A,n,c,h1,h2,h3,h4⟩:=h
  exact⟨4,none,0,0,A,n,c,h1,hb,rfl,rfl,h2,h3,h4⟩
theorem ReadsN.keep {B B':Nat} {w w':World} {size n:Nat} {A:Option Addr} {xs:List Value} (h:ReadsN B w size A n xs) (hs:w.heap.size≤w'.heap.size) (hB:B'≤B) (hk : ∀ p:Addr,B≤p.block→p.block<w.heap.size→w'.cell? p=w.cell? p):ReadsN B' w' size A n xs:=by
 refine⟨⟨h.1.1,fun hn=>?_⟩,fun ad e=>Nat.le_trans hB (h.2 ad e)⟩
 obtain⟨ad,e,hb,hc⟩:=h.1.2 hn
 exact⟨ad,e,by omega,fun j u hu=>(hk _ (by rw[block_add];exact h.2 ad e) (by rw[block_add];exact hb)).trans (hc j u hu)⟩
theorem NodeIs.keep {o:Nd} {B B':Nat} {w w':World} {kd:Int} {A:Option Addr} {n c:Nat} {A2:Option Addr} {n2 c2:Nat} (h:NodeIs o B w kd A n c A2 n2 c2) (hs:w.heap.size≤w'.heap.size) (hB:B'≤B) (hk : ∀ p:Addr,B≤p.block→p.block<w.heap.size→w'.cell? p=w.cell? p):NodeIs o B' w' kd A n c A2 n2 c2:=by
 cases o with
 | none=>exact h
 | br l=>exact⟨h.1,h.2.1.keep hs hB hk,h.2.2⟩
 | lf l=>exact⟨h.1,h.2.1,h.2.2.1.keep hs hB hk,h.2.2.2⟩
def NodeAtW (o:Nd) (w:World) (p:Value) (wx:World):Prop:=∃ (g:Nat) (kd:Int) (A:Option Addr) (n c:Nat) (A2:Option Addr) (n2 c2:Nat),p=.pointer (some ⟨g,0,none⟩)∧w.heap.size≤g∧Below w.heap.size w wx∧Blk wx g 136 #[.int .i64 kd,.slice A n c,.slice A2 n2 c2]∧NodeIs o w.heap.size wx kd A n c A2 n2 c2
theorem NodeAtW.late {o:Nd} {w w3:World} {kd:Int} {A:Option Addr} {n c:Nat} {A2:Option Addr} {n2 c2:Nat} (hb:Below w.heap.size w w3) (h:NodeIs o w.heap.size w3 kd A n c A2 n2 c2) :
  NodeAtW o w (.pointer (some ⟨w3.heap.size,0,none⟩)) (w3.alloc (.cells #[.int .i64 kd,.slice A n c,.slice A2 n2 c2] 136)) :=
 ⟨_,kd,A,n,c,A2,n2,c2,rfl,hb.size,hb.alloc hb.size _,Blk.new _ _ _,h.keep (by simp) (Nat.le_refl _) fun p _ hp=>World.cell?_alloc_lt _ _ _ hp⟩
theorem NodeAtW.early {o:Nd} {w w3:World} {kd:Int} {A:Option Addr} {n c:Nat} {A2:Option Addr} {n2 c2:Nat} {a0 a1 a2:Value} (hb:Below (w.heap.size+1) (w.alloc (.cells #[a0,a1,a2] 136)) w3) (h:NodeIs o (w.heap.size+1) w3 kd A n c A2 n2 c2) :
  NodeAtW o w (.pointer (some ⟨w.heap.size,0,none⟩)) (((w3.setCell ⟨w.heap.size,0,none⟩ (.int .i64 kd)).setCell ⟨w.heap.size,1,none⟩ (.slice A n c)).setCell ⟨w.heap.size,2,none⟩ (.slice A2 n2 c2)):=by
 refine⟨_,kd,A,n,c,A2,n2,c2,rfl,Nat.le_refl _,below3 _ _ _ (((Below.refl _ w).alloc (Nat.le_refl _) _).trans (hb.mono (Nat.le_succ _))) (Nat.le_refl _),set3 _ _ _ ((Blk.new w _ _).below hb (Nat.lt_succ_self _)),h.keep (by simp[World.setCell]) (Nat.le_succ _) fun p hp _=>?_⟩
 rw[World.cell?_setCell_other _ _ _ _ (fun e=>by subst e;simp at hp;omega),World.cell?_setCell_other _ _ _ _ (fun e=>by subst e;simp at hp;omega),World.cell?_setCell_other _ _ _ _ (fun e=>by subst e;simp at hp;omega)]
theorem pre_trans {α:Type} {pre a b XS:List α} (h:a <+: b) (hx:pre++b <+: XS):pre++a <+: XS:=by
 obtain⟨r,rfl⟩:=h
 obtain⟨z,rfl⟩:=hx
 exact⟨r++z,by simp⟩
theorem round_vis {β:Type} {J:β→(Nat→Prop)→World→Prop} {xs:β} {bv bm:Nat} {sz:Int} {img:ByteArray} {M:List Nat} {V:Value} {U:Nat→Prop} {w w1:World} (h:RoundU J xs U w w1) (hv:Vis w bv bm sz img M V) (hd : ∀ k,FV bv bm V k→¬ U k) :
  ∃ U',Far bv bm V U w V U' w1∧J xs U' w1∧Vis w1 bv bm sz img M V∧∀ k,FV bv bm V k→¬ U' k:=by
 obtain⟨U',h1,h2,h3⟩:=h
 refine⟨U',⟨h2.mono fun _ h=>.inr h,h1,fun _ h=>.inl h⟩,h3,hv.kept h2 hd,fun k hk hu=>?_⟩
 rcases h1 k hu with h4 | h4
 ·exact hd k hk h4
 ·have:=hv.ltF k hk
  omega
def ValAt (size:Int) (o:Option (ByteArray×List Nat)) (w:World) (p14 p15 p16:Value) (wx:World):Prop:=∃ A n c,p14=.string (rdStr o)∧p15=.slice A n c∧p16=.int .i64 (valE size o)∧ReadsN w.heap.size wx 1 A n (ucells (rdPs o))∧Below w.heap.size w wx
theorem readV_num {size:Int} {s:ByteArray} {head:Nat} {len:Int} {v:ByteArray} {ps:List Nat} (h:readV size s head len=some (v,ps)) : ∀ x∈ps,x<4294967296:=by
 unfold readV at h
 split at h
 ·split at h
  ·split at h
   ·injection h with h
    injection h with _ h
    subst h
    intro x hx
    obtain⟨p,hp,rfl⟩:=List.mem_map.1 hx
    have h1:=(readAt_some (chain_mem_read hp)).2.2.2
    simp only[mayPg,Bool.and_eq_true,decide_eq_true_eq] at h1
    omega
   ·cases h
  ·cases h
 ·cases h
theorem chain_nodup {size:Int} {s:ByteArray} {kd:Int} {head:Nat}:((chainL size s kd head).map (·.pg)).Nodup:=by
 have : ∀ {P:Nat} {L:List Pg},Fresh P L→(L.map (·.pg)).Nodup:=fun {P L}=>by
  induction L with
  | nil=>intro _;simp
  | cons p t ih =>
   rintro ⟨_,h2,h3⟩
   rw[List.map_cons,List.nodup_cons]
   refine⟨fun hm=>?_,ih h3⟩
   obtain⟨q,hq,he⟩:=List.mem_map.1 hm
   unfold wasIn at h2
   rw[List.any_eq_false] at h2
   exact h2 q hq (by simpa using he)
 exact this (along_fresh s.size)
theorem valN_len {size:Int} {s:ByteArray} {i:It} {v:ByteArray} {ps:List Nat} (h:valN size s i=some (v,ps)):ps.length≤s.size∧∀ x∈ps,x<4294967296:=by
 have hp:=valN_pages h
 unfold valN at h
 split at h
 ·refine⟨nodup_le ?_ hp,readV_num h⟩
  unfold readV at h
  split at h
  ·split at h
   ·split at h
    ·injection h with h
     injection h with _ h
     exact h ▸ chain_nodup
    ·cases h
   ·cases h
  ·cases h
 ·injection h with h
  injection h with _ h
  subst h
  exact⟨Nat.zero_le _,fun x hx=>by cases hx⟩
theorem infoFkz:(Tryz.prog.info? 45).map (fun i=>(i.zero,i.size))=some (some (.agg #[.string .empty,.int .u32 0]),2):=by kernel_rfl
theorem fork_num {sz:Int} {img:ByteArray} {n k:Nat} {l:List Fk} {x:Fk} (h:nodeN sz img n=.br l) (hx:l[k]? = some x):x.rt<4294967296:=by
 obtain⟨p,hp,hf⟩:=node_some h
 have h1:=allOkF_ok (readF_kd hf).2.2.2 hx
 simp only[okFk,numB,Bool.and_eq_true,decide_eq_true_eq] at h1
 omega
theorem item_num {sz:Int} {img:ByteArray} {n k:Nat} {l:List It} {x:It} (h:nodeN sz img n=.lf l) (hx:l[k]? = some x):x.hd<4294967296∧(-9223372036854775808≤x.ln∧x.ln≤9223372036854775807):=by
 obtain⟨p,hp,_,hf⟩:=leaf_some h
 have h1:=allOkI_ok (readI_kd hf).2.2.2.1 hx
 unfold okIt at h1
 split at h1
 ·simp only[numB,Bool.and_eq_true,decide_eq_true_eq] at h1
  omega
 ·simp only[Bool.and_eq_true,decide_eq_true_eq] at h1
  omega
theorem fork_size {sz:Int} {img:ByteArray} {n:Nat} {l:List Fk} (h:nodeN sz img n=.br l):l.length≤100000:=by
 obtain⟨p,hp,hf⟩:=node_some h
 have h1:=readAt_body hp
 unfold readF at hf
 split at hf
 ·cases hf
 ·rename_i l' r hpar
  split at hf
  ·injection hf with hf
   subst hf
   have h2:=parseF_size hpar
   have h3:=five_le l'
   rw[size_list] at h2
   omega
  ·cases hf
theorem item_size {sz:Int} {img:ByteArray} {n:Nat} {l:List It} (h:nodeN sz img n=.lf l):l.length≤100000:=by
 obtain⟨p,hp,_,hf⟩:=leaf_some h
 have h1:=readAt_body hp
 have h2:=(readI_kd hf).2.2.2.2
 have h3:=three_le l
 omega
theorem traverse_any {XS:List (Pr×Int)} {J Jx:List (Pr×Int)→(Nat→Prop)→World→Prop} {yv:Value} (H:Hears XS J Jx yv) (sz:Int) (img:ByteArray) (bv bm:Nat) (hi:img.size≤400000) :
  ∀ (d depth:Nat),depth+d=17→∀ (n:Nat) (L:List Nat) (V:Value) (pre:List (Pr×Int)) (U:Nat→Prop) (w:World),n<4294967296→InL img L→Vis w bv bm sz img L V→(∀ k,FV bv bm V k→¬ U k)→J pre U w→pre++stepsV (trav sz img d n L) <+: XS →
   Calls Tryz.prog 78 #[.pointer (some ⟨bv,0,none⟩),.int .u32 n,.int .i64 depth,yv] w (TravPost bv bm sz img J Jx pre V U w (trav sz img d n L)):=by
 intro d
 induction d with
 | zero =>
  intro depth hd n L V pre U w hn hL hv hdj hj hx
  obtain rfl:depth=17:=by omega
  have hwf:Fence.wide.fn 106=True:=rfl
  have HF:=Hd (fail_any H 8 pre U w hj (by simpa [trav,stepsV] using hx))
  clear hn hL hv hdj hj hx hd
  refine (callsIn_wide (n:=9)).1 ?_
  refine callsIn_of_wp Tryz.func78 rfl trivial ?_ rfl
  simp only[Tryz.ntmps78,List.size_toArray,List.length_cons,List.length_nil,Nat.reduceAdd,Nat.reduceSub,Array.replicate_succ,Array.replicate_zero,List.push_toArray,List.append_toArray,List.nil_append,List.cons_append]
  gi_wp2
  refine⟨trivial,?_⟩
  refine HF.out.mono ?_
  rintro e w1 h
  have HP:=Hd (TravPost.of_fail (bv:=bv) (bm:=bm) (sz:=sz) (img:=img) (V:=V) (t:=trav sz img 0 n L) (xs:=[]) (Far.refl bv bm V U w) rfl (by simpa using h))
  obtain⟨rfl,_⟩:=h
  gi_wp2
  go_ret
  exact HP.out
 | succ d ih =>
  intro depth hd n L V pre U w hn hL hv hdj hj hx
  have hd16:depth≤16:=by omega
  have hgd:decide ((16:Int)<(depth:Int))=false:=by simp;omega
  obtain⟨w1,hw1⟩ : ∃ y,y=w.alloc (.cells #[.int .u32 (n:Int)] 23):=⟨_,rfl⟩
  have hb1:Below w.heap.size w w1:=by rw[hw1];exact (Below.refl _ _).alloc (Nat.le_refl _) _
  have hv1:Vis w1 bv bm sz img L V:=hv.below hb1
  have hr1:Reads w1 w1.heap.size 1 (some ⟨w.heap.size,0,none⟩) 1 (ucells [n]):=by
   rw[hw1]
   exact (reads_own (n:=1) (Blk.new w 23 #[.int .u32 (n:Int)]) rfl).more (by simp)
  have HVi:=Hd (visit_any bv bm sz img L [n] V (some ⟨w.heap.size,0,none⟩) 1 1 w1 hv1 hr1 (fun ad e hf=>by injection e with e;subst e;have:=hv.ltF _ hf;simp at this) (by simpa using hn) (by have:=hL.len;omega))
  have HDj:=Hd hdj
  have HF1:=Hd (Far.of_below (bv:=bv) (bm:=bm) (V:=V) (U:=U) hb1)
  have HJ1:=Hd (H.sJ _ _ _ _ hj (KeepsU.of_below hb1))
  have HX:=Hd hx
  have HL:=Hd hL
  have HN:=Hd hn
  have HSz:=Hd hi
  have HD:=Hd hd
  have HLt:=Hd (show ∀ k,U k→k<w.heap.size from H.lJ _ _ _ hj)
  clear hb1 hv1 hr1 hv hdj hj hx hL hn hd
  have IH:=Hd ih
  clear ih
  obtain⟨hzn,hin⟩:=zero_of_info infoNodez
  have HIN:=Hd hin
  clear hin
  refine (callsIn_wide (n:=9)).1 ?_
  refine callsIn_of_wp Tryz.func78 rfl trivial ?_ rfl
  simp only[Tryz.ntmps78,List.size_toArray,List.length_cons,List.length_nil,Nat.reduceAdd,Nat.reduceSub,Array.replicate_succ,Array.replicate_zero,List.push_toArray,List.append_toArray,List.nil_append,List.cons_append]
  gi_wp2
  rw[← hw1]
  clear hw1
  refine⟨trivial,?_⟩
  refine (callsIn_wide.2 HVi.out).mono ?_
  rintro e w2 hp
  obtain⟨hk,hp⟩:=hp
  clear HVi
  by_cases hm:n∈L
  ·have hvl:visitL L [n]=none:=by simp[visitL,hm]
   have ht:trav sz img (d+1) n L=([],none):=by simp[trav,hm]
   rw[hvl] at hp
   subst hp
   have FF:=Hd (HF1.out.trans (Far.of_visit (V1:=V) hk (fun g h=>.inl h)))
   have HFa:=Hd (fail_any H 8 pre U w2 (stab_far H.sJ HJ1.out hk HDj.out) (by have h:=HX.out;rw[ht] at h;simpa [stepsV] using h))
   have HT:=Hd ht
   clear hk ht hvl hm HF1 HJ1 HX
   gi_wp2
   refine⟨trivial,?_⟩
   refine HFa.out.mono ?_
   rintro e w3 h
   have HP:=Hd (TravPost.of_fail (sz:=sz) (img:=img) (t:=trav sz img (d+1) n L) (xs:=[]) FF.out HT.out (by simpa using h))
   obtain⟨rfl,_⟩:=h
   gi_wp2
   go_ret
   exact HP.out
  have hvl:visitL L [n]=some (L++[n]):=by simp[visitL,hm]
  rw[hvl] at hp
  obtain⟨rfl,V1,hv2,hg2⟩:=hp
  have HTr:=Hd (show trav sz img (d+1) n L=match nodeN sz img n with
    | .none=>([],none)
    | .lf l=>itemsT sz img l (L++[n])
    | .br l=>forksT (trav sz img d) l (L++[n]) by simp only[trav,if_neg hm];rfl)
  have F2:=Hd (HF1.out.trans (Far.of_visit (U:=U) hk hg2))
  have J2:=Hd (stab_far H.sJ HJ1.out hk HDj.out)
  have V2:=Hd hv2
  have HS1:=Hd HF1.out.kept.size
  have HDj3:=Hd (show ∀ k,FV bv bm V1 k→¬ U k from fun k hf hu=>by
   rcases F2.out.vis k hf with h1 | h1
   ·exact HDj.out k h1 hu
   ·have:=HLt.out k hu
    omega)
  have HNm:=Hd hm
  clear hm hvl hg2 hv2 hk HF1 HJ1 HS1 HDj
  have v0:=V2.out.blk.cell 0
  have v1:=V2.out.blk.cell 1
  simp at v0 v1
  have HNd:=Hd (fun w=>nodeAt_any sz img n w (by have:=HSz.out;omega) HN.out)
  gi_upto_region 3 with fail
  have HB2:=Hd (show w.heap.size≤w2.heap.size from F2.out.kept.size)
  obtain⟨o,ho⟩ : ∃ o,o=nodeN sz img n:=⟨_,rfl⟩
  rw[← ho] at HNd HTr
  have HO:=Hd ho
  clear ho
  have hmx:Tryz.prog.follows .mixedOrders=true:=by kernel_rfl
  gi_cut [9] from 98 (fun p wx=>NodeAtW o w2 p wx)
  case first =>
   have d0:=(V2.out.blk.drew.alloc (.cells #[.int .i64 0,.slice none 0 0,.slice none 0 0] 136)).cell 0
   have d1:=(V2.out.blk.drew.alloc (.cells #[.int .i64 0,.slice none 0 0,.slice none 0 0] 136)).cell 1
   simp at d0 d1
   have d2:=(V2.out.blk.alloc (.cells #[.int .i64 0,.slice none 0 0,.slice none 0 0] 136)).drew.cell 0
   have d3:=(V2.out.blk.alloc (.cells #[.int .i64 0,.slice none 0 0,.slice none 0 0] 136)).drew.cell 1
   simp at d2 d3
   gi_region_with_o (refine⟨trivial,?_⟩;gi_at_call 73;refine (callsIn_wide.2 (HNd.out _)).mono ?_;rintro e w3 hp;obtain⟨kd,A,n1,c1,A2,n2,c2,rfl,hb3,hni⟩:=hp.letters;clear hp;first | (have nb:Blk w3 w2.heap.size 136 #[.int .i64 0,.slice none 0 0,.slice none 0 0]:=(Blk.new w2 136 #[.int .i64 0,.slice none 0 0,.slice none 0 0]).drew.below hb3 (by simp);have n0:=nb.cell 0;have n1':=nb.cell 1;have n2':=nb.cell 2;have m0:=nb.frozen 0;have m1:=nb.frozen 1;have m2:=nb.frozen 2;simp at n0 n1' n2') | skip)
   all_goals
    gi_wp2
    gi_meet
    case rel =>
     first
      | exact NodeAtW.late ((Below.refl _ w2).drew.trans hb3) hni
      | exact NodeAtW.early ((Below.refl (w2.heap.size+1) (w2.alloc (.cells #[.int .i64 0,.slice none 0 0,.slice none 0 0] 136))).drew.trans (hb3.mono (by simp))) (by simpa using hni)
  case rest =>
   obtain⟨gP,kd,A,n1,c1,A2,n2,c2,rfl,hgP,hbc,hbl,hni⟩:=hcut
   have PN:=Hd hbl
   have F3:=Hd (F2.out.trans (Far.of_below (bv:=bv) (bm:=bm) (V:=V1) (U:=U) hbc))
   have J3:=Hd (H.sJ _ _ _ _ J2.out (KeepsU.of_below hbc))
   have V3:=Hd (V2.out.below hbc)
   have HA3:=Hd (show ∀ g,w2.heap.size≤g→¬ FV bv bm V1 g∧¬ U g from fun g hg=>⟨fun h=>by have:=V2.out.ltF g h;omega,fun h=>by have:=HLt.out g h;have:=HB2.out;omega⟩)
   have HgP:=Hd hgP
   have HL3:=Hd (show nodeN sz img n ≠ .none→InL img (L++[n]) from fun h=>HL.out.snoc HNm.out (node_lt h))
   clear hgP hbl hbc F2 J2 V2 HNd v0 v1
   have p0:=PN.out.cell 0
   have p1:=PN.out.cell 1
   have p2:=PN.out.cell 2
   simp at p0 p1 p2
   cases o with
   | none =>
    obtain rfl:kd=0:=hni
    have HFa:=Hd (fail_any H 8 pre U wc J3.out (by have h:=HX.out;rw[HTr.out] at h;simpa [stepsV] using h))
    clear p1 p2
    gi_wp2
    refine⟨trivial,?_⟩
    refine HFa.out.mono ?_
    rintro e w4 h
    have HP:=Hd (TravPost.of_fail (sz:=sz) (img:=img) (t:=trav sz img (d+1) n L) (xs:=[]) F3.out HTr.out (by simpa using h))
    obtain⟨rfl,_⟩:=h
    gi_wp2
    go_ret
    exact HP.out
   | br l =>
    obtain⟨rfl,hrn,hnc,hcm,rfl⟩:=hni
    have hnl:l.length=n1:=fk_len hrn.1
    have RF:=Hd hrn.1
    have HA:=Hd (fun ad (e:A=some ad)=>HA3.out ad.block (hrn.2 ad e))
    have hn9:n1≤100000:=by rw[← hnl];exact fork_size HO.out.symm
    have HNl:=Hd hnl
    have HL4:=Hd (HL3.out (by rw[← HO.out];simp))
    have HT4:=Hd (show trav sz img (d+1) n L=forksT (trav sz img d) l (L++[n]) from HTr.out)
    have hd9:depth<17:=by have:=HD.out;omega
    obtain⟨hzf,hif⟩:=zero_of_info infoFkz
    have HIF:=Hd hif
    have HDc:=Hd HDj3.out
    clear hrn hnc hcm hnl hif HTr HL3
    have HF0:=Hd (Far.refl bv bm V1 U wc)
    have HJ0:=Hd (show J (pre++([]:List Pr).map (fun p=>(p,(0:Int)))) U wc by simpa using J3.out)
    gi_upto_region 7 with fail
    clear p0 p1
    gi_loopw [46] (fun v wr=>∃ (k:Nat) (M:List Nat) (V':Value) (U':Nat→Prop) (xs:List Pr),k≤n1∧v=.int .i64 k∧Hid (forksT (trav sz img d) (l.take k) (L++[n])=(xs,some M))∧Hid (Vis wr bv bm sz img M V')∧Hid (∀ k,FV bv bm V' k→¬ U' k)∧Hid (J (pre++xs.map (fun p=>(p,(0:Int)))) U' wr)∧Hid (Far bv bm V1 U wc V' U' wr)) (fun v _=>n1-(RowKit.intOf v).toNat)
    case atStart=>exact⟨0,L++[n],V1,U,[],Nat.zero_le _,rfl,Hd rfl,V3,HDc,HJ0,HF0⟩
    case round =>
     clear HJ0 HF0
     obtain⟨k,M,V',U',xs,hk,rfl,HFk,HVk,HDk,HJk,HFr⟩:=hrel
     by_cases hlt:k<n1
     ·obtain⟨ad,x,rfl,hab,hab2,hx,hfk⟩:=fk_at RF.out hlt
      have hrt:=fork_num HO.out.symm hx
      have hb2:=HA.out ad rfl
      have f0:=(HFr.out.kept.cell (p:=ad.add (k*2)) hab2 (fun h=>by rw[block_add] at h;exact h.elim hb2.1 hb2.2)).trans hfk.1
      have f1:=(HFr.out.kept.cell (p:=⟨(ad.add (k*2)).block,(ad.add (k*2)).off+1,none⟩) hab2 (fun h=>by rw[show (⟨(ad.add (k*2)).block,(ad.add (k*2)).off+1,none⟩:Addr).block=ad.block from block_add _ _] at h;exact h.elim hb2.1 hb2.2)).trans hfk.2
      obtain⟨nm,rt⟩:=x
      dsimp only at f0 f1 hrt
      obtain⟨wf,hwf⟩ : ∃ y,y=wr.alloc (.cells #[.string nm,.int .u32 rt] 45):=⟨_,rfl⟩
      have Bf:=Hd (show Blk wf wr.heap.size 45 #[.string nm,.int .u32 rt] by rw[hwf];exact Blk.new _ _ _)
      have hbf:Below wr.heap.size wr wf:=by rw[hwf];exact (Below.refl _ _).alloc (Nat.le_refl _) _
      have HC:=Hd (IH.out (depth+1) (by have:=HD.out;omega) rt M V' (pre++xs.map (fun p=>(p,(0:Int)))) U' wf hrt (forksT_in (fun n L M h he=>trav_in h he) HL4.out (by rw[HFk.out])) (HVk.out.below hbf) HDk.out (H.sJ _ _ _ _ HJk.out (KeepsU.of_below hbf))
       (by have h1:=HX.out;rw[HT4.out] at h1;have h2:=pre_trans (forksT_pre HFk.out hx) h1;rwa [← List.append_assoc] at h2))
      have HFf:=Hd (HFr.out.trans (Far.of_below (bv:=bv) (bm:=bm) (V:=V') (U:=U') hbf))
      have HXx:=Hd hx
      rw[show ((depth+1:Nat):Int)=(depth:Int)+1 by omega] at HC
      clear hbf hx hfk hb2 hab hab2 hrt HJk HVk HDk HFr
      gi_upto_region 9 with fail
      rw[← hwf]
      clear hwf f0 f1
      have f1:=Bf.out.cell 1
      simp at f1
      gi_wp2
      refine⟨trivial,?_⟩
      refine (callsIn_wide.2 HC.out).mono ?_
      rintro e w5 ⟨V5,U5,hf5,hq⟩
      have F5:=Hd (HFf.out.trans hf5)
      clear hf5 HFf HC f1 Bf
      rcases hq with ⟨M5,hm5,rfl,hv5,hd5,hj5⟩ | ⟨rfl,hn5,hj5⟩ | ⟨rfl,q,hq,hj5⟩
      ·have HF5:=Hd (forksT_next HFk.out HXx.out hm5)
       have HV5:=Hd hv5
       have HD5:=Hd hd5
       have HJ5:=Hd (show J (pre++(xs++(trav sz img d rt M).1).map (fun p=>(p,(0:Int)))) U5 w5 by
        have h1:stepsV (trav sz img d rt M)=(trav sz img d rt M).1.map (fun p=>(p,(0:Int))):=by unfold stepsV;rw[hm5];simp
        rw[h1] at hj5
        rw[List.map_append,← List.append_assoc]
        exact hj5)
       clear hm5 hv5 hd5 hj5
       gi_wp2
       go_roundw
       case rel =>
        first
         | exact⟨k+1,M5,V5,U5,_,by omega,by go_num,HF5,HV5,HD5,HJ5,F5⟩
         | ((repeat apply Exists.intro);exact⟨⟨k+1,M5,V5,U5,_,by omega,by go_num,HF5,HV5,HD5,HJ5,F5⟩,rfl⟩)
       case measure=>simp[RowKit.intOf];omega
      ·have HP:=Hd (show TravPost bv bm sz img J Jx pre V U w (trav sz img (d+1) n L) (.returned (.bool false)) w5 from by
        have h1:=forksT_none HFk.out HXx.out hn5
        refine⟨V5,U5,F3.out.trans F5.out,.inr (.inl ⟨rfl,by rw[HT4.out,h1],?_⟩)⟩
        rw[HT4.out,h1,stepsV_none]
        have h2:stepsV (trav sz img d rt M)=(trav sz img d rt M).1.map (fun p=>(p,(0:Int)))++[(Pr.zero,4)]:=by unfold stepsV;rw[hn5];simp
        rw[h2] at hj5
        rw[List.map_append]
        simpa [List.append_assoc] using hj5)
       clear hn5 hj5
       gi_wp2
       go_ret
       exact HP.out
      ·have HP:=Hd (show TravPost bv bm sz img J Jx pre V U w (trav sz img (d+1) n L) (.returned (.bool false)) w5 from by
        refine⟨V5,U5,F3.out.trans F5.out,.inr (.inr ⟨rfl,xs.map (fun p=>(p,(0:Int)))++q,?_,by rwa [← List.append_assoc]⟩)⟩
        rw[HT4.out]
        obtain⟨z,hz⟩:=hq
        exact List.IsPrefix.trans ⟨z,by rw[List.append_assoc,hz]⟩ (forksT_pre HFk.out HXx.out))
       clear hq hj5
       gi_wp2
       go_ret
       exact HP.out
     ·have hkn:k=n1:=by omega
      subst hkn
      have HP:=Hd (show TravPost bv bm sz img J Jx pre V U w (trav sz img (d+1) n L) (.returned (.bool true)) wr from by
       have h1:=HFk.out
       rw[List.take_of_length_le (by have:=HNl.out;omega)] at h1
       refine⟨V',U',F3.out.trans HFr.out,.inl ⟨M,by rw[HT4.out,h1],rfl,HVk.out,HDk.out,?_⟩⟩
       rw[HT4.out,h1,stepsV_some]
       exact HJk.out)
      have PR:=Hd (HFr.out.blk PN.out (HA3.out gP HgP.out).1 (HA3.out gP HgP.out).2)
      have r2:=PR.out.cell 2
      simp at r2
      gi_upto_region 13 with fail
      gi_loopw [62] (fun v w'=>v=.int .i64 0∧w'=wr) (fun _ _=>0)
      case atStart=>exact⟨rfl,rfl⟩
      case round =>
       obtain⟨rfl,rfl⟩:=hrel
       gi_wp2
       go_ret
       exact HP.out
   | lf l =>
    obtain⟨rfl,rfl,hrn,hnc,hcm⟩:=hni
    have hnl:l.length=n2:=it_len hrn.1
    have RF:=Hd hrn.1
    have HA:=Hd (fun ad (e:A2=some ad)=>HA3.out ad.block (hrn.2 ad e))
    have hn9:n2≤100000:=by rw[← hnl];exact item_size HO.out.symm
    have HNl:=Hd hnl
    have HL4:=Hd (HL3.out (by rw[← HO.out];simp))
    have HT4:=Hd (show trav sz img (d+1) n L=itemsT sz img l (L++[n]) from HTr.out)
    obtain⟨hzi,hii⟩:=zero_of_info infoItz
    have HII:=Hd hii
    have HDc:=Hd HDj3.out
    clear hrn hnc hcm hnl hii HTr HL3
    have HF0:=Hd (Far.refl bv bm V1 U wc)
    have HJ0:=Hd (show J (pre++([]:List Pr).map (fun p=>(p,(0:Int)))) U wc by simpa using J3.out)
    gi_upto_region 7 with fail
    gi_loopw [46] (fun v w'=>v=.int .i64 0∧wc=w') (fun _ _=>0)
    case atStart=>exact⟨rfl,rfl⟩
    case round =>
    obtain⟨rfl,hw'⟩:=hrel
    subst hw'
    gi_upto_region 13 with fail
    clear p0 p1 p2
    gi_loopw [62] (fun v wr=>∃ (k:Nat) (M:List Nat) (V':Value) (U':Nat→Prop) (xs:List Pr),k≤n2∧v=.int .i64 k∧Hid (itemsT sz img (l.take k) (L++[n])=(xs,some M))∧Hid (Vis wr bv bm sz img M V')∧Hid (∀ k,FV bv bm V' k→¬ U' k)∧Hid (J (pre++xs.map (fun p=>(p,(0:Int)))) U' wr)∧Hid (Far bv bm V1 U wc V' U' wr)) (fun v _=>n2-(RowKit.intOf v).toNat)
    case atStart=>exact⟨0,L++[n],V1,U,[],Nat.zero_le _,rfl,Hd rfl,V3,HDc,HJ0,HF0⟩
    case round =>
     clear HJ0 HF0
     obtain⟨k,M,V',U',xs,hk,rfl,HIk,HVk,HDk,HJk,HFr⟩:=hrel
     by_cases hlt:k<n2
     ·obtain⟨ad,x,rfl,hab,hab2,hx,hfk⟩:=it_at RF.out hlt
      have hin:=item_num HO.out.symm hx
      have hb2:=HA.out ad rfl
      have hbb:=block_add ad (k*5)
      have hnb : ¬ (FV bv bm V1 (ad.add (k*5)).block∨U (ad.add (k*5)).block):=fun h=>by rw[hbb] at h;exact h.elim hb2.1 hb2.2
      have f0:=(HFr.out.kept.cell (p:=ad.add (k*5)) hab2 hnb).trans hfk.1
      have f1:=(HFr.out.kept.cell (p:=⟨(ad.add (k*5)).block,(ad.add (k*5)).off+1,none⟩) hab2 hnb).trans hfk.2.1
      have f2:=(HFr.out.kept.cell (p:=⟨(ad.add (k*5)).block,(ad.add (k*5)).off+2,none⟩) hab2 hnb).trans hfk.2.2.1
      have f3:=(HFr.out.kept.cell (p:=⟨(ad.add (k*5)).block,(ad.add (k*5)).off+3,none⟩) hab2 hnb).trans hfk.2.2.2.1
      have f4:=(HFr.out.kept.cell (p:=⟨(ad.add (k*5)).block,(ad.add (k*5)).off+4,none⟩) hab2 hnb).trans hfk.2.2.2.2
      obtain⟨ky,vl,ov,ln,hd⟩:=x
      dsimp only at f0 f1 f2 f3 f4 hin
      obtain⟨wf,hwf⟩ : ∃ y,y=wr.alloc (.cells #[.string ky,.string vl,.bool ov,.int .i64 ln,.int .u32 hd] 76):=⟨_,rfl⟩
      have Bf:=Hd (show Blk wf wr.heap.size 76 #[.string ky,.string vl,.bool ov,.int .i64 ln,.int .u32 hd] by rw[hwf];exact Blk.new _ _ _)
      have hbf:Below wr.heap.size wr wf:=by rw[hwf];exact (Below.refl _ _).alloc (Nat.le_refl _) _
      have HFf:=Hd (HFr.out.trans (Far.of_below (bv:=bv) (bm:=bm) (V:=V') (U:=U') hbf))
      have HVf:=Hd (HVk.out.below hbf)
      have HJf:=Hd (H.sJ _ _ _ _ HJk.out (KeepsU.of_below hbf))
      have HXx:=Hd hx
      have HgI:=Hd (show ¬ FV bv bm V' wr.heap.size∧¬ U' wr.heap.size from ⟨fun h=>Nat.lt_irrefl _ (HVk.out.ltF _ h),fun h=>Nat.lt_irrefl _ (H.lJ _ _ _ HJk.out _ h)⟩)
      have hval:=fun w=>value_any sz img ⟨ky,vl,ov,ln,hd⟩ w (by have:=HSz.out;omega) hin.1 hin.2
      dsimp only at hval
      have HVal:=Hd hval
      clear hval
      have HIn:=Hd (show InL img M from itemsT_in HL4.out (by rw[HIk.out]))
      clear hbf hx hfk hb2 hbb hnb hab hab2 hin HJk HVk HFr
      gi_upto_region 15 with fail
      rw[← hwf]
      clear hwf f0 f1 f2 f3 f4
      obtain⟨gI,hgI⟩ : ∃ g,g=wr.heap.size:=⟨_,rfl⟩
      rw[← hgI] at Bf HgI ⊢
      clear hgI
      obtain⟨o,ho⟩ : ∃ o,o=valN sz img ⟨ky,vl,ov,ln,hd⟩:=⟨_,rfl⟩
      rw[← ho] at HVal
      have HVn:=Hd ho.symm
      clear ho
      gi_cut [14,15,16] from 98 (fun p14 p15 p16 wx=>ValAt sz o wf p14 p15 p16 wx)
      case first =>
       have v0:=HVf.out.blk.cell 0
       have v1:=HVf.out.blk.cell 1
       have i0:=Bf.out.cell 0
       have i1:=Bf.out.cell 1
       have i2:=Bf.out.cell 2
       have i3:=Bf.out.cell 3
       have i4:=Bf.out.cell 4
       simp at v0 v1 i0 i1 i2 i3 i4
       refine wpIn_wide.2 ?_
       refine wp_region_held_drew (S:=(fun w'=>w'.cell? ⟨bv,0,none⟩=some (.int .i64 sz)∧w'.cell? ⟨bv,1,none⟩=some (.string img)∧w'.cell? ⟨gI,0,none⟩=some (.string ky)∧w'.cell? ⟨gI,1,none⟩=some (.string vl)∧w'.cell? ⟨gI,2,none⟩=some (.bool ov)∧w'.cell? ⟨gI,3,none⟩=some (.int .i64 ln)∧w'.cell? ⟨gI,4,none⟩=some (.int .u32 hd))) (by kernel_rfl) (show _∧_ from ⟨HVf.out.blk.drew.cell 0,HVf.out.blk.drew.cell 1,Bf.out.drew.cell 0,Bf.out.drew.cell 1,Bf.out.drew.cell 2,Bf.out.drew.cell 3,Bf.out.drew.cell 4⟩) (fun _=>?_)
       refine tkA (i:=0) ?_
       try simp only[tkP]
       refine tkA (i:=1) ?_
       try simp only[tkP]
       refine tkA (i:=2) ?_
       try simp only[tkP]
       refine tkA (i:=3) ?_
       try simp only[tkP]
       refine tkA (i:=4) ?_
       try simp only[tkP]
       refine tkA (i:=5) ?_
       try simp only[tkP]
       refine tkA (i:=6) ?_
       try simp only[tkP]
       refine tkA (i:=7) ?_
       try simp only[tkP]
       refine tkA (i:=8) ?_
       try simp only[tkP]
       refine wpAnyH_ready (rs:=[9]) (by kernel_rfl) (by simp) ?_
       refine tkC (fun K hK=>?_)
       go_simp
       refine (HVal.out _).mono ?_
       rintro e w4 ⟨Ac,nc,cc,rfl,hrc,hbc⟩
       refine hK.out _ _ (show _∧_ from ⟨(HVf.out.blk.drew.below hbc HVf.out.blk.lt).cell 0,(HVf.out.blk.drew.below hbc HVf.out.blk.lt).cell 1,(Bf.out.drew.below hbc Bf.out.lt).cell 0,(Bf.out.drew.below hbc Bf.out.lt).cell 1,(Bf.out.drew.below hbc Bf.out.lt).cell 2,(Bf.out.drew.below hbc Bf.out.lt).cell 3,(Bf.out.drew.below hbc Bf.out.lt).cell 4⟩) (fun hHeld=>?_)
       clear hK K
       try simp only[tkP]
       refine tkA (i:=10) ?_
       try simp only[tkP]
       refine tkA (i:=11) ?_
       try simp only[tkP]
       refine tkA (i:=12) ?_
       try simp only[tkP]
       refine tkA (i:=13) ?_
       try simp only[tkP]
       refine tkA (i:=14) ?_
       try simp only[tkP]
       refine tkA (i:=15) ?_
       try simp only[tkP]
       refine tkA (i:=16) ?_
       try simp only[tkP]
       refine wpAnyH_done (by kernel_rfl) ?_ _
       go_wp2_with fail
       gi_meet
       case rel=>exact⟨Ac,nc,cc,rfl,rfl,rfl,hrc,(Below.refl _ wf).drew.trans hbc⟩
      case rest =>
      obtain⟨Ac,nc,cc,rfl,rfl,rfl,hrc,hbc⟩:=hcut
      have F4:=Hd (HFf.out.trans (Far.of_below (bv:=bv) (bm:=bm) (V:=V') (U:=U') hbc))
      have HV4:=Hd (HVf.out.below hbc)
      have HJ4:=Hd (H.sJ _ _ _ _ HJf.out (KeepsU.of_below hbc))
      have HRc:=Hd hrc
      have HAc:=Hd (show ∀ ad,Ac=some ad→¬ FV bv bm V' ad.block from fun ad e h=>by have h1:=hrc.2 ad e;have h2:=HVf.out.ltF _ h;omega)
      have B4:=Hd (Bf.out.below hbc Bf.out.lt)
      clear hrc hbc HFf HVf HJf Bf HVal
      rcases o with _ | ⟨v,ps⟩
      ·have hwf:Fence.wide.fn 106=True:=rfl
       have hve:valE sz none≠0:=by unfold valE rdErr;split<;>(try split)<;>simp_all
       have hvb:(valE sz none != 0)=true:=by simpa using hve
       have HFa:=Hd (fail_any H 8 _ U' wc HJ4.out (by
        have h:=HX.out
        rw[HT4.out,itemsT_bad HIk.out HXx.out HVn.out,stepsV_none] at h
        rwa [← List.append_assoc] at h))
       clear hve
       gi_wp2
       refine⟨trivial,?_⟩
       refine HFa.out.mono ?_
       rintro e w6 h
       have HP:=Hd (TravPost.of_fail (sz:=sz) (img:=img) (t:=trav sz img (d+1) n L) (F3.out.trans F4.out) (by rw[HT4.out];exact itemsT_bad HIk.out HXx.out HVn.out) h)
       obtain⟨rfl,_⟩:=h
       gi_wp2
       go_ret
       exact HP.out
      ·have hps:=valN_len HVn.out
       have hnc:ps.length=nc:=by have:=HRc.out.1.1;simpa [ucells,rdPs] using this
       have HVi:=Hd (visit_any bv bm sz img M ps V' Ac nc cc wc HV4.out HRc.out.1 HAc.out hps.2 (by have h1:=HIn.out.len;have h2:=HSz.out;omega))
       clear hps hnc HRc HAc
       rw[show valE sz (some (v,ps))=0 from rfl,show rdStr (some (v,ps))=v from rfl]
       gi_wp2
       refine⟨trivial,?_⟩
       refine (callsIn_wide.2 HVi.out).mono ?_
       rintro e w6 ⟨hk6,hp⟩
       clear HVi
       rcases hw:visitL M ps with _ | N
       ·rw[hw] at hp
        subst hp
        have F6:=Hd (F4.out.trans (Far.of_visit (U:=U') (V1:=V') hk6 (fun g h=>.inl h)))
        have HFa:=Hd (fail_any H 8 _ U' w6 (stab_far H.sJ HJ4.out hk6 HDk.out) (by
         have h:=HX.out
         rw[HT4.out,itemsT_twice HIk.out HXx.out HVn.out hw,stepsV_none] at h
         rwa [← List.append_assoc] at h))
        have HW:=Hd hw
        clear hk6 hw
        gi_wp2
        refine⟨trivial,?_⟩
        refine HFa.out.mono ?_
        rintro e w7 h
        have HP:=Hd (TravPost.of_fail (sz:=sz) (img:=img) (t:=trav sz img (d+1) n L) (F3.out.trans F6.out) (by rw[HT4.out];exact itemsT_twice HIk.out HXx.out HVn.out HW.out) h)
        obtain⟨rfl,_⟩:=h
        gi_wp2
        go_ret
        exact HP.out
       ·rw[hw] at hp
        obtain⟨rfl,V6,hv6,hg6⟩:=hp
        have F6:=Hd (F4.out.trans (Far.of_visit (U:=U') hk6 hg6))
        have HV6:=Hd hv6
        have HD6:=Hd (show ∀ k,FV bv bm V6 k→¬ U' k from fun k hf hu=>by
         have h1:=H.lJ _ _ _ HJ4.out k hu
         rcases hf with h2 | h2 | h2
         ·exact HDk.out k (.inl h2) hu
         ·exact HDk.out k (.inr (.inl h2)) hu
         ·rcases hg6 k h2 with h3 | h3
          ·exact HDk.out k (.inr (.inr h3)) hu
          ·omega)
        have HW:=Hd hw
        have B6:=Hd (hk6.blk B4.out HgI.out.1)
        have HY:=H.tell _ (⟨ky,v⟩,0) U' w6 (stab_far H.sJ HJ4.out hk6 HDk.out) (by
         have h:=HX.out
         rw[HT4.out] at h
         have h2:=pre_trans (itemsT_pre HIk.out HXx.out HVn.out hw) h
         rwa [← List.append_assoc] at h2)
        simp only[encP] at HY
        have i0:=B6.out.cell 0
        simp at i0
        clear hk6 hv6 hg6 hw HV4 HJ4 B4 F4
        rcases HY with ⟨l',fn,tmps,assign,body,rfl,hy,hR⟩ | ⟨g,lb,rfl,eg,hR⟩
        ·gi_wp2
         refine (hR _).mono ?_
         clear hR hy i0
         rintro e w7 h
         rcases h with ⟨rfl,h⟩ | ⟨rfl,h⟩
         ·have hq:=round_vis h HV6.out HD6.out
          obtain⟨U7,hf7,hj7,hv7,hd7⟩:=hq
          have F7:=Hd (F6.out.trans hf7)
          have HV7:=Hd hv7
          have HD7:=Hd hd7
          have HJ7:=Hd (show J (pre++(xs++[(⟨ky,v⟩:Pr)]).map (fun p=>(p,(0:Int)))) U7 w7 by rw[List.map_append,← List.append_assoc];exact hj7)
          have HF7:=Hd (itemsT_next HIk.out HXx.out HVn.out HW.out)
          clear h hf7 hj7 hv7 hd7
          gi_wp2
          go_roundw
          case rel =>
           first
            | exact⟨k+1,N,V6,U7,_,by omega,by go_num,HF7,HV7,HD7,HJ7,F7⟩
            | ((repeat apply Exists.intro);exact⟨⟨k+1,N,V6,U7,_,by omega,by go_num,HF7,HV7,HD7,HJ7,F7⟩,rfl⟩)
          case measure=>simp[RowKit.intOf];omega
         ·obtain⟨U7,hf7,hj7⟩:=Far.of_round (bv:=bv) (bm:=bm) (V:=V6) h
          have HP:=Hd (show TravPost bv bm sz img J Jx pre V U w (trav sz img (d+1) n L) (.returned (.bool false)) w7 from by
           refine⟨V6,U7,F3.out.trans (F6.out.trans hf7),.inr (.inr ⟨rfl,xs.map (fun p=>(p,(0:Int)))++[(⟨ky,v⟩,0)],?_,by rwa [← List.append_assoc]⟩)⟩
           rw[HT4.out]
           exact itemsT_pre HIk.out HXx.out HVn.out HW.out)
          clear h hf7 hj7
          gi_wp2
          go_ret
          exact HP.out
        ·gi_wp2
         refine⟨trivial,?_⟩
         refine (callsIn_wide.2 hR).mono ?_
         clear hR eg i0
         rintro e w7 h
         rcases h with ⟨rfl,h⟩ | ⟨rfl,h⟩
         ·have hq:=round_vis h HV6.out HD6.out
          obtain⟨U7,hf7,hj7,hv7,hd7⟩:=hq
          have F7:=Hd (F6.out.trans hf7)
          have HV7:=Hd hv7
          have HD7:=Hd hd7
          have HJ7:=Hd (show J (pre++(xs++[(⟨ky,v⟩:Pr)]).map (fun p=>(p,(0:Int)))) U7 w7 by rw[List.map_append,← List.append_assoc];exact hj7)
          have HF7:=Hd (itemsT_next HIk.out HXx.out HVn.out HW.out)
          clear h hf7 hj7 hv7 hd7
          gi_wp2
          go_roundw
          case rel =>
           first
            | exact⟨k+1,N,V6,U7,_,by omega,by go_num,HF7,HV7,HD7,HJ7,F7⟩
            | ((repeat apply Exists.intro);exact⟨⟨k+1,N,V6,U7,_,by omega,by go_num,HF7,HV7,HD7,HJ7,F7⟩,rfl⟩)
          case measure=>simp[RowKit.intOf];omega
         ·obtain⟨U7,hf7,hj7⟩:=Far.of_round (bv:=bv) (bm:=bm) (V:=V6) h
          have HP:=Hd (show TravPost bv bm sz img J Jx pre V U w (trav sz img (d+1) n L) (.returned (.bool false)) w7 from by
           refine⟨V6,U7,F3.out.trans (F6.out.trans hf7),.inr (.inr ⟨rfl,xs.map (fun p=>(p,(0:Int)))++[(⟨ky,v⟩,0)],?_,by rwa [← List.append_assoc]⟩)⟩
           rw[HT4.out]
           exact itemsT_pre HIk.out HXx.out HVn.out HW.out)
          clear h hf7 hj7
          gi_wp2
          go_ret
          exact HP.out
     ·have hkn:k=n2:=by omega
      subst hkn
      have HP:=Hd (show TravPost bv bm sz img J Jx pre V U w (trav sz img (d+1) n L) (.returned (.bool true)) wr from by
       have h1:=HIk.out
       rw[List.take_of_length_le (by have:=HNl.out;omega)] at h1
       refine⟨V',U',F3.out.trans HFr.out,.inl ⟨M,by rw[HT4.out,h1],rfl,HVk.out,HDk.out,?_⟩⟩
       rw[HT4.out,h1,stepsV_some]
       exact HJk.out)
      gi_wp2
      go_ret
      exact HP.out
end Go.Proofs.YtanbbnogdhnikaaGreat

namespace Go.Proofs.YtanbbnogdhnikaaGreat
open Go.RowKit Go.Shelf
attribute [local go_sem] Oper.semAt_some
attribute [local go_sem ↓] Go.wp_at_zero Go.wp_at_succ

def treeS (size:Int) (s:ByteArray) (root:Nat):List (Pr×Int):=stepsT (treeV size s root).1 (treeE size s root)
theorem treeS_bad {size:Int} {s:ByteArray} {root:Nat} (h:goodSize size=false):treeS size s root=[(Pr.zero,2)]:=by
 unfold treeS treeV treeE stepsT
 rw[h]
 simp
theorem treeS_nil {size:Int} {s:ByteArray} (h:goodSize size=true):treeS size s 0=[]:=by
 unfold treeS treeE stepsT treeV
 rw[h]
 simp
theorem treeS_is {size:Int} {s:ByteArray} {root:Nat} (h:goodSize size=true) (hr:root≠0):treeS size s root=stepsV (trav size s 16 root []):=by
 unfold treeS treeE stepsT stepsV treeV
 rw[h]
 simp only[if_true,if_neg hr]
 rcases (trav size s 16 root []).2 with _ | M
 ·simp
 ·simp
def TreePost (bv bm:Nat) (sz:Int) (img:ByteArray) (root:Nat) (J Jx:List (Pr×Int)→(Nat→Prop)→World→Prop) (V:Value) (U:Nat→Prop) (w:World) (e:Ending) (w':World):Prop :=
 (∃ v,e=.returned v)∧∃ (V':Value) (U':Nat→Prop),Far bv bm V U w V' U' w' ∧
  ((J (treeS sz img root) U' w'∧∀ M,(treeV sz img root).2=some M→Vis w' bv bm sz img M V')
  ∨ (∃ q,q <+: treeS sz img root∧Jx q U' w'))
theorem tree_any {J Jx:List (Pr×Int)→(Nat→Prop)→World→Prop} {yv:Value} (sz:Int) (img:ByteArray) (root:Nat) (H:Hears (treeS sz img root) J Jx yv) (bv bm:Nat) (hi:img.size≤400000) (hr:root<4294967296) (V:Value) (U:Nat→Prop) (w:World) (hv:Vis w bv bm sz img [] V) (hd : ∀ k,FV bv bm V k→¬ U k) (hj:J [] U w) :
  Calls Tryz.prog 43 #[.pointer (some ⟨bv,0,none⟩),.int .u32 root,yv] w (TreePost bv bm sz img root J Jx V U w):=by
 have v0:=hv.blk.cell 0
 simp at v0
 rcases hg:goodSize sz with _ | _
 ·have HS:=Hd (treeS_bad (s:=img) (root:=root) hg)
  have HN:=Hd (show (treeV sz img root).2=none by unfold treeV;rw[hg];rfl)
  have HV:=Hd hv
  have HY:=H.tell [] (Pr.zero,2) U w hj (by rw[HS.out];exact List.prefix_rfl)
  simp only[encP,Pr.zero] at HY
  have HG:=Hd (fun w=>dgood_is sz false w hg)
  clear hv hd hj hg
  have hfin : ∀ (e:Ending) w',AfterU J Jx U w ([]++[(Pr.zero,2)]) e w'→∀ v,TreePost bv bm sz img root J Jx V U w (.returned v) w':=fun e w' h v=>by
   refine⟨⟨_,rfl⟩,?_⟩
   rcases h with ⟨_,h⟩ | ⟨_,h⟩
   ·obtain⟨U',hf,hj⟩:=Far.of_round (bv:=bv) (bm:=bm) (V:=V) h
    exact⟨V,U',hf,.inl ⟨by rw[HS.out];exact hj,fun M hm=>by rw[HN.out] at hm;cases hm⟩⟩
   ·obtain⟨U',hf,hj⟩:=Far.of_round (bv:=bv) (bm:=bm) (V:=V) h
    exact⟨V,U',hf,.inr ⟨_,by rw[HS.out];exact List.prefix_rfl,hj⟩⟩
  have HFin:=Hd hfin
  clear hfin
  have hmx:Tryz.prog.follows .mixedOrders=true:=by kernel_rfl
  rcases HY with ⟨l',fn,tmps,assign,body,rfl,hy,hR⟩ | ⟨g,lb,rfl,eg,hR⟩
  ·refine (callsIn_wide (n:=9)).1 ?_
   refine callsIn_of_wp Tryz.func43 rfl trivial ?_ rfl
   simp only[Tryz.ntmps43,List.size_toArray,List.length_cons,List.length_nil,Nat.reduceAdd,Nat.reduceSub,Array.replicate_succ,Array.replicate_zero,List.push_toArray,List.append_toArray,List.nil_append,List.cons_append]
   gi_wp2_with (refine⟨trivial,?_⟩;gi_at_call 71;refine (callsIn_wide.2 (HG.out _)).mono ?_;rintro e w' ⟨rfl,rfl⟩)
   refine (hR _).mono ?_
   rintro e w7 h
   rcases h with ⟨rfl,h⟩ | ⟨rfl,h⟩
   ·have HP:=Hd (HFin.out _ _ (.inl ⟨rfl,h⟩))
    clear h
    gi_wp2
    refine bodyPost_ret (results_none rfl _ _ _) rfl ?_
    exact HP.out _
   ·have HP:=Hd (HFin.out _ _ (.inr ⟨rfl,h⟩))
    clear h
    gi_wp2
    refine bodyPost_ret (results_none rfl _ _ _) rfl ?_
    exact HP.out _
  ·refine (callsIn_wide (n:=9)).1 ?_
   refine callsIn_of_wp Tryz.func43 rfl trivial ?_ rfl
   simp only[Tryz.ntmps43,List.size_toArray,List.length_cons,List.length_nil,Nat.reduceAdd,Nat.reduceSub,Array.replicate_succ,Array.replicate_zero,List.push_toArray,List.append_toArray,List.nil_append,List.cons_append]
   gi_wp2_with (refine⟨trivial,?_⟩;gi_at_call 71;refine (callsIn_wide.2 (HG.out _)).mono ?_;rintro e w' ⟨rfl,rfl⟩)
   refine⟨trivial,?_⟩
   refine (callsIn_wide.2 hR).mono ?_
   rintro e w7 h
   rcases h with ⟨rfl,h⟩ | ⟨rfl,h⟩
   ·have HP:=Hd (HFin.out _ _ (.inl ⟨rfl,h⟩))
    clear h
    gi_wp2
    refine bodyPost_ret (results_none rfl _ _ _) rfl ?_
    exact HP.out _
   ·have HP:=Hd (HFin.out _ _ (.inr ⟨rfl,h⟩))
    clear h
    gi_wp2
    refine bodyPost_ret (results_none rfl _ _ _) rfl ?_
    exact HP.out _
 ·have HG:=Hd (fun w=>dgood_is sz true w hg)
  by_cases h0:root=0
  ·subst h0
   have HP:=Hd (show ∀ v,TreePost bv bm sz img 0 J Jx V U w (.returned v) w from fun v=>⟨⟨_,rfl⟩,V,U,Far.refl _ _ _ _ _,.inl ⟨by rw[treeS_nil hg];exact hj,fun M hm=>by unfold treeV at hm;rw[hg] at hm;simp at hm;subst hm;exact hv⟩⟩)
   clear hv hd hj hg H
   refine (callsIn_wide (n:=9)).1 ?_
   refine callsIn_of_wp Tryz.func43 rfl trivial ?_ rfl
   simp only[Tryz.ntmps43,List.size_toArray,List.length_cons,List.length_nil,Nat.reduceAdd,Nat.reduceSub,Array.replicate_succ,Array.replicate_zero,List.push_toArray,List.append_toArray,List.nil_append,List.cons_append]
   gi_wp2_with (refine⟨trivial,?_⟩;gi_at_call 71;refine (callsIn_wide.2 (HG.out _)).mono ?_;rintro e w' ⟨rfl,rfl⟩)
   refine bodyPost_ret (results_none rfl _ _ _) rfl ?_
   exact HP.out _
  ·have HT:=Hd (traverse_any H sz img bv bm hi 16 1 rfl root [] V [] U w hr (InL.nil img) hv hd hj (by rw[treeS_is hg h0];exact List.prefix_rfl))
   have HS:=Hd (treeS_is (s:=img) hg h0)
   have HV:=Hd (show treeV sz img root=trav sz img 16 root [] by unfold treeV;rw[hg];simp[h0])
   have h1:((root:Int) != 0)=true:=by simp;omega
   have h2:(root != 0)=true:=by simp;omega
   clear hv hd hj hg H h0
   refine (callsIn_wide (n:=9)).1 ?_
   refine callsIn_of_wp Tryz.func43 rfl trivial ?_ rfl
   simp only[Tryz.ntmps43,List.size_toArray,List.length_cons,List.length_nil,Nat.reduceAdd,Nat.reduceSub,Array.replicate_succ,Array.replicate_zero,List.push_toArray,List.append_toArray,List.nil_append,List.cons_append]
   gi_wp2_with (refine⟨trivial,?_⟩;gi_at_call 71;refine (callsIn_wide.2 (HG.out _)).mono ?_;rintro e w' ⟨rfl,rfl⟩)
   refine⟨trivial,?_⟩
   refine (callsIn_wide.2 HT.out).mono ?_
   rintro e w7 ⟨V',U',hf,h⟩
   rcases h with ⟨M,hm,rfl,hv',hd',hj'⟩ | ⟨rfl,hn',hj'⟩ | ⟨rfl,q,hq,hj'⟩
   ·have HP:=Hd (show ∀ v,TreePost bv bm sz img root J Jx V U _ (.returned v) w7 from fun v=>⟨⟨_,rfl⟩,V',U',hf,.inl ⟨by rw[HS.out];exact hj',fun M' hm'=>by rw[HV.out,hm] at hm';injection hm' with hm';subst hm';exact hv'⟩⟩)
    clear hf hm hv' hd' hj'
    gi_wp2
    refine bodyPost_ret (results_none rfl _ _ _) rfl ?_
    exact HP.out _
   ·have HP:=Hd (show ∀ v,TreePost bv bm sz img root J Jx V U _ (.returned v) w7 from fun v=>⟨⟨_,rfl⟩,V',U',hf,.inl ⟨by rw[HS.out];exact hj',fun M' hm'=>by rw[HV.out,hn'] at hm';cases hm'⟩⟩)
    clear hf hn' hj'
    gi_wp2
    refine bodyPost_ret (results_none rfl _ _ _) rfl ?_
    exact HP.out _
   ·have HP:=Hd (show ∀ v,TreePost bv bm sz img root J Jx V U _ (.returned v) w7 from fun v=>⟨⟨_,rfl⟩,V',U',hf,.inr ⟨q,by rw[HS.out];exact hq,hj'⟩⟩)
    clear hf hq hj'
    gi_wp2
    refine bodyPost_ret (results_none rfl _ _ _) rfl ?_
    exact HP.out _
theorem visitor_any (sz:Int) (img:ByteArray) (w:World):Calls Tryz.prog 42 #[.int .i64 sz,.string img] w fun e w'=>e=.returned (.pointer (some ⟨w.heap.size+1,0,none⟩))∧Below w.heap.size w w'∧Vis w' (w.heap.size+1) w.heap.size sz img [] (.slice none 0 0)∧w'.heap.size=w.heap.size+2:=by
 have hmm:=@run_makeMap Tryz.prog
 have HP:=Hd (show Below w.heap.size w ((w.alloc (.map #[] 0)).alloc (.cells #[.int .i64 sz,.string img,.map (some w.heap.size),.slice none 0 0] 93))∧Vis ((w.alloc (.map #[] 0)).alloc (.cells #[.int .i64 sz,.string img,.map (some w.heap.size),.slice none 0 0] 93)) (w.heap.size+1) w.heap.size sz img [] (.slice none 0 0)∧((w.alloc (.map #[] 0)).alloc (.cells #[.int .i64 sz,.string img,.map (some w.heap.size),.slice none 0 0] 93)).heap.size=w.heap.size+2 from by
  refine⟨((Below.refl _ _).alloc (Nat.le_refl _) _).alloc (by simp) _,⟨?_,?_,World.ownsRow_nil _ _ _ _⟩,by simp⟩
  ·have:=Blk.new (w.alloc (.map #[] 0)) 93 #[.int .i64 sz,.string img,.map (some w.heap.size),.slice none 0 0]
   simpa using this
  ·have:=(World.ownsMap_made w Tryz.prog 23 (unitElem (H:=Unit))).alloc (.cells #[.int .i64 sz,.string img,.map (some w.heap.size),.slice none 0 0] 93)
   exact this)
 go_enter Tryz.func42,Tryz.ntmps42
 go_wp2_with fail
 go_ret
 exact⟨rfl,HP.out⟩
theorem all1_any {J Jx:List (Pr×Int)→(Nat→Prop)→World→Prop} {yv:Value} (sz:Int) (img:ByteArray) (root:Nat) (H:Hears (treeS sz img root) J Jx yv) (b1 b2 b3:Nat) (hi:img.size≤400000) (hr:root<4294967296) (U:Nat→Prop) (w:World)
  (c1:Boxed w b1 3 (.int .i64 sz)) (c2:Boxed w b2 9 (.string img)) (c3:Boxed w b3 23 (.int .u32 root)) (n1 : ¬ U b1) (n2 : ¬ U b2) (n3 : ¬ U b3) (hj:J [] U w) :
  Calls Tryz.prog 79 #[yv,.pointer (some ⟨b1,0,none⟩),.pointer (some ⟨b2,0,none⟩),.pointer (some ⟨b3,0,none⟩)] w fun e w'=>(∃ v,e=.returned v)∧∃ U',(J (treeS sz img root) U' w'∨∃ pre,pre <+: treeS sz img root∧Jx pre U' w'):=by
 have C1:=Hd c1
 have C2:=Hd c2
 have C3:=Hd c3
 have HJ:=Hd hj
 have HI:=Hd hi
 have HR:=Hd hr
 clear c1 c2 c3 hj hi hr
 go_enter Tryz.func79,Tryz.ntmps79
 go_upto_region 0 with fail
 refine wp_region_held_drew (S:=(fun w'=>w'.cell? ⟨b1,0,none⟩=some (.int .i64 sz)∧w'.cell? ⟨b2,0,none⟩=some (.string img)∧w'.cell? ⟨b3,0,none⟩=some (.int .u32 root))) (by kernel_rfl) (show _∧_ from ⟨C1.out.cell,C2.out.cell,C3.out.cell⟩) (fun _=>?_)
 refine tkA (i:=0) ?_
 try simp only[tkP]
 refine tkA (i:=1) ?_
 try simp only[tkP]
 refine tkA (i:=3) ?_
 try simp only[tkP]
 refine tkA (i:=4) ?_
 try simp only[tkP]
 refine wpAnyH_ready (rs:=[2]) (by kernel_rfl) (by simp) ?_
 refine tkC (fun K hK=>?_)
 go_simp
 refine (visitor_any sz img _).mono ?_
 rintro e w1 ⟨rfl,hb1,hv1,hs1⟩
 have HB1:=Hd hb1
 have HV1:=Hd hv1
 have HJ1:=Hd (H.sJ _ _ _ _ HJ.out (KeepsU.of_below ((Below.refl _ w).drew.trans hb1)))
 refine hK.out _ _ (show _∧_ from ⟨(hb1.cell (p:=⟨b1,0,none⟩) C1.out.lt).trans C1.out.cell,(hb1.cell (p:=⟨b2,0,none⟩) C2.out.lt).trans C2.out.cell,(hb1.cell (p:=⟨b3,0,none⟩) C3.out.lt).trans C3.out.cell⟩) (fun hHeld=>?_)
 clear hK K hb1 hv1 hs1
 try simp only[tkP]
 refine wpAnyH_ready (rs:=[5]) (by kernel_rfl) (by simp) ?_
 refine tkC (fun K hK=>?_)
 go_simp
 refine (tree_any sz img root H (w.drew.heap.size+1) w.drew.heap.size HI.out HR.out _ U w1 HV1.out (fun k hk hu=>by have h1:k<w.heap.size:=H.lJ _ _ _ HJ.out k hu;rcases hk with h | h | h<;>simp[Value.ownBlock] at h<;>omega) HJ1.out).mono ?_
 rintro e w2 ⟨⟨v,rfl⟩,V2,U2,hf2,hq⟩
 have HQ:=Hd (show ∃ U',(J (treeS sz img root) U' w2∨∃ pre,pre <+: treeS sz img root∧Jx pre U' w2) from ⟨U2,hq.elim (fun h=>.inl h.1) .inr⟩)
 have hnv : ∀ b,b<w.heap.size→¬ U b→∀ v,w1.cell? ⟨b,0,none⟩=some v→w2.cell? ⟨b,0,none⟩=some v:=fun b hb hn v hc=>(hf2.kept.cell (p:=⟨b,0,none⟩) (Nat.lt_of_lt_of_le hb HB1.out.size) (fun h=>h.elim (fun h=>by have hz:w.drew.heap.size=w.heap.size:=rfl;rcases h with h | h | h<;>simp[Value.ownBlock] at h<;>omega) hn)).trans hc
 have h1:=hnv b1 C1.out.lt n1 _ hHeld.1
 have h2:=hnv b2 C2.out.lt n2 _ hHeld.2.1
 have h3:=hnv b3 C3.out.lt n3 _ hHeld.2.2
 refine hK.out _ _ (show _∧_ from ⟨h1,h2,h3⟩) (fun hHeld=>?_)
 clear h1 h2 h3 hnv
 clear hK K hf2 hq
 try simp only[tkP]
 refine wpAnyH_done (by kernel_rfl) ?_ _
 go_wp2_with fail
 go_end0
 exact⟨⟨_,rfl⟩,HQ.out⟩
theorem allmake_any (sz:Int) (img:ByteArray) (root:Nat) (w:World) :
  Calls Tryz.prog 45 #[.int .i64 sz,.string img,.int .u32 root] w fun e w'=>e=.returned (.func (.func 79) #[] #[.pointer (some ⟨w.heap.size,0,none⟩),.pointer (some ⟨w.heap.size+1,0,none⟩),.pointer (some ⟨w.heap.size+1+1,0,none⟩)]) ∧
   w'=((w.alloc (.cells #[.int .i64 sz] 3)).alloc (.cells #[.string img] 9)).alloc (.cells #[.int .u32 root] 23):=by
 have hmf : ∀ (fn:Fn) (first cap:Array Value) (w:World),(Instr.makeFunc fn first cap).run Tryz.prog w=.ok (.func fn first cap) w:=fun _ _ _ _=>rfl
 go_enter Tryz.func45,Tryz.ntmps45
 go_wp2_with fail
 go_ret
 exact⟨by simp[Nat.add_assoc],rfl⟩
theorem all_seq (sz:Int) (img:ByteArray) (root:Nat) (b1 b2 b3:Nat) (hi:img.size≤400000) (hr:root<4294967296) (w:World)
  (c1:Boxed w b1 3 (.int .i64 sz)) (c2:Boxed w b2 9 (.string img)) (c3:Boxed w b3 23 (.int .u32 root)) :
  SeqU Tryz.prog 79 #[.pointer (some ⟨b1,0,none⟩),.pointer (some ⟨b2,0,none⟩),.pointer (some ⟨b3,0,none⟩)] encP (treeS sz img root) (fun k=>k=b1∨k=b2∨k=b3) w:=fun l n J Jx U0 W hW sJ sJx lJ lJx hM hY h0 =>
 callsIn_wide.2 (all1_any (yv:=.func (.yield l) #[] #[]) sz img root ⟨sJ,sJx,lJ,lJx,fun pre x U W1 hj hx=>YieldsTo.of_yield (hY 0 pre x U W1 hj hx)⟩ b1 b2 b3 hi hr U0 W ((hW.block b1 c1.lt).trans c1) ((hW.block b2 c2.lt).trans c2) ((hW.block b3 c3.lt).trans c3) (hM b1 (.inl rfl)) (hM b2 (.inr (.inl rfl))) (hM b3 (.inr (.inr rfl))) h0)
end Go.Proofs.YtanbbnogdhnikaaGreat

namespace Go.Proofs.YtanbbnogdhnikaaGreat
open Go.RowKit Go.Shelf
attribute [local go_sem] Oper.semAt_some

def keepK (key:ByteArray) (x:Pr×Int):Bool := !(decide (x.2=0)&&Op.bytesLess x.1.ky.toList key.toList)
def fromS (size:Int) (s:ByteArray) (root:Nat) (key:ByteArray):List (Pr×Int):=(treeS size s root).filter (keepK key)
section
variable {J Jx:List (Pr×Int)→(Nat→Prop)→World→Prop}
def FromI (J:List (Pr×Int)→(Nat→Prop)→World→Prop) (key:ByteArray) (yv:Value) (b4 b5:Nat) (pre:List (Pr×Int)) (U:Nat→Prop) (W:World):Prop :=
 ∃ Uo:Nat→Prop,(∀ k,U k↔Uo k∨k=b4∨k=b5)∧¬ Uo b4∧¬ Uo b5∧J (pre.filter (keepK key)) Uo W∧Boxed W b4 9 (.string key)∧Boxed W b5 90 yv
def FromX (Jx:List (Pr×Int)→(Nat→Prop)→World→Prop) (XS:List (Pr×Int)) (b4 b5:Nat) (c:Code) (pre:List (Pr×Int)) (U:Nat→Prop) (W:World):Prop :=
 c=.ret∧∃ (Uo:Nat→Prop) (q:List (Pr×Int)),(∀ k,Uo k→U k)∧(∀ k,U k→k<W.heap.size)∧q <+: XS∧Jx q Uo W
def FromA (J:List (Pr×Int)→(Nat→Prop)→World→Prop) (key:ByteArray) (yv:Value) (b4 b5:Nat) (act:Nat→Pr×Int→Act) (pre:List (Pr×Int)) (x:Pr×Int) (a':Act) (U:Nat→Prop) (W:World):Prop :=
 ∃ (Uo:Nat→Prop) (bp:Nat),(∀ k,U k↔Uo k∨k=b4∨k=b5∨k=bp)∧¬ Uo b4∧¬ Uo b5∧¬ Uo bp∧J (pre.filter (keepK key)) Uo W∧Boxed W b4 9 (.string key)∧Boxed W b5 90 yv∧Blk W bp 55 #[.string x.1.ky,.string x.1.vl]∧a'=act bp x
theorem fromI_stab (hs:StabU J) (key:ByteArray) (yv:Value) (b4 b5:Nat):StabU (FromI J key yv b4 b5):=fun pre U W W' h hk=>by
 obtain⟨Uo,h1,h2,h3,h4,h5,h6⟩:=h
 exact⟨Uo,h1,h2,h3,hs _ _ _ _ h4 (hk.mono fun k hu=>(h1 k).2 (.inl hu)),(hk.block b4 h5.lt ((h1 _).2 (.inr (.inl rfl)))).trans h5,(hk.block b5 h6.lt ((h1 _).2 (.inr (.inr rfl)))).trans h6⟩
theorem fromI_lt (hl:LtU J) (key:ByteArray) (yv:Value) (b4 b5:Nat):LtU (FromI J key yv b4 b5):=fun pre U W h k hk=>by
 obtain⟨Uo,h1,h2,h3,h4,h5,h6⟩:=h
 rcases (h1 k).1 hk with h | rfl | rfl
 ·exact hl _ _ _ h4 k h
 ·exact h5.lt
 ·exact h6.lt
theorem fromX_stab (hs:StabU Jx) (XS:List (Pr×Int)) (b4 b5:Nat) (c:Code):StabU (FromX Jx XS b4 b5 c):=fun pre U W W' h hk=>by
 obtain⟨h0,Uo,q,h1,h2,h3,h4⟩:=h
 exact⟨h0,Uo,q,h1,fun k hu=>Nat.lt_of_lt_of_le (h2 k hu) hk.size,h3,hs _ _ _ _ h4 (hk.mono h1)⟩
theorem fromX_lt (XS:List (Pr×Int)) (b4 b5:Nat) (c:Code):LtU (FromX Jx XS b4 b5 c):=fun pre U W h k hk=>by
 obtain⟨h0,Uo,q,h1,h2,h3,h4⟩:=h
 exact h2 k hk
theorem fromA_stab (hs:StabU J) (key:ByteArray) (yv:Value) (b4 b5:Nat) (act:Nat→Pr×Int→Act) (pre:List (Pr×Int)) (x:Pr×Int) (a':Act):StabU (fun (_:Unit)=>FromA J key yv b4 b5 act pre x a'):=fun _ U W W' h hk=>by
 obtain⟨Uo,bp,h1,h2,h3,h3',h4,h5,h6,h7,h8⟩:=h
 exact⟨Uo,bp,h1,h2,h3,h3',hs _ _ _ _ h4 (hk.mono fun k hu=>(h1 k).2 (.inl hu)),(hk.block b4 h5.lt ((h1 _).2 (.inr (.inl rfl)))).trans h5,(hk.block b5 h6.lt ((h1 _).2 (.inr (.inr (.inl rfl))))).trans h6,(hk.block bp h7.lt ((h1 _).2 (.inr (.inr (.inr rfl))))).trans h7,h8⟩
end
theorem from1_any {J Jx:List (Pr×Int)→(Nat→Prop)→World→Prop} {fy:Fn} {ay ly:Array Value} (sz:Int) (img:ByteArray) (root:Nat) (key:ByteArray) (H:Hears (fromS sz img root key) J Jx (.func fy ay ly)) (b1 b2 b3 b4:Nat) (hi:img.size≤400000) (hr:root<4294967296) (U:Nat→Prop) (w:World)
  (c1:Boxed w b1 3 (.int .i64 sz)) (c2:Boxed w b2 9 (.string img)) (c3:Boxed w b3 23 (.int .u32 root)) (c4:Boxed w b4 9 (.string key)) (n4 : ¬ U b4) (hj:J [] U w) :
  Calls Tryz.prog 80 #[.func fy ay ly,.pointer (some ⟨b1,0,none⟩),.pointer (some ⟨b2,0,none⟩),.pointer (some ⟨b3,0,none⟩),.pointer (some ⟨b4,0,none⟩)] w fun e w'=>(∃ v,e=.returned v)∧∃ U',(J (fromS sz img root key) U' w'∨∃ pre,pre <+: fromS sz img root key∧Jx pre U' w'):=by
 refine (callsIn_wide (n:=9)).1 ?_
 refine callsIn_of_wp_marks Tryz.func80 rfl trivial ?_ rfl
 simp only[Tryz.ntmps80,List.size_toArray,List.length_cons,List.length_nil,Nat.reduceAdd,Nat.reduceSub,Array.replicate_succ,Array.replicate_zero,List.push_toArray,List.append_toArray,List.nil_append,List.cons_append]
 gi_upto_region 1 with fail
 obtain⟨w0,hw0⟩ : ∃ y,y=w.alloc (.cells #[.func fy ay ly] 90):=⟨_,rfl⟩
 rw[← hw0]
 have e1:Boxed w0 b1 3 (.int .i64 sz):=by rw[hw0];exact c1.alloc _
 have e2:Boxed w0 b2 9 (.string img):=by rw[hw0];exact c2.alloc _
 have e3:Boxed w0 b3 23 (.int .u32 root):=by rw[hw0];exact c3.alloc _
 have E4:=Hd (show Boxed w0 b4 9 (.string key) by rw[hw0];exact c4.alloc _)
 have E5:=Hd (show Boxed w0 w.heap.size 90 (.func fy ay ly) by rw[hw0];exact Boxed.new _ _ _)
 have HJ:=Hd (show J [] U w0 by rw[hw0];exact H.sJ _ _ _ _ hj (KeepsU.alloc _ _ _))
 have HLt:=Hd (show ∀ k,U k→k<w.heap.size from H.lJ _ _ _ hj)
 have HS0:=Hd (show w0.heap.size=w.heap.size+1 by rw[hw0];simp)
 have HL4:=Hd c4.lt
 have d1:=e1.cell
 have d2:=e2.cell
 have d3:=e3.cell
 clear hw0 e1 e2 e3 c1 c2 c3 c4 hj
 gi_wp2_with (refine⟨trivial,?_⟩;gi_at_call 45;refine (callsIn_wide.2 (allmake_any sz img root w0)).mono ?_;rintro e w1 ⟨rfl,hw1⟩)
 obtain⟨g,hg⟩ : ∃ g,g=w0.heap.size:=⟨_,rfl⟩
 rw[← hg]
 obtain⟨w2,hw2⟩ : ∃ y,y=((w0.alloc (.cells #[.int .i64 sz] 3)).alloc (.cells #[.string img] 9)).alloc (.cells #[.int .u32 root] 23):=⟨_,rfl⟩
 rw[← hw2]
 have r1:Boxed w2 g 3 (.int .i64 sz):=by rw[hw2,hg];exact ((Boxed.new w0 3 (.int .i64 sz)).alloc _).alloc _
 have r2:Boxed w2 (g+1) 9 (.string img):=by
  have:=(Boxed.new (w0.alloc (.cells #[.int .i64 sz] 3)) 9 (.string img)).alloc (.cells #[.int .u32 root] 23)
  rw[hw2,hg];simpa using this
 have r3:Boxed w2 (g+1+1) 23 (.int .u32 root):=by
  have:=Boxed.new ((w0.alloc (.cells #[.int .i64 sz] 3)).alloc (.cells #[.string img] 9)) 23 (.int .u32 root)
  rw[hw2,hg];simpa using this
 have hb02:Below w0.heap.size w0 w2:=by rw[hw2];exact (((Below.refl _ _).alloc (Nat.le_refl _) _).alloc (by simp) _).alloc (by simp;omega) _
 have F4:=E4.out.kept (grown_of_below hb02) (by simp)
 have F5:=E5.out.kept (grown_of_below hb02) (by simp)
 have hJ2:J [] U w2:=H.sJ _ _ _ _ HJ.out (KeepsU.of_below hb02)
 have hs2:w2.heap.size=g+3:=by rw[hw2,hg];simp
 have hg1:w.heap.size+1=g:=by rw[hg];exact HS0.out.symm
 clear hw2 hb02 E4 E5 HJ HS0 hg d1 d2 d3
 refine wpIn_rangeFunc_U (gf:=79) (lb:=#[.pointer (some ⟨g,0,none⟩),.pointer (some ⟨g+1,0,none⟩),.pointer (some ⟨g+1+1,0,none⟩)]) rfl (fun _ _=>by first | rfl | kernel_rfl) (all_seq sz img root g (g+1) (g+1+1) hi hr w2 r1 r2 r3) (Below.refl _ _) (by rintro k (rfl | rfl | rfl)<;>omega) (fun _=>rfl)
  (FromI J key (.func fy ay ly) b4 w.heap.size) (FromX Jx (fromS sz img root key) b4 w.heap.size)
  (FromA J key (.func fy ay ly) b4 w.heap.size (fun bp x => { tmps:=#[.func fy ay ly,.pointer (some ⟨b1,0,none⟩),.pointer (some ⟨b2,0,none⟩),.pointer (some ⟨b3,0,none⟩),.pointer (some ⟨b4,0,none⟩),.pointer (some ⟨w.heap.size,0,none⟩),.pointer (some ⟨bp,0,none⟩),.int .i64 x.2,undef,.int .i64 sz,.string img,.int .u32 root,.func (.func 79) #[] #[.pointer (some ⟨g,0,none⟩),.pointer (some ⟨g+1,0,none⟩),.pointer (some ⟨g+1+1,0,none⟩)],.agg #[.string x.1.ky,.string x.1.vl],.int .i64 x.2,undef,undef,undef,undef,undef,undef,undef,undef,undef,undef,undef,undef,undef,undef,undef,undef,undef],defers:=[] }))
  (fromI_stab H.sJ _ _ _ _) (fun c=>fromX_stab H.sJx _ _ _ c) (fun pre x a'=>fromA_stab H.sJ _ _ _ _ _ pre x a') (fromI_lt H.lJ _ _ _ _) (fun c=>fromX_lt _ _ _ c)
  (fun k=>U k∨k=b4∨k=w.heap.size) (by rintro k hk (h | h | h)<;>(try have:=HLt.out _ h)<;>(have:=HL4.out)<;>omega)
  ⟨U,fun _=>Iff.rfl,n4,fun h=>Nat.lt_irrefl _ (HLt.out _ h),hJ2,F4,F5⟩ ?assign ?body ?done ?stop
 case assign =>
  intro m l pre x U' W K hI hx hK
  obtain⟨Uo,hU,m4,m5,hJ,k4,k5⟩:=hI
  have hl:=H.lJ _ _ _ hJ
  have HC:=Hd (hK _ (fun k=>U' k∨k=W.heap.size) (W.alloc (.cells #[.string x.1.ky,.string x.1.vl] 55)) (fun k h=>h.elim .inl (fun e=>.inr (by omega))) ((Kept.refl _ _).alloc _)
   ⟨Uo,W.heap.size,fun k=>⟨fun h=>h.elim (fun h=>((hU k).1 h).elim .inl (fun h=>h.elim (fun h=>.inr (.inl h)) (fun h=>.inr (.inr (.inl h))))) (fun h=>.inr (.inr (.inr h))),fun h=>h.elim (fun h=>.inl ((hU k).2 (.inl h))) (fun h=>h.elim (fun h=>.inl ((hU k).2 (.inr (.inl h)))) (fun h=>h.elim (fun h=>.inl ((hU k).2 (.inr (.inr h)))) .inr))⟩,m4,m5,fun h=>Nat.lt_irrefl _ (hl _ h),H.sJ _ _ _ _ hJ (KeepsU.alloc _ _ _),k4.alloc _,k5.alloc _,Blk.new _ _ _,rfl⟩)
  clear hK hJ hU k4 k5 m4 m5 hl
  simp only[encP]
  gi_wp2
  exact HC.out
 case body =>
  rintro m l pre x a' U' W ⟨Uo,bp,hU,m4,m5,mp,hJ,k4,k5,kp,rfl⟩ hx
  obtain⟨⟨ky,vl⟩,er⟩:=x
  dsimp only at kp ⊢
  have q0:=kp.cell 0
  have q1:=kp.cell 1
  have q4:=k4.cell
  have q5:=k5.cell
  simp at q0 q1
  have HF:=Hd (show (pre++[((⟨ky,vl⟩:Pr),er)]).filter (keepK key)=pre.filter (keepK key)++(if keepK key (⟨ky,vl⟩,er) then [(⟨ky,vl⟩,er)] else []) by rw[List.filter_append,List.filter_cons,List.filter_nil])
  have HX:=Hd (show (pre++[((⟨ky,vl⟩:Pr),er)]).filter (keepK key) <+: fromS sz img root key from hx.filter _)
  have HJo:=Hd hJ
  have HU:=Hd hU
  have K4:=Hd k4
  have K5:=Hd k5
  have M4:=Hd m4
  have M5:=Hd m5
  have HLo:=Hd (show ∀ k,Uo k→k<W.heap.size from H.lJ _ _ _ hJ)
  clear hJ hU k4 k5 kp m4 m5 mp hx
  -- what a round leaves where the hearer goes on, or has gone on without it
  have hgo : ∀ W',RoundU J ((pre++[((⟨ky,vl⟩:Pr),er)]).filter (keepK key)) Uo W W'→RoundU (FromI J key (.func fy ay ly) b4 w.heap.size) (pre++[((⟨ky,vl⟩:Pr),er)]) U' W W':=fun W' h=>by
   obtain⟨U2,g1,g2,g3⟩:=h
   have j4 : ¬ U2 b4:=fun h=>by rcases g1 _ h with h1 | h1;exact M4.out h1;have:=K4.out.lt;omega
   have j5 : ¬ U2 w.heap.size:=fun h=>by rcases g1 _ h with h1 | h1;exact M5.out h1;have:=K5.out.lt;omega
   refine⟨fun k=>U2 k∨k=b4∨k=w.heap.size,fun k hk=>?_,g2.mono fun k h=>(HU.out k).2 (.inl h),U2,fun _=>Iff.rfl,j4,j5,g3,(g2.block _ K4.out.lt M4.out).trans K4.out,(g2.block _ K5.out.lt M5.out).trans K5.out⟩
   rcases hk with h | rfl | rfl
   ·rcases g1 k h with h1 | h1
    ·exact .inl ((HU.out k).2 (.inl h1))
    ·exact .inr h1
   ·exact .inl ((HU.out _).2 (.inr (.inl rfl)))
   ·exact .inl ((HU.out _).2 (.inr (.inr (.inl rfl))))
  have hnx : ∀ W' q,q <+: fromS sz img root key→RoundU Jx q Uo W W'→RoundU (FromX Jx (fromS sz img root key) b4 w.heap.size .ret) (pre++[((⟨ky,vl⟩:Pr),er)]) U' W W':=fun W' q hq h=>by
   obtain⟨U2,g1,g2,g3⟩:=h
   refine⟨U2,fun k hk=>?_,g2.mono fun k h=>(HU.out k).2 (.inl h),rfl,U2,q,fun _ h=>h,H.lJx _ _ _ g3,hq,g3⟩
   rcases g1 k hk with h1 | h1
   ·exact .inl ((HU.out k).2 (.inl h1))
   ·exact .inr h1
  have HGo:=Hd hgo
  have HNx:=Hd hnx
  clear hgo hnx
  have hwf : ∀ f,Fence.wide.fn f=True:=fun _=>rfl
  by_cases he:er=0
  ·subst he
   rcases hb:Op.bytesLess ky.toList key.toList with _ | _
   ·have HK:=Hd (show keepK key (⟨ky,vl⟩,0)=true by unfold keepK;simp[hb])
    rw[HK.out] at HF
    have HY:=H.tell (pre.filter (keepK key)) (⟨ky,vl⟩,0) Uo W HJo.out (by have h:=HX.out;rw[HF.out] at h;simpa using h)
    simp only[encP] at HY
    have HFe:=Hd (show (pre++[((⟨ky,vl⟩:Pr),(0:Int))]).filter (keepK key)=pre.filter (keepK key)++[(⟨ky,vl⟩,0)] by rw[HF.out];rfl)
    clear HF
    rcases HY with ⟨l',fn,tmps,assign,body,hyv,hy,hR⟩ | ⟨g,lb,hyv,eg,hR⟩
    ·injection hyv with hy1 hy2 hy3
     subst hy1 hy2 hy3
     gi_wp2
     refine⟨fun h=>by simp[Fence.wide] at h,?_⟩
     refine RoundIn.mono (show RoundIn (Fence.wide.inRound l) _ Tryz.prog l' fn tmps assign body W _ from hR _) ?_
     clear hR hy
     rintro e w7 h
     rw[← HFe.out] at h
     rcases h with ⟨rfl,h⟩ | ⟨rfl,h⟩
     ·have HP:=Hd (HGo.out _ h)
      clear h
      gi_wp2
      exact HP.out
     ·have HP:=Hd (HNx.out _ _ HX.out h)
      clear h
      gi_wp2
      exact HP.out
    ·injection hyv with hy1 hy2 hy3
     subst hy1 hy2 hy3
     gi_wp2
     refine⟨fun h=>by simp[Fence.wide] at h,?_⟩
     refine (CallsIn.inRound l (callsIn_wide.2 hR)).mono ?_
     clear hR eg
     rintro e w7 h
     rw[← HFe.out] at h
     rcases h with ⟨rfl,h⟩ | ⟨rfl,h⟩
     ·have HP:=Hd (HGo.out _ h)
      clear h
      gi_wp2
      exact HP.out
     ·have HP:=Hd (HNx.out _ _ HX.out h)
      clear h
      gi_wp2
      exact HP.out
   ·have HK:=Hd (show keepK key (⟨ky,vl⟩,0)=false by unfold keepK;simp[hb])
    rw[HK.out] at HF
    have HP:=Hd (HGo.out W ⟨Uo,fun k h=>.inl h,Kept.refl _ _,by rw[HF.out];simpa using HJo.out⟩)
    clear HF
    gi_wp2
    exact HP.out
  ·have he1:(er==0)=false:=by simpa using he
   have HK:=Hd (show keepK key (⟨ky,vl⟩,er)=true by unfold keepK;simp[he])
   rw[HK.out] at HF
   have HY:=H.tell (pre.filter (keepK key)) (⟨ky,vl⟩,er) Uo W HJo.out (by have h:=HX.out;rw[HF.out] at h;simpa using h)
   simp only[encP] at HY
   have HFe:=Hd (show (pre++[((⟨ky,vl⟩:Pr),(er:Int))]).filter (keepK key)=pre.filter (keepK key)++[(⟨ky,vl⟩,er)] by rw[HF.out];rfl)
   clear HF
   rcases HY with ⟨l',fn,tmps,assign,body,hyv,hy,hR⟩ | ⟨g,lb,hyv,eg,hR⟩
   ·injection hyv with hy1 hy2 hy3
    subst hy1 hy2 hy3
    gi_wp2
    refine⟨fun h=>by simp[Fence.wide] at h,?_⟩
    refine RoundIn.mono (show RoundIn (Fence.wide.inRound l) _ Tryz.prog l' fn tmps assign body W _ from hR _) ?_
    clear hR hy
    rintro e w7 h
    rw[← HFe.out] at h
    rcases h with ⟨rfl,h⟩ | ⟨rfl,h⟩
    ·have HP:=Hd (HGo.out _ h)
     clear h
     gi_wp2
     exact HP.out
    ·have HP:=Hd (HNx.out _ _ HX.out h)
     clear h
     gi_wp2
     exact HP.out
   ·injection hyv with hy1 hy2 hy3
    subst hy1 hy2 hy3
    gi_wp2
    refine⟨fun h=>by simp[Fence.wide] at h,?_⟩
    refine (CallsIn.inRound l (callsIn_wide.2 hR)).mono ?_
    clear hR eg
    rintro e w7 h
    rw[← HFe.out] at h
    rcases h with ⟨rfl,h⟩ | ⟨rfl,h⟩
    ·have HP:=Hd (HGo.out _ h)
     clear h
     gi_wp2
     exact HP.out
    ·have HP:=Hd (HNx.out _ _ HX.out h)
     clear h
     gi_wp2
     exact HP.out
 case done =>
  rintro D U' W hD hnD ⟨Uo,hU,m4,m5,hJ,k4,k5⟩ hK
  have HP:=Hd (show ∃ U',(J (fromS sz img root key) U' (W.putObj D (.deferred none))∨∃ pre,pre <+: fromS sz img root key∧Jx pre U' (W.putObj D (.deferred none))) from ⟨Uo,.inl (H.sJ _ _ _ _ hJ (keepsU_put _ _ fun h=>hnD ((hU D).2 (.inl h))))⟩)
  clear hJ hU k4 k5
  gi_wp2
  refine⟨by simp,.inl ⟨_,_,rfl,run_takeDeferred hK,?_⟩⟩
  exact⟨_,results_none rfl _ _ _,⟨_,rfl⟩,HP.out⟩
 case stop =>
  rintro D c pre U' W hD hnD hpre ⟨rfl,Uo,q,hU,hlt,hq,hJ⟩ hK
  have HP:=Hd (show ∃ U',(J (fromS sz img root key) U' (W.putObj D (.deferred none))∨∃ pre,pre <+: fromS sz img root key∧Jx pre U' (W.putObj D (.deferred none))) from ⟨Uo,.inr ⟨q,hq,H.sJx _ _ _ _ hJ (keepsU_put _ _ fun h=>hnD (hU D h))⟩⟩)
  clear hJ hU hq
  gi_wp2
  refine⟨by simp,.inl ⟨_,_,rfl,run_takeDeferred hK,?_⟩⟩
  exact⟨_,results_none rfl _ _ _,⟨_,rfl⟩,HP.out⟩
theorem frommake_any (sz:Int) (img:ByteArray) (root:Nat) (key:ByteArray) (w:World) :
  Calls Tryz.prog 46 #[.int .i64 sz,.string img,.int .u32 root,.string key] w fun e w'=>e=.returned (.func (.func 80) #[] #[.pointer (some ⟨w.heap.size,0,none⟩),.pointer (some ⟨w.heap.size+1,0,none⟩),.pointer (some ⟨w.heap.size+1+1,0,none⟩),.pointer (some ⟨w.heap.size+1+1+1,0,none⟩)]) ∧
   w'=(((w.alloc (.cells #[.int .i64 sz] 3)).alloc (.cells #[.string img] 9)).alloc (.cells #[.int .u32 root] 23)).alloc (.cells #[.string key] 9):=by
 have hmf : ∀ (fn:Fn) (first cap:Array Value) (w:World),(Instr.makeFunc fn first cap).run Tryz.prog w=.ok (.func fn first cap) w:=fun _ _ _ _=>rfl
 go_enter Tryz.func46,Tryz.ntmps46
 go_wp2_with fail
 go_ret
 exact⟨by simp[Nat.add_assoc],rfl⟩
theorem from_seq (sz:Int) (img:ByteArray) (root:Nat) (key:ByteArray) (b1 b2 b3 b4:Nat) (hi:img.size≤400000) (hr:root<4294967296) (w:World)
  (c1:Boxed w b1 3 (.int .i64 sz)) (c2:Boxed w b2 9 (.string img)) (c3:Boxed w b3 23 (.int .u32 root)) (c4:Boxed w b4 9 (.string key)) :
  SeqU Tryz.prog 80 #[.pointer (some ⟨b1,0,none⟩),.pointer (some ⟨b2,0,none⟩),.pointer (some ⟨b3,0,none⟩),.pointer (some ⟨b4,0,none⟩)] encP (fromS sz img root key) (fun k=>k=b1∨k=b2∨k=b3∨k=b4) w:=fun l n J Jx U0 W hW sJ sJx lJ lJx hM hY h0 =>
 callsIn_wide.2 (from1_any (fy:=.yield l) (ay:=#[]) (ly:=#[]) sz img root key ⟨sJ,sJx,lJ,lJx,fun pre x U W1 hj hx=>YieldsTo.of_yield (hY 0 pre x U W1 hj hx)⟩ b1 b2 b3 b4 hi hr U0 W ((hW.block b1 c1.lt).trans c1) ((hW.block b2 c2.lt).trans c2) ((hW.block b3 c3.lt).trans c3) ((hW.block b4 c4.lt).trans c4) (hM b4 (.inr (.inr (.inr rfl)))) h0)
end Go.Proofs.YtanbbnogdhnikaaGreat

