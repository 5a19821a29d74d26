/-
  Texts that the main proof rests on, put together: ChAcc, ChRead, CuNode. No statement is proved here.
-/
import Derived.Test.YtanbbnogdhnikaaGreatJ37
import Derived.Test.YtanbbnogdhnikaaGreatJ38
import Derived.BigGuardIn
import Derived.BigGuardPartIn
import Derived.Test.YtanbbnogdhnikaaGreatJ34
set_option linter.unusedVariables false
set_option linter.unusedSimpArgs false
set_option maxRecDepth 300000
set_option maxHeartbeats 25600000
namespace Go.Proofs.YtanbbnogdhnikaaGreat
open Go.RowKit Go.Shelf

/-! The links of a chain. -/
theorem along_memF {size:Int} {s:ByteArray} {kd:Int} {head:Nat} : ∀ k,∀ p∈(along size s kd head k).1,∃ n,readAt size s n=some p∧p.kd=kd
 | 0,p,hp=>by simp[along] at hp
 | k+1,p,hp=>by
  simp only[along] at hp
  split at hp
  ·rename_i q hq
   rcases List.mem_append.1 hp with h | h
   ·exact along_memF k p h
   ·obtain rfl:p=q:=by simpa using h
    obtain⟨_,_,h3,h4⟩:=goes_some hq
    exact⟨_,h3,h4⟩
  ·exact along_memF k p hp
theorem follow_ok {size:Int} {s:ByteArray} {kd:Int} {head:Nat} {x:Lk} (h:x∈followL size s kd head):x=⟨Pg.zero,4⟩∨(x.e=0∧mayPg size x.p.kd x.p.ct x.p.pg x.p.lk x.p.tx x.p.bd=true):=by
 unfold followL at h
 rcases List.mem_append.1 h with h | h
 ·obtain⟨p,hp,rfl⟩:=List.mem_map.1 h
  obtain⟨n,hn,_⟩:=along_memF _ p hp
  exact .inr ⟨rfl,(readAt_some hn).2.2.2⟩
 ·split at h
  ·cases h
  ·obtain rfl:x=⟨Pg.zero,4⟩:=by simpa using h
   exact .inl rfl
theorem follow_small {size:Int} {s:ByteArray} {kd:Int} {head:Nat} {x:Lk} (h:x∈followL size s kd head):x.p.bd.size≤4096∧x.p.pg<4294967296:=by
 rcases follow_ok h with rfl | ⟨_,h⟩
 ·exact⟨by decide,by decide⟩
 ·simp only[mayPg,goodSize,Bool.and_eq_true,decide_eq_true_eq] at h
  omega
def stepA (a:Option ByteArray) (x:Lk):Option ByteArray:=match a,(if x.e=0 then x.p.over else none) with | some v,some t=>some (v++t) | _,_=>none
def accA (l:List Lk):Option ByteArray:=l.foldl stepA (some ⟨#[]⟩)
theorem accA_snoc (l:List Lk) (x:Lk):accA (l++[x])=stepA (accA l) x:=by unfold accA;rw[List.foldl_append];rfl
theorem accA_more {l:List Lk} : ∀ (m:List Lk) {v:ByteArray},accA (l++m)=some v→∃ u,accA l=some u∧u.size≤v.size:=by
 intro m
 induction m generalizing l with
 | nil=>intro v h;exact⟨v,by simpa using h,Nat.le_refl _⟩
 | cons x t ih =>
  intro v h
  rw[show l++x::t=(l++[x])++t by simp] at h
  obtain⟨u,h1,h2⟩:=ih h
  rw[accA_snoc] at h1
  unfold stepA at h1
  split at h1
  ·rename_i a b c d
   injection h1 with h1
   subst h1
   rw[ByteArray.size_append] at h2
   exact⟨_,c,by omega⟩
  ·cases h1
theorem accA_map (L:List Pg):accA (L.map fun p=>(⟨p,0⟩:Lk))=valV L:=by
 unfold accA valV
 rw[List.foldl_map]
 rfl
theorem accA_follow {size:Int} {s:ByteArray} {kd:Int} {head:Nat}:accA (followL size s kd head)=if chainOk size s kd head then valV (chainL size s kd head) else none:=by
 unfold followL
 rcases chainOk size s kd head with _ | _
 ·simp only[Bool.false_eq_true,if_false]
  rw[accA_snoc]
  unfold stepA
  split
  ·rename_i a b c d
   simp at d
  ·rfl
 ·simp only[if_true]
  rw[List.append_nil,accA_map]
theorem readV_bad_pre {size:Int} {s:ByteArray} {head:Nat} {len:Int} {l:List Lk} (hp:l <+: followL size s 5 head) (hb:accA l=none∨∃ v,accA l=some v∧len<(v.size:Int)):readV size s head len=none:=by
 obtain⟨m,hm⟩:=hp
 unfold readV
 rcases ho:chainOk size s 5 head with _ | _
 ·rfl
 ·simp only[if_true]
  rcases hv:valV (chainL size s 5 head) with _ | v
  ·rfl
  ·have ha:accA (followL size s 5 head)=some v:=by rw[accA_follow,ho,if_pos rfl,hv]
   rw[← hm] at ha
   obtain⟨u,h1,h2⟩:=accA_more _ ha
   rcases hb with hb | ⟨v',h3,h4⟩
   ·rw[hb] at h1;cases h1
   ·rw[h3] at h1
    injection h1 with h1
    subst h1
    dsimp only
    rw[if_neg (by omega)]
theorem readV_end {size:Int} {s:ByteArray} {head:Nat} {len:Int} {v:ByteArray} (ha:accA (followL size s 5 head)=some v):readV size s head len=if 1≤len∧(v.size:Int)=len then some (v,(followL size s 5 head).map (·.p.pg)) else none:=by
 rw[accA_follow] at ha
 rcases ho:chainOk size s 5 head with _ | _
 ·rw[ho] at ha;cases ha
 ·rw[ho,if_pos rfl] at ha
  unfold readV
  rw[ho,if_pos rfl,ha]
  dsimp only
  have:(followL size s 5 head).map (·.p.pg)=(chainL size s 5 head).map (·.pg):=by unfold followL;rw[ho];simp
  rw[this]

/-! Blocks that stay. -/
theorem IsBd.new (w:World):IsBd w.heap.size [] (w.alloc (.cells #[.pointer none,.slice none 0 0] 166)):=Lib.IsBuilderF.of (Lib.fresh_isBuilder _ _ w)
theorem IsBd.alloc {b:Nat} {l:List UInt8} {w:World} (h:IsBd b l w) (o:Obj):IsBd b l (w.alloc o):=Lib.IsBuilderF.alloc h o
theorem IsBd.drewN {b:Nat} {l:List UInt8} {w:World} (h:IsBd b l w) (n:Nat):IsBd b l (w.drewN n):=h
theorem IsBd.block {b:Nat} {l:List UInt8} {w:World} (h:IsBd b l w) : ∃ cs fz,w.heap[b]? = some (.cells cs 166 fz):=by
 rcases h with ⟨_,v,h,_⟩ | ⟨_,v,h,_⟩<;>exact⟨_,_,h⟩
theorem IsBd.grown {b:Nat} {l:List UInt8} {w w':World} {row:Option Nat} (h:IsBd b l w) (hg:w.grownBy w' row) (hr : ∀ r,row=some r→∀ cs fz,w.heap[r]? ≠ some (.cells cs 166 fz)∧w.heap[r]? ≠ some (.cells cs 5 fz)):IsBd b l w':=by
 have one : ∀ p,Lib.BuilderAtF 166 5 b b p (Lib.byteCells l) w→Lib.BuilderAtF 166 5 b b p (Lib.byteCells l) w':=by
  rintro p ⟨hB,v,hb,hown,hne⟩
  refine⟨hB,v,(hg.block b (Array.getElem?_eq_some_iff.1 hb).1 (fun e=>(hr b e.symm _ _).1 hb)).trans hb,hown.kept hg ?_,hne⟩
  rcases hv:v.ownBlock with _ | g
  ·exact .inl rfl
  ·refine .inr fun e=>?_
   obtain⟨c,fz,hc⟩:=Lib.ownsRowF_kind hown g hv
   exact (hr g e.symm _ _).2 hc
 exact h.elim (fun x=>.inl (one _ x)) (fun x=>.inr (one _ x))
theorem IsBd.below {b:Nat} {l:List UInt8} {w w':World} (h:IsBd b l w) (hb:Below w.heap.size w w'):IsBd b l w':=h.grown (grown_of_below hb) (by simp)
theorem others_block {b k:Nat} {l:List UInt8} {W W':World} {o:Obj} (hI:IsBd b l W) (hk:Lib.OthersKept 5 (some b) W W') (h:W.heap[k]? = some o) (ho : ∀ cs t fz,o=.cells cs t fz→t≠5∧t≠166):W'.heap[k]? = some o:=by
 refine hk k o h (fun e=>?_) (fun c fz e=>(ho c _ fz e).1 rfl)
 obtain⟨cs,fz,hb⟩:=hI.block
 obtain rfl:k=b:=by simpa using e
 rw[h] at hb
 injection hb with hb
 exact (ho cs _ fz hb).2 rfl
theorem others_box {b k:Nat} {l:List UInt8} {W W':World} {t:TypeId} {v:Value} (hI:IsBd b l W) (hk:Lib.OthersKept 5 (some b) W W') (h:Boxed W k t v) (ht:t≠5∧t≠166):Boxed W' k t v :=
 others_block hI hk h (fun cs t' fz e=>by cases e;exact ht)
theorem others_kpF {b:Nat} {l:List UInt8} {W W':World} (hI:IsBd b l W) (hk:Lib.OthersKept 5 (some b) W W'):KpF W W':=fun k o h hko =>
 others_block hI hk h (fun cs t fz e=>by
  subst e
  constructor<;>(rintro rfl;simp[keepO,Obj.isWalk] at hko))
theorem others_from {b:Nat} {l:List UInt8} {W W':World} (hI:IsBd b l W) (hk:Lib.OthersKept 5 (some b) W W') (hs:W.heap.size≤W'.heap.size) (B:Nat):KeepsFrom B W W' :=
 ⟨hs,fun k o _ h ho=>others_block hI hk h (fun cs t fz e=>by subst e;cases ho)⟩
theorem others_row {b base size n:Nat} {l:List UInt8} {e:TypeId} {v:Value} {xs:List Value} {W W':World} (hI:IsBd b l W) (hk:Lib.OthersKept 5 (some b) W W') (h:W.ownsRow base e size v n xs) (he:e≠5∧e≠166):W'.ownsRow base e size v n xs:=by
 refine⟨h.1,?_⟩
 rcases h.2 with h0 | ⟨g,cap,cur,hv,hb,hg,hr⟩
 ·exact .inl h0
 ·exact .inr ⟨g,cap,cur,hv,hb,others_block hI hk hg (fun cs t fz e'=>by cases e';exact he),hr⟩
theorem cells_own {W W':World} {b:Nat} {cs:Array Value} {t:TypeId} {fz} {row:Option Nat} (h:W.heap[b]? = some (.cells cs t fz)) (hg:W.grownBy W' row) (hr : ∀ r,row=some r→∃ o:Obj,W.heap[r]? = some o∧o.isCells=false):W'.heap[b]? = some (.cells cs t fz):=by
 refine (hg.block b (Array.getElem?_eq_some_iff.1 h).1 fun e=>?_).trans h
 obtain⟨o,h1,h2⟩:=hr b e.symm
 rw[h] at h1
 cases h1
 cases h2
theorem IsBd.own {b:Nat} {l:List UInt8} {W W':World} {row:Option Nat} (h:IsBd b l W) (hg:W.grownBy W' row) (hr : ∀ r,row=some r→∃ o:Obj,W.heap[r]? = some o∧o.isCells=false):IsBd b l W' :=
 h.grown hg fun r e cs fz=>by
  obtain⟨o,h1,h2⟩:=hr r e
  rw[h1]
  exact⟨(by intro e';cases e';cases h2),(by intro e';cases e';cases h2)⟩
theorem row_own {W W':World} {base size n:Nat} {e:TypeId} {v:Value} {xs:List Value} {row:Option Nat} (h:W.ownsRow base e size v n xs) (hg:W.grownBy W' row) (hr : ∀ r,row=some r→∃ o:Obj,W.heap[r]? = some o∧o.isCells=false):W'.ownsRow base e size v n xs:=by
 refine⟨h.1,?_⟩
 rcases h.2 with h0 | ⟨g,cap,cur,hv,hb,hgg,hrr⟩
 ·exact .inl h0
 ·exact .inr ⟨g,cap,cur,hv,hb,cells_own hgg hg hr,hrr⟩
theorem results_cells3 {P:Program} {fn:Func} {p q r:Tmp} {ty tq tr:TypeId} (h:fn.results=#[.cell p ty,.cell q tq,.cell r tr]) (tmps:Array Value) (w:World) (g g' g'':Nat) (u v z:Value)
  (hp:tmps.getD p undef=.pointer (some ⟨g,0,none⟩)) (hq:tmps.getD q undef=.pointer (some ⟨g',0,none⟩)) (hr:tmps.getD r undef=.pointer (some ⟨g'',0,none⟩)) (hu:(loadVar ty ⟨g,0,none⟩).run P w=.ok u w) (hv:(loadVar tq ⟨g',0,none⟩).run P w=.ok v w) (hz:(loadVar tr ⟨g'',0,none⟩).run P w=.ok z w) :
  (results fn tmps).run P w=.ok (.tuple #[u,v,z]) w:=by
 have hp':tmps[p]?.getD undef=.pointer (some ⟨g,0,none⟩):=by simpa using hp
 have hq':tmps[q]?.getD undef=.pointer (some ⟨g',0,none⟩):=by simpa using hq
 have hr':tmps[r]?.getD undef=.pointer (some ⟨g'',0,none⟩):=by simpa using hr
 simp[results,h,hp',hq',hr',asAddr,hu,hv,hz]
theorem load_boxR {w:World} {g:Nat} {t:TypeId} {v:Value} (ht:t=9∨t=31∨t=28) (h:Boxed w g t v):(loadVar t ⟨g,0,none⟩).run Tryz.prog w=.ok v w:=by
 have hc:=h.cell
 rcases ht with rfl | rfl | rfl<;>simp[go_sem,hc]
end Go.Proofs.YtanbbnogdhnikaaGreat

namespace Go.Proofs.YtanbbnogdhnikaaGreat
open Go.RowKit Go.Shelf

attribute [local go_sem] Oper.semAt_some

theorem ucells_snoc (l:List Nat) (n:Nat):ucells (l++[n])=ucells l++[.int .u32 n]:=by simp[ucells]
theorem row_kind {W:World} {base size k:Nat} {e:TypeId} {v:Value} {xs:List Value} (hrow:W.ownsRow base e size v k xs) (o:Obj) : ∀ r,v.ownBlock=some r→∃ o':Obj,(W.alloc o).heap[r]? = some o'∧(match o' with | .cells _ t _=>t==e | _=>false)=true:=fun r er=>by
 rcases (hrow.alloc o).2 with ⟨rfl,_⟩ | ⟨g,cap,cur,rfl,_,hgb,_⟩
 ·simp[Value.ownBlock] at er
 ·obtain rfl:g=r:=by simpa [Value.ownBlock] using er
  exact⟨_,hgb,by simp⟩
theorem zero_over:Pg.zero.over=none:=by unfold Pg.over readO Pg.zero;simp
theorem rd_stop {w W W3:World} {H B:Nat} {u1 u2 u3 v1 v2 v3:Value} (h1:Boxed W3 (H+1) 9 u1) (h2:Boxed W3 (H+1+1) 31 u2) (h3:Boxed W3 (H+1+1+1) 28 u3) (hF:KeepsFrom B W W3) (hB:Below H w W3) :
  KeepsFrom B W (((W3.setCell ⟨H+1,0,none⟩ v1).setCell ⟨H+1+1,0,none⟩ v2).setCell ⟨H+1+1+1,0,none⟩ v3)∧Boxed (((W3.setCell ⟨H+1,0,none⟩ v1).setCell ⟨H+1+1,0,none⟩ v2).setCell ⟨H+1+1+1,0,none⟩ v3) (H+1) 9 v1 ∧
  Boxed (((W3.setCell ⟨H+1,0,none⟩ v1).setCell ⟨H+1+1,0,none⟩ v2).setCell ⟨H+1+1+1,0,none⟩ v3) (H+1+1) 31 v2∧Boxed (((W3.setCell ⟨H+1,0,none⟩ v1).setCell ⟨H+1+1,0,none⟩ v2).setCell ⟨H+1+1+1,0,none⟩ v3) (H+1+1+1) 28 v3 ∧
  Below H w (((W3.setCell ⟨H+1,0,none⟩ v1).setCell ⟨H+1+1,0,none⟩ v2).setCell ⟨H+1+1+1,0,none⟩ v3):=by
 refine⟨hF.trans ((((KeepsOthers.setCell _ _ _).trans (KeepsOthers.setCell _ _ _)).trans (KeepsOthers.setCell _ _ _)).from _),?_,?_,?_,?_⟩
 ·exact ((h1.set v1).other (by omega) v2).other (by omega) v3
 ·exact ((h2.other (by omega) v1).set v2).other (by omega) v3
 ·exact ((h3.other (by omega) v1).other (by omega) v2).set v3
 ·exact ((hB.setCell (p:=⟨H+1,0,none⟩) (Nat.le_succ H) _).setCell (p:=⟨H+1+1,0,none⟩) (show H≤H+1+1 by omega) _).setCell (p:=⟨H+1+1+1,0,none⟩) (show H≤H+1+1+1 by omega) _
theorem below_to {H n:Nat} {w W:World} (h:H=n) (p:Below H w W):Below n w W:=h ▸ p
theorem rd_row {W3:World} {H base n:Nat} {V u1 u2 u3 v1 v2 v3:Value} {xs:List Value} (h1:Boxed W3 (H+1) 9 u1) (h2:Boxed W3 (H+1+1) 31 u2) (h3:Boxed W3 (H+1+1+1) 28 u3) (hr:W3.ownsRow base 23 1 V n xs) :
  (((W3.setCell ⟨H+1,0,none⟩ v1).setCell ⟨H+1+1,0,none⟩ v2).setCell ⟨H+1+1+1,0,none⟩ v3).ownsRow base 23 1 V n xs:=by
 have r1:=hr.kept (grownBy_setCell' W3 (H+1) v1) (.inr (fun e=>h1.not_row (by decide) hr e.symm))
 have b2:=h2.other (B':=H+1) (by omega) v1
 have r2:=r1.kept (grownBy_setCell' _ (H+1+1) v2) (.inr (fun e=>b2.not_row (by decide) r1 e.symm))
 have b3:=(h3.other (B':=H+1) (by omega) v1).other (B':=H+1+1) (by omega) v2
 exact r2.kept (grownBy_setCell' _ (H+1+1+1) v3) (.inr (fun e=>b3.not_row (by decide) r2 e.symm))
theorem hread_new (size:Int) (s:ByteArray) (head:Nat) (len:Int) (w:World) (hs:s.size≤1000000) (hh:head<4294967296) (hl9 : -9223372036854775808≤len∧len≤9223372036854775807) :
  Calls Tryz.prog 77 #[.int .i64 size,.string s,.int .u32 head,.int .i64 len] w fun e w'=>∃ A n c,e=.returned (.tuple #[.string (rdStr (readV size s head len)),.slice A n c,.int .i64 (rdErr size (readV size s head len))])∧ReadsN w.heap.size w' 1 A n (ucells (rdPs (readV size s head len)))∧Below w.heap.size w w':=by
 obtain⟨i0,hi,hz0,hz1,hz2⟩:=info_parts infoU32
 have HFl:=Hd (follow_le (size:=size) (s:=s) (kd:=5) (head:=head))
 refine (callsIn_wide (n:=5)).1 ?_
 refine callsIn_of_wp_marks Tryz.func77 rfl trivial ?_ rfl
 simp only[Tryz.ntmps77,List.size_toArray,List.length_cons,List.length_nil,Nat.reduceAdd,Nat.reduceSub,Array.replicate_succ,Array.replicate_zero,List.push_toArray,List.append_toArray,List.nil_append,List.cons_append]
 rcases hg:goodSize size with _ | _
 ·have hE1:=readV_bad (s:=s) (head:=head) (len:=len) hg
  have hE2:rdErr size (readV size s head len)=2:=by unfold rdErr;rw[hg];rfl
  have HE1:=Hd hE1
  have HE2:=Hd hE2
  clear hE1 hE2
  gi_wp2_with (refine⟨trivial,?_⟩;gi_at_call 71;refine (callsIn_wide.2 (dgood_is size false _ hg)).mono ?_;rintro e w' ⟨rfl,rfl⟩)
  obtain⟨W2,hW2⟩ : ∃ W2,W2=((((w.alloc (.cells #[.int .i64 len] 3)).alloc (.cells #[.string ⟨#[]⟩] 9)).alloc (.cells #[.slice none 0 0] 31)).alloc (.cells #[.int .i64 2] 28)):=⟨_,rfl⟩
  have k1:Boxed W2 (w.heap.size+1) 9 (.string ⟨#[]⟩):=by
   rw[hW2]
   have:=((Boxed.new (w.alloc (.cells #[.int .i64 len] 3)) 9 (.string ⟨#[]⟩)).alloc (.cells #[.slice none 0 0] 31)).alloc (.cells #[.int .i64 2] 28)
   simpa [Nat.add_assoc] using this
  have k2:Boxed W2 (w.heap.size+1+1) 31 (.slice none 0 0):=by
   rw[hW2]
   have:=(Boxed.new ((w.alloc (.cells #[.int .i64 len] 3)).alloc (.cells #[.string ⟨#[]⟩] 9)) 31 (.slice none 0 0)).alloc (.cells #[.int .i64 2] 28)
   simpa [Nat.add_assoc] using this
  have k3:Boxed W2 (w.heap.size+1+1+1) 28 (.int .i64 2):=by
   rw[hW2]
   have:=Boxed.new (((w.alloc (.cells #[.int .i64 len] 3)).alloc (.cells #[.string ⟨#[]⟩] 9)).alloc (.cells #[.slice none 0 0] 31)) 28 (.int .i64 2)
   simpa [Nat.add_assoc] using this
  have kB:Below w.heap.size w W2:=by
   rw[hW2]
   exact ((((Below.refl _ w).alloc (by simp) _).alloc (by simp) _).alloc (by simp;omega) _).alloc (by simp;omega) _
  rw[← hW2]
  refine⟨_,results_cells3 rfl _ _ _ _ _ _ _ _ rfl rfl rfl (load_boxR (.inl rfl) k1) (load_boxR (.inr (.inl rfl)) k2) (load_boxR (.inr (.inr rfl)) k3),none,0,0,?_,?_,kB⟩
  ·rw[HE2.out,HE1.out];rfl
  ·rw[HE1.out];exact ReadsN.none_
 gi_wp2_with (first
  | (refine⟨trivial,?_⟩;gi_at_call 71;refine (callsIn_wide.2 (dgood_is size true _ hg)).mono ?_;rintro e w' ⟨rfl,rfl⟩)
  | (refine⟨trivial,?_⟩;gi_at_call 101;refine (callsIn_wide.2 (fmake_any size s head 5 _)).mono ?_;rintro e w' ⟨rfl,rfl⟩))
 obtain⟨H,hH⟩ : ∃ H,H=w.heap.size:=⟨_,rfl⟩
 obtain⟨W0,hW0⟩ : ∃ W0,W0=(((((((((w.alloc (.cells #[.int .i64 len] 3)).alloc (.cells #[.string ⟨#[]⟩] 9)).alloc (.cells #[.slice none 0 0] 31)).alloc (.cells #[.int .i64 0] 28)).alloc (.cells #[.pointer none,.slice none 0 0] 166)).alloc (.cells #[.int .i64 size] 3)).alloc (.cells #[.string s] 9)).alloc (.cells #[.int .u32 head] 23)).alloc (.cells #[.int .i64 5] 3)):=⟨_,rfl⟩
 have hsz:W0.heap.size=H+9:=by rw[hW0,hH];simp
 have bL:Boxed W0 (H) 3 (.int .i64 len):=by
  rw[hW0,hH]
  have:=((((((((Boxed.new w 3 (.int .i64 len)).alloc (.cells #[.string ⟨#[]⟩] 9)).alloc (.cells #[.slice none 0 0] 31)).alloc (.cells #[.int .i64 0] 28)).alloc (.cells #[.pointer none,.slice none 0 0] 166)).alloc (.cells #[.int .i64 size] 3)).alloc (.cells #[.string s] 9)).alloc (.cells #[.int .u32 head] 23)).alloc (.cells #[.int .i64 5] 3)
  simpa [Nat.add_assoc] using this
 have bV:Boxed W0 (H+1) 9 (.string ⟨#[]⟩):=by
  rw[hW0,hH]
  have:=(((((((Boxed.new (w.alloc (.cells #[.int .i64 len] 3)) 9 (.string ⟨#[]⟩)).alloc (.cells #[.slice none 0 0] 31)).alloc (.cells #[.int .i64 0] 28)).alloc (.cells #[.pointer none,.slice none 0 0] 166)).alloc (.cells #[.int .i64 size] 3)).alloc (.cells #[.string s] 9)).alloc (.cells #[.int .u32 head] 23)).alloc (.cells #[.int .i64 5] 3)
  simpa [Nat.add_assoc] using this
 have bO:Boxed W0 (H+1+1) 31 (.slice none 0 0):=by
  rw[hW0,hH]
  have:=((((((Boxed.new ((w.alloc (.cells #[.int .i64 len] 3)).alloc (.cells #[.string ⟨#[]⟩] 9)) 31 (.slice none 0 0)).alloc (.cells #[.int .i64 0] 28)).alloc (.cells #[.pointer none,.slice none 0 0] 166)).alloc (.cells #[.int .i64 size] 3)).alloc (.cells #[.string s] 9)).alloc (.cells #[.int .u32 head] 23)).alloc (.cells #[.int .i64 5] 3)
  simpa [Nat.add_assoc] using this
 have bE:Boxed W0 (H+1+1+1) 28 (.int .i64 0):=by
  rw[hW0,hH]
  have:=(((((Boxed.new (((w.alloc (.cells #[.int .i64 len] 3)).alloc (.cells #[.string ⟨#[]⟩] 9)).alloc (.cells #[.slice none 0 0] 31)) 28 (.int .i64 0)).alloc (.cells #[.pointer none,.slice none 0 0] 166)).alloc (.cells #[.int .i64 size] 3)).alloc (.cells #[.string s] 9)).alloc (.cells #[.int .u32 head] 23)).alloc (.cells #[.int .i64 5] 3)
  simpa [Nat.add_assoc] using this
 have bB:IsBd (H+1+1+1+1) [] W0:=by
  rw[hW0,hH]
  have:=((((IsBd.new ((((w.alloc (.cells #[.int .i64 len] 3)).alloc (.cells #[.string ⟨#[]⟩] 9)).alloc (.cells #[.slice none 0 0] 31)).alloc (.cells #[.int .i64 0] 28))).alloc (.cells #[.int .i64 size] 3)).alloc (.cells #[.string s] 9)).alloc (.cells #[.int .u32 head] 23)).alloc (.cells #[.int .i64 5] 3)
  simpa [Nat.add_assoc] using this
 have b2:Boxed W0 (H+1+1+1+1+1) 3 (.int .i64 size):=by
  rw[hW0,hH]
  have:=(((Boxed.new (((((w.alloc (.cells #[.int .i64 len] 3)).alloc (.cells #[.string ⟨#[]⟩] 9)).alloc (.cells #[.slice none 0 0] 31)).alloc (.cells #[.int .i64 0] 28)).alloc (.cells #[.pointer none,.slice none 0 0] 166)) 3 (.int .i64 size)).alloc (.cells #[.string s] 9)).alloc (.cells #[.int .u32 head] 23)).alloc (.cells #[.int .i64 5] 3)
  simpa [Nat.add_assoc] using this
 have b3:Boxed W0 (H+1+1+1+1+1+1) 9 (.string s):=by
  rw[hW0,hH]
  have:=((Boxed.new ((((((w.alloc (.cells #[.int .i64 len] 3)).alloc (.cells #[.string ⟨#[]⟩] 9)).alloc (.cells #[.slice none 0 0] 31)).alloc (.cells #[.int .i64 0] 28)).alloc (.cells #[.pointer none,.slice none 0 0] 166)).alloc (.cells #[.int .i64 size] 3)) 9 (.string s)).alloc (.cells #[.int .u32 head] 23)).alloc (.cells #[.int .i64 5] 3)
  simpa [Nat.add_assoc] using this
 have b1:Boxed W0 (H+1+1+1+1+1+1+1) 23 (.int .u32 head):=by
  rw[hW0,hH]
  have:=(Boxed.new (((((((w.alloc (.cells #[.int .i64 len] 3)).alloc (.cells #[.string ⟨#[]⟩] 9)).alloc (.cells #[.slice none 0 0] 31)).alloc (.cells #[.int .i64 0] 28)).alloc (.cells #[.pointer none,.slice none 0 0] 166)).alloc (.cells #[.int .i64 size] 3)).alloc (.cells #[.string s] 9)) 23 (.int .u32 head)).alloc (.cells #[.int .i64 5] 3)
  simpa [Nat.add_assoc] using this
 have b4:Boxed W0 (H+1+1+1+1+1+1+1+1) 3 (.int .i64 5):=by
  rw[hW0,hH]
  have:=Boxed.new ((((((((w.alloc (.cells #[.int .i64 len] 3)).alloc (.cells #[.string ⟨#[]⟩] 9)).alloc (.cells #[.slice none 0 0] 31)).alloc (.cells #[.int .i64 0] 28)).alloc (.cells #[.pointer none,.slice none 0 0] 166)).alloc (.cells #[.int .i64 size] 3)).alloc (.cells #[.string s] 9)).alloc (.cells #[.int .u32 head] 23)) 3 (.int .i64 5)
  simpa [Nat.add_assoc] using this
 have hB0:Below H w W0:=by
  rw[hW0,hH]
  exact (((((((((Below.refl _ w).alloc (by simp) _).alloc (by simp) _).alloc (by simp;omega) _).alloc (by simp;omega) _).alloc (by simp;omega) _).alloc (by simp;omega) _).alloc (by simp;omega) _).alloc (by simp;omega) _).alloc (by simp;omega) _
 rw[← hW0]
 rw[← hH]
 have hHle:H≤w.heap.size:=by omega
 have HH:=Hd hH
 have h9:H+9≤W0.heap.size:=by omega
 have HHs:=Hd hs
 have HL9:=Hd hl9
 have HG:=Hd hg
 clear hW0 hH hsz hl9 hg
 refine wpIn_rangeFunc_ownH (F:=Fence.wide) rfl (by decide) (gf:=126) (lb:=#[.pointer (some ⟨H+1+1+1+1+1+1+1,0,none⟩),.pointer (some ⟨H+1+1+1+1+1,0,none⟩),.pointer (some ⟨H+1+1+1+1+1+1,0,none⟩),.pointer (some ⟨H+1+1+1+1+1+1+1+1,0,none⟩)]) rfl trivial (enters_of Tryz.func126 (by kernel_rfl) rfl)
  (ffollow_stops (5-1) (by decide) (H+1+1+1+1+1+1+1) (H+1+1+1+1+1) (H+1+1+1+1+1+1) (H+1+1+1+1+1+1+1+1) size s head 5 hs hh W0 b1 b2 b3 b4) (fun h k=>kpF_t h k) (fun W l o o' hl h hc hw=>kpF_b W l o o' hl h hc hw) (Below.refl _ _) (fun _=>rfl)
  (fun pre W=>(∃ v:ByteArray,accA (pre.map (·.1))=some v∧((pre ≠ []→(v.size:Int)≤len)∧v.size≤4096*pre.length)∧IsBd (H+1+1+1+1) v.data.toList W)∧(∃ V,Boxed W (H+1+1) 31 V∧W.ownsRow H 23 1 V pre.length (ucells (pre.map (·.1.p.pg))))∧Boxed W H 3 (.int .i64 len)∧Boxed W (H+1) 9 (.string ⟨#[]⟩)∧Boxed W (H+1+1+1) 28 (.int .i64 0)∧Below H w W)
  (fun c pre W=>c=.ret∧(accA (pre.map (·.1))=none∨∃ v,accA (pre.map (·.1))=some v∧len<(v.size:Int))∧Boxed W (H+1) 9 (.string ⟨#[]⟩)∧Boxed W (H+1+1) 31 (.slice none 0 0)∧Boxed W (H+1+1+1) 28 (.int .i64 4)∧Below H w W)
  (by
   rintro pre W W' row ⟨⟨v,h1,h2,h3⟩,⟨V,h4,h5⟩,h6,h7,h8,h9⟩ hg hr
   have hr':=fun r e=>(hr r e).2
   exact⟨⟨v,h1,h2,h3.own hg hr'⟩,⟨V,cells_own h4 hg hr',row_own h5 hg hr'⟩,cells_own h6 hg hr',cells_own h7 hg hr',cells_own h8 hg hr',ownFrom_below (β:=Unit) hHle (by omega) () W W' row h9 hg hr⟩)
  (by
   rintro c pre W W' row ⟨h1,h2,h3,h4,h5,h6⟩ hg hr
   have hr':=fun r e=>(hr r e).2
   exact⟨h1,h2,cells_own h3 hg hr',cells_own h4 hg hr',cells_own h5 hg hr',ownFrom_below (β:=Unit) hHle (by omega) () W W' row h6 hg hr⟩)
  ⟨⟨⟨#[]⟩,rfl,⟨(fun h=>absurd rfl h),Nat.zero_le _⟩,bB⟩,⟨_,bO,World.ownsRow_nil _ _ _ _⟩,bL,bV,bE,hB0⟩
  (fun x a' W=>∃ Bx,Boxed' W Bx x.1.p∧a' = { tmps:=#[.int .i64 size,.string s,.int .u32 head,.int .i64 len,undef,undef,undef,.pointer (some ⟨H,0,none⟩),.pointer (some ⟨H+1,0,none⟩),.pointer (some ⟨H+1+1,0,none⟩),.pointer (some ⟨H+1+1+1,0,none⟩),.pointer (some ⟨H+1+1+1+1,0,none⟩),.pointer (some ⟨Bx,0,none⟩),.int .i64 x.1.e,undef,undef,undef,.int .i64 size,.bool true,.bool false,.int .i64 size,.string s,.int .u32 head,.func (.func 126) #[] #[.pointer (some ⟨H+1+1+1+1+1+1+1,0,none⟩),.pointer (some ⟨H+1+1+1+1+1,0,none⟩),.pointer (some ⟨H+1+1+1+1+1+1,0,none⟩),.pointer (some ⟨H+1+1+1+1+1+1+1+1,0,none⟩)],.agg #[.int .i64 x.1.p.kd,.int .i64 x.1.p.ct,.int .u32 x.1.p.pg,.int .u32 x.1.p.lk,.int .u64 x.1.p.tx,.string x.1.p.bd],.int .i64 x.1.e,undef,undef,undef,undef,undef,undef,undef,undef,undef,undef,undef,undef,undef,undef,undef,undef,undef,undef,undef,undef,undef,undef,undef,undef,undef,undef,undef,undef,undef,undef,undef,undef,undef,undef,undef,undef],defers:=[] })
  (fun x a' _ X Y row hs hg hr=>by obtain⟨Bx,e2,e3⟩:=hs;exact⟨Bx,boxed'_kept e2 hg (fun r e=>(hr r e).2),e3⟩)
  ?assign ?body ?done ?stop
 case assign =>
  rintro l pre x W K ⟨⟨v,h1,h2,h3⟩,⟨V,h4,h5⟩,h6,h7,h8,h9⟩ hK
  gi_wp2
  exact hK _ _ ((KeepsOthers.alloc _ _).from _) (kpF_alloc _ _) ⟨⟨v,h1,h2,h3.alloc _⟩,⟨V,h4.alloc _,h5.alloc _⟩,h6.alloc _,h7.alloc _,h8.alloc _,h9.alloc (Nat.le_trans hHle h9.size) _⟩ ⟨W.heap.size,Blk.new _ _ _,rfl⟩
 case body =>
  have hmx:Tryz.prog.follows .mixedOrders=true:=by kernel_rfl
  rintro l pre x a' W hl _ ⟨⟨v,hv,⟨hvl,hv4⟩,hI⟩,⟨V,hO,hrow⟩,hL,hS,hE,hB⟩ ⟨Bx,bX,rfl⟩ hlt
  have hll:=HFl.out
  have hs9:=HHs.out
  have c0:=bX.cell 0
  have c1:=bX.cell 1
  have c2:=bX.cell 2
  have c3:=bX.cell 3
  have c4:=bX.cell 4
  have c5:=bX.cell 5
  simp at c0 c1 c2 c3 c4 c5
  obtain⟨hbd,hpg⟩:=follow_small x.2
  have HOf:=fun w=>oof9_any x.1.p.kd x.1.p.ct x.1.p.pg x.1.p.lk x.1.p.tx x.1.p.bd w (by omega)
  obtain⟨AV,cV,rfl,_,_,_⟩:=own_form hrow
  rcases hov:x.1.p.over with _ | t
  ·have hbad:accA ((pre++[x]).map (·.1))=none:=by
    rw[List.map_append,List.map_cons,List.map_nil,accA_snoc,hv]
    unfold stepA
    rw[hov]
    simp
   have HBad:=Hd (show accA ((pre++[x]).map (·.1))=none∨∃ v,accA ((pre++[x]).map (·.1))=some v∧len<(v.size:Int) from .inl hbad)
   rw[show readO x.1.p.kd x.1.p.ct x.1.p.pg x.1.p.lk x.1.p.tx x.1.p.bd=none from hov] at HOf
   clear hbad hov
   have hwf:Fence.wide.fn 103=True:=eq_true trivial
   gi_upto_region 8 with (refine⟨trivial,?_⟩;gi_at_call 102;refine (CallsIn.inRound l (callsIn_wide.2 (HOf _))).mono ?_;rintro e W2 ⟨rfl,hb2⟩)
   have hI2:=hI.below hb2
   have hO2:=hO.kept (grown_of_below hb2) (by simp)
   have hrow2:=own_below hrow hb2
   have hL2:=hL.kept (grown_of_below hb2) (by simp)
   have hS2:=hS.kept (grown_of_below hb2) (by simp)
   have hE2:=hE.kept (grown_of_below hb2) (by simp)
   have bX2:Boxed' W2 Bx x.1.p:=Blk.grown bX (grown_of_below hb2) (by simp)
   have hB2:=hB.trans (hb2.mono (Nat.le_trans hHle hB.size))
   have hF2:KeepsFrom W0.heap.size W W2:=KeepsFrom.of_grownBy (grown_of_below hb2) (by simp)
   have hk2:=kpF_below hb2
   clear hb2 hI hO hrow hL hS hE bX hB c0 c1 c2 c3 c4 c5
   by_cases he:x.1.e=0
   ·have hez:(x.1.e != 0)=false:=by simp[he]
    refine region_quiet_round l rfl (by kernel_rfl) (by kernel_rfl) (by kernel_rfl) ?_
    repeat (gi_big_quiet_step (fail))
    refine wpQuietIn_nil ?_
    intro _ hw'
    obtain⟨nq,hw''⟩:=hw'
    subst hw''
    obtain⟨W3,hW3⟩ : ∃ W3,W3=W2.drewN nq:=⟨_,rfl⟩
    have hI3:IsBd (H+1+1+1+1) v.data.toList W3:=by rw[hW3];exact hI2
    have hO3:Boxed W3 (H+1+1) 31 (.slice AV pre.length cV):=by rw[hW3];exact hO2
    have hrow3:W3.ownsRow H 23 1 (.slice AV pre.length cV) pre.length (ucells (pre.map (·.1.p.pg))):=by rw[hW3];exact hrow2
    have hL3:Boxed W3 H 3 (.int .i64 len):=by rw[hW3];exact hL2
    have hS3:Boxed W3 (H+1) 9 (.string ⟨#[]⟩):=by rw[hW3];exact hS2
    have hE3:Boxed W3 (H+1+1+1) 28 (.int .i64 0):=by rw[hW3];exact hE2
    have bX3:Boxed' W3 Bx x.1.p:=by rw[hW3];exact bX2
    have hB3:Below H w W3:=by rw[hW3];exact below_drewN hB2 nq
    have hF3:KeepsFrom W0.heap.size W W3:=by rw[hW3];exact⟨hF2.size,hF2.same⟩
    have hk3:KpF W W3:=by rw[hW3];exact hk2
    rw[← hW3]
    clear hW3 hI2 hO2 hrow2 hL2 hS2 hE2 bX2 hB2 hF2 hk2
    have hO3c:=hO3.cell
    have hO3f:=hO3.frozen
    have hS3c:=hS3.cell
    have hS3f:=hS3.frozen
    have hE3c:=hE3.cell
    have hE3f:=hE3.frozen
    gi_wp2
    obtain⟨q1,q2,q3,q4,q5⟩:=rd_stop (v1:=.string ⟨#[]⟩) (v2:=.slice none 0 0) (v3:=.int .i64 4) hS3 hO3 hE3 hF3 hB3
    exact⟨q1,⟨rfl,HBad.out,q2,q3,q4,q5⟩⟩
   ·have hez:(x.1.e != 0)=true:=by simp[he]
    refine region_quiet_round l rfl (by kernel_rfl) (by kernel_rfl) (by kernel_rfl) ?_
    repeat (gi_big_quiet_step (fail))
    refine wpQuietIn_nil ?_
    intro _ hw'
    obtain⟨nq,hw''⟩:=hw'
    subst hw''
    obtain⟨W3,hW3⟩ : ∃ W3,W3=W2.drewN nq:=⟨_,rfl⟩
    have hI3:IsBd (H+1+1+1+1) v.data.toList W3:=by rw[hW3];exact hI2
    have hO3:Boxed W3 (H+1+1) 31 (.slice AV pre.length cV):=by rw[hW3];exact hO2
    have hrow3:W3.ownsRow H 23 1 (.slice AV pre.length cV) pre.length (ucells (pre.map (·.1.p.pg))):=by rw[hW3];exact hrow2
    have hL3:Boxed W3 H 3 (.int .i64 len):=by rw[hW3];exact hL2
    have hS3:Boxed W3 (H+1) 9 (.string ⟨#[]⟩):=by rw[hW3];exact hS2
    have hE3:Boxed W3 (H+1+1+1) 28 (.int .i64 0):=by rw[hW3];exact hE2
    have bX3:Boxed' W3 Bx x.1.p:=by rw[hW3];exact bX2
    have hB3:Below H w W3:=by rw[hW3];exact below_drewN hB2 nq
    have hF3:KeepsFrom W0.heap.size W W3:=by rw[hW3];exact⟨hF2.size,hF2.same⟩
    have hk3:KpF W W3:=by rw[hW3];exact hk2
    rw[← hW3]
    clear hW3 hI2 hO2 hrow2 hL2 hS2 hE2 bX2 hB2 hF2 hk2
    have hO3c:=hO3.cell
    have hO3f:=hO3.frozen
    have hS3c:=hS3.cell
    have hS3f:=hS3.frozen
    have hE3c:=hE3.cell
    have hE3f:=hE3.frozen
    gi_wp2
    obtain⟨q1,q2,q3,q4,q5⟩:=rd_stop (v1:=.string ⟨#[]⟩) (v2:=.slice none 0 0) (v3:=.int .i64 4) hS3 hO3 hE3 hF3 hB3
    exact⟨q1,⟨rfl,HBad.out,q2,q3,q4,q5⟩⟩
  ·have he:x.1.e=0:=by
    rcases follow_ok x.2 with h | h
    ·rw[h,zero_over] at hov;cases hov
    ·exact h.1
   have hacc:accA ((pre++[x]).map (·.1))=some (v++t):=by
    rw[List.map_append,List.map_cons,List.map_nil,accA_snoc,hv]
    unfold stepA
    rw[if_pos he,hov]
   have hts:t.size≤4096:=by
    have h:readO x.1.p.kd x.1.p.ct x.1.p.pg x.1.p.lk x.1.p.tx x.1.p.bd=some t:=hov
    unfold readO at h
    split at h
    ·injection h with h
     rw[← h,ByteArray.size_extract]
     omega
    ·cases h
   have HAc:=Hd hacc
   rw[show readO x.1.p.kd x.1.p.ct x.1.p.pg x.1.p.lk x.1.p.tx x.1.p.bd=some t from hov] at HOf
   have hez:(x.1.e != 0)=false:=by simp[he]
   have HPre:=Hd hvl
   have hwr:wrap64 (len-(v.size:Int))=len-(v.size:Int):=by
    by_cases hp:pre=[]
    ·subst hp
     have:v=⟨#[]⟩:=by
      have h9:accA []=some v:=hv
      injection h9 with h9
      exact h9.symm
     subst this
     have:=HL9.out
     show wrap64 (len-(0:Nat))=len-(0:Nat)
     unfold wrap64
     omega
    ·have:=hvl hp
     have:=HL9.out
     unfold wrap64
     omega
   clear hov hacc
   gi_upto_region 8 with (refine⟨trivial,?_⟩;gi_at_call 102;refine (CallsIn.inRound l (callsIn_wide.2 (HOf _))).mono ?_;rintro e W2 ⟨rfl,hb2⟩)
   have hI2:=hI.below hb2
   have hO2:=hO.kept (grown_of_below hb2) (by simp)
   have hrow2:=own_below hrow hb2
   have hL2:=hL.kept (grown_of_below hb2) (by simp)
   have hS2:=hS.kept (grown_of_below hb2) (by simp)
   have hE2:=hE.kept (grown_of_below hb2) (by simp)
   have bX2:Boxed' W2 Bx x.1.p:=Blk.grown bX (grown_of_below hb2) (by simp)
   have hB2:=hB.trans (hb2.mono (Nat.le_trans hHle hB.size))
   have hF2:KeepsFrom W0.heap.size W W2:=KeepsFrom.of_grownBy (grown_of_below hb2) (by simp)
   have hk2:=kpF_below hb2
   clear hb2 hI hO hrow hL hS hE bX hB c0 c1 c2 c3 c4 c5
   have hvs:v.data.toList.length=v.size:=size_list v
   have HLn:=fun (w:World) (h:IsBd (H+1+1+1+1) v.data.toList w)=>(blen_any _ _ w h).mono (R':=fun e w'=>e=.returned (.int .i64 (v.size:Int))∧w'=w) (fun e w' ⟨h1,h2⟩=>⟨by rw[h1,hvs],h2⟩)
   have hL2c:=hL2.cell
   have hwf:Fence.wide.fn 103=True:=eq_true trivial
   by_cases hc:len-(v.size:Int)<(t.size:Int)
   ·have hcz:decide (len-(v.size:Int)<(t.size:Int))=true:=decide_eq_true hc
    refine region_quiet_round l rfl (by kernel_rfl) (by kernel_rfl) (by kernel_rfl) ?_
    repeat (gi_big_quiet_step ((gi_at_call 103;exact CallsIn.quiet_of_same (callsIn_wide.2 (HLn _ (hI2.drewN _))))))
    refine wpQuietIn_nil ?_
    intro _ hw'
    obtain⟨nq,hw''⟩:=hw'
    subst hw''
    have HBad:=Hd (show accA ((pre++[x]).map (·.1))=none∨∃ v,accA ((pre++[x]).map (·.1))=some v∧len<(v.size:Int) from .inr ⟨_,HAc.out,by rw[ByteArray.size_append];omega⟩)
    obtain⟨W3,hW3⟩ : ∃ W3,W3=W2.drewN nq:=⟨_,rfl⟩
    have hI3:IsBd (H+1+1+1+1) v.data.toList W3:=by rw[hW3];exact hI2
    have hO3:Boxed W3 (H+1+1) 31 (.slice AV pre.length cV):=by rw[hW3];exact hO2
    have hrow3:W3.ownsRow H 23 1 (.slice AV pre.length cV) pre.length (ucells (pre.map (·.1.p.pg))):=by rw[hW3];exact hrow2
    have hL3:Boxed W3 H 3 (.int .i64 len):=by rw[hW3];exact hL2
    have hS3:Boxed W3 (H+1) 9 (.string ⟨#[]⟩):=by rw[hW3];exact hS2
    have hE3:Boxed W3 (H+1+1+1) 28 (.int .i64 0):=by rw[hW3];exact hE2
    have bX3:Boxed' W3 Bx x.1.p:=by rw[hW3];exact bX2
    have hB3:Below H w W3:=by rw[hW3];exact below_drewN hB2 nq
    have hF3:KeepsFrom W0.heap.size W W3:=by rw[hW3];exact⟨hF2.size,hF2.same⟩
    have hk3:KpF W W3:=by rw[hW3];exact hk2
    rw[← hW3]
    clear hW3 hI2 hO2 hrow2 hL2 hS2 hE2 bX2 hB2 hF2 hk2
    have hO3c:=hO3.cell
    have hO3f:=hO3.frozen
    have hS3c:=hS3.cell
    have hS3f:=hS3.frozen
    have hE3c:=hE3.cell
    have hE3f:=hE3.frozen
    gi_wp2
    obtain⟨q1,q2,q3,q4,q5⟩:=rd_stop (v1:=.string ⟨#[]⟩) (v2:=.slice none 0 0) (v3:=.int .i64 4) hS3 hO3 hE3 hF3 hB3
    exact⟨q1,⟨rfl,HBad.out,q2,q3,q4,q5⟩⟩
   ·have hcz:decide (len-(v.size:Int)<(t.size:Int))=false:=decide_eq_false hc
    refine region_quiet_round l rfl (by kernel_rfl) (by kernel_rfl) (by kernel_rfl) ?_
    repeat (gi_big_quiet_step ((gi_at_call 103;exact CallsIn.quiet_of_same (callsIn_wide.2 (HLn _ (hI2.drewN _))))))
    refine wpQuietIn_nil ?_
    intro _ hw'
    obtain⟨nq,hw''⟩:=hw'
    subst hw''
    obtain⟨W3,hW3⟩ : ∃ W3,W3=W2.drewN nq:=⟨_,rfl⟩
    have hI3:IsBd (H+1+1+1+1) v.data.toList W3:=by rw[hW3];exact hI2
    have hO3:Boxed W3 (H+1+1) 31 (.slice AV pre.length cV):=by rw[hW3];exact hO2
    have hrow3:W3.ownsRow H 23 1 (.slice AV pre.length cV) pre.length (ucells (pre.map (·.1.p.pg))):=by rw[hW3];exact hrow2
    have hL3:Boxed W3 H 3 (.int .i64 len):=by rw[hW3];exact hL2
    have hS3:Boxed W3 (H+1) 9 (.string ⟨#[]⟩):=by rw[hW3];exact hS2
    have hE3:Boxed W3 (H+1+1+1) 28 (.int .i64 0):=by rw[hW3];exact hE2
    have bX3:Boxed' W3 Bx x.1.p:=by rw[hW3];exact bX2
    have hB3:Below H w W3:=by rw[hW3];exact below_drewN hB2 nq
    have hF3:KeepsFrom W0.heap.size W W3:=by rw[hW3];exact⟨hF2.size,hF2.same⟩
    have hk3:KpF W W3:=by rw[hW3];exact hk2
    rw[← hW3]
    clear hW3 hI2 hO2 hrow2 hL2 hS2 hE2 bX2 hB2 hF2 hk2
    have hvt:(v++t).data.toList=v.data.toList++t.data.toList:=by rw[ByteArray.data_append,Array.toList_append]
    gi_upto_region 11 with (refine⟨trivial,?_⟩;gi_at_call 104;refine (CallsIn.inRound l (callsIn_wide.2 (bwrite_any _ _ t W3 hI3 (by rw[hvs];omega)))).mono ?_;rintro e W4 ⟨rfl,hI4,hb4,hk4⟩)
    have hO4:=others_box hI3 hk4 hO3 (by decide)
    have hrow4:=others_row hI3 hk4 hrow3 (by decide)
    have hL4:=others_box hI3 hk4 hL3 (by decide)
    have hS4:=others_box hI3 hk4 hS3 (by decide)
    have hE4:=others_box hI3 hk4 hE3 (by decide)
    have bX4:Boxed' W4 Bx x.1.p:=others_block hI3 hk4 bX3 (fun cs t fz e=>by cases e;decide)
    have hB4:=hB3.trans (hb4.mono (by omega))
    have hF4:=hF3.trans (others_from hI3 hk4 hb4.size W0.heap.size)
    have hkp4:=kpF_t hk3 (others_kpF hI3 hk4)
    clear hI3 hO3 hrow3 hL3 hS3 hE3 bX3 hB3 hF3 hk3 hk4 hb4
    have hO4c:=hO4.cell
    have hX4c:=Blk.cell bX4 2
    simp at hX4c
    gi_wp2_with (gi_at_builtin;refine wpListIn_append_own _ rfl _ _ 31 rfl H 23 i0 _ 1 4 Tryz.underlying31 hi hz0 hz1 hz2 rfl (by decide) _ _ _ rfl (hrow4.alloc _) ⟨W4.heap.size,0,none⟩ 1 1 [.int .u32 x.1.p.pg] rfl rfl (cell_one_new _ _ _) (by simp[Value.oneCell']) (by unfold maxLen;omega) (by omega) (by have:=hB4.size;have:=hO4.lt;simp;omega) ?_;intro v' w1 hown' hgrow _;obtain⟨g',cap',rfl⟩:=ownsRow_succ hown';obtain⟨hv1,hv2,hr2,hk2,hb2⟩:=hO4.appended (by decide) hrow4 (Nat.le_trans hHle hB4.size) (by omega) hown' hgrow;have hc1:=hv1.cell;have hf1:=hv1.frozen)
    have hgr:(W4.alloc (.cells #[.int .u32 x.1.p.pg] 23)).grownBy w1 (Value.slice AV pre.length cV).ownBlock:=hgrow
    have kL:=((hL4.alloc _).kept hgr (hL4.not_row (by decide) hrow4)).other (B':=H+1+1) (by omega) (.slice (some ⟨g',0,none⟩) (pre.length+1) cap')
    have kS:=((hS4.alloc _).kept hgr (hS4.not_row (by decide) hrow4)).other (B':=H+1+1) (by omega) (.slice (some ⟨g',0,none⟩) (pre.length+1) cap')
    have kE:=((hE4.alloc _).kept hgr (hE4.not_row (by decide) hrow4)).other (B':=H+1+1) (by omega) (.slice (some ⟨g',0,none⟩) (pre.length+1) cap')
    have kI:IsBd (H+1+1+1+1) (v++t).data.toList (w1.setCell ⟨H+1+1,0,none⟩ (.slice (some ⟨g',0,none⟩) (pre.length+1) cap')):=by
     rw[hvt]
     refine ((hI4.alloc (.cells #[.int .u32 x.1.p.pg] 23)).grown hgr fun r e cs fz=>?_).grown (grownBy_setCell' w1 _ _) fun r e cs fz=>?_
     ·obtain⟨o,h1,h2⟩:=row_kind hrow4 (.cells #[.int .u32 x.1.p.pg] 23) r e
      rw[h1]
      exact⟨(by intro e';cases e';cases h2),(by intro e';cases e';cases h2)⟩
     ·cases e
      rw[show w1.heap[H+1+1]? = _ from hv1]
      exact⟨(by intro e';cases e'),(by intro e';cases e')⟩
    have kKp:KpF W4 (w1.setCell ⟨H+1+1,0,none⟩ (.slice (some ⟨g',0,none⟩) (pre.length+1) cap')) :=
     kpF_t (kpF_alloc W4 _) (kpF_t (kpF_grown hgr (row_keep hrow4 (by decide) _)) (kpF_grown (grownBy_setCell' w1 _ _) (fun r e=>by cases e;exact⟨_,hv1,rfl⟩)))
    have hr3:(w1.setCell ⟨H+1+1,0,none⟩ (.slice (some ⟨g',0,none⟩) (pre.length+1) cap')).ownsRow H 23 1 (.slice (some ⟨g',0,none⟩) (pre.length+1) cap') (pre++[x]).length (ucells ((pre++[x]).map (·.1.p.pg))):=by
     rw[List.map_append,List.map_cons,List.map_nil,List.length_append,List.length_singleton,ucells_snoc]
     exact hr2
    exact⟨hF4.trans (hk2.from _),kpF_t hkp4 kKp,⟨⟨v++t,HAc.out,⟨fun _=>by rw[ByteArray.size_append];omega,by rw[ByteArray.size_append,List.length_append,List.length_singleton];omega⟩,kI⟩,⟨_,hv2,hr3⟩,kL,kS,kE,hB4.trans hb2⟩⟩
 case done =>
  rintro D ys W hD hys ⟨⟨v,hv,⟨hvl,hv4⟩,hI⟩,⟨V,hO,hrow⟩,hL,hS,hE,hB⟩ hK
  have hv':accA (followL size s 5 head)=some v:=by rw[← hys];exact hv
  have hre:=readV_end (len:=len) hv'
  have hps:(followL size s 5 head).map (·.p.pg)=ys.map (·.1.p.pg):=by have h:=congrArg (List.map (fun y:Lk=>y.p.pg)) hys;rw[List.map_map] at h;exact h.symm
  rw[hps] at hre
  have HRe:=Hd hre
  have hvs:v.data.toList.length=v.size:=size_list v
  obtain⟨AV,cV,rfl,_,_,_⟩:=own_form hrow
  have HLn:=fun (w:World) (h:IsBd (H+1+1+1+1) v.data.toList w)=>(blen_any _ _ w h).mono (R':=fun e w'=>e=.returned (.int .i64 (v.size:Int))∧w'=w) (fun e w' ⟨h1,h2⟩=>⟨by rw[h1,hvs],h2⟩)
  have hLc:=hL.cell
  have hwf:Fence.wide.fn 103=True:=eq_true trivial
  clear hre hps hv' hv hys hvl
  gi_upto_region 12 with fail
  by_cases h0:v.size=0
  ·have h0z:((v.size:Int)==0)=true:=by simp[h0]
   have h0y:(v.size==0)=true:=by simp[h0]
   have HNo:=Hd (show readV size s head len=none by rw[HRe.out,if_neg (by omega)])
   gi_quiet ((gi_at_call 103;exact CallsIn.quiet_of_same (callsIn_wide.2 (HLn _ (hI.drewN _)))))
   obtain⟨W3,hW3⟩ : ∃ W3,W3=W.drewN nq:=⟨_,rfl⟩
   have hI3:IsBd (H+1+1+1+1) v.data.toList W3:=by rw[hW3];exact hI.drewN nq
   have hO3:Boxed W3 (H+1+1) 31 (.slice AV ys.length cV):=by rw[hW3];exact hO
   have hrow3:W3.ownsRow H 23 1 (.slice AV ys.length cV) ys.length (ucells (ys.map (·.1.p.pg))):=by rw[hW3];exact hrow
   have hS3:Boxed W3 (H+1) 9 (.string ⟨#[]⟩):=by rw[hW3];exact hS
   have hE3:Boxed W3 (H+1+1+1) 28 (.int .i64 0):=by rw[hW3];exact hE
   have hB3:Below H w W3:=by rw[hW3];exact below_drewN hB nq
   have hK3:W3.heap[D]? = some (.deferred (some [])):=by rw[hW3];exact hK
   rw[← hW3]
   clear hW3 hI hO hrow hL hS hE hB hLc hK
   have hO3c:=hO3.cell
   have hO3f:=hO3.frozen
   have hS3c:=hS3.cell
   have hS3f:=hS3.frozen
   have hE3c:=hE3.cell
   have hE3f:=hE3.frozen
   gi_wp2
   obtain⟨W2,hW2⟩ : ∃ W2,W2=((W3.setCell ⟨H+1,0,none⟩ (.string ⟨#[]⟩)).setCell ⟨H+1+1,0,none⟩ (.slice none 0 0)).setCell ⟨H+1+1+1,0,none⟩ (.int .i64 4):=⟨_,rfl⟩
   have hK2:W2.heap[D]? = some (.deferred (some [])):=by
    rw[hW2]
    exact (((KeepsOthers.setCell W3 _ _).trans (KeepsOthers.setCell _ _ _)).trans (KeepsOthers.setCell _ _ _)).same D _ hK3 rfl
   obtain⟨_,q2,q3,q4,q5⟩:=rd_stop (v1:=.string ⟨#[]⟩) (v2:=.slice none 0 0) (v3:=.int .i64 4) hS3 hO3 hE3 (KeepsFrom.refl 0 W3) hB3
   rw[← hW2] at q2 q3 q4 q5 ⊢
   clear hW2
   refine⟨by simp,.inl ⟨_,_,rfl,run_takeDeferred hK2,?_⟩⟩
   have p2:=q2.kept (grownBy_putObj' W2 D (.deferred none)) (by intro h;injection h with h;omega)
   have p3:=q3.kept (grownBy_putObj' W2 D (.deferred none)) (by intro h;injection h with h;omega)
   have p4:=q4.kept (grownBy_putObj' W2 D (.deferred none)) (by intro h;injection h with h;omega)
   have p5:=q5.trans (belowK_b (w:=w) hHle W2 D _ (.deferred none) (by have:=HH.out;omega) hK2 rfl rfl)
   rw[HH.out] at p5
   refine⟨_,results_cells3 rfl _ _ _ _ _ _ _ _ rfl rfl rfl (load_boxR (.inl rfl) p2) (load_boxR (.inr (.inl rfl)) p3) (load_boxR (.inr (.inr rfl)) p4),none,0,0,?_,?_,p5⟩
   ·rw[HNo.out]
    have hg9:=HG.out
    unfold rdErr
    rw[hg9]
    rfl
   ·rw[HNo.out];exact ReadsN.none_
  have h0z:((v.size:Int)==0)=false:=by simp[h0]
  have h0y:(v.size==0)=false:=by simp[h0]
  by_cases h1:(v.size:Int)=len
  rotate_left
  ·have h1z:((v.size:Int) != len)=true:=by simp[h1]
   have HNo:=Hd (show readV size s head len=none by rw[HRe.out,if_neg (by omega)])
   gi_quiet ((gi_at_call 103;exact CallsIn.quiet_of_same (callsIn_wide.2 (HLn _ (hI.drewN _)))))
   obtain⟨W3,hW3⟩ : ∃ W3,W3=W.drewN nq:=⟨_,rfl⟩
   have hI3:IsBd (H+1+1+1+1) v.data.toList W3:=by rw[hW3];exact hI.drewN nq
   have hO3:Boxed W3 (H+1+1) 31 (.slice AV ys.length cV):=by rw[hW3];exact hO
   have hrow3:W3.ownsRow H 23 1 (.slice AV ys.length cV) ys.length (ucells (ys.map (·.1.p.pg))):=by rw[hW3];exact hrow
   have hS3:Boxed W3 (H+1) 9 (.string ⟨#[]⟩):=by rw[hW3];exact hS
   have hE3:Boxed W3 (H+1+1+1) 28 (.int .i64 0):=by rw[hW3];exact hE
   have hB3:Below H w W3:=by rw[hW3];exact below_drewN hB nq
   have hK3:W3.heap[D]? = some (.deferred (some [])):=by rw[hW3];exact hK
   rw[← hW3]
   clear hW3 hI hO hrow hL hS hE hB hLc hK
   have hO3c:=hO3.cell
   have hO3f:=hO3.frozen
   have hS3c:=hS3.cell
   have hS3f:=hS3.frozen
   have hE3c:=hE3.cell
   have hE3f:=hE3.frozen
   gi_wp2
   obtain⟨W2,hW2⟩ : ∃ W2,W2=((W3.setCell ⟨H+1,0,none⟩ (.string ⟨#[]⟩)).setCell ⟨H+1+1,0,none⟩ (.slice none 0 0)).setCell ⟨H+1+1+1,0,none⟩ (.int .i64 4):=⟨_,rfl⟩
   have hK2:W2.heap[D]? = some (.deferred (some [])):=by
    rw[hW2]
    exact (((KeepsOthers.setCell W3 _ _).trans (KeepsOthers.setCell _ _ _)).trans (KeepsOthers.setCell _ _ _)).same D _ hK3 rfl
   obtain⟨_,q2,q3,q4,q5⟩:=rd_stop (v1:=.string ⟨#[]⟩) (v2:=.slice none 0 0) (v3:=.int .i64 4) hS3 hO3 hE3 (KeepsFrom.refl 0 W3) hB3
   rw[← hW2] at q2 q3 q4 q5 ⊢
   clear hW2
   refine⟨by simp,.inl ⟨_,_,rfl,run_takeDeferred hK2,?_⟩⟩
   have p2:=q2.kept (grownBy_putObj' W2 D (.deferred none)) (by intro h;injection h with h;omega)
   have p3:=q3.kept (grownBy_putObj' W2 D (.deferred none)) (by intro h;injection h with h;omega)
   have p4:=q4.kept (grownBy_putObj' W2 D (.deferred none)) (by intro h;injection h with h;omega)
   have p5:=q5.trans (belowK_b (w:=w) hHle W2 D _ (.deferred none) (by have:=HH.out;omega) hK2 rfl rfl)
   rw[HH.out] at p5
   refine⟨_,results_cells3 rfl _ _ _ _ _ _ _ _ rfl rfl rfl (load_boxR (.inl rfl) p2) (load_boxR (.inr (.inl rfl)) p3) (load_boxR (.inr (.inr rfl)) p4),none,0,0,?_,?_,p5⟩
   ·rw[HNo.out]
    have hg9:=HG.out
    unfold rdErr
    rw[hg9]
    rfl
   ·rw[HNo.out];exact ReadsN.none_
  have h1z:((v.size:Int) != len)=false:=by simp[h1]
  have HYes:=Hd (show readV size s head len=some (v,ys.map (·.1.p.pg)) by rw[HRe.out,if_pos (by omega)])
  clear h1
  gi_quiet ((gi_at_call 103;exact CallsIn.quiet_of_same (callsIn_wide.2 (HLn _ (hI.drewN _)))))
  obtain⟨W3,hW3⟩ : ∃ W3,W3=W.drewN nq:=⟨_,rfl⟩
  have hI3:IsBd (H+1+1+1+1) v.data.toList W3:=by rw[hW3];exact hI.drewN nq
  have hO3:Boxed W3 (H+1+1) 31 (.slice AV ys.length cV):=by rw[hW3];exact hO
  have hrow3:W3.ownsRow H 23 1 (.slice AV ys.length cV) ys.length (ucells (ys.map (·.1.p.pg))):=by rw[hW3];exact hrow
  have hS3:Boxed W3 (H+1) 9 (.string ⟨#[]⟩):=by rw[hW3];exact hS
  have hE3:Boxed W3 (H+1+1+1) 28 (.int .i64 0):=by rw[hW3];exact hE
  have hB3:Below H w W3:=by rw[hW3];exact below_drewN hB nq
  have hK3:W3.heap[D]? = some (.deferred (some [])):=by rw[hW3];exact hK
  rw[← hW3]
  clear hW3 hI hO hrow hL hS hE hB hLc hK
  clear HLn hwf
  have hI4:IsBd (H+1+1+1+1) v.data.toList W3.drew:=hI3
  have hO4:Boxed W3.drew (H+1+1) 31 (.slice AV ys.length cV):=hO3
  have hO4c:=hO4.cell
  have hmx:Tryz.prog.follows .mixedOrders=true:=by kernel_rfl
  gi_upto_region 14 with fail
  have hcS:CallsIn Fence.wide (5-1) Tryz.prog 105 #[.pointer (some ⟨H+1+1+1+1,0,none⟩)] W3.drew fun e w'=>e=.returned (.string v)∧∃ W6,w'=W6∧Boxed W6 (H+1) 9 (.string ⟨#[]⟩)∧Boxed W6 (H+1+1) 31 (.slice AV ys.length cV)∧Boxed W6 (H+1+1+1) 28 (.int .i64 0)∧W6.ownsRow H 23 1 (.slice AV ys.length cV) ys.length (ucells (ys.map (·.1.p.pg)))∧Below H w W6∧W6.heap[D]? = some (.deferred (some [])):=by
   refine (callsIn_wide.2 (bstring_any _ _ _ hI4)).mono ?_
   rintro e w6 ⟨rfl,_,hb6,hk6⟩
   refine⟨?_,_,rfl,others_box hI4 hk6 hS3 (by decide),others_box hI4 hk6 hO3 (by decide),others_box hI4 hk6 hE3 (by decide),others_row hI4 hk6 hrow3 (by decide),hB3.drew.trans (hb6.mono (by omega)),others_block hI4 hk6 hK3 (fun cs t fz e=>by cases e)⟩
   rfl
  gi_region_with_o (refine⟨trivial,?_⟩;gi_at_call 105;refine hcS.mono ?_;rintro e w6 ⟨rfl,W6,rfl,hS6,hO6,hE6,hrow6,hB6,hK6⟩;have hO6c:=hO6.cell;have hO6f:=hO6.frozen;have hS6c:=hS6.cell;have hS6f:=hS6.frozen;have hE6c:=hE6.cell;have hE6f:=hE6.frozen)
  all_goals gi_wp2
  all_goals
   obtain⟨_,q2,q3,q4,q5⟩:=rd_stop (v1:=.string v) (v2:=.slice AV ys.length cV) (v3:=.int .i64 0) hS6 hO6 hE6 (KeepsFrom.refl 0 _) hB6
   have q6:=rd_row (v1:=.string v) (v2:=.slice AV ys.length cV) (v3:=.int .i64 0) hS6 hO6 hE6 hrow6
   have hK2:=(((KeepsOthers.setCell _ ⟨H+1,0,none⟩ (.string v)).trans (KeepsOthers.setCell _ ⟨H+1+1,0,none⟩ (.slice AV ys.length cV))).trans (KeepsOthers.setCell _ ⟨H+1+1+1,0,none⟩ (.int .i64 0))).same D _ hK6 rfl
   refine⟨by simp,.inl ⟨_,_,rfl,run_takeDeferred hK2,?_⟩⟩
   have p2:=q2.kept (grownBy_putObj' _ D (.deferred none)) (by intro h;injection h with h;omega)
   have p3:=q3.kept (grownBy_putObj' _ D (.deferred none)) (by intro h;injection h with h;omega)
   have p4:=q4.kept (grownBy_putObj' _ D (.deferred none)) (by intro h;injection h with h;omega)
   have p6:=ownsRow_putObj q6 (.deferred none) hK2 rfl
   have p5:=q5.trans (belowK_b (w:=w) hHle _ D _ (.deferred none) (by have:=HH.out;omega) hK2 rfl rfl)
   refine⟨_,results_cells3 rfl _ _ _ _ _ _ _ _ rfl rfl rfl (load_boxR (.inl rfl) p2) (load_boxR (.inr (.inl rfl)) p3) (load_boxR (.inr (.inr rfl)) p4),AV,ys.length,cV,?_,?_,below_to HH.out p5⟩
   ·rw[HYes.out]
    have hg9:=HG.out
    unfold rdErr
    rw[hg9]
    rfl
   ·rw[HYes.out];exact ReadsN.of_own p6 (by have:=HH.out;omega)
 case stop =>
  rintro D c pre W hD hpre ⟨rfl,hbad,q2,q3,q4,q5⟩ hK2
  have HNo:=Hd (readV_bad_pre (len:=len) hpre hbad)
  clear hbad hpre
  gi_wp2
  refine⟨by simp,.inl ⟨_,_,rfl,run_takeDeferred hK2,?_⟩⟩
  have p2:=q2.kept (grownBy_putObj' W D (.deferred none)) (by intro h;injection h with h;omega)
  have p3:=q3.kept (grownBy_putObj' W D (.deferred none)) (by intro h;injection h with h;omega)
  have p4:=q4.kept (grownBy_putObj' W D (.deferred none)) (by intro h;injection h with h;omega)
  have p5:=q5.trans (belowK_b (w:=w) hHle W D _ (.deferred none) (by have:=HH.out;omega) hK2 rfl rfl)
  rw[HH.out] at p5
  refine⟨_,results_cells3 rfl _ _ _ _ _ _ _ _ rfl rfl rfl (load_boxR (.inl rfl) p2) (load_boxR (.inr (.inl rfl)) p3) (load_boxR (.inr (.inr rfl)) p4),none,0,0,?_,?_,p5⟩
  ·rw[HNo.out]
   have hg9:=HG.out
   unfold rdErr
   rw[hg9]
   rfl
  ·rw[HNo.out];exact ReadsN.none_
end Go.Proofs.YtanbbnogdhnikaaGreat


namespace Go.Proofs.YtanbbnogdhnikaaGreat
open Go.RowKit
open Go.Lib hiding intOf
attribute [local go_sem ↓] Go.wp_at_zero Go.wp_at_succ

theorem results_cell_one {P:Program} {fn:Func} {p:Tmp} {ty:TypeId} (h:fn.results=#[.cell p ty]) (tmps:Array Value) (w:World) (g:Nat) (u:Value)
  (hp:tmps.getD p undef=.pointer (some ⟨g,0,none⟩)) (hu:(loadVar ty ⟨g,0,none⟩).run P w=.ok u w) :
  (results fn tmps).run P w=.ok u w:=by
 have hp':tmps[p]?.getD undef=.pointer (some ⟨g,0,none⟩):=by simpa using hp
 simp[results,h,hp',asAddr,hu]
theorem infoNodez:(Tryz.prog.info? 136).map (fun i=>(i.zero,i.size))=some (some (.agg #[.int .i64 0,.slice none 0 0,.slice none 0 0]),3):=by kernel_rfl
theorem load_node {w:World} {g:Nat} {a0 a1 a2:Value} (h:Blk w g 136 #[a0,a1,a2]):(loadVar 136 ⟨g,0,none⟩).run Tryz.prog w=.ok (.agg #[a0,a1,a2]) w:=by
 obtain⟨hz,hi⟩:=zero_of_info infoNodez
 exact run_loadVar_row w g 136 136 #[a0,a1,a2] (0,0) _ h Tryz.underlying136 rfl hi
theorem nodeN_is (size:Int) (s:ByteArray) (n:Nat):nodeN size s n=if (pageOf size s n).kd=3 then (match readF (pageOf size s n).kd (pageOf size s n).ct (pageOf size s n).pg (pageOf size s n).lk (pageOf size s n).tx (pageOf size s n).bd with | some l=>.br l | none=>.none) else if (pageOf size s n).kd=4 then (match readI (pageOf size s n).kd (pageOf size s n).ct (pageOf size s n).pg (pageOf size s n).lk (pageOf size s n).tx (pageOf size s n).bd with | some l=>.lf l | none=>.none) else .none:=by
 rcases hr:readAt size s n with _ | p
 ·rw[(errAt_none hr).2,nodeN,hr]
  rfl
 ·rw[(errAt_some hr).2,nodeN,hr]
  obtain⟨kd,ct,pg,lk,tx,bd⟩:=p
  simp only[Pg.node]
  by_cases h3:kd=3
  ·subst h3
   simp only[if_true]
   rcases hf:readF 3 ct pg lk tx bd with _ | l
   ·rcases hi:readI 3 ct pg lk tx bd with _ | l
    ·rfl
    ·have:=(readI_kd hi).1
     omega
   ·rfl
  ·rw[if_neg h3]
   rcases hf:readF kd ct pg lk tx bd with _ | l
   ·by_cases h4:kd=4
    ·rw[if_pos h4]
     rfl
    ·rw[if_neg h4]
     rcases hi:readI kd ct pg lk tx bd with _ | l
     ·rfl
     ·exact absurd (readI_kd hi).1 h4
   ·exact absurd (readF_kd hf).1 h3
theorem pageOf_bd (size:Int) (s:ByteArray) (n:Nat):(pageOf size s n).bd.size≤100000:=by
 rcases hr:readAt size s n with _ | p
 ·rw[(errAt_none hr).2];decide
 ·rw[(errAt_some hr).2]
  have:=readAt_body hr
  omega
def NodePost (o:Nd) (w:World) (e:Ending) (w':World):Prop:=Below w.heap.size w w'∧match o with
 | .none=>e=.returned (.agg #[.int .i64 0,.slice none 0 0,.slice none 0 0])
 | .br l=>∃ A n c,e=.returned (.agg #[.int .i64 3,.slice A n c,.slice none 0 0])∧ReadsN w.heap.size w' 2 A n (fkc l)∧n≤c∧c≤maxLen
 | .lf l=>∃ A n c,e=.returned (.agg #[.int .i64 4,.slice none 0 0,.slice A n c])∧ReadsN w.heap.size w' 5 A n (itc l)∧n≤c∧c≤maxLen
theorem set3 {w:World} {g:Nat} {t:TypeId} {a0 a1 a2:Value} (b0 b1 b2:Value) (h:Blk w g t #[a0,a1,a2]):Blk (((w.setCell ⟨g,0,none⟩ b0).setCell ⟨g,1,none⟩ b1).setCell ⟨g,2,none⟩ b2) g t #[b0,b1,b2]:=by
 have:=((h.set_ 0 b0).set_ 1 b1).set_ 2 b2
 simpa using this
theorem below3 {w w':World} {B g:Nat} (b0 b1 b2:Value) (h:Below B w w') (hg:B≤g):Below B w (((w'.setCell ⟨g,0,none⟩ b0).setCell ⟨g,1,none⟩ b1).setCell ⟨g,2,none⟩ b2) :=
 ((h.setCell (p:=⟨g,0,none⟩) hg b0).setCell (p:=⟨g,1,none⟩) hg b1).setCell (p:=⟨g,2,none⟩) hg b2
theorem keep4 {w:World} {g q i lo size n:Nat} {A:Option Addr} {xs:List Value} (u b0 b1 b2:Value) (h:Reads w w.heap.size size A n xs) (hlo : ∀ ad,A=some ad→lo≤ad.block) (hg:g<lo) (hq:q<lo) :
  Reads ((((w.setCell ⟨q,i,none⟩ u).setCell ⟨g,0,none⟩ b0).setCell ⟨g,1,none⟩ b1).setCell ⟨g,2,none⟩ b2) ((((w.setCell ⟨q,i,none⟩ u).setCell ⟨g,0,none⟩ b0).setCell ⟨g,1,none⟩ b1).setCell ⟨g,2,none⟩ b2).heap.size size A n xs:=by
 refine (h.keep_from hlo fun p hp=>?_).more (by simp[World.setCell])
 rw[World.cell?_setCell_other _ _ _ _ (fun e=>by subst e;simp at hp;omega),World.cell?_setCell_other _ _ _ _ (fun e=>by subst e;simp at hp;omega),World.cell?_setCell_other _ _ _ _ (fun e=>by subst e;simp at hp;omega),World.cell?_setCell_other _ _ _ _ (fun e=>by subst e;simp at hp;omega)]
theorem nodeAt_any (size:Int) (s:ByteArray) (n:Nat) (w:World) (hs:s.size≤1000000) (hn:n<4294967296) :
  Calls Tryz.prog 73 #[.int .i64 size,.string s,.int .u32 n] w (NodePost (nodeN size s n) w):=by
 have HN:=Hd (nodeN_is size s n)
 have HRd:=Hd (fun (w:World)=>fread_all size s n w (Nat.le_trans hs (by decide)) hn)
 have hbd:=pageOf_bd size s n
 obtain⟨o,ho⟩ : ∃ o,o=nodeN size s n:=⟨_,rfl⟩
 obtain⟨x,hx⟩ : ∃ x,x=errAt size s n:=⟨_,rfl⟩
 obtain⟨q,hq⟩ : ∃ q,q=pageOf size s n:=⟨_,rfl⟩
 rw[← ho] at HN ⊢
 rw[← hx,← hq] at HRd
 rw[← hq] at HN hbd
 obtain⟨qk,qc,qp,ql,qt,qb⟩:=q
 simp only[Pg.agg] at HRd
 have HBd:=Hd hbd
 clear ho hx hq hs hn hbd
 obtain⟨hz,hi0⟩:=zero_of_info infoNodez
 have HI:=Hd hi0
 obtain⟨hzp,hip⟩:=zero_of_info infoPg
 have HIP:=Hd hip
 clear hi0 hip
 obtain⟨w0,hw0⟩ : ∃ x,x=w.alloc (.cells #[.int .i64 0,.slice none 0 0,.slice none 0 0] 136):=⟨_,rfl⟩
 have R0:=Hd (show Blk w0 w.heap.size 136 #[.int .i64 0,.slice none 0 0,.slice none 0 0] by rw[hw0];exact Blk.new _ _ _)
 have HB:=Hd (show Below w.heap.size w w0 by rw[hw0];exact (Below.refl _ _).alloc (Nat.le_refl _) _)
 go_enter Tryz.func73,Tryz.ntmps73
 go_wp2_with fail
 rw[← hw0]
 clear hw0
 refine (HRd.out _).mono ?_
 rintro e w1 ⟨rfl,hb⟩
 replace R0:=Hd (R0.out.below hb R0.out.lt)
 replace HB:=Hd (HB.out.trans (hb.mono HB.out.size))
 clear hb HRd
 go_upto_region 3 with fail
 obtain⟨w3,hw3⟩ : ∃ y,y=(w1.alloc (.cells #[.int .i64 qk,.int .i64 qc,.int .u32 qp,.int .u32 ql,.int .u64 qt,.string qb] 41)).alloc (.cells #[.int .i64 qk,.slice none 0 0,.slice none 0 0] 136):=⟨_,rfl⟩
 have Pp:=Hd (show Blk w3 w1.heap.size 41 #[.int .i64 qk,.int .i64 qc,.int .u32 qp,.int .u32 ql,.int .u64 qt,.string qb] by rw[hw3];exact (Blk.new _ _ _).alloc _)
 have Q:=Hd (show Blk w3 (w1.heap.size+1) 136 #[.int .i64 qk,.slice none 0 0,.slice none 0 0] by rw[hw3];have:=Blk.new (w1.alloc (.cells #[.int .i64 qk,.int .i64 qc,.int .u32 qp,.int .u32 ql,.int .u64 qt,.string qb] 41)) 136 #[.int .i64 qk,.slice none 0 0,.slice none 0 0];simpa using this)
 have HZ:=Hd R0.out.lt
 replace R0:=Hd (show Blk w3 w.heap.size 136 #[.int .i64 0,.slice none 0 0,.slice none 0 0] by rw[hw3];exact (R0.out.alloc _).alloc _)
 replace HB:=Hd (show Below w.heap.size w w3 by rw[hw3];exact (HB.out.alloc HB.out.size _).alloc (by simp;have:=HB.out.size;omega) _)
 rw[← hw3]
 clear hw3
 obtain⟨gP,hgP⟩ : ∃ g,g=w1.heap.size:=⟨_,rfl⟩
 rw[← hgP] at Pp Q HZ ⊢
 clear hgP
 have p0:=Pp.out.cell 0
 have p1:=Pp.out.cell 1
 have p2:=Pp.out.cell 2
 have p3:=Pp.out.cell 3
 have p4:=Pp.out.cell 4
 have p5:=Pp.out.cell 5
 simp at p0 p1 p2 p3 p4 p5
 by_cases h3:qk=3
 ·subst h3
  have HO:=Hd (show o=(match readF 3 qc qp ql qt qb with | some l=>.br l | none=>.none) by have:=HN.out;simpa using this)
  clear HN
  go_wp2_with fail
  refine (bof7_new 3 qc qp ql qt qb _ HBd.out).mono ?_
  rintro e w4 hp
  rcases hf:readF 3 qc qp ql qt qb with _ | l
  ·rw[hf] at hp HO
   obtain⟨rfl,hb⟩:=hp
   replace R0:=Hd (R0.out.below hb R0.out.lt)
   replace Q:=Hd (Q.out.below hb Q.out.lt)
   replace HB:=Hd (HB.out.trans (hb.mono HB.out.size))
   clear hb hf p0 p1 p2 p3 p4 p5 Pp
   have q1:=Q.out.cell 1
   have f1:=Q.out.frozen 1
   simp at q1
   have S0:=Hd (R0.out.far (p:=⟨gP+1,1,none⟩) (show w.heap.size≠gP+1 by have:=HZ.out;omega) (.slice none 0 0))
   have HS:=Hd (HB.out.setCell (p:=⟨gP+1,1,none⟩) (show w.heap.size≤gP+1 by have:=HZ.out;omega) (.slice none 0 0))
   have r0:=S0.out.cell 0
   have r1:=S0.out.cell 1
   have r2:=S0.out.cell 2
   have g0:=S0.out.frozen 0
   have g1:=S0.out.frozen 1
   have g2:=S0.out.frozen 2
   simp at r0 r1 r2
   go_wp2_with fail
   exact bodyPost_ret (v:=.agg #[.int .i64 0,.slice none 0 0,.slice none 0 0]) (results_cell_one rfl _ _ w.heap.size _ rfl (load_node (set3 _ _ _ S0.out))) rfl ⟨below3 _ _ _ HS.out (Nat.le_refl _),by rw[HO.out]⟩
  ·rw[hf] at hp HO
   obtain⟨A,n,c,rfl,hrd,hnc,hcm,hb,hlo⟩:=hp
   have HRw:=Hd hrd
   have HC:=Hd hnc
   have HMx:=Hd hcm
   have HL:=Hd hlo
   have HQl:=Hd Q.out.lt
   have HRl:=Hd R0.out.lt
   replace R0:=Hd (R0.out.below hb R0.out.lt)
   replace Q:=Hd (Q.out.below hb Q.out.lt)
   have HB3:=Hd HB.out.size
   replace HB:=Hd (HB.out.trans (hb.mono HB.out.size))
   clear hb hf p0 p1 p2 p3 p4 p5 Pp hrd hnc hcm hlo
   have q1:=Q.out.cell 1
   have f1:=Q.out.frozen 1
   simp at q1
   have S0:=Hd (R0.out.far (p:=⟨gP+1,1,none⟩) (show w.heap.size≠gP+1 by have:=HZ.out;omega) (.slice A n c))
   have Q0:=Hd (Q.out.set_ 1 (.slice A n c))
   have HS:=Hd (HB.out.setCell (p:=⟨gP+1,1,none⟩) (show w.heap.size≤gP+1 by have:=HZ.out;omega) (.slice A n c))
   have k0:=Q0.out.cell 0
   have k1:=Q0.out.cell 1
   have k2:=Q0.out.cell 2
   have r0:=S0.out.cell 0
   have r1:=S0.out.cell 1
   have r2:=S0.out.cell 2
   have g0:=S0.out.frozen 0
   have g1:=S0.out.frozen 1
   have g2:=S0.out.frozen 2
   simp at r0 r1 r2 k0 k1 k2
   go_wp2_with fail
   exact bodyPost_ret (v:=.agg #[.int .i64 3,.slice A n c,.slice none 0 0]) (results_cell_one rfl _ _ w.heap.size _ rfl (load_node (set3 _ _ _ S0.out))) rfl ⟨below3 _ _ _ HS.out (Nat.le_refl _),by rw[HO.out];exact⟨A,n,c,rfl,⟨keep4 _ _ _ _ HRw.out HL.out HRl.out HQl.out,fun ad e=>Nat.le_trans HB3.out (HL.out ad e)⟩,HC.out,HMx.out⟩⟩
 by_cases h4:qk=4
 ·subst h4
  have HO:=Hd (show o=(match readI 4 qc qp ql qt qb with | some l=>.lf l | none=>.none) by have:=HN.out;simpa using this)
  clear HN
  go_wp2_with fail
  refine (lof8_new 4 qc qp ql qt qb _ HBd.out).mono ?_
  rintro e w4 hp
  rcases hf:readI 4 qc qp ql qt qb with _ | l
  ·rw[hf] at hp HO
   obtain⟨rfl,hb⟩:=hp
   replace R0:=Hd (R0.out.below hb R0.out.lt)
   replace Q:=Hd (Q.out.below hb Q.out.lt)
   replace HB:=Hd (HB.out.trans (hb.mono HB.out.size))
   clear hb hf p0 p1 p2 p3 p4 p5 Pp
   have q2:=Q.out.cell 2
   have f1:=Q.out.frozen 2
   simp at q2
   have S0:=Hd (R0.out.far (p:=⟨gP+1,2,none⟩) (show w.heap.size≠gP+1 by have:=HZ.out;omega) (.slice none 0 0))
   have HS:=Hd (HB.out.setCell (p:=⟨gP+1,2,none⟩) (show w.heap.size≤gP+1 by have:=HZ.out;omega) (.slice none 0 0))
   have r0:=S0.out.cell 0
   have r1:=S0.out.cell 1
   have r2:=S0.out.cell 2
   have g0:=S0.out.frozen 0
   have g1:=S0.out.frozen 1
   have g2:=S0.out.frozen 2
   simp at r0 r1 r2
   go_wp2_with fail
   exact bodyPost_ret (v:=.agg #[.int .i64 0,.slice none 0 0,.slice none 0 0]) (results_cell_one rfl _ _ w.heap.size _ rfl (load_node (set3 _ _ _ S0.out))) rfl ⟨below3 _ _ _ HS.out (Nat.le_refl _),by rw[HO.out]⟩
  ·rw[hf] at hp HO
   obtain⟨A,n,c,rfl,hrd,hnc,hcm,hb,hlo⟩:=hp
   have HRw:=Hd hrd
   have HC:=Hd hnc
   have HMx:=Hd hcm
   have HL:=Hd hlo
   have HQl:=Hd Q.out.lt
   have HRl:=Hd R0.out.lt
   replace R0:=Hd (R0.out.below hb R0.out.lt)
   replace Q:=Hd (Q.out.below hb Q.out.lt)
   have HB3:=Hd HB.out.size
   replace HB:=Hd (HB.out.trans (hb.mono HB.out.size))
   clear hb hf p0 p1 p2 p3 p4 p5 Pp hrd hnc hcm hlo
   have q2:=Q.out.cell 2
   have f1:=Q.out.frozen 2
   simp at q2
   have S0:=Hd (R0.out.far (p:=⟨gP+1,2,none⟩) (show w.heap.size≠gP+1 by have:=HZ.out;omega) (.slice A n c))
   have Q0:=Hd (Q.out.set_ 2 (.slice A n c))
   have HS:=Hd (HB.out.setCell (p:=⟨gP+1,2,none⟩) (show w.heap.size≤gP+1 by have:=HZ.out;omega) (.slice A n c))
   have k0:=Q0.out.cell 0
   have k1:=Q0.out.cell 1
   have k2:=Q0.out.cell 2
   have r0:=S0.out.cell 0
   have r1:=S0.out.cell 1
   have r2:=S0.out.cell 2
   have g0:=S0.out.frozen 0
   have g1:=S0.out.frozen 1
   have g2:=S0.out.frozen 2
   simp at r0 r1 r2 k0 k1 k2
   go_wp2_with fail
   exact bodyPost_ret (v:=.agg #[.int .i64 4,.slice none 0 0,.slice A n c]) (results_cell_one rfl _ _ w.heap.size _ rfl (load_node (set3 _ _ _ S0.out))) rfl ⟨below3 _ _ _ HS.out (Nat.le_refl _),by rw[HO.out];exact⟨A,n,c,rfl,⟨keep4 _ _ _ _ HRw.out HL.out HRl.out HQl.out,fun ad e=>Nat.le_trans HB3.out (HL.out ad e)⟩,HC.out,HMx.out⟩⟩
 ·have HO:=Hd (show o=.none by have:=HN.out;rw[if_neg h3,if_neg h4] at this;exact this)
  clear HN p1 p2 p3 p4 p5
  have r0:=R0.out.cell 0
  have r1:=R0.out.cell 1
  have r2:=R0.out.cell 2
  have g0:=R0.out.frozen 0
  have g1:=R0.out.frozen 1
  have g2:=R0.out.frozen 2
  simp at r0 r1 r2
  go_wp2_with fail
  exact bodyPost_ret (v:=.agg #[.int .i64 0,.slice none 0 0,.slice none 0 0]) (results_cell_one rfl _ _ w.heap.size _ rfl (load_node (set3 _ _ _ R0.out))) rfl ⟨below3 _ _ _ HB.out (Nat.le_refl _),by rw[HO.out]⟩
def valE (size:Int) (o:Option (ByteArray×List Nat)):Int:=if o.isSome then 0 else rdErr size none
theorem valE_read {size:Int} {s:ByteArray} {head:Nat} {len:Int}:rdErr size (readV size s head len)=valE size (readV size s head len):=by
 unfold valE
 rcases h:readV size s head len with _ | x
 ·rfl
 ·rcases hg:goodSize size with _ | _
  ·rw[readV_bad hg] at h;cases h
  ·unfold rdErr
   rw[hg]
   rfl
theorem value_any (size:Int) (s:ByteArray) (i:It) (w:World) (hs:s.size≤1000000) (hi:i.hd<4294967296) (hl9 : -9223372036854775808≤i.ln∧i.ln≤9223372036854775807) :
  Calls Tryz.prog 41 #[.int .i64 size,.string s,.agg #[.string i.ky,.string i.vl,.bool i.ov,.int .i64 i.ln,.int .u32 i.hd]] w fun e w'=>∃ A n c,e=.returned (.tuple #[.string (rdStr (valN size s i)),.slice A n c,.int .i64 (valE size (valN size s i))])∧ReadsN w.heap.size w' 1 A n (ucells (rdPs (valN size s i)))∧Below w.heap.size w w':=by
 have HRd:=Hd (fun (w:World)=>hread_new size s i.hd i.ln w hs hi hl9)
 have HE:=Hd (valE_read (size:=size) (s:=s) (head:=i.hd) (len:=i.ln))
 obtain⟨o,ho⟩ : ∃ o,o=readV size s i.hd i.ln:=⟨_,rfl⟩
 have hv:valN size s i=if i.ov then o else some (i.vl,[]):=by rw[valN,ho]
 rw[← ho] at HRd HE
 rw[hv]
 clear ho hs hi hl9 hv
 obtain⟨ky,vl,ov,ln,hd⟩:=i
 dsimp only at *
 obtain⟨w0,hw0⟩ : ∃ x,x=w.alloc (.cells #[.string ky,.string vl,.bool ov,.int .i64 ln,.int .u32 hd] 76):=⟨_,rfl⟩
 have B:=Hd (show Blk w0 w.heap.size 76 #[.string ky,.string vl,.bool ov,.int .i64 ln,.int .u32 hd] by rw[hw0];exact Blk.new _ _ _)
 have HB:=Hd (show Below w.heap.size w w0 by rw[hw0];exact (Below.refl _ _).alloc (Nat.le_refl _) _)
 cases ov
 ·go_enter Tryz.func41,Tryz.ntmps41
  go_upto_region 1 with fail
  rw[← hw0]
  clear hw0
  have b1:=B.out.cell 1
  have b2:=B.out.cell 2
  simp at b1 b2
  go_wp2_with fail
  go_ret3
  first
   | exact⟨none,0,0,rfl,ReadsN.none_,HB.out⟩
   | exact⟨none,0,⟨0,rfl⟩,ReadsN.none_,HB.out⟩
 ·go_enter Tryz.func41,Tryz.ntmps41
  go_upto_region 1 with fail
  rw[← hw0]
  clear hw0
  have b2:=B.out.cell 2
  have b3:=B.out.cell 3
  have b4:=B.out.cell 4
  simp at b2 b3 b4
  go_wp2_with fail
  refine (HRd.out _).mono ?_
  rintro e w1 ⟨A,n,c,rfl,hr,hb⟩
  rw[HE.out]
  have HR:=Hd (show ReadsN w.heap.size w1 1 A n (ucells (rdPs o)) from ⟨hr.1,fun ad e=>Nat.le_trans HB.out.size (hr.2 ad e)⟩)
  have HB1:=Hd (HB.out.trans (hb.mono HB.out.size))
  clear hr hb
  go_wp2_with fail
  go_ret3
  first
   | exact⟨A,n,c,rfl,HR.out,HB1.out⟩
   | exact⟨A,n,⟨c,rfl⟩,HR.out,HB1.out⟩
end Go.Proofs.YtanbbnogdhnikaaGreat

