/-
  Texts that the main proof rests on, put together: ChLinks, TreeR, CnMath2, CnMath3. No statement is proved here.
-/
import Derived.Test.YtanbbnogdhnikaaGreatJ35
import Derived.Test.YtanbbnogdhnikaaGreatJ36
import Derived.Test.YtanbbnogdhnikaaGreatJ33
import Derived.Test.YtanbbnogdhnikaaGreatJ29
set_option linter.unusedVariables false
set_option linter.unusedSimpArgs false
set_option maxRecDepth 300000
set_option maxHeartbeats 25600000
namespace Go.Proofs.YtanbbnogdhnikaaGreat
open Go.RowKit Go.Shelf

attribute [local go_sem] Oper.semAt_some

theorem follow_le {size:Int} {s:ByteArray} {kd:Int} {head:Nat}:(followL size s kd head).length≤s.size+1:=by
 have h:=fresh_le (along_fresh (size:=size) (s:=s) (kd:=kd) (head:=head) s.size)
 have h2:=Nat.div_le_self s.size size.toNat
 unfold followL chainL
 rw[List.length_append,List.length_map]
 split<;>simp<;>omega
def Boxed' (W:World) (B:Nat) (p:Pg):Prop:=Blk W B 41 #[.int .i64 p.kd,.int .i64 p.ct,.int .u32 p.pg,.int .u32 p.lk,.int .u64 p.tx,.string p.bd]
theorem boxed'_kept {W W':World} {B:Nat} {p:Pg} {row:Option Nat} (h:Boxed' W B p) (hg:W.grownBy W' row) (hr : ∀ r,row=some r→∃ o:Obj,W.heap[r]? = some o∧o.isCells=false):Boxed' W' B p:=by
 refine Blk.grown h hg fun e=>?_
 obtain⟨o,h1,h2⟩:=hr B e.symm
 rw[show W.heap[B]? = _ from h] at h1
 cases h1
 cases h2
theorem row_keep {W:World} {base size k:Nat} {e:TypeId} {v:Value} {xs:List Value} (hrow:W.ownsRow base e size v k xs) (he:(e==3 || e==9 || e==41)=false) (o:Obj) : ∀ r,v.ownBlock=some r→∃ o',(W.alloc o).heap[r]? = some o'∧keepO o'=false:=fun r er=>by
 rcases (hrow.alloc o).2 with ⟨rfl,_⟩ | ⟨g,cap,cur,rfl,_,hgb,_⟩
 ·simp[Value.ownBlock] at er
 ·obtain rfl:g=r:=by simpa [Value.ownBlock] using er
  exact⟨_,hgb,by unfold keepO;simp only[he,Bool.or_false];rfl⟩
end Go.Proofs.YtanbbnogdhnikaaGreat


namespace Go.Proofs.YtanbbnogdhnikaaGreat
open Go.RowKit
open Go.Lib hiding intOf

def ItemR (rd:Nat→Option Pg) (i:It) (v:ByteArray) (ns:List Nat):Prop :=
 (i.ov=false∧v=i.vl∧ns=[]) ∨
 (i.ov=true∧i.ln=v.size∧∃ (tx:Nat) (L:List Pg),onL 128 tx ns v=some L∧ns.head? = some i.hd∧∀ p∈L,rd p.pg=some p)
def ItemsR (rd:Nat→Option Pg):List It→List Pr→List Nat→Prop
 | [],ps,ns=>ps=[]∧ns=[]
 | i::t,ps,ns=>∃ v n1 p2 n2,ps=⟨i.ky,v⟩::p2∧ns=n1++n2∧ItemR rd i v n1∧ItemsR rd t p2 n2
def ForksR (T:Nat→List Pr→List Nat→Prop):List Fk→List Pr→List Nat→Prop
 | [],ps,ns=>ps=[]∧ns=[]
 | b::t,ps,ns=>∃ p1 p2 n1 n2,ps=p1++p2∧ns=n1++n2∧T b.rt p1 n1∧p1.head?.map (·.ky)=some b.nm∧ForksR T t p2 n2
def TreeR (rd:Nat→Option Pg):Nat→Nat→List Pr→List Nat→Prop
 | 0,_,_,_=>False
 | d+1,n,ps,ns=>∃ p ms,rd n=some p∧ns=n::ms∧((d=0∧∃ l,p.node=.lf l∧l ≠ []∧ItemsR rd l ps ms)∨∃ F,p.node=.br F∧F ≠ []∧ForksR (TreeR rd d) F ps ms)

theorem ItemR.val {s:ByteArray} {i:It} {v:ByteArray} {ns:List Nat} (h:ItemR (readAt 128 s) i v ns):valN 128 s i=some (v,ns):=by
 unfold valN
 rcases h with ⟨h1,rfl,rfl⟩ | ⟨h1,h2,tx,L,h3,h4,h5⟩
 ·rw[h1];rfl
 ·rw[h1,if_pos rfl]
  have hb:=value_back (z:=128) h3 h5 i.ln
  have hd:nthU ns 0=i.hd:=by
   cases ns with
   | nil=>simp at h4
   | cons a t=>simp at h4;rw[← h4];rfl
  rw[hd,if_pos h2.symm] at hb
  exact hb
theorem ItemsR.trav {s:ByteArray} : ∀ {l:List It} {ps:List Pr} {ns L:List Nat},ItemsR (readAt 128 s) l ps ns→(L++ns).Nodup→itemsT 128 s l L=(ps,some (L++ns))
 | [],ps,ns,L,⟨h1,h2⟩,_=>by subst h1 h2;simp[itemsT]
 | i::l,ps,ns,L,⟨v,n1,p2,n2,h1,h2,h3,h4⟩,hn=>by
  subst h1 h2
  rw[← List.append_assoc] at hn
  have h5:=visitL_ok (t:=n1) (L:=L) ((List.nodup_append.1 hn).1)
  have h6:=h4.trav hn
  simp only[itemsT,h3.val,h5,h6,List.append_assoc]
theorem ForksR.trav {T:Nat→List Pr→List Nat→Prop} {f:Nat→List Nat→Tv} (hf : ∀ n p1 n1 L,T n p1 n1→(L++n1).Nodup→f n L=(p1,some (L++n1))) : ∀ {F:List Fk} {ps:List Pr} {ns L:List Nat},ForksR T F ps ns→(L++ns).Nodup→forksT f F L=(ps,some (L++ns))
 | [],ps,ns,L,⟨h1,h2⟩,_=>by subst h1 h2;simp[forksT]
 | b::F,ps,ns,L,⟨p1,p2,n1,n2,h1,h2,h3,h4,h5⟩,hn=>by
  subst h1 h2
  rw[← List.append_assoc] at hn
  have h6:=hf _ _ _ L h3 (List.nodup_append.1 hn).1
  have h7:=ForksR.trav hf h5 hn
  simp only[forksT,h6,h7,List.append_assoc]
theorem TreeR.trav {s:ByteArray} : ∀ {d f n:Nat} {ps:List Pr} {ns L:List Nat},d≤f→TreeR (readAt 128 s) d n ps ns→(L++ns).Nodup→trav 128 s f n L=(ps,some (L++ns))
 | 0,_,_,_,_,_,_,h,_=>h.elim
 | d+1,0,_,_,_,_,hf,_,_=>by omega
 | d+1,f+1,n,ps,ns,L,hf,⟨p,ms,h1,h2,h3⟩,hn=>by
  subst h2
  have hnm:n ∉ L:=fun hm=>(List.nodup_append.1 hn).2.2 n hm n (by simp) rfl
  have hn2:((L++[n])++ms).Nodup:=by simpa using hn
  have hnode:nodeN 128 s n=p.node:=by unfold nodeN;rw[h1]
  simp only[Go.Proofs.YtanbbnogdhnikaaGreat.trav,if_neg hnm,hnode]
  rcases h3 with ⟨_,l,h4,h5,h6⟩ | ⟨F,h4,h5,h6⟩
  ·rw[h4]
   simpa using h6.trav hn2
  ·rw[h4]
   simpa using ForksR.trav (T:=TreeR (readAt 128 s) d) (fun n p1 n1 L ht hnd=>TreeR.trav (by omega) ht hnd) h6 hn2
theorem onL_yesN {tx:Nat} {ps:List Nat} {v:ByteArray} (h2:0<v.size) (h3:v.size≤4096) (h4:(partsL 128 v).length=ps.length) (h5:fineL ps=true) (h6:tx≤4611686018427387904):onL 128 tx ps v=some ((List.range ps.length).map (onPg 128 tx ps v)):=by
 unfold onL
 rw[show goodSize 128=true from rfl,decide_eq_true h2,decide_eq_true h3,decide_eq_true h4,h5,decide_eq_true h6]
 rfl
theorem runW_at {f n i:Nat} (hi:i<n) (h:f+n≤1000000):nthU (runW f n) i=f+i:=nthU_of (by unfold runW;rw[List.getElem?_map,List.getElem?_range hi];show some ((f+i)%4294967296)=_;rw[Nat.mod_eq_of_lt (by omega)])
theorem fine_run {f n:Nat} (hf:2≤f) (h:f+n≤1000000):fineL (runW f n)=true:=by
 refine fineL_iff.2 fun j hj=>?_
 rw[runW_len] at hj
 rw[runW_at hj h]
 refine⟨numB_iff.2 (by omega),fun m hm=>?_⟩
 rw[runW_at (by omega) h]
 omega
end Go.Proofs.YtanbbnogdhnikaaGreat

