/-
  Texts that the main proof rests on, put together: StructRows, Good, KitLaw, StrClone, Order, PgWords, Bytes, Bk, Ref6Find, Fk, It, Kit8, OwnW, Ref6Set, TwoRows, Kept, BkOpen. No statement is proved here.
-/
import Derived.Test.YtanbbnogdhnikaaGreatJ1
import Derived.Test.YtanbbnogdhnikaaGreatJ2
import Derived.Deep.RegionHeld3
import Derived.Deep.DrawnRows
import Derived.Laws.ResultCell
import Derived.Deep.WholeRow
import Derived.Laws.MakeOwn
import Derived.Sort.Walk0
import Derived.Lib.MinMax
import Derived.Laws.CopyRow
import Derived.Laws.AppendOwn
import Derived.Deep.CutRange
import Derived.Deep.RegionLaw
import Derived.Deep.Slices
import Derived.ChangeSame
import Derived.SizedLaws
set_option linter.unusedVariables false
set_option linter.unusedSimpArgs false
set_option maxRecDepth 300000
set_option maxHeartbeats 25600000
namespace Go.Proofs.YtanbbnogdhnikaaGreat
open Go.RowKit

def rowsOf {α:Type} (f:α→List Value) (l:List α):List Value:=l.flatMap f
section
variable {α:Type} {f:α→List Value} {k:Nat}
theorem rowsOf_length (hf : ∀ x,(f x).length=k) : ∀ l:List α,(rowsOf f l).length=l.length*k
 | []=>by simp[rowsOf]
 | x::l=>by
  have ih:=rowsOf_length hf l
  simp only[rowsOf,List.flatMap_cons,List.length_append,hf x,List.length_cons] at ih ⊢
  rw[ih,Nat.add_mul,Nat.one_mul,Nat.add_comm]
theorem rowsOf_append (l m:List α):rowsOf f (l++m)=rowsOf f l++rowsOf f m:=by simp[rowsOf]
theorem rowsOf_get (hf : ∀ x,(f x).length=k) : ∀ (l:List α) (i j:Nat) (x:α),l[i]? = some x→j<k→(rowsOf f l)[i*k+j]? = (f x)[j]?
 | [],i,j,x,h,_=>by simp at h
 | y::l,0,j,x,h,hj=>by
  simp at h
  subst h
  simp only[rowsOf,List.flatMap_cons,Nat.zero_mul,Nat.zero_add]
  rw[List.getElem?_append_left (by rw[hf];exact hj)]
 | y::l,i+1,j,x,h,hj=>by
  have ih:=rowsOf_get hf l i j x (by simpa using h) hj
  simp only[rowsOf,List.flatMap_cons] at ih ⊢
  rw[List.getElem?_append_right (by rw[hf,Nat.add_mul];omega),hf,show (i+1)*k+j-k=i*k+j by rw[Nat.add_mul];omega]
  exact ih
theorem rowsOf_drop (hf : ∀ x,(f x).length=k) : ∀ (l:List α) (n:Nat),(rowsOf f l).drop (n*k)=rowsOf f (l.drop n)
 | l,0=>by simp
 | [],n+1=>by simp[rowsOf]
 | y::l,n+1=>by
  have ih:=rowsOf_drop hf l n
  simp only[rowsOf,List.flatMap_cons,List.drop_succ_cons] at ih ⊢
  rw[Nat.add_mul,Nat.one_mul,Nat.add_comm (n*k) k,← List.drop_drop,List.drop_left' (hf y)]
  exact ih
theorem rowsOf_take (hf : ∀ x,(f x).length=k) : ∀ (l:List α) (n:Nat),(rowsOf f l).take (n*k)=rowsOf f (l.take n)
 | l,0=>by simp[rowsOf]
 | [],n+1=>by simp[rowsOf]
 | y::l,n+1=>by
  have ih:=rowsOf_take hf l n
  simp only[rowsOf,List.flatMap_cons,List.take_succ_cons] at ih ⊢
  rw[Nat.add_mul,Nat.one_mul,Nat.add_comm (n*k) k,List.take_append,hf y,List.take_of_length_le (by rw[hf y];omega),show k+n*k-k=n*k by omega,ih]
theorem row_at (hf : ∀ x,(f x).length=k) (hk:0<k) {w:World} {B n i:Nat} {A:Option Addr} {l:List α} (h:Reads w B k A n (rowsOf f l)) (hi:i<n) :
  ∃ ad x,A=some ad∧ad.block<B∧l[i]? = some x∧∀ j u,(f x)[j]? = some u→w.cell? ((ad.add (i*k)).add j)=some u:=by
 obtain⟨ad,hA,hb,hc⟩:=h.2 (by omega)
 have hl:l.length=n:=by
  have:=h.1
  rw[rowsOf_length hf] at this
  exact Nat.eq_of_mul_eq_mul_right hk this
 have hi':i<l.length:=by omega
 refine⟨ad,l[i],hA,hb,List.getElem?_eq_getElem hi',fun j u hu=>?_⟩
 have hj:j<k:=by rw[← hf l[i]];exact (List.getElem?_eq_some_iff.1 hu).1
 rw[add_add]
 exact hc _ u (by rw[rowsOf_get hf l i j l[i] (List.getElem?_eq_getElem hi') hj];exact hu)
theorem rows_len (hf : ∀ x,(f x).length=k) (hk:0<k) {w:World} {B n:Nat} {A:Option Addr} {l:List α} (h:Reads w B k A n (rowsOf f l)):l.length=n:=by
 have:=h.1
 rw[rowsOf_length hf] at this
 exact Nat.eq_of_mul_eq_mul_right hk this
theorem rows_take (hf : ∀ x,(f x).length=k) {w:World} {B n m:Nat} {A:Option Addr} {l:List α} (h:Reads w B k A n (rowsOf f l)) (hm:m≤n):Reads w B k A m (rowsOf f (l.take m)):=by
 rw[← rowsOf_take hf]
 have hnm:m*k≤n*k:=Nat.mul_le_mul_right k hm
 refine⟨by rw[List.length_take,h.1];omega,fun h0=>?_⟩
 obtain⟨ad,hA,hb,hc⟩:=h.2 (by omega)
 refine⟨ad,hA,hb,fun j u hu=>hc j u ?_⟩
 rw[List.getElem?_take] at hu
 split at hu
 ·exact hu
 ·cases hu
theorem rows_drop (hf : ∀ x,(f x).length=k) {w:World} {B n m cap:Nat} {A:Option Addr} {l:List α} (h:Reads w B k A n (rowsOf f l)) (hm:m≤n) (hc:n≤cap):Reads w B k (if cap=m then A else A.map (·.add (m*k))) (n-m) (rowsOf f (l.drop m)):=by
 rw[← rowsOf_drop hf]
 exact h.cut hm hc
end
theorem step_append_any {P:Program} {w:World} {ops:Array Oper} {o:Oper} {a:Act} {K:Act→World→Prop} {Q:Exit→Act→World→Prop} {E:Prop} (hgd:o.guard=none) (s x:Operand) (t:TypeId)
  (ho:o.op=.call { callee:=.builtin .append,args:=#[s,x],argTypes:=#[t,t] })
  (base:Nat) (e:TypeId) (i:TypeInfo) (z:Value) (size bytes:Nat) (ht:P.underlying t=some (.slice e)) (hi:P.info? e=some i) (hz:i.zero=some z)
  (hsize:i.size=size) (hby:i.bytes=bytes) (hzs:z.cells.size=size) (hsz:0<size)
  (v:Value) (n:Nat) (xs:List Value) (hs:a.eval s=v) (hown:w.ownsRow base e size v n xs)
  (B:Nat) (A:Option Addr) (m c:Nat) (news:List Value) (hx:a.eval x=.slice A m c) (hr:Reads w B size A m news) (h1 : ∀ u∈news,u.oneCell'=true)
  (h63:n+m≤maxLen) (hbytes:(n+m)*bytes≤140737488355328) (hbase:base≤w.heap.size)
  (h : ∀ v' w',w'.ownsRow base e size v' (n+m) (xs++news)→w.grownBy w' v.ownBlock→(v'.ownBlock=v.ownBlock∨v'.ownBlock=some w.heap.size)→K (a.put o.dst v') w') :
  if Region.wanted o (yielded ops a.tmps)=true then Oper.wp P o a w K Q else E:=by
 have hw:Region.wanted o (yielded ops a.tmps)=true:=by simp[Region.wanted,hgd]
 rw[if_pos hw]
 exact wp_append_any w s x t ho base e i z size bytes ht hi hz hsize hby hzs hsz v n xs hs hown B A m c news hx hr h1 h63 hbytes hbase h
end Go.Proofs.YtanbbnogdhnikaaGreat

namespace Go.Proofs.YtanbbnogdhnikaaGreat
open Go.RowKit
open Go.Lib

def goodSize (n:Int):Bool:=decide (128≤n)&&decide (n≤4096)&&n%64==0
theorem dgood_any (n:Int) (w:World) :
  Calls Tryz.prog 71 #[.int .i64 n] w fun e w'=>e=.returned (.bool (goodSize n))∧w=w':=by
 by_cases h1:128≤n
 ·by_cases h2:n≤4096
  ·have h0:0≤n:=by omega
   by_cases h3:n%64=0
   ·have h4:(n%64==0)=true:=by simpa using h3
    have HG:=Hd (show goodSize n=true by simp[goodSize,h1,h2,h3])
    clear h3
    go_enter Tryz.func71,Tryz.ntmps71
    go_wp2
    go_ret
    exact⟨by rw[HG.out];rfl,rfl⟩
   ·have h4:(n%64==0)=false:=by simpa using h3
    have HG:=Hd (show goodSize n=false by simp[goodSize,h1,h2,h4])
    clear h3
    go_enter Tryz.func71,Tryz.ntmps71
    go_wp2
    go_ret
    exact⟨by rw[HG.out];rfl,rfl⟩
  ·have HG:=Hd (show goodSize n=false by simp[goodSize,h2])
   go_enter Tryz.func71,Tryz.ntmps71
   go_wp2
   go_ret
   exact⟨by rw[HG.out];rfl,rfl⟩
 ·have HG:=Hd (show goodSize n=false by simp[goodSize,h1])
  go_enter Tryz.func71,Tryz.ntmps71
  go_wp2
  go_ret
  exact⟨by rw[HG.out];rfl,rfl⟩

theorem good_pos {size:Nat} (h:goodSize size=true):128≤size∧size≤4096:=by
 simp[goodSize] at h
 omega
theorem bytes_ext {a b:ByteArray} (h:a.data.toList=b.data.toList):a=b:=by
 apply ByteArray.ext
 rw[← Array.toArray_toList (xs:=a.data),h,Array.toArray_toList]
end Go.Proofs.YtanbbnogdhnikaaGreat

namespace Go.Proofs.YtanbbnogdhnikaaGreat
open Go.RowKit

theorem sclone_any (s:ByteArray) (w:World) (hs:s.size≤281474976710656) :
  Calls Tryz.prog 128 #[.string s] w fun e w'=>e=.returned (.string s)∧Below w.heap.size w w':=by
 go_enter Tryz.func128,Tryz.ntmps128
 go_wp2_with (go_at_call 150;refine (Tryz.stringslite_Clone _ _ hs).mono ?_;rintro e w' ⟨rfl,hb⟩)
 go_ret
 exact⟨rfl,hb⟩
end Go.Proofs.YtanbbnogdhnikaaGreat

namespace Go.Proofs.YtanbbnogdhnikaaGreat
open Go.RowKit
open Go.Lib
attribute [local go_sem ↓] Go.wp_at_zero Go.wp_at_succ

theorem wpAnyH_takeL {P:Program} {md:Region.Mode} {l:List Oper} {Q:Exit→Act→World→Prop} {S:World→Prop} {i:Nat} {oi:Oper} {v:Value} {fuel:Nat} {listed:Array Bool} {a:Act} {w:World} (hi:l[i]? = some oi)
  (hs:Region.noSelect l.toArray=true) (hf:Region.free md l.toArray listed i=true) (hr:(Region.ready md l.toArray listed).contains i=true)
  (hQ : ∀ c a w,Q (.panic c) (a.put oi.dst v) w→Q (.panic c) a w) (hy:YieldsIf P l.toArray S oi v a) (hS:S w)
  (h:wpAnyH P md l.toArray Q S fuel (listed.setIfInBounds i true) (a.put oi.dst v) w):wpAnyH P md l.toArray Q S (fuel+1) listed a w :=
 wpAnyH_take (by simpa using hi) hs hf hr hQ hy hS h
theorem AllReadyH.consL {P:Program} {md:Region.Mode} {l:List Oper} {Q:Exit→Act→World→Prop} {S:World→Prop} {fuel:Nat} {listed:Array Bool} {a:Act} {w:World} {i:Nat} {o:Oper} {rs:List Nat} (ho:l[i]? = some o)
  (h : ∀ K':Act→World→Prop,Shut (∀ a w,S w→(S w→wpAnyH P md l.toArray Q S fuel (listed.setIfInBounds i true) a w)→K' a w)→if Region.wanted o (yielded l.toArray a.tmps)=true then Oper.wp P o a w K' Q else K' (a.put o.dst undef) w)
  (hs:AllReadyH P md l.toArray Q S fuel listed a w rs):AllReadyH P md l.toArray Q S fuel listed a w (i::rs) :=
 AllReadyH.cons (by simpa using ho) h hs

theorem tkL {P : Program} {md : Region.Mode} {l : List Oper} {Q : Exit → Act → World → Prop} {S : World → Prop} {i : Nat} {oi : Oper} {v : Value} {fuel : Nat} {listed : Array Bool} {a : Act} {w : World}
    (hy : ∀ w', S w' → (execOp a.eval oi).run P w' = .ok (.value v) w') (hS : S w) (h : wpAnyH P md l.toArray Q S fuel (listed.setIfInBounds i true) (a.put oi.dst v) w)
    (hi : l[i]? = some oi := by rfl) (hs : Region.noSelect l.toArray = true := by kernel_rfl) (hf : Region.free md l.toArray listed i = true := by kernel_rfl) (hr : (Region.ready md l.toArray listed).contains i = true := by kernel_rfl)
    (hQ : ∀ c a w, Q (.panic c) (a.put oi.dst v) w → Q (.panic c) a w := by exact fun _ _ _ h => h) (hw : Region.wanted oi (yielded l.toArray a.tmps) = true := by rfl) : wpAnyH P md l.toArray Q S (fuel + 1) listed a w :=
  wpAnyH_takeL hi hs hf hr hQ (.inl ⟨hw, hy⟩) hS h
theorem tkA {P : Program} {md : Region.Mode} {l : List Oper} {Q : Exit → Act → World → Prop} {S : World → Prop} {i : Nat} {oi : Oper} {v : Value} {fuel : Nat} {listed : Array Bool} {a : Act} {w : World}
    (h : wpAnyH P md l.toArray Q S fuel (listed.setIfInBounds i true) (a.put oi.dst v) w)
    (hi : l[i]? = some oi := by rfl) (hy : ∀ w', S w' → (execOp a.eval oi).run P w' = .ok (.value v) w' := by (intro wz hSz; (try dsimp only at hSz); go_simp; (try with_reducible rfl))) (hS : S w := by first | exact hHeld | trivial | assumption)
    (hs : Region.noSelect l.toArray = true := by kernel_rfl) (hf : Region.free md l.toArray listed i = true := by kernel_rfl) (hr : (Region.ready md l.toArray listed).contains i = true := by kernel_rfl)
    (hQ : ∀ c a w, Q (.panic c) (a.put oi.dst v) w → Q (.panic c) a w := by exact fun _ _ _ h => h) (hw : Region.wanted oi (yielded l.toArray a.tmps) = true := by rfl) : wpAnyH P md l.toArray Q S (fuel + 1) listed a w :=
  wpAnyH_takeL hi hs hf hr hQ (.inl ⟨hw, hy⟩) hS h
theorem tkU {P : Program} {md : Region.Mode} {l : List Oper} {Q : Exit → Act → World → Prop} {S : World → Prop} {i : Nat} {oi : Oper} {fuel : Nat} {listed : Array Bool} {a : Act} {w : World}
    (h : wpAnyH P md l.toArray Q S fuel (listed.setIfInBounds i true) (a.put oi.dst undef) w)
    (hi : l[i]? = some oi := by rfl) (hS : S w := by first | exact hHeld | trivial | assumption)
    (hs : Region.noSelect l.toArray = true := by kernel_rfl) (hf : Region.free md l.toArray listed i = true := by kernel_rfl) (hr : (Region.ready md l.toArray listed).contains i = true := by kernel_rfl)
    (hQ : ∀ c a w, Q (.panic c) (a.put oi.dst undef) w → Q (.panic c) a w := by exact fun _ _ _ h => h) (hw : Region.wanted oi (yielded l.toArray a.tmps) = false := by rfl) : wpAnyH P md l.toArray Q S (fuel + 1) listed a w :=
  wpAnyH_takeL hi hs hf hr hQ (.inr ⟨hw, rfl⟩) hS h
theorem tkC {P : Program} {md : Region.Mode} {l : List Oper} {Q : Exit → Act → World → Prop} {S : World → Prop} {fuel : Nat} {listed : Array Bool} {a : Act} {w : World} {i : Nat} {o : Oper}
    (h : ∀ K' : Act → World → Prop, Shut (∀ a w, S w → (S w → wpAnyH P md l.toArray Q S fuel (listed.setIfInBounds i true) a w) → K' a w) → if Region.wanted o (yielded l.toArray a.tmps) = true then Oper.wp P o a w K' Q else K' (a.put o.dst undef) w) (ho : l[i]? = some o := by rfl) : AllReadyH P md l.toArray Q S fuel listed a w [i] :=
  AllReadyH.consL ho h AllReadyH.nil
theorem tkP : (∀ (t : Array Value) (ds : List Deferred) (d : Tmp) (v : Value), Act.put ⟨t, ds⟩ (some d) v = ⟨t.setIfInBounds d v, ds⟩) ∧ (∀ (a : Act) (v : Value), Act.put a none v = a) ∧ (∀ (l : List Value) (i : Nat) (v : Value), l.toArray.setIfInBounds i v = (l.set i v).toArray) ∧ (∀ (a b : Value) (l : List Value), (a :: l).set 0 b = b :: l) ∧ (∀ (a b : Value) (l : List Value) (i : Nat), (a :: l).set (i + 1) b = a :: l.set i b) :=
  ⟨fun _ _ _ _ => rfl, fun _ _ => rfl, fun l i v => by simp, fun _ _ _ => rfl, fun _ _ _ _ => rfl⟩
end Go.Proofs.YtanbbnogdhnikaaGreat

namespace Go.Proofs.YtanbbnogdhnikaaGreat
open Go.RowKit
open Go.Lib

theorem pg_cells {w:World} {g:Nat} {a0 a1 a2 a3 a4 a5:Value} (h:Blk w g 41 #[a0,a1,a2,a3,a4,a5]):w.cell? ⟨g,0,none⟩=some a0∧w.cell? ⟨g,1,none⟩=some a1∧w.cell? ⟨g,2,none⟩=some a2∧w.cell? ⟨g,3,none⟩=some a3∧w.cell? ⟨g,4,none⟩=some a4∧w.cell? ⟨g,5,none⟩=some a5:=⟨h.cell 0,h.cell 1,h.cell 2,h.cell 3,h.cell 4,h.cell 5⟩
theorem six_far {w:World} {g b:Nat} {t:TypeId} {cs:Array Value} {a0 a1 a2 a3 a4 a5:Value} (h:Blk w g t cs) (hne:g≠b):Blk ((((((w.setCell ⟨b,0,none⟩ a0).setCell ⟨b,1,none⟩ a1).setCell ⟨b,2,none⟩ a2).setCell ⟨b,3,none⟩ a3).setCell ⟨b,4,none⟩ a4).setCell ⟨b,5,none⟩ a5) g t cs :=
 (((((h.far hne a0).far hne a1).far hne a2).far hne a3).far hne a4).far hne a5
theorem six_at {w:World} {b:Nat} {t:TypeId} {z0 z1 z2 z3 z4 z5 a0 a1 a2 a3 a4 a5:Value} (h:Blk w b t #[z0,z1,z2,z3,z4,z5]):Blk ((((((w.setCell ⟨b,0,none⟩ a0).setCell ⟨b,1,none⟩ a1).setCell ⟨b,2,none⟩ a2).setCell ⟨b,3,none⟩ a3).setCell ⟨b,4,none⟩ a4).setCell ⟨b,5,none⟩ a5) b t #[a0,a1,a2,a3,a4,a5] :=
 (((((h.set_ 0 a0).set_ 1 a1).set_ 2 a2).set_ 3 a3).set_ 4 a4).set_ 5 a5
theorem six_below {w0 w:World} {B b:Nat} {a0 a1 a2 a3 a4 a5:Value} (h:Below B w0 w) (hb:B≤b):Below B w0 ((((((w.setCell ⟨b,0,none⟩ a0).setCell ⟨b,1,none⟩ a1).setCell ⟨b,2,none⟩ a2).setCell ⟨b,3,none⟩ a3).setCell ⟨b,4,none⟩ a4).setCell ⟨b,5,none⟩ a5) :=
 (((((h.setCell hb a0).setCell hb a1).setCell hb a2).setCell hb a3).setCell hb a4).setCell hb a5
theorem lt_alloc {n:Nat} {w:World} (h:n<w.heap.size) (o:Obj):n<(w.alloc o).heap.size:=by simp;omega
theorem new_below {w w2:World} {cs:Array Value} {t:TypeId} (hb:Below (w.alloc (.cells cs t)).heap.size (w.alloc (.cells cs t)) w2):Blk w2 w.heap.size t cs:=(Blk.new w t cs).below hb (by simp)

theorem infoPg:(Tryz.prog.info? 41).map (fun i=>(i.zero,i.size))=some (some (.agg #[.int .i64 0,.int .i64 0,.int .u32 0,.int .u32 0,.int .u64 0,.string .empty]),6):=by kernel_rfl

theorem read_row {fn:Func} {p u:Tmp} {ty:TypeId} (h:fn.results=#[.cell p ty,.tmp u]) (tmps:Array Value) (P:Program) (w:World) (g:Nat) (cs:Array Value)
  (hp:tmps.getD p undef=.pointer (some ⟨g,0,none⟩)) (hl:(loadVar ty ⟨g,0,none⟩).run P w=.ok (.agg cs) w) :
  (results fn tmps).run P w=.ok (.tuple #[.agg cs,tmps.getD u undef]) w:=by
 rw[results_cell_tmp h,hp]
 simp[asAddr,hl]
theorem load_page {w:World} {g:Nat} {a0 a1 a2 a3 a4 a5:Value} (h:Blk w g 41 #[a0,a1,a2,a3,a4,a5]):(loadVar 41 ⟨g,0,none⟩).run Tryz.prog w=.ok (.agg #[a0,a1,a2,a3,a4,a5]) w:=by
 obtain⟨hz,hi⟩:=zero_of_info infoPg
 exact run_loadVar_row w g 41 41 #[a0,a1,a2,a3,a4,a5] (0,0) _ h Tryz.underlying41 rfl hi

end Go.Proofs.YtanbbnogdhnikaaGreat

namespace Go.Proofs.YtanbbnogdhnikaaGreat
open Go.RowKit Go.Lib

def MRow (w:World) (g:Nat) (l:List UInt8):Prop:=g<w.heap.size∧∀ j b,l[j]? = some b→w.cell? ⟨g,j,none⟩=some (.int .u8 (b.toNat:Int))∧w.frozen? ⟨g,j,none⟩=false
section
variable {w w':World} {g:Nat} {l:List UInt8}
theorem MRow.drew (h:MRow w g l):MRow w.drew g l:=h
theorem MRow.reads (h:MRow w g l):Reads w w.heap.size 1 (some ⟨g,0,none⟩) l.length (bcells l):=by
 refine⟨by rw[bcells_length,Nat.mul_one],fun _=>⟨_,rfl,h.1,fun j u hu=>?_⟩⟩
 unfold bcells at hu
 rw[List.getElem?_map] at hu
 obtain⟨b,hb,rfl⟩:=Option.map_eq_some_iff.1 hu
 have e:(⟨g,0,none⟩:Addr).add j=⟨g,j,none⟩:=by unfold Addr.add;split<;>simp_all
 rw[e]
 exact (h.2 j b hb).1
theorem MRow.of_bytes (w:World) (e:TypeId) (s:ByteArray) (cap:Nat):MRow (w.drew.alloc (.cells (bytesRow s cap) e ((bytesRow s cap).size,(bytesRow s cap).size+1))) w.heap.size s.data.toList:=by
 refine⟨by simp,fun j b hj=>?_⟩
 have hj':j<s.data.size:=by simpa using (List.getElem?_eq_some_iff.1 hj).1
 have hw:w.heap.size=w.drew.heap.size:=rfl
 refine⟨?_,?_⟩
 ·rw[hw,World.cell?_alloc_mark,bytesRow_at _ _ _ hj']
  rw[List.getElem?_eq_getElem (by simpa using hj')] at hj
  injection hj with hj
  rw[← hj];rfl
 ·rw[hw,World.frozen?_alloc_mark]
  have hd:s.data.size=s.size:=rfl
  have:j<(bytesRow s cap).size:=by unfold bytesRow;simp;omega
  simp;omega
theorem MRow.of_cells (w:World) (t:TypeId) (l:List UInt8) (cs:Array Value) (h:cs.toList=bcells l):MRow (w.alloc (.cells cs t)) w.heap.size l:=by
 refine⟨by simp,fun j b hj=>⟨?_,frozen_of_row _ _ _ cs t ?_⟩⟩
 ·rw[World.cell?_alloc_mark,← Array.getElem?_toList,h,bcells,List.getElem?_map,hj];rfl
 ·exact heap_alloc_new _ _
end
theorem run_make_bytes {P:Program} (t e:TypeId) (ht:P.underlying t=some (.slice e)) (hi:(P.info? e).map (fun i=>(i.zero,i.size,i.bytes))=some (some (.int .u8 0),1,1)) (n:Nat) (hn:n≤281474976710656) (w:World) :
  (Instr.makeSlice t (.int .i64 (n:Int)) (.int .i64 (n:Int))).run P w=.ok (.slice (some ⟨w.heap.size,0,none⟩) n n) (w.alloc (.cells (madeCells #[.int .u8 0] n) e)):=by
 obtain⟨i,hi0,hz,hs,hb⟩:=info_parts hi
 have hr:=run_make (P:=P) w t e i _ ht hi0 hz .i64 .i64 n n (by omega) (by omega) (by rw[hb];omega) (by omega)
 simp only[Int.toNat_natCast] at hr
 rw[hs,Nat.mul_one] at hr
 exact hr
theorem MRow.of_made (w:World) (t:TypeId) (n:Nat):MRow (w.alloc (.cells (madeCells #[.int .u8 0] n) t)) w.heap.size (List.replicate n 0) :=
 MRow.of_cells w t _ _ (by rw[toList_madeCells_one];simp[bcells])
def zb (n:Nat):ByteArray:=⟨(List.replicate n (0:UInt8)).toArray⟩
theorem zb_size (n:Nat):(zb n).size=n:=by show (List.replicate n (0:UInt8)).toArray.size=n;simp
theorem zb_list (n:Nat):(zb n).data.toList=List.replicate n 0:=by simp[zb]
theorem wrap64_nat (k:Nat) (h:k<9223372036854775808):wrap64 (k:Int)=(k:Int):=by unfold wrap64;omega
theorem i64_nat (k:Nat) (h:k<9223372036854775808):IntKind.i64.wrap (k:Int)=(k:Int):=by rw[IntKind.wrap_i64];omega
end Go.Proofs.YtanbbnogdhnikaaGreat

namespace Go.Proofs.YtanbbnogdhnikaaGreat
open Go.RowKit

structure Bk where
 nm:ByteArray
 rt:Nat
 ks:Int
end Go.Proofs.YtanbbnogdhnikaaGreat

namespace Go.Proofs.YtanbbnogdhnikaaGreat
open Go.RowKit
open Go.Lib hiding intOf
attribute [local go_sem ↓] Go.wp_at_zero Go.wp_at_succ

end Go.Proofs.YtanbbnogdhnikaaGreat

namespace Go.Proofs.YtanbbnogdhnikaaGreat
open Go.RowKit

theorem cells2 {w:World} {p:Addr} {v0 v1:Value} (h : ∀ j u,([v0,v1]:List Value)[j]? = some u→w.cell? (p.add j)=some u):w.cell? p=some v0∧w.cell? ⟨p.block,p.off+1,none⟩=some v1:=by
 have e:p.add 1=⟨p.block,p.off+1,none⟩:=by unfold Addr.add;rw[if_neg (by omega)]
 refine⟨h 0 _ rfl,?_⟩
 rw[← e]
 exact h 1 _ rfl
structure Fk where
 nm:ByteArray
 rt:Nat
def Fk.cells (b:Fk):List Value:=[.string b.nm,.int .u32 b.rt]
theorem Fk.cells_len (b:Fk):b.cells.length=2:=rfl
theorem Fk.ext_ {a b:Fk} (h1:a.nm=b.nm) (h2:a.rt=b.rt):a=b:=by cases a;cases b;simp_all
def fkc (l:List Fk):List Value:=rowsOf Fk.cells l
def FkAt (w:World) (p:Addr) (b:Fk):Prop:=w.cell? p=some (.string b.nm)∧w.cell? ⟨p.block,p.off+1,none⟩=some (.int .u32 b.rt)
theorem FkAt.below {w w':World} {B:Nat} {p:Addr} {b:Fk} (h:FkAt w p b) (hb:Below B w w') (hp:p.block<B):FkAt w' p b :=
 ⟨(hb.cell (p:=p) hp).trans h.1,(hb.cell (p:=⟨p.block,p.off+1,none⟩) hp).trans h.2⟩
theorem fk_at {w:World} {B n i:Nat} {A:Option Addr} {l:List Fk} (h:Reads w B 2 A n (fkc l)) (hi:i<n) :
  ∃ ad x,A=some ad∧ad.block<B∧(ad.add (i*2)).block<B∧l[i]? = some x∧FkAt w (ad.add (i*2)) x:=by
 obtain⟨ad,x,hA,hb,hx,hc⟩:=row_at (fun b=>Fk.cells_len b) (by decide) h hi
 exact⟨ad,x,hA,hb,by rw[block_add];exact hb,hx,cells2 hc⟩
theorem fk_len {w:World} {B n:Nat} {A:Option Addr} {l:List Fk} (h:Reads w B 2 A n (fkc l)):l.length=n:=rows_len (fun b=>Fk.cells_len b) (by decide) h
theorem fkc_snoc (l:List Fk) (b:Fk):fkc l++b.cells=fkc (l++[b]):=by simp[fkc,rowsOf]
theorem fkc_append (l m:List Fk):fkc (l++m)=fkc l++fkc m:=rowsOf_append l m

theorem cells5 {w:World} {p:Addr} {v0 v1 v2 v3 v4:Value} (h : ∀ j u,([v0,v1,v2,v3,v4]:List Value)[j]? = some u→w.cell? (p.add j)=some u) :
  w.cell? p=some v0∧w.cell? ⟨p.block,p.off+1,none⟩=some v1∧w.cell? ⟨p.block,p.off+2,none⟩=some v2∧w.cell? ⟨p.block,p.off+3,none⟩=some v3∧w.cell? ⟨p.block,p.off+4,none⟩=some v4:=by
 have e : ∀ k,0<k→p.add k=⟨p.block,p.off+k,none⟩:=fun k hk=>by unfold Addr.add;rw[if_neg (by omega)]
 refine⟨h 0 _ rfl,?_,?_,?_,?_⟩
 ·rw[← e 1 (by decide)];exact h 1 _ rfl
 ·rw[← e 2 (by decide)];exact h 2 _ rfl
 ·rw[← e 3 (by decide)];exact h 3 _ rfl
 ·rw[← e 4 (by decide)];exact h 4 _ rfl
structure It where
 ky:ByteArray
 vl:ByteArray
 ov:Bool
 ln:Int
 hd:Nat
def It.cells (b:It):List Value:=[.string b.ky,.string b.vl,.bool b.ov,.int .i64 b.ln,.int .u32 b.hd]
theorem It.cells_len (b:It):b.cells.length=5:=rfl
theorem It.ext_ {a b:It} (h1:a.ky=b.ky) (h2:a.vl=b.vl) (h3:a.ov=b.ov) (h4:a.ln=b.ln) (h5:a.hd=b.hd):a=b:=by cases a;cases b;simp_all
def itc (l:List It):List Value:=rowsOf It.cells l
def ItAt (w:World) (p:Addr) (b:It):Prop:=w.cell? p=some (.string b.ky)∧w.cell? ⟨p.block,p.off+1,none⟩=some (.string b.vl)∧w.cell? ⟨p.block,p.off+2,none⟩=some (.bool b.ov)∧w.cell? ⟨p.block,p.off+3,none⟩=some (.int .i64 b.ln)∧w.cell? ⟨p.block,p.off+4,none⟩=some (.int .u32 b.hd)
theorem ItAt.below {w w':World} {B:Nat} {p:Addr} {b:It} (h:ItAt w p b) (hb:Below B w w') (hp:p.block<B):ItAt w' p b :=
 ⟨(hb.cell (p:=p) hp).trans h.1,(hb.cell (p:=⟨p.block,p.off+1,none⟩) hp).trans h.2.1,(hb.cell (p:=⟨p.block,p.off+2,none⟩) hp).trans h.2.2.1,(hb.cell (p:=⟨p.block,p.off+3,none⟩) hp).trans h.2.2.2.1,(hb.cell (p:=⟨p.block,p.off+4,none⟩) hp).trans h.2.2.2.2⟩
theorem it_at {w:World} {B n i:Nat} {A:Option Addr} {l:List It} (h:Reads w B 5 A n (itc l)) (hi:i<n) :
  ∃ ad x,A=some ad∧ad.block<B∧(ad.add (i*5)).block<B∧l[i]? = some x∧ItAt w (ad.add (i*5)) x:=by
 obtain⟨ad,x,hA,hb,hx,hc⟩:=row_at (fun b=>It.cells_len b) (by decide) h hi
 exact⟨ad,x,hA,hb,by rw[block_add];exact hb,hx,cells5 hc⟩
theorem it_len {w:World} {B n:Nat} {A:Option Addr} {l:List It} (h:Reads w B 5 A n (itc l)):l.length=n:=rows_len (fun b=>It.cells_len b) (by decide) h
theorem itc_snoc (l:List It) (b:It):itc l++b.cells=itc (l++[b]):=by simp[itc,rowsOf]
theorem itc_append (l m:List It):itc (l++m)=itc l++itc m:=rowsOf_append l m
end Go.Proofs.YtanbbnogdhnikaaGreat

namespace Go.Proofs.YtanbbnogdhnikaaGreat
open Go.RowKit
open Go.Lib hiding intOf
attribute [local go_sem ↓] Go.wp_at_zero Go.wp_at_succ

def NearI (l:List It):Prop:=∀ b,b∈l→b.ky.size≤140737488351232∧b.vl.size≤140737488351232
end Go.Proofs.YtanbbnogdhnikaaGreat

namespace Go.Proofs.YtanbbnogdhnikaaGreat
open Go.RowKit
open Go.Lib

theorem grown_trans {a b c:World} {r:Option Nat} (h1:a.grownBy b r) (h2:b.grownBy c r):a.grownBy c r :=
 ⟨h2.os.trans h1.os,h2.tape.trans h1.tape,h2.output.trans h1.output,Nat.le_trans h1.size h2.size,fun k hk hne=>(h2.block k (Nat.lt_of_lt_of_le hk h1.size) hne).trans (h1.block k hk hne)⟩
theorem grown_drew (w:World) (r:Option Nat):w.grownBy w.drew r:=⟨rfl,rfl,rfl,Nat.le_refl _,fun _ _ _=>rfl⟩
theorem grown_of_below {w w':World} (h:Below w.heap.size w w'):w.grownBy w' none:=⟨h.os,h.tape,h.output,h.size,fun k hk _=>h.block k hk⟩
theorem own_below {w w':World} {base:Nat} {e:TypeId} {size:Nat} {v:Value} {n:Nat} {xs:List Value} (ho:w.ownsRow base e size v n xs) (h:Below w.heap.size w w'):w'.ownsRow base e size v n xs :=
 ho.kept (grown_of_below h) (by rcases v.ownBlock with _ | g<;>simp)
theorem own_type {w:World} {base:Nat} {e:TypeId} {size:Nat} {v:Value} {n:Nat} {xs:List Value} (ho:w.ownsRow base e size v n xs) {g:Nat} {t:TypeId} {cs:Array Value} (hB:Blk w g t cs) (hne:t≠e):some g≠v.ownBlock:=by
 rcases ho.2 with ⟨rfl,_⟩ | ⟨g',cap,cur,rfl,_,hg',_⟩
 ·simp[Value.ownBlock]
 ·intro h
  simp[Value.ownBlock] at h
  exact Blk.ne_ hB hg' hne h
theorem grown_cell {w w':World} {r:Option Nat} (h:w.grownBy w' r) {p:Addr} (hp:w.heap.size≤p.block) (v:Value):w.grownBy (w'.setCell p v) r :=
 ⟨h.os,h.tape,h.output,by simpa [World.setCell] using h.size,fun k hk hne=>(Below.heap_setCell _ _ _ _ (by omega)).trans (h.block k hk hne)⟩
theorem own_apart {w:World} {base:Nat} {e:TypeId} {size:Nat} {v:Value} {n:Nat} {xs:List Value} (h:w.ownsRow base e size v n xs) {g:Nat} (hg:g<base):v.ownBlock=none∨v.ownBlock≠some g:=by
 rcases hv:v.ownBlock with _ | k
 ·exact .inl rfl
 ·refine .inr fun he=>?_
  injection he with he
  have:=(h.lt k hv).1
  omega
theorem own_ne {w:World} {base:Nat} {e:TypeId} {size:Nat} {v:Value} {n:Nat} {xs:List Value} (h:w.ownsRow base e size v n xs) {g:Nat} (hg:g<base):some g≠v.ownBlock:=fun he=>by
 have:=(h.lt g he.symm).1
 omega
theorem list_one {l:List UInt8} (h:1≤l.length) : ∃ b t,l=b::t:=by
 cases l with
 | nil=>simp at h
 | cons b t=>exact⟨b,t,rfl⟩
theorem own_base {w:World} {base:Nat} {e:TypeId} {size:Nat} {v:Value} {n:Nat} {xs:List Value} (h:w.ownsRow base e size v n xs) : ∀ g,v.ownBlock=some g→base≤g:=by
 rcases h.2 with ⟨rfl,rfl⟩ | ⟨g',cap,cur,rfl,hb,_⟩
 ·simp[Value.ownBlock]
 ·intro g hg
  simp[Value.ownBlock] at hg
  omega
theorem own_low {w:World} {base B:Nat} {e:TypeId} {size:Nat} {v:Value} {n:Nat} {xs:List Value} (h:w.ownsRow base e size v n xs) (hB:B≤base):w.ownsRow B e size v n xs:=by
 refine⟨h.1,?_⟩
 rcases h.2 with h2 | ⟨g',cap,cur,h1,hb,h3⟩
 ·exact Or.inl h2
 ·exact Or.inr ⟨g',cap,cur,h1,Nat.le_trans hB hb,h3⟩
end Go.Proofs.YtanbbnogdhnikaaGreat

namespace Go.Proofs.YtanbbnogdhnikaaGreat
open Go.RowKit
open Go.Lib hiding intOf
attribute [local go_sem ↓] Go.wp_at_zero Go.wp_at_succ

theorem reads_own {w:World} {g k n:Nat} {t:TypeId} {cs:Array Value} (h:Blk w g t cs) (hs:cs.size=n*k):Reads w (g+1) k (some ⟨g,0,none⟩) n cs.toList:=by
 refine⟨by simp[hs],fun _=>⟨_,rfl,Nat.lt_succ_self _,fun j u hu=>?_⟩⟩
 have e:(⟨g,0,none⟩:Addr).add j=⟨g,j,none⟩:=by unfold Addr.add;split<;>simp_all
 rw[e,h.cell j]
 simpa using hu
end Go.Proofs.YtanbbnogdhnikaaGreat

namespace Go.Proofs.YtanbbnogdhnikaaGreat
open Go.RowKit
open Go.Lib

def Apart (v b:Value):Prop:=∀ g,v.ownBlock=some g→b.ownBlock≠some g
theorem Apart.keeps {w w':World} {base:Nat} {e:TypeId} {size:Nat} {v b:Value} {m:Nat} {ys:List Value} (h:Apart v b) (hb:w.ownsRow base e size b m ys) (hg:w.grownBy w' v.ownBlock):w'.ownsRow base e size b m ys:=by
 refine hb.kept hg ?_
 rcases hk:b.ownBlock with _ | g
 ·exact .inl rfl
 ·refine .inr fun he=>?_
  exact h g he.symm hk
end Go.Proofs.YtanbbnogdhnikaaGreat

namespace Go.Proofs.YtanbbnogdhnikaaGreat
open Go.RowKit Go.Lib

structure Kept (F:Nat→Prop) (w w':World):Prop where
 os:w'.os=w.os
 tape:w'.tape=w.tape
 output:w'.output=w.output
 size:w.heap.size≤w'.heap.size
 block : ∀ k,k<w.heap.size→¬ F k→w'.heap[k]? = w.heap[k]?

section
variable {F G:Nat→Prop} {a w w':World} {B g:Nat} {t:TypeId} {cs:Array Value}
theorem Kept.refl (F:Nat→Prop) (w:World):Kept F w w:=⟨rfl,rfl,rfl,Nat.le_refl _,fun _ _ _=>rfl⟩
theorem Kept.trans (h:Kept F a w) (k:Kept F w w'):Kept F a w' :=
 ⟨k.os.trans h.os,k.tape.trans h.tape,k.output.trans h.output,Nat.le_trans h.size k.size,fun i hi hn=>(k.block i (Nat.lt_of_lt_of_le hi h.size) hn).trans (h.block i hi hn)⟩
theorem Kept.then (h:Kept F a w) (k:Kept G w w') (hG : ∀ i,G i→F i∨a.heap.size≤i):Kept F a w' :=
 ⟨k.os.trans h.os,k.tape.trans h.tape,k.output.trans h.output,Nat.le_trans h.size k.size,fun i hi hn =>
  (k.block i (Nat.lt_of_lt_of_le hi h.size) (fun hg=>by rcases hG i hg with h1 | h1;exact hn h1;omega)).trans (h.block i hi hn)⟩
theorem Kept.mono (h:Kept F w w') (hG : ∀ i,F i→G i):Kept G w w':=⟨h.os,h.tape,h.output,h.size,fun i hi hn=>h.block i hi fun hf=>hn (hG i hf)⟩
theorem Kept.of_below (h:Below B w w') (hF : ∀ k,B≤k→k<w.heap.size→F k):Kept F w w' :=
 ⟨h.os,h.tape,h.output,h.size,fun i hi hn=>h.block i (by rcases Nat.lt_or_ge i B with h1 | h1;exact h1;exact absurd (hF i h1 hi) hn)⟩
theorem Kept.of_new (h:Below w.heap.size w w'):Kept F w w':=Kept.of_below h fun k h1 h2=>by omega
theorem Kept.of_grown {row:Option Nat} (h:w.grownBy w' row) (hF : ∀ k,row=some k→F k):Kept F w w' :=
 ⟨h.os,h.tape,h.output,h.size,fun i hi hn=>h.block i hi fun e=>hn (hF i e.symm)⟩
theorem Kept.drew (h:Kept F a w):Kept F a w.drew:=⟨h.os,h.tape,h.output,h.size,h.block⟩
theorem Kept.alloc (h:Kept F a w) (o:Obj):Kept F a (w.alloc o):=h.trans (Kept.of_new ((Below.refl _ _).alloc (Nat.le_refl _) o))
theorem Kept.setCell (h:Kept F a w) {p:Addr} (hp:F p.block∨a.heap.size≤p.block) (u:Value):Kept F a (w.setCell p u) :=
 h.then (G:=fun k=>k=p.block) ⟨rfl,rfl,rfl,by simp[World.setCell],fun k hk hn=>Below.heap_setCell _ _ _ _ hn⟩ (by rintro i rfl;exact hp)
theorem Kept.grown (h:Kept F a w) {row:Option Nat} (hg:w.grownBy w' row) (hr : ∀ k,row=some k→F k∨a.heap.size≤k):Kept F a w' :=
 h.then (G:=fun k=>row=some k) (Kept.of_grown hg fun k e=>e) hr
theorem Kept.below (h:Kept F w w') (hF : ∀ k,F k→B≤k) (hB:B≤w.heap.size):Below B w w' :=
 ⟨h.os,h.tape,h.output,h.size,fun k hk=>h.block k (by omega) fun hf=>by have:=hF k hf;omega⟩
theorem Kept.cell (h:Kept F w w') {p:Addr} (hp:p.block<w.heap.size) (hn : ¬ F p.block):w'.cell? p=w.cell? p:=World.cell?_of_block (h.block _ hp hn)
theorem Kept.blk (h:Kept F w w') (hb:Blk w g t cs) (hn : ¬ F g):Blk w' g t cs:=(h.block g hb.lt hn).trans hb
theorem Kept.own (h:Kept F w w') {base size n:Nat} {e:TypeId} {v:Value} {xs:List Value} (ho:w.ownsRow base e size v n xs) (hn : ∀ k,v.ownBlock=some k→¬ F k):w'.ownsRow base e size v n xs:=by
 refine⟨ho.1,?_⟩
 rcases ho.2 with h0 | ⟨g,cap,cur,rfl,hb,hh,h1,h2,h3,h4⟩
 ·exact .inl h0
 ·have hlt:g<w.heap.size:=(ho.lt g rfl).2
  exact .inr ⟨g,cap,cur,rfl,hb,(h.block g hlt (hn g rfl)).trans hh,h1,h2,h3,h4⟩
theorem Kept.reads (h:Kept F w w') {B size n:Nat} {A:Option Addr} {xs:List Value} (hr:Reads w B size A n xs) (hB:B≤w.heap.size) (hn : ∀ a,A=some a→¬ F a.block):Reads w' B size A n xs:=by
 refine⟨hr.1,fun h0=>?_⟩
 obtain⟨ad,e,hb,hc⟩:=hr.2 h0
 exact⟨ad,e,hb,fun j u hu=>(h.cell (p:=ad.add j) (by rw[block_add];omega) (by rw[block_add];exact hn ad e)).trans (hc j u hu)⟩
end

theorem own_ne_blk {w:World} {base size n g:Nat} {e t:TypeId} {v:Value} {xs:List Value} {cs:Array Value} (ho:w.ownsRow base e size v n xs) (hb:Blk w g t cs) (hne:e≠t):v.ownBlock≠some g:=by
 rcases ho.2 with ⟨rfl,_⟩ | ⟨g',cap,cur,rfl,_,hh,_⟩
 ·simp[Value.ownBlock]
 ·intro he
  have:g'=g:=by simpa [Value.ownBlock] using he
  subst this
  exact Blk.ne_ (t:=e) hh hb hne rfl
theorem own_ne_own {w:World} {base base' size size' n n' g:Nat} {e e':TypeId} {v v':Value} {xs xs':List Value} (ho:w.ownsRow base e size v n xs) (ho':w.ownsRow base' e' size' v' n' xs') (hne:e≠e') (hg:v.ownBlock=some g):v'.ownBlock≠some g:=by
 rcases ho.2 with ⟨rfl,_⟩ | ⟨g',cap,cur,rfl,_,hh,_⟩
 ·simp[Value.ownBlock] at hg
 ·have:g'=g:=by simpa [Value.ownBlock] using hg
  subst this
  exact own_ne_blk ho' (t:=e) hh (fun h=>hne h.symm)
end Go.Proofs.YtanbbnogdhnikaaGreat

namespace Go.Proofs.YtanbbnogdhnikaaGreat
open Go.RowKit Go.ChangeShapes Go.WideShapes
open Go.Deep (open_slice choose_lt)

instance:Inhabited Bk:=⟨⟨⟨#[]⟩,0,0⟩⟩
theorem lit_u32' {z:Int} (h:(Lit.int .u32 z).wf=true):0≤z∧z≤4294967295:=by
 simp[Lit.wf,IntKind.min,IntKind.max,IntKind.signed,IntKind.bits] at h
 omega
section
variable {H:Type} {enc:TypeId×Value→H} {w:World} {base:Nat} {spare:Nat→Bool} {held:Bool}
end
end Go.Proofs.YtanbbnogdhnikaaGreat

