/-
  Contract of the statements' all: what All, or From, tells. (Written by wip/tools/gen_cullaw.py.)
-/
import Derived.Test.YtanbbnogdhnikaaGreatJ45
set_option linter.unusedVariables false
set_option linter.unusedSimpArgs false
set_option maxRecDepth 300000
set_option maxHeartbeats 25600000
namespace Go.Proofs.YtanbbnogdhnikaaGreat
open Go.RowKit Go.Shelf
attribute [local go_sem] Oper.semAt_some
attribute [local go_sem ↓] Go.wp_at_zero Go.wp_at_succ

theorem infoPrz:(Tryz.prog.info? 55).map (fun i=>(i.zero,i.size))=some (some (.agg #[.string .empty,.string .empty]),2):=by kernel_rfl
theorem infoPr:(Tryz.prog.info? 55).map (fun i=>(i.zero,i.size,i.bytes))=some (some (.agg #[.string .empty,.string .empty]),2,32):=by kernel_rfl
theorem seq_nil (f:Fn) (a b:Array Value) (w:World):(binOp .eql 95 (.func f a b) .nilFunc).run Tryz.prog w=.ok (.bool false) w:=by
 kernel_rfl
theorem pair_eq (a b:ByteArray) (w:World):(binOp .neq 55 (.agg #[.string a,.string b]) (.agg #[.string a,.string b])).run Tryz.prog w=.ok (.bool false) w:=by
 simp[go_sem]
theorem pr_one (b:Pr) : ∀ u∈b.cells,u.oneCell'=true:=by
 intro u hu
 simp[Pr.cells] at hu
 rcases hu with rfl | rfl<;>rfl
theorem reads2 (W:World) (t:TypeId) (a b:Value) : ∀ j u,([a,b]:List Value)[j]? = some u→(W.alloc (.cells #[a,b] t)).cell? ((⟨W.heap.size,0,none⟩:Addr).add j)=some u:=fun j u hu=>by
 have hB:=Blk.new W t #[a,b]
 have:(⟨W.heap.size,0,none⟩:Addr).add j=⟨W.heap.size,j,none⟩:=by unfold Addr.add;split<;>simp_all
 rw[this,hB.cell j]
 simpa using hu
def pairsS (l:List (Pr×Int)):List Pr:=(l.filter fun x=>decide (x.2=0)).map (·.1)
def endS (l:List (Pr×Int)):Int:=((l.filter fun x => !decide (x.2=0)).getLast?.map (·.2)).getD 0
theorem pairsS_ok (l:List (Pr×Int)) (x:Pr):pairsS (l++[(x,0)])=pairsS l++[x]:=by simp[pairsS]
theorem pairsS_no (l:List (Pr×Int)) (x:Pr) (e:Int) (h:e≠0):pairsS (l++[(x,e)])=pairsS l:=by simp[pairsS,h]
theorem endS_ok (l:List (Pr×Int)) (x:Pr):endS (l++[(x,0)])=endS l:=by simp[endS]
theorem endS_no (l:List (Pr×Int)) (x:Pr) (e:Int) (h:e≠0):endS (l++[(x,e)])=e:=by simp[endS,h]
theorem endS_zero {l:List (Pr×Int)} (h : ∀ y∈l,y.2=0):endS l=0:=by
 have:l.filter (fun x => !decide (x.2=0))=[]:=List.filter_eq_nil_iff.2 fun y hy=>by simp[h y hy]
 unfold endS
 rw[this]
 rfl
def OkS (XS:List (Pr×Int)):Prop:=∃ A B,XS=A++B∧(∀ y∈A,y.2=0)∧(B=[]∨∃ e:Int,e≠0∧B=[(Pr.zero,e)])
theorem OkS.at_ {XS pre:List (Pr×Int)} {x:Pr×Int} (h:OkS XS) (hx:pre++[x] <+: XS):(∀ y∈pre,y.2=0)∧(x.2≠0→x.1=Pr.zero):=by
 obtain⟨A,B,rfl,hA,hB⟩:=h
 rcases hB with rfl | ⟨e,he,rfl⟩
 ·rw[List.append_nil] at hx
  exact⟨fun y hy=>hA y (hx.subset (by simp[hy])),fun h0=>absurd (hA x (hx.subset (by simp))) h0⟩
 ·have hl:=hx.length_le
  simp only[List.length_append,List.length_cons,List.length_nil] at hl
  have hp:pre <+: A:=List.prefix_of_prefix_length_le ((List.prefix_append _ _).trans hx) (List.prefix_append _ _) (by omega)
  refine⟨fun y hy=>hA y (hp.subset hy),fun h0=>?_⟩
  by_cases hlt:pre.length<A.length
  ·have:pre++[x] <+: A:=List.prefix_of_prefix_length_le hx (List.prefix_append _ _) (by simp;omega)
   exact absurd (hA x (this.subset (by simp))) h0
  ·obtain⟨r,hr⟩:=hx
   obtain⟨q,rfl⟩:=hp
   have hq:q=[]:=List.eq_nil_of_length_eq_zero (by rw[List.length_append] at hlt;omega)
   subst hq
   rw[List.append_nil,List.append_assoc,List.append_cancel_left_eq] at hr
   injection hr with hr _
   rw[hr]
theorem okS_tree (size:Int) (s:ByteArray) (root:Nat):OkS (treeS size s root):=by
 refine⟨_,_,rfl,fun y hy=>?_,?_⟩
 ·obtain⟨p,_,rfl⟩:=List.mem_map.1 hy
  rfl
 ·by_cases h:treeE size s root=0
  ·exact .inl (if_pos h)
  ·exact .inr ⟨_,h,if_neg h⟩
theorem okS_from (size:Int) (s:ByteArray) (root:Nat) (key:ByteArray):OkS (fromS size s root key):=by
 obtain⟨A,B,h1,h2,h3⟩:=okS_tree size s root
 refine⟨A.filter (keepK key),B.filter (keepK key),by rw[fromS,h1,List.filter_append],fun y hy=>h2 y (List.mem_filter.1 hy).1,?_⟩
 rcases h3 with rfl | ⟨e,he,rfl⟩
 ·exact .inl rfl
 ·exact .inr ⟨e,he,by simp[keepK,he]⟩
theorem pairsS_map (l:List Pr):pairsS (l.map fun p=>(p,(0:Int)))=l:=by
 induction l with
 | nil=>rfl
 | cons a t ih=>simpa [pairsS] using ih
theorem pairsS_append (a b:List (Pr×Int)):pairsS (a++b)=pairsS a++pairsS b:=by simp[pairsS]
theorem pairsS_tree (size:Int) (s:ByteArray) (root:Nat):pairsS (treeS size s root)=(treeV size s root).1:=by
 unfold treeS stepsT
 rw[pairsS_append,pairsS_map]
 split
 ·simp[pairsS]
 ·rename_i h
  simp[pairsS,h]
theorem endS_tree (size:Int) (s:ByteArray) (root:Nat):endS (treeS size s root)=treeE size s root:=by
 unfold treeS stepsT
 by_cases h:treeE size s root=0
 ·rw[if_pos h,List.append_nil,h]
  exact endS_zero fun y hy=>by obtain⟨p,_,rfl⟩:=List.mem_map.1 hy;rfl
 ·rw[if_neg h,endS_no _ _ _ h]
def fromP (key:ByteArray) (l:List Pr):List Pr:=l.filter fun p => !Op.bytesLess p.ky.toList key.toList
theorem pairsS_from (size:Int) (s:ByteArray) (root:Nat) (key:ByteArray):pairsS (fromS size s root key)=fromP key (treeV size s root).1:=by
 unfold fromS
 rw[← pairsS_tree]
 generalize treeS size s root=l
 induction l with
 | nil=>rfl
 | cons a t ih =>
  obtain⟨p,e⟩:=a
  by_cases he:e=0
  ·subst he
   rcases hb:Op.bytesLess p.ky.toList key.toList with _ | _
   ·have:keepK key (p,0)=true:=by simp[keepK,hb]
    rw[List.filter_cons,if_pos this]
    have h1:pairsS ((p,0)::t.filter (keepK key))=p::pairsS (t.filter (keepK key)):=by simp[pairsS]
    have h2:pairsS ((p,0)::t)=p::pairsS t:=by simp[pairsS]
    rw[h1,h2,ih]
    simp[fromP,hb]
   ·have:keepK key (p,0)=false:=by simp[keepK,hb]
    rw[List.filter_cons,if_neg (by rw[this];simp)]
    have h2:pairsS ((p,0)::t)=p::pairsS t:=by simp[pairsS]
    rw[h2,ih]
    simp[fromP,hb]
  ·have:keepK key (p,e)=true:=by simp[keepK,he]
   rw[List.filter_cons,if_pos this]
   have h1:pairsS ((p,e)::t.filter (keepK key))=pairsS (t.filter (keepK key)):=by simp[pairsS,he]
   have h2:pairsS ((p,e)::t)=pairsS t:=by simp[pairsS,he]
   rw[h1,h2,ih]
theorem endS_from (size:Int) (s:ByteArray) (root:Nat) (key:ByteArray):endS (fromS size s root key)=treeE size s root:=by
 obtain⟨A,B,h1,h2,h3⟩:=okS_tree size s root
 rw[← endS_tree]
 unfold fromS
 rw[h1,List.filter_append]
 rcases h3 with rfl | ⟨e,he,rfl⟩
 ·rw[List.filter_nil,List.append_nil,List.append_nil,endS_zero h2,endS_zero fun y hy=>h2 y (List.mem_filter.1 hy).1]
 ·have:keepK key (Pr.zero,e)=true:=by simp[keepK,he]
  rw[List.filter_cons,if_pos this,List.filter_nil,endS_no _ _ _ he,endS_no _ _ _ he]
def AllI (w:World) (bo be bn:Nat) (pre:List (Pr×Int)) (U:Nat→Prop) (W:World):Prop :=
 ∃ V,(∀ k,U k↔k<w.heap.size+3∨k=bo∨k=be∨k=bn∨V.ownBlock=some k)∧Boxed W bo 26 V∧Boxed W be 28 (.int .i64 (endS pre))∧Boxed W bn 3 (.int .i64 pre.length)∧W.ownsRow w.heap.size 55 2 V (pairsS pre).length (prc (pairsS pre))∧Below w.heap.size w W∧Boxed W w.heap.size 26 (.slice none 0 0)∧Boxed W (w.heap.size+1) 28 (.int .i64 0)∧Boxed W (w.heap.size+1+1) 4 (.bool false)
def AllA (w:World) (bo be bn:Nat) (act:Nat→Pr×Int→Act) (pre:List (Pr×Int)) (x:Pr×Int) (a':Act) (U:Nat→Prop) (W:World):Prop :=
 ∃ (Uo:Nat→Prop) (bp:Nat),(∀ k,U k↔Uo k∨k=bp)∧¬ Uo bp∧AllI w bo be bn pre Uo W∧Blk W bp 55 #[.string x.1.ky,.string x.1.vl]∧a'=act bp x
theorem allI_stab (w:World) (bo be bn:Nat):StabU (AllI w bo be bn):=fun pre U W W' h hk=>by
 obtain⟨V,h1,h2,h3,h4,h5,h6,h7,h8,h9⟩:=h
 refine⟨V,h1,(hk.block bo h2.lt ((h1 _).2 (by simp))).trans h2,(hk.block be h3.lt ((h1 _).2 (by simp))).trans h3,(hk.block bn h4.lt ((h1 _).2 (by simp))).trans h4,?_,?_,(hk.block _ h7.lt ((h1 _).2 (.inl (by omega)))).trans h7,(hk.block _ h8.lt ((h1 _).2 (.inl (by omega)))).trans h8,(hk.block _ h9.lt ((h1 _).2 (.inl (by omega)))).trans h9⟩
 ·refine⟨h5.1,?_⟩
  rcases h5.2 with h0 | ⟨g,cap,cur,rfl,hb,hh,r⟩
  ·exact .inl h0
  ·exact .inr ⟨g,cap,cur,rfl,hb,(hk.block g (Array.getElem?_eq_some_iff.1 hh).1 ((h1 _).2 (by simp[Value.ownBlock]))).trans hh,r⟩
 ·exact⟨hk.os.trans h6.os,hk.tape.trans h6.tape,hk.output.trans h6.output,Nat.le_trans h6.size hk.size,fun k hl=>(hk.block k (Nat.lt_of_lt_of_le hl h6.size) ((h1 k).2 (.inl (by omega)))).trans (h6.block k hl)⟩
theorem allI_lt (w:World) (bo be bn:Nat):LtU (AllI w bo be bn):=fun pre U W h k hk=>by
 obtain⟨V,h1,h2,h3,h4,h5,h6,h7,h8,h9⟩:=h
 have:=h9.lt
 rcases (h1 k).1 hk with h | rfl | rfl | rfl | h
 ·omega
 ·exact h2.lt
 ·exact h3.lt
 ·exact h4.lt
 ·exact (h5.lt k h).2
theorem allA_stab (w:World) (bo be bn:Nat) (act:Nat→Pr×Int→Act) (pre:List (Pr×Int)) (x:Pr×Int) (a':Act):StabU (fun (_:Unit)=>AllA w bo be bn act pre x a'):=fun _ U W W' h hk=>by
 obtain⟨Uo,bp,h1,h2,h3,h4,h5⟩:=h
 exact⟨Uo,bp,h1,h2,allI_stab w bo be bn _ _ _ _ h3 (hk.mono fun k hu=>(h1 k).2 (.inl hu)),(hk.block bp h4.lt ((h1 _).2 (.inr rfl))).trans h4,h5⟩
theorem load_prs {w:World} {g:Nat} {v:Value} (h:Boxed w g 26 v):(loadVar 26 ⟨g,0,none⟩).run Tryz.prog w=.ok v w:=by
 have hc:=h.cell
 simp[go_sem,hc]
theorem load_erb {w:World} {g:Nat} {v:Value} (h:Boxed w g 28 v):(loadVar 28 ⟨g,0,none⟩).run Tryz.prog w=.ok v w:=by
 have hc:=h.cell
 simp[go_sem,hc]
theorem load_bol {w:World} {g:Nat} {v:Value} (h:Boxed w g 4 v):(loadVar 4 ⟨g,0,none⟩).run Tryz.prog w=.ok v w:=by
 have hc:=h.cell
 simp[go_sem,hc]
theorem lall0_any (sz:Int) (img:ByteArray) (root:Nat) (key:ByteArray) (w:World) (hi:img.size≤400000) (hr:root<4294967296) (hn:(treeS sz img root).length≤20000) :
  Calls Tryz.prog 17 #[.int .i64 sz,.string img,.int .u32 root,.string key,.bool false] w fun e w'=>∃ A n c,e=.returned (.tuple #[.slice A n c,.int .i64 (treeE sz img root),.bool true])∧Reads w' w'.heap.size 2 A n (prc ((treeV sz img root).1))∧Below w.heap.size w w':=by
 obtain⟨hzp,hip⟩:=zero_of_info infoPrz
 have HIP:=Hd hip
 clear hip
 obtain⟨i0,hi0,hz0,hz1,hz2⟩:=info_parts infoPr
 have HI0:=Hd hi0
 clear hi0
 have hfe:=seq_nil
 refine (callsIn_wide (n:=9)).1 ?_
 refine callsIn_of_wp_marks Tryz.func17 rfl trivial ?_ rfl
 simp only[Tryz.ntmps17,List.size_toArray,List.length_cons,List.length_nil,Nat.reduceAdd,Nat.reduceSub,Array.replicate_succ,Array.replicate_zero,List.push_toArray,List.append_toArray,List.nil_append,List.cons_append]
 gi_wp2_with (refine⟨trivial,?_⟩;gi_at_call 45;refine (callsIn_wide.2 (allmake_any sz img root _)).mono ?_;rintro e w1 ⟨rfl,hw1⟩)
 clear hfe
 (try clear hw1)
 (try clear hw2)
 obtain⟨W1,hW1⟩ : ∃ W1,W1=(((((((((w.alloc (.cells #[.slice none 0 0] 26)).alloc (.cells #[.int .i64 0] 28)).alloc (.cells #[.bool false] 4)).alloc (.cells #[.int .i64 sz] 3)).alloc (.cells #[.string img] 9)).alloc (.cells #[.int .u32 root] 23)).alloc (.cells #[.slice none 0 0] 26)).alloc (.cells #[.int .i64 0] 28)).alloc (.cells #[.int .i64 0] 3)):=⟨_,rfl⟩
 rw[← hW1]
 have r0:Boxed W1 (w.heap.size) 26 (.slice none 0 0):=by have h:=((((((((Boxed.new w 26 (.slice none 0 0)).alloc (.cells #[.int .i64 0] 28)).alloc (.cells #[.bool false] 4)).alloc (.cells #[.int .i64 sz] 3)).alloc (.cells #[.string img] 9)).alloc (.cells #[.int .u32 root] 23)).alloc (.cells #[.slice none 0 0] 26)).alloc (.cells #[.int .i64 0] 28)).alloc (.cells #[.int .i64 0] 3);rw[hW1];simpa using h
 have r1:Boxed W1 (w.heap.size+1) 28 (.int .i64 0):=by have h:=(((((((Boxed.new (w.alloc (.cells #[.slice none 0 0] 26)) 28 (.int .i64 0)).alloc (.cells #[.bool false] 4)).alloc (.cells #[.int .i64 sz] 3)).alloc (.cells #[.string img] 9)).alloc (.cells #[.int .u32 root] 23)).alloc (.cells #[.slice none 0 0] 26)).alloc (.cells #[.int .i64 0] 28)).alloc (.cells #[.int .i64 0] 3);rw[hW1];simpa using h
 have r2:Boxed W1 (w.heap.size+1+1) 4 (.bool false):=by have h:=((((((Boxed.new ((w.alloc (.cells #[.slice none 0 0] 26)).alloc (.cells #[.int .i64 0] 28)) 4 (.bool false)).alloc (.cells #[.int .i64 sz] 3)).alloc (.cells #[.string img] 9)).alloc (.cells #[.int .u32 root] 23)).alloc (.cells #[.slice none 0 0] 26)).alloc (.cells #[.int .i64 0] 28)).alloc (.cells #[.int .i64 0] 3);rw[hW1];simpa using h
 have r3:Boxed W1 (w.heap.size+1+1+1) 3 (.int .i64 sz):=by have h:=(((((Boxed.new (((w.alloc (.cells #[.slice none 0 0] 26)).alloc (.cells #[.int .i64 0] 28)).alloc (.cells #[.bool false] 4)) 3 (.int .i64 sz)).alloc (.cells #[.string img] 9)).alloc (.cells #[.int .u32 root] 23)).alloc (.cells #[.slice none 0 0] 26)).alloc (.cells #[.int .i64 0] 28)).alloc (.cells #[.int .i64 0] 3);rw[hW1];simpa using h
 have r4:Boxed W1 (w.heap.size+1+1+1+1) 9 (.string img):=by have h:=((((Boxed.new ((((w.alloc (.cells #[.slice none 0 0] 26)).alloc (.cells #[.int .i64 0] 28)).alloc (.cells #[.bool false] 4)).alloc (.cells #[.int .i64 sz] 3)) 9 (.string img)).alloc (.cells #[.int .u32 root] 23)).alloc (.cells #[.slice none 0 0] 26)).alloc (.cells #[.int .i64 0] 28)).alloc (.cells #[.int .i64 0] 3);rw[hW1];simpa using h
 have r5:Boxed W1 (w.heap.size+1+1+1+1+1) 23 (.int .u32 root):=by have h:=(((Boxed.new (((((w.alloc (.cells #[.slice none 0 0] 26)).alloc (.cells #[.int .i64 0] 28)).alloc (.cells #[.bool false] 4)).alloc (.cells #[.int .i64 sz] 3)).alloc (.cells #[.string img] 9)) 23 (.int .u32 root)).alloc (.cells #[.slice none 0 0] 26)).alloc (.cells #[.int .i64 0] 28)).alloc (.cells #[.int .i64 0] 3);rw[hW1];simpa using h
 have r6:Boxed W1 (w.heap.size+1+1+1+1+1+1) 26 (.slice none 0 0):=by have h:=((Boxed.new ((((((w.alloc (.cells #[.slice none 0 0] 26)).alloc (.cells #[.int .i64 0] 28)).alloc (.cells #[.bool false] 4)).alloc (.cells #[.int .i64 sz] 3)).alloc (.cells #[.string img] 9)).alloc (.cells #[.int .u32 root] 23)) 26 (.slice none 0 0)).alloc (.cells #[.int .i64 0] 28)).alloc (.cells #[.int .i64 0] 3);rw[hW1];simpa using h
 have r7:Boxed W1 (w.heap.size+1+1+1+1+1+1+1) 28 (.int .i64 0):=by have h:=(Boxed.new (((((((w.alloc (.cells #[.slice none 0 0] 26)).alloc (.cells #[.int .i64 0] 28)).alloc (.cells #[.bool false] 4)).alloc (.cells #[.int .i64 sz] 3)).alloc (.cells #[.string img] 9)).alloc (.cells #[.int .u32 root] 23)).alloc (.cells #[.slice none 0 0] 26)) 28 (.int .i64 0)).alloc (.cells #[.int .i64 0] 3);rw[hW1];simpa using h
 have r8:Boxed W1 (w.heap.size+1+1+1+1+1+1+1+1) 3 (.int .i64 0):=by have h:=Boxed.new ((((((((w.alloc (.cells #[.slice none 0 0] 26)).alloc (.cells #[.int .i64 0] 28)).alloc (.cells #[.bool false] 4)).alloc (.cells #[.int .i64 sz] 3)).alloc (.cells #[.string img] 9)).alloc (.cells #[.int .u32 root] 23)).alloc (.cells #[.slice none 0 0] 26)).alloc (.cells #[.int .i64 0] 28)) 3 (.int .i64 0);rw[hW1];simpa using h
 have hbW:Below w.heap.size w W1:=by rw[hW1];exact ((((((((((Below.refl w.heap.size w).alloc (by simp;try omega) (.cells #[.slice none 0 0] 26)).alloc (by simp;try omega) (.cells #[.int .i64 0] 28)).alloc (by simp;try omega) (.cells #[.bool false] 4)).alloc (by simp;try omega) (.cells #[.int .i64 sz] 3)).alloc (by simp;try omega) (.cells #[.string img] 9)).alloc (by simp;try omega) (.cells #[.int .u32 root] 23)).alloc (by simp;try omega) (.cells #[.slice none 0 0] 26)).alloc (by simp;try omega) (.cells #[.int .i64 0] 28)).alloc (by simp;try omega) (.cells #[.int .i64 0] 3))
 have hsW:W1.heap.size=w.heap.size+9:=by rw[hW1];simp
 have hOk:=Hd (okS_tree sz img root)
 have HPs:=Hd (show pairsS (treeS sz img root)=(treeV sz img root).1 from pairsS_tree _ _ _)
 have HEs:=Hd (show endS (treeS sz img root)=treeE sz img root from endS_tree _ _ _)
 obtain⟨XS,hXS⟩ : ∃ XS,XS=treeS sz img root:=⟨_,rfl⟩
 have hseq:=all_seq sz img root (w.heap.size+1+1+1) (w.heap.size+1+1+1+1) (w.heap.size+1+1+1+1+1) hi hr W1 r3 r4 r5
 rw[← hXS] at hseq hn hOk HPs HEs
 clear hW1 hXS
 refine wpIn_rangeFunc_U (gf:=79) (lb:=#[.pointer (some ⟨w.heap.size+1+1+1,0,none⟩),.pointer (some ⟨w.heap.size+1+1+1+1,0,none⟩),.pointer (some ⟨w.heap.size+1+1+1+1+1,0,none⟩)]) rfl (fun _ _=>by first | rfl | kernel_rfl) hseq (Below.refl _ _) (by rintro k (rfl | rfl | rfl)<;>omega) (fun _=>rfl)
  (AllI w (w.heap.size+1+1+1+1+1+1) (w.heap.size+1+1+1+1+1+1+1) (w.heap.size+1+1+1+1+1+1+1+1)) (fun _ _ _ _=>False)
  (AllA w (w.heap.size+1+1+1+1+1+1) (w.heap.size+1+1+1+1+1+1+1) (w.heap.size+1+1+1+1+1+1+1+1) (fun bp x => { tmps:=#[.int .i64 sz,.string img,.int .u32 root,.string key,.bool false,undef,undef,undef,undef,undef,.pointer (some ⟨w.heap.size,0,none⟩),.pointer (some ⟨w.heap.size+1,0,none⟩),.pointer (some ⟨w.heap.size+1+1,0,none⟩),.func (.func 79) #[] #[.pointer (some ⟨w.heap.size+1+1+1,0,none⟩),.pointer (some ⟨w.heap.size+1+1+1+1,0,none⟩),.pointer (some ⟨w.heap.size+1+1+1+1+1,0,none⟩)],.pointer (some ⟨w.heap.size+1+1+1+1+1+1,0,none⟩),.pointer (some ⟨w.heap.size+1+1+1+1+1+1+1,0,none⟩),.pointer (some ⟨w.heap.size+1+1+1+1+1+1+1+1,0,none⟩),.pointer (some ⟨bp,0,none⟩),.int .i64 x.2,.int .i64 sz,.string img,.int .u32 root,.func (.func 79) #[] #[.pointer (some ⟨w.heap.size+1+1+1,0,none⟩),.pointer (some ⟨w.heap.size+1+1+1+1,0,none⟩),.pointer (some ⟨w.heap.size+1+1+1+1+1,0,none⟩)],.bool false,undef,undef,undef,undef,undef,.func (.func 79) #[] #[.pointer (some ⟨w.heap.size+1+1+1,0,none⟩),.pointer (some ⟨w.heap.size+1+1+1+1,0,none⟩),.pointer (some ⟨w.heap.size+1+1+1+1+1,0,none⟩)],.bool false,.func (.func 79) #[] #[.pointer (some ⟨w.heap.size+1+1+1,0,none⟩),.pointer (some ⟨w.heap.size+1+1+1+1,0,none⟩),.pointer (some ⟨w.heap.size+1+1+1+1+1,0,none⟩)],.agg #[.string x.1.ky,.string x.1.vl],.int .i64 x.2,undef,undef,undef,undef,undef,undef,undef,undef,undef,undef,undef,undef,undef,undef,undef,undef,undef,undef,undef,undef,undef,undef,undef,undef,undef,undef],defers:=[] }))
  (allI_stab w _ _ _) (fun _ _ _ _ _ h _=>h) (fun pre x a'=>allA_stab w _ _ _ _ pre x a') (allI_lt w _ _ _) (fun _ _ _ _ h=>h.elim)
  (fun k=>k<w.heap.size+3∨k=w.heap.size+1+1+1+1+1+1∨k=w.heap.size+1+1+1+1+1+1+1∨k=w.heap.size+1+1+1+1+1+1+1+1∨(Value.slice none 0 0).ownBlock=some k) (by
   rintro k hk hu
   have:=hk
   simp only[Value.ownBlock] at hu
   rcases hk with (rfl | rfl | rfl)<;>rcases hu with h | h | h | h | h<;>first | omega | cases h)
  ⟨_,fun _=>Iff.rfl,r6,r7,r8,World.ownsRow_nil _ _ _ _,hbW,r0,r1,r2⟩ ?assign ?body ?done ?stop
 case assign =>
  intro m l pre x U' W K hI hx hK
  have hl:=allI_lt w _ _ _ _ _ _ hI
  have HC:=Hd (hK _ (fun k=>U' k∨k=W.heap.size) (W.alloc (.cells #[.string x.1.ky,.string x.1.vl] 55)) (fun k h=>h.elim .inl (fun e=>.inr (by omega))) ((Kept.refl _ _).alloc _)
   ⟨U',W.heap.size,fun k=>Iff.rfl,fun h=>Nat.lt_irrefl _ (hl _ h),allI_stab w _ _ _ _ _ _ _ hI (KeepsU.alloc _ _ _),Blk.new _ _ _,rfl⟩)
  clear hK hI hl
  simp only[encP]
  gi_wp2
  exact HC.out
 case body =>
  rintro m l pre x a' U' W ⟨Uo,bp,hU,hbp,hI,kp,rfl⟩ hx
  obtain⟨⟨ky,vl⟩,er⟩:=x
  dsimp only at kp ⊢
  obtain⟨V,hUo,k1,k2,k3,hrow,hB,s1,s2,s3⟩:=hI
  have hok:=hOk.out.at_ hx
  rw[endS_zero hok.1] at k2
  have hpl:pre.length+1≤20000:=by have h:=hx.length_le;simp at h;omega
  have hpn:(pairsS pre).length≤pre.length:=by unfold pairsS;rw[List.length_map];exact List.length_filter_le _ _
  obtain⟨A,c,hV,hnc,hcm,hA⟩:=own_form hrow
  subst hV
  have q0:=kp.cell 0
  have q1:=kp.cell 1
  have c1:=k1.cell
  have c2:=k2.cell
  have c3:=k3.cell
  have f1:=k1.frozen
  have f2:=k2.frozen
  have f3:=k3.frozen
  simp at q0 q1
  have hgn:decide ((20000:Int)<(pre.length:Int)+1)=false:=by simp;omega
  have nbp : ∀ k,Uo k→bp≠k:=fun k hk e=>hbp (e ▸ hk)
  have nb1:=nbp _ ((hUo (w.heap.size+1+1+1+1+1+1)).2 (by simp))
  have nb2:=nbp _ ((hUo (w.heap.size+1+1+1+1+1+1+1)).2 (by simp))
  have nb3:=nbp _ ((hUo (w.heap.size+1+1+1+1+1+1+1+1)).2 (by simp))
  have u1:U' (w.heap.size+1+1+1+1+1+1):=(hU _).2 (.inl ((hUo _).2 (by simp)))
  have u2:U' (w.heap.size+1+1+1+1+1+1+1):=(hU _).2 (.inl ((hUo _).2 (by simp)))
  have u3:U' (w.heap.size+1+1+1+1+1+1+1+1):=(hU _).2 (.inl ((hUo _).2 (by simp)))
  obtain⟨W2,hW2⟩ : ∃ y,y=W.setCell ⟨w.heap.size+1+1+1+1+1+1+1+1,0,none⟩ (.int .i64 ((pre.length:Int)+1)):=⟨_,rfl⟩
  have hg2:W.grownBy W2 (some (w.heap.size+1+1+1+1+1+1+1+1)):=by rw[hW2];exact grown_setC _ _ _ _
  have K1:=Hd (show Boxed W2 (w.heap.size+1+1+1+1+1+1) 26 (.slice A (pairsS pre).length c) from k1.kept hg2 (by intro h;injection h with h;omega))
  have K2:=Hd (show Boxed W2 (w.heap.size+1+1+1+1+1+1+1) 28 (.int .i64 0) from k2.kept hg2 (by intro h;injection h with h;omega))
  have K3:=Hd (show Boxed W2 (w.heap.size+1+1+1+1+1+1+1+1) 3 (.int .i64 ((pre.length:Int)+1)) by rw[hW2];exact k3.set _)
  have KP:=Hd (show Blk W2 bp 55 #[.string ky,.string vl] from kp.grown hg2 (by intro h;injection h with h;exact nb3 h))
  have KR:=Hd (show W2.ownsRow w.heap.size 55 2 (.slice A (pairsS pre).length c) (pairsS pre).length (prc (pairsS pre)) from hrow.kept hg2 (.inr fun h=>Boxed.not_row k3 (by decide) hrow h.symm))
  have S1:=Hd (s1.kept hg2 (by intro h;injection h with h;omega))
  have S2:=Hd (s2.kept hg2 (by intro h;injection h with h;omega))
  have S3:=Hd (s3.kept hg2 (by intro h;injection h with h;omega))
  have HBw:=Hd (hB.grown hg2 hB.size (by intro k h;injection h with h;omega))
  have HK2:=Hd (show Kept U' W W2 from (Kept.refl _ _).grown hg2 (fun k e=>by cases e;exact .inl u3))
  have HUU:=Hd hU
  have HUo:=Hd hUo
  have HOk:=Hd hok
  clear hU hUo hok hrow hB s1 s2 s3 k1 k2 k3 kp hg2 hbp nbp hA hx
  gi_upto_region 13 with fail
  rw[← hW2]
  clear hW2 q0 q1 c1 c2 c3 f1 f2 f3
  have q0:=KP.out.cell 0
  have q1:=KP.out.cell 1
  have c1:=K1.out.cell
  have c2:=K2.out.cell
  have c3:=K3.out.cell
  have f1:=K1.out.frozen
  have f2:=K2.out.frozen
  simp at q0 q1
  by_cases he:er=0
  ·subst he
   have RA:=Hd (KR.out.alloc (.cells #[.string ky,.string vl] 55))
   have hpn2:(pairsS pre).length+1≤20000:=by omega
   gi_wp2_with (gi_at_builtin;refine wpListIn_append_own_at _ rfl _ _ 26 rfl w.heap.size 55 i0 _ 2 32 Tryz.underlying26 HI0.out hz0 hz1 hz2 rfl (by decide) _ _ _ rfl RA.out ⟨W2.heap.size,0,none⟩ 1 1 (Pr.cells ⟨ky,vl⟩) rfl rfl (reads2 _ _ _ _) (pr_one _) (by unfold maxLen;omega) (by omega) (by have:=HBw.out.size;simp;omega) ?_;intro v6 w6 hown6 hg6 _ hat6;obtain⟨A6,c6,hv6,_,_,_⟩:=own_form hown6;subst hv6;have b6:=(K1.out.alloc (.cells #[.string ky,.string vl] 55)).kept hg6 (fun h=>Boxed.not_row (K1.out.alloc (.cells #[.string ky,.string vl] 55)) (by decide) RA.out h);have b6c:=b6.cell;have b6f:=b6.frozen)
   have B6:=Hd b6
   have R6:=Hd (show w6.ownsRow w.heap.size 55 2 (.slice A6 ((pairsS pre).length+1) c6) ((pairsS pre).length+1) (prc (pairsS pre)++Pr.cells ⟨ky,vl⟩) from hown6)
   have G6:=Hd hg6
   have HT6:=Hd (show (Value.slice A6 ((pairsS pre).length+1) c6).ownBlock=(Value.slice A (pairsS pre).length c).ownBlock∨(Value.slice A6 ((pairsS pre).length+1) c6).ownBlock=some (W2.heap.size+1) from hat6.elim .inl (fun h=>.inr (h.trans (by simp))))
   clear b6 hown6 hg6 hat6 b6c b6f
   have hga:=G6.out
   have hV6 : ∀ k,(Value.slice A6 ((pairsS pre).length+1) c6).ownBlock=some k→(Value.slice A (pairsS pre).length c).ownBlock=some k∨W.heap.size≤k:=fun k hk=>by
    rcases HT6.out with h | h
    ·rw[h] at hk;exact .inl hk
    ·rw[h] at hk
     injection hk with hk
     have:=HK2.out.size
     right;omega
   have gr : ∀ {b:Nat} {t:TypeId} {v:Value},t≠55→Boxed W2 b t v→Boxed w6 b t v:=fun ht h=>(h.alloc _).kept hga (fun e=>Boxed.not_row (h.alloc _) ht RA.out e)
   have gs : ∀ {b:Nat} {t:TypeId} {v u:Value},b≠w.heap.size+1+1+1+1+1+1→Boxed w6 b t v→Boxed (w6.setCell ⟨w.heap.size+1+1+1+1+1+1,0,none⟩ u) b t v:=fun hne h=>h.other hne _
   refine⟨fun k=>k<w.heap.size+3∨k=w.heap.size+1+1+1+1+1+1∨k=w.heap.size+1+1+1+1+1+1+1∨k=w.heap.size+1+1+1+1+1+1+1+1∨(Value.slice A6 ((pairsS pre).length+1) c6).ownBlock=some k,fun k hk=>?_,?_,.slice A6 ((pairsS pre).length+1) c6,fun k=>Iff.rfl,B6.out.set _,?_,?_,?_,?_,?_,?_,?_⟩
   ·rcases hk with h | h | h | h | h
    ·exact .inl ((HUU.out _).2 (.inl ((HUo.out _).2 (.inl h))))
    ·exact .inl (h ▸ u1)
    ·exact .inl (h ▸ u2)
    ·exact .inl (h ▸ u3)
    ·rcases hV6 k h with h1 | h1
     ·exact .inl ((HUU.out _).2 (.inl ((HUo.out _).2 (.inr (.inr (.inr (.inr h1)))))))
     ·exact .inr h1
   ·exact ((HK2.out.alloc _).grown hga (fun k e=>.inl ((HUU.out _).2 (.inl ((HUo.out _).2 (.inr (.inr (.inr (.inr e))))))))).setCell (.inl u1) _
   ·rw[endS_ok,endS_zero HOk.out.1];exact gs (by omega) (gr (by decide) K2.out)
   ·rw[List.length_append];exact gs (by omega) (gr (by decide) K3.out)
   ·rw[pairsS_ok,List.length_append,← prc_snoc]
    exact R6.out.kept (grown_setC _ _ _ _) (.inr fun h=>Boxed.not_row B6.out (by decide) R6.out h.symm)
   ·exact ((HBw.out.alloc HBw.out.size _).grown hga (by have:=HBw.out.size;simp;omega) (fun k e=>own_base KR.out k e)).setCell (p:=⟨w.heap.size+1+1+1+1+1+1,0,none⟩) (by show w.heap.size≤w.heap.size+1+1+1+1+1+1;omega) _
   ·exact gs (by omega) (gr (by decide) S1.out)
   ·exact gs (by omega) (gr (by decide) S2.out)
   ·exact gs (by omega) (gr (by decide) S3.out)
  ·have hz:=HOk.out.2 he
   obtain⟨rfl,rfl⟩:ky=⟨#[]⟩∧vl=⟨#[]⟩:=by simp only[Pr.zero] at hz;injection hz with h1 h2;exact⟨h1,h2⟩
   have hpe:=pair_eq ⟨#[]⟩ ⟨#[]⟩
   have hpe2:=pair_eq ByteArray.empty ByteArray.empty
   have he1:(er != 0)=true:=by simpa using he
   have HE:=Hd he
   clear he hz
   gi_wp2
   have he:=HE.out
   have gs : ∀ {b:Nat} {t:TypeId} {v u:Value},b≠w.heap.size+1+1+1+1+1+1+1→Boxed W2 b t v→Boxed (W2.setCell ⟨w.heap.size+1+1+1+1+1+1+1,0,none⟩ u) b t v:=fun hne h=>h.other hne _
   refine⟨fun k=>k<w.heap.size+3∨k=w.heap.size+1+1+1+1+1+1∨k=w.heap.size+1+1+1+1+1+1+1∨k=w.heap.size+1+1+1+1+1+1+1+1∨(Value.slice A (pairsS pre).length c).ownBlock=some k,fun k hk=>?_,?_,.slice A (pairsS pre).length c,fun k=>Iff.rfl,?_,?_,?_,?_,?_,?_,?_,?_⟩
   ·exact .inl ((HUU.out _).2 (.inl ((HUo.out _).2 hk)))
   ·exact HK2.out.setCell (.inl u2) _
   ·exact gs (by omega) K1.out
   ·rw[endS_no _ _ _ he];exact K2.out.set _
   ·rw[List.length_append];exact gs (by omega) K3.out
   ·rw[pairsS_no _ _ _ he]
    exact KR.out.kept (grown_setC _ _ _ _) (.inr fun h=>Boxed.not_row K2.out (by decide) KR.out h.symm)
   ·exact HBw.out.setCell (p:=⟨w.heap.size+1+1+1+1+1+1+1,0,none⟩) (by show w.heap.size≤w.heap.size+1+1+1+1+1+1+1;omega) _
   ·exact gs (by omega) S1.out
   ·exact gs (by omega) S2.out
   ·exact gs (by omega) S3.out
 case done =>
  rintro D U' W hD hnD ⟨V,hU,k1,k2,k3,hrow,hB,s1,s2,s3⟩ hK
  obtain⟨A,c,hV,hnc,hcm,hA⟩:=own_form hrow
  subst hV
  rw[HEs.out] at k2
  have c1:=k1.cell
  have c2:=k2.cell
  have t1:=s1.cell
  have t2:=s2.cell
  have t3:=s3.cell
  have g1:=s1.frozen
  have g2:=s2.frozen
  have g3:=s3.frozen
  gi_upto_region 18 with fail
  have HH:=Hd (show Boxed W w.heap.size 26 (.slice none 0 0)∧Boxed W (w.heap.size+1) 28 (.int .i64 0)∧Boxed W (w.heap.size+1+1) 4 (.bool false) from ⟨s1,s2,s3⟩)
  have HR:=Hd hrow
  have HBw:=Hd hB
  have hDn : ∀ k,k<w.heap.size+3→k≠D:=fun k hk e=>hnD ((hU D).2 (.inl (e ▸ hk)))
  have HDn:=Hd hDn
  have HKd:=Hd hK
  have HDw:=Hd (show w.heap.size+3≤D by omega)
  clear hrow hB s1 s2 s3 hDn hU hnD
  refine wpIn_wide.2 ?_
  go_region
  all_goals go_wp2_with fail
  obtain⟨WF,hWF⟩ : ∃ y,y=((W.setCell ⟨w.heap.size,0,none⟩ (.slice A (pairsS XS).length c)).setCell ⟨w.heap.size+1,0,none⟩ (.int .i64 (treeE sz img root))).setCell ⟨w.heap.size+1+1,0,none⟩ (.bool true):=⟨_,rfl⟩
  rw[← hWF]
  have hD0:=HDw.out
  have hkf:KeepsOthers W WF:=by rw[hWF];exact ((KeepsOthers.setCell _ ⟨w.heap.size,0,none⟩ (.slice A (pairsS XS).length c)).trans (KeepsOthers.setCell _ ⟨w.heap.size+1,0,none⟩ (.int .i64 (treeE sz img root)))).trans (KeepsOthers.setCell _ ⟨w.heap.size+1+1,0,none⟩ (.bool true))
  have hKF:WF.drew.heap[D]? = some (.deferred (some [])):=hkf.same D _ HKd.out rfl
  have z1:Boxed WF w.heap.size 26 (.slice A (pairsS XS).length c):=by rw[hWF];exact ((HH.out.1.set _).other (by omega) _).other (by omega) _
  have z2:Boxed WF (w.heap.size+1) 28 (.int .i64 (treeE sz img root)):=by rw[hWF];exact ((HH.out.2.1.other (by omega) _).set _).other (by omega) _
  have z3:Boxed WF (w.heap.size+1+1) 4 (.bool true):=by rw[hWF];exact ((HH.out.2.2.other (by omega) _).other (by omega) _).set _
  have zr:WF.ownsRow w.heap.size 55 2 (.slice A (pairsS XS).length c) (pairsS XS).length (prc (pairsS XS)):=by
   have o1:=HR.out.kept (grown_setC W w.heap.size 0 (.slice A (pairsS XS).length c)) (.inr fun h=>Boxed.not_row HH.out.1 (by decide) HR.out h.symm)
   have o2:=o1.kept (grown_setC _ (w.heap.size+1) 0 (.int .i64 (treeE sz img root))) (.inr fun h=>Boxed.not_row (HH.out.2.1.other (by omega) (.slice A (pairsS XS).length c)) (by decide) o1 h.symm)
   have o3:=o2.kept (grown_setC _ (w.heap.size+1+1) 0 (.bool true)) (.inr fun h=>Boxed.not_row ((HH.out.2.2.other (by omega) (.slice A (pairsS XS).length c)).other (by omega) (.int .i64 (treeE sz img root))) (by decide) o2 h.symm)
   rw[hWF]
   exact o3
  have zb:Below w.heap.size w WF:=by
   rw[hWF]
   exact ((HBw.out.setCell (p:=⟨w.heap.size,0,none⟩) (Nat.le_refl _) _).setCell (p:=⟨w.heap.size+1,0,none⟩) (Nat.le_succ _) _).setCell (p:=⟨w.heap.size+1+1,0,none⟩) (by show w.heap.size≤w.heap.size+1+1;omega) _
  clear hWF hkf HH HR HBw c1 c2 t1 t2 t3 g1 g2 g3
  gi_wp2
  refine⟨by simp,.inl ⟨_,_,rfl,run_takeDeferred hKF,?_⟩⟩
  have p1:=(show Boxed WF.drew _ 26 _ from z1).kept (grownBy_putObj' WF.drew D (.deferred none)) (by intro h;injection h with h;omega)
  have p2:=(show Boxed WF.drew _ 28 _ from z2).kept (grownBy_putObj' WF.drew D (.deferred none)) (by intro h;injection h with h;omega)
  have p3:=(show Boxed WF.drew _ 4 _ from z3).kept (grownBy_putObj' WF.drew D (.deferred none)) (by intro h;injection h with h;omega)
  have pr:=ownsRow_putObj (show WF.drew.ownsRow w.heap.size 55 2 (.slice A (pairsS XS).length c) (pairsS XS).length (prc (pairsS XS)) from zr) (.deferred none) hKF rfl
  have pb:=zb.drew.trans (belowK_b (w:=w) (Nat.le_refl _) WF.drew D _ (.deferred none) (by omega) hKF rfl rfl)
  refine⟨_,results_cells3 rfl _ _ _ _ _ _ _ _ rfl rfl rfl (load_prs p1) (load_erb p2) (load_bol p3),A,(pairsS XS).length,c,rfl,?_,pb⟩
  rw[← HPs.out]
  exact Reads.of_own pr
 case stop =>
  rintro D c pre U W _ _ _ h
  exact h.elim
theorem lall1_any (sz:Int) (img:ByteArray) (root:Nat) (key:ByteArray) (w:World) (hi:img.size≤400000) (hr:root<4294967296) (hn:(fromS sz img root key).length≤20000) :
  Calls Tryz.prog 17 #[.int .i64 sz,.string img,.int .u32 root,.string key,.bool true] w fun e w'=>∃ A n c,e=.returned (.tuple #[.slice A n c,.int .i64 (treeE sz img root),.bool true])∧Reads w' w'.heap.size 2 A n (prc (fromP key (treeV sz img root).1))∧Below w.heap.size w w':=by
 obtain⟨hzp,hip⟩:=zero_of_info infoPrz
 have HIP:=Hd hip
 clear hip
 obtain⟨i0,hi0,hz0,hz1,hz2⟩:=info_parts infoPr
 have HI0:=Hd hi0
 clear hi0
 have hfe:=seq_nil
 refine (callsIn_wide (n:=9)).1 ?_
 refine callsIn_of_wp_marks Tryz.func17 rfl trivial ?_ rfl
 simp only[Tryz.ntmps17,List.size_toArray,List.length_cons,List.length_nil,Nat.reduceAdd,Nat.reduceSub,Array.replicate_succ,Array.replicate_zero,List.push_toArray,List.append_toArray,List.nil_append,List.cons_append]
 gi_wp2_with (first | (refine⟨trivial,?_⟩;gi_at_call 45;refine (callsIn_wide.2 (allmake_any sz img root _)).mono ?_;rintro e w1 ⟨rfl,hw1⟩) | (refine⟨trivial,?_⟩;gi_at_call 46;refine (callsIn_wide.2 (frommake_any sz img root key _)).mono ?_;rintro e w2 ⟨rfl,hw2⟩))
 clear hfe
 (try clear hw1)
 (try clear hw2)
 obtain⟨W1,hW1⟩ : ∃ W1,W1=(((((((((((((w.alloc (.cells #[.slice none 0 0] 26)).alloc (.cells #[.int .i64 0] 28)).alloc (.cells #[.bool false] 4)).alloc (.cells #[.int .i64 sz] 3)).alloc (.cells #[.string img] 9)).alloc (.cells #[.int .u32 root] 23)).alloc (.cells #[.int .i64 sz] 3)).alloc (.cells #[.string img] 9)).alloc (.cells #[.int .u32 root] 23)).alloc (.cells #[.string key] 9)).alloc (.cells #[.slice none 0 0] 26)).alloc (.cells #[.int .i64 0] 28)).alloc (.cells #[.int .i64 0] 3)):=⟨_,rfl⟩
 rw[← hW1]
 have r0:Boxed W1 (w.heap.size) 26 (.slice none 0 0):=by have h:=((((((((((((Boxed.new w 26 (.slice none 0 0)).alloc (.cells #[.int .i64 0] 28)).alloc (.cells #[.bool false] 4)).alloc (.cells #[.int .i64 sz] 3)).alloc (.cells #[.string img] 9)).alloc (.cells #[.int .u32 root] 23)).alloc (.cells #[.int .i64 sz] 3)).alloc (.cells #[.string img] 9)).alloc (.cells #[.int .u32 root] 23)).alloc (.cells #[.string key] 9)).alloc (.cells #[.slice none 0 0] 26)).alloc (.cells #[.int .i64 0] 28)).alloc (.cells #[.int .i64 0] 3);rw[hW1];simpa using h
 have r1:Boxed W1 (w.heap.size+1) 28 (.int .i64 0):=by have h:=(((((((((((Boxed.new (w.alloc (.cells #[.slice none 0 0] 26)) 28 (.int .i64 0)).alloc (.cells #[.bool false] 4)).alloc (.cells #[.int .i64 sz] 3)).alloc (.cells #[.string img] 9)).alloc (.cells #[.int .u32 root] 23)).alloc (.cells #[.int .i64 sz] 3)).alloc (.cells #[.string img] 9)).alloc (.cells #[.int .u32 root] 23)).alloc (.cells #[.string key] 9)).alloc (.cells #[.slice none 0 0] 26)).alloc (.cells #[.int .i64 0] 28)).alloc (.cells #[.int .i64 0] 3);rw[hW1];simpa using h
 have r2:Boxed W1 (w.heap.size+1+1) 4 (.bool false):=by have h:=((((((((((Boxed.new ((w.alloc (.cells #[.slice none 0 0] 26)).alloc (.cells #[.int .i64 0] 28)) 4 (.bool false)).alloc (.cells #[.int .i64 sz] 3)).alloc (.cells #[.string img] 9)).alloc (.cells #[.int .u32 root] 23)).alloc (.cells #[.int .i64 sz] 3)).alloc (.cells #[.string img] 9)).alloc (.cells #[.int .u32 root] 23)).alloc (.cells #[.string key] 9)).alloc (.cells #[.slice none 0 0] 26)).alloc (.cells #[.int .i64 0] 28)).alloc (.cells #[.int .i64 0] 3);rw[hW1];simpa using h
 have r3:Boxed W1 (w.heap.size+1+1+1) 3 (.int .i64 sz):=by have h:=(((((((((Boxed.new (((w.alloc (.cells #[.slice none 0 0] 26)).alloc (.cells #[.int .i64 0] 28)).alloc (.cells #[.bool false] 4)) 3 (.int .i64 sz)).alloc (.cells #[.string img] 9)).alloc (.cells #[.int .u32 root] 23)).alloc (.cells #[.int .i64 sz] 3)).alloc (.cells #[.string img] 9)).alloc (.cells #[.int .u32 root] 23)).alloc (.cells #[.string key] 9)).alloc (.cells #[.slice none 0 0] 26)).alloc (.cells #[.int .i64 0] 28)).alloc (.cells #[.int .i64 0] 3);rw[hW1];simpa using h
 have r4:Boxed W1 (w.heap.size+1+1+1+1) 9 (.string img):=by have h:=((((((((Boxed.new ((((w.alloc (.cells #[.slice none 0 0] 26)).alloc (.cells #[.int .i64 0] 28)).alloc (.cells #[.bool false] 4)).alloc (.cells #[.int .i64 sz] 3)) 9 (.string img)).alloc (.cells #[.int .u32 root] 23)).alloc (.cells #[.int .i64 sz] 3)).alloc (.cells #[.string img] 9)).alloc (.cells #[.int .u32 root] 23)).alloc (.cells #[.string key] 9)).alloc (.cells #[.slice none 0 0] 26)).alloc (.cells #[.int .i64 0] 28)).alloc (.cells #[.int .i64 0] 3);rw[hW1];simpa using h
 have r5:Boxed W1 (w.heap.size+1+1+1+1+1) 23 (.int .u32 root):=by have h:=(((((((Boxed.new (((((w.alloc (.cells #[.slice none 0 0] 26)).alloc (.cells #[.int .i64 0] 28)).alloc (.cells #[.bool false] 4)).alloc (.cells #[.int .i64 sz] 3)).alloc (.cells #[.string img] 9)) 23 (.int .u32 root)).alloc (.cells #[.int .i64 sz] 3)).alloc (.cells #[.string img] 9)).alloc (.cells #[.int .u32 root] 23)).alloc (.cells #[.string key] 9)).alloc (.cells #[.slice none 0 0] 26)).alloc (.cells #[.int .i64 0] 28)).alloc (.cells #[.int .i64 0] 3);rw[hW1];simpa using h
 have r6:Boxed W1 (w.heap.size+1+1+1+1+1+1) 3 (.int .i64 sz):=by have h:=((((((Boxed.new ((((((w.alloc (.cells #[.slice none 0 0] 26)).alloc (.cells #[.int .i64 0] 28)).alloc (.cells #[.bool false] 4)).alloc (.cells #[.int .i64 sz] 3)).alloc (.cells #[.string img] 9)).alloc (.cells #[.int .u32 root] 23)) 3 (.int .i64 sz)).alloc (.cells #[.string img] 9)).alloc (.cells #[.int .u32 root] 23)).alloc (.cells #[.string key] 9)).alloc (.cells #[.slice none 0 0] 26)).alloc (.cells #[.int .i64 0] 28)).alloc (.cells #[.int .i64 0] 3);rw[hW1];simpa using h
 have r7:Boxed W1 (w.heap.size+1+1+1+1+1+1+1) 9 (.string img):=by have h:=(((((Boxed.new (((((((w.alloc (.cells #[.slice none 0 0] 26)).alloc (.cells #[.int .i64 0] 28)).alloc (.cells #[.bool false] 4)).alloc (.cells #[.int .i64 sz] 3)).alloc (.cells #[.string img] 9)).alloc (.cells #[.int .u32 root] 23)).alloc (.cells #[.int .i64 sz] 3)) 9 (.string img)).alloc (.cells #[.int .u32 root] 23)).alloc (.cells #[.string key] 9)).alloc (.cells #[.slice none 0 0] 26)).alloc (.cells #[.int .i64 0] 28)).alloc (.cells #[.int .i64 0] 3);rw[hW1];simpa using h
 have r8:Boxed W1 (w.heap.size+1+1+1+1+1+1+1+1) 23 (.int .u32 root):=by have h:=((((Boxed.new ((((((((w.alloc (.cells #[.slice none 0 0] 26)).alloc (.cells #[.int .i64 0] 28)).alloc (.cells #[.bool false] 4)).alloc (.cells #[.int .i64 sz] 3)).alloc (.cells #[.string img] 9)).alloc (.cells #[.int .u32 root] 23)).alloc (.cells #[.int .i64 sz] 3)).alloc (.cells #[.string img] 9)) 23 (.int .u32 root)).alloc (.cells #[.string key] 9)).alloc (.cells #[.slice none 0 0] 26)).alloc (.cells #[.int .i64 0] 28)).alloc (.cells #[.int .i64 0] 3);rw[hW1];simpa using h
 have r9:Boxed W1 (w.heap.size+1+1+1+1+1+1+1+1+1) 9 (.string key):=by have h:=(((Boxed.new (((((((((w.alloc (.cells #[.slice none 0 0] 26)).alloc (.cells #[.int .i64 0] 28)).alloc (.cells #[.bool false] 4)).alloc (.cells #[.int .i64 sz] 3)).alloc (.cells #[.string img] 9)).alloc (.cells #[.int .u32 root] 23)).alloc (.cells #[.int .i64 sz] 3)).alloc (.cells #[.string img] 9)).alloc (.cells #[.int .u32 root] 23)) 9 (.string key)).alloc (.cells #[.slice none 0 0] 26)).alloc (.cells #[.int .i64 0] 28)).alloc (.cells #[.int .i64 0] 3);rw[hW1];simpa using h
 have r10:Boxed W1 (w.heap.size+1+1+1+1+1+1+1+1+1+1) 26 (.slice none 0 0):=by have h:=((Boxed.new ((((((((((w.alloc (.cells #[.slice none 0 0] 26)).alloc (.cells #[.int .i64 0] 28)).alloc (.cells #[.bool false] 4)).alloc (.cells #[.int .i64 sz] 3)).alloc (.cells #[.string img] 9)).alloc (.cells #[.int .u32 root] 23)).alloc (.cells #[.int .i64 sz] 3)).alloc (.cells #[.string img] 9)).alloc (.cells #[.int .u32 root] 23)).alloc (.cells #[.string key] 9)) 26 (.slice none 0 0)).alloc (.cells #[.int .i64 0] 28)).alloc (.cells #[.int .i64 0] 3);rw[hW1];simpa using h
 have r11:Boxed W1 (w.heap.size+1+1+1+1+1+1+1+1+1+1+1) 28 (.int .i64 0):=by have h:=(Boxed.new (((((((((((w.alloc (.cells #[.slice none 0 0] 26)).alloc (.cells #[.int .i64 0] 28)).alloc (.cells #[.bool false] 4)).alloc (.cells #[.int .i64 sz] 3)).alloc (.cells #[.string img] 9)).alloc (.cells #[.int .u32 root] 23)).alloc (.cells #[.int .i64 sz] 3)).alloc (.cells #[.string img] 9)).alloc (.cells #[.int .u32 root] 23)).alloc (.cells #[.string key] 9)).alloc (.cells #[.slice none 0 0] 26)) 28 (.int .i64 0)).alloc (.cells #[.int .i64 0] 3);rw[hW1];simpa using h
 have r12:Boxed W1 (w.heap.size+1+1+1+1+1+1+1+1+1+1+1+1) 3 (.int .i64 0):=by have h:=Boxed.new ((((((((((((w.alloc (.cells #[.slice none 0 0] 26)).alloc (.cells #[.int .i64 0] 28)).alloc (.cells #[.bool false] 4)).alloc (.cells #[.int .i64 sz] 3)).alloc (.cells #[.string img] 9)).alloc (.cells #[.int .u32 root] 23)).alloc (.cells #[.int .i64 sz] 3)).alloc (.cells #[.string img] 9)).alloc (.cells #[.int .u32 root] 23)).alloc (.cells #[.string key] 9)).alloc (.cells #[.slice none 0 0] 26)).alloc (.cells #[.int .i64 0] 28)) 3 (.int .i64 0);rw[hW1];simpa using h
 have hbW:Below w.heap.size w W1:=by rw[hW1];exact ((((((((((((((Below.refl w.heap.size w).alloc (by simp;try omega) (.cells #[.slice none 0 0] 26)).alloc (by simp;try omega) (.cells #[.int .i64 0] 28)).alloc (by simp;try omega) (.cells #[.bool false] 4)).alloc (by simp;try omega) (.cells #[.int .i64 sz] 3)).alloc (by simp;try omega) (.cells #[.string img] 9)).alloc (by simp;try omega) (.cells #[.int .u32 root] 23)).alloc (by simp;try omega) (.cells #[.int .i64 sz] 3)).alloc (by simp;try omega) (.cells #[.string img] 9)).alloc (by simp;try omega) (.cells #[.int .u32 root] 23)).alloc (by simp;try omega) (.cells #[.string key] 9)).alloc (by simp;try omega) (.cells #[.slice none 0 0] 26)).alloc (by simp;try omega) (.cells #[.int .i64 0] 28)).alloc (by simp;try omega) (.cells #[.int .i64 0] 3))
 have hsW:W1.heap.size=w.heap.size+13:=by rw[hW1];simp
 have hOk:=Hd (okS_from sz img root key)
 have HPs:=Hd (show pairsS (fromS sz img root key)=fromP key (treeV sz img root).1 from pairsS_from _ _ _ _)
 have HEs:=Hd (show endS (fromS sz img root key)=treeE sz img root from endS_from _ _ _ _)
 obtain⟨XS,hXS⟩ : ∃ XS,XS=fromS sz img root key:=⟨_,rfl⟩
 have hseq:=from_seq sz img root key (w.heap.size+1+1+1+1+1+1) (w.heap.size+1+1+1+1+1+1+1) (w.heap.size+1+1+1+1+1+1+1+1) (w.heap.size+1+1+1+1+1+1+1+1+1) hi hr W1 r6 r7 r8 r9
 rw[← hXS] at hseq hn hOk HPs HEs
 clear hW1 hXS
 refine wpIn_rangeFunc_U (gf:=80) (lb:=#[.pointer (some ⟨w.heap.size+1+1+1+1+1+1,0,none⟩),.pointer (some ⟨w.heap.size+1+1+1+1+1+1+1,0,none⟩),.pointer (some ⟨w.heap.size+1+1+1+1+1+1+1+1,0,none⟩),.pointer (some ⟨w.heap.size+1+1+1+1+1+1+1+1+1,0,none⟩)]) rfl (fun _ _=>by first | rfl | kernel_rfl) hseq (Below.refl _ _) (by rintro k (rfl | rfl | rfl | rfl)<;>omega) (fun _=>rfl)
  (AllI w (w.heap.size+1+1+1+1+1+1+1+1+1+1) (w.heap.size+1+1+1+1+1+1+1+1+1+1+1) (w.heap.size+1+1+1+1+1+1+1+1+1+1+1+1)) (fun _ _ _ _=>False)
  (AllA w (w.heap.size+1+1+1+1+1+1+1+1+1+1) (w.heap.size+1+1+1+1+1+1+1+1+1+1+1) (w.heap.size+1+1+1+1+1+1+1+1+1+1+1+1) (fun bp x => { tmps:=#[.int .i64 sz,.string img,.int .u32 root,.string key,.bool true,undef,undef,undef,undef,undef,.pointer (some ⟨w.heap.size,0,none⟩),.pointer (some ⟨w.heap.size+1,0,none⟩),.pointer (some ⟨w.heap.size+1+1,0,none⟩),.func (.func 80) #[] #[.pointer (some ⟨w.heap.size+1+1+1+1+1+1,0,none⟩),.pointer (some ⟨w.heap.size+1+1+1+1+1+1+1,0,none⟩),.pointer (some ⟨w.heap.size+1+1+1+1+1+1+1+1,0,none⟩),.pointer (some ⟨w.heap.size+1+1+1+1+1+1+1+1+1,0,none⟩)],.pointer (some ⟨w.heap.size+1+1+1+1+1+1+1+1+1+1,0,none⟩),.pointer (some ⟨w.heap.size+1+1+1+1+1+1+1+1+1+1+1,0,none⟩),.pointer (some ⟨w.heap.size+1+1+1+1+1+1+1+1+1+1+1+1,0,none⟩),.pointer (some ⟨bp,0,none⟩),.int .i64 x.2,.int .i64 sz,.string img,.int .u32 root,.func (.func 79) #[] #[.pointer (some ⟨w.heap.size+1+1+1,0,none⟩),.pointer (some ⟨w.heap.size+1+1+1+1,0,none⟩),.pointer (some ⟨w.heap.size+1+1+1+1+1,0,none⟩)],.bool true,.int .i64 sz,.string img,.int .u32 root,.string key,.func (.func 80) #[] #[.pointer (some ⟨w.heap.size+1+1+1+1+1+1,0,none⟩),.pointer (some ⟨w.heap.size+1+1+1+1+1+1+1,0,none⟩),.pointer (some ⟨w.heap.size+1+1+1+1+1+1+1+1,0,none⟩),.pointer (some ⟨w.heap.size+1+1+1+1+1+1+1+1+1,0,none⟩)],.func (.func 80) #[] #[.pointer (some ⟨w.heap.size+1+1+1+1+1+1,0,none⟩),.pointer (some ⟨w.heap.size+1+1+1+1+1+1+1,0,none⟩),.pointer (some ⟨w.heap.size+1+1+1+1+1+1+1+1,0,none⟩),.pointer (some ⟨w.heap.size+1+1+1+1+1+1+1+1+1,0,none⟩)],.bool false,.func (.func 80) #[] #[.pointer (some ⟨w.heap.size+1+1+1+1+1+1,0,none⟩),.pointer (some ⟨w.heap.size+1+1+1+1+1+1+1,0,none⟩),.pointer (some ⟨w.heap.size+1+1+1+1+1+1+1+1,0,none⟩),.pointer (some ⟨w.heap.size+1+1+1+1+1+1+1+1+1,0,none⟩)],.agg #[.string x.1.ky,.string x.1.vl],.int .i64 x.2,undef,undef,undef,undef,undef,undef,undef,undef,undef,undef,undef,undef,undef,undef,undef,undef,undef,undef,undef,undef,undef,undef,undef,undef,undef,undef],defers:=[] }))
  (allI_stab w _ _ _) (fun _ _ _ _ _ h _=>h) (fun pre x a'=>allA_stab w _ _ _ _ pre x a') (allI_lt w _ _ _) (fun _ _ _ _ h=>h.elim)
  (fun k=>k<w.heap.size+3∨k=w.heap.size+1+1+1+1+1+1+1+1+1+1∨k=w.heap.size+1+1+1+1+1+1+1+1+1+1+1∨k=w.heap.size+1+1+1+1+1+1+1+1+1+1+1+1∨(Value.slice none 0 0).ownBlock=some k) (by
   rintro k hk hu
   have:=hk
   simp only[Value.ownBlock] at hu
   rcases hk with (rfl | rfl | rfl | rfl)<;>rcases hu with h | h | h | h | h<;>first | omega | cases h)
  ⟨_,fun _=>Iff.rfl,r10,r11,r12,World.ownsRow_nil _ _ _ _,hbW,r0,r1,r2⟩ ?assign ?body ?done ?stop
 case assign =>
  intro m l pre x U' W K hI hx hK
  have hl:=allI_lt w _ _ _ _ _ _ hI
  have HC:=Hd (hK _ (fun k=>U' k∨k=W.heap.size) (W.alloc (.cells #[.string x.1.ky,.string x.1.vl] 55)) (fun k h=>h.elim .inl (fun e=>.inr (by omega))) ((Kept.refl _ _).alloc _)
   ⟨U',W.heap.size,fun k=>Iff.rfl,fun h=>Nat.lt_irrefl _ (hl _ h),allI_stab w _ _ _ _ _ _ _ hI (KeepsU.alloc _ _ _),Blk.new _ _ _,rfl⟩)
  clear hK hI hl
  simp only[encP]
  gi_wp2
  exact HC.out
 case body =>
  rintro m l pre x a' U' W ⟨Uo,bp,hU,hbp,hI,kp,rfl⟩ hx
  obtain⟨⟨ky,vl⟩,er⟩:=x
  dsimp only at kp ⊢
  obtain⟨V,hUo,k1,k2,k3,hrow,hB,s1,s2,s3⟩:=hI
  have hok:=hOk.out.at_ hx
  rw[endS_zero hok.1] at k2
  have hpl:pre.length+1≤20000:=by have h:=hx.length_le;simp at h;omega
  have hpn:(pairsS pre).length≤pre.length:=by unfold pairsS;rw[List.length_map];exact List.length_filter_le _ _
  obtain⟨A,c,hV,hnc,hcm,hA⟩:=own_form hrow
  subst hV
  have q0:=kp.cell 0
  have q1:=kp.cell 1
  have c1:=k1.cell
  have c2:=k2.cell
  have c3:=k3.cell
  have f1:=k1.frozen
  have f2:=k2.frozen
  have f3:=k3.frozen
  simp at q0 q1
  have hgn:decide ((20000:Int)<(pre.length:Int)+1)=false:=by simp;omega
  have nbp : ∀ k,Uo k→bp≠k:=fun k hk e=>hbp (e ▸ hk)
  have nb1:=nbp _ ((hUo (w.heap.size+1+1+1+1+1+1+1+1+1+1)).2 (by simp))
  have nb2:=nbp _ ((hUo (w.heap.size+1+1+1+1+1+1+1+1+1+1+1)).2 (by simp))
  have nb3:=nbp _ ((hUo (w.heap.size+1+1+1+1+1+1+1+1+1+1+1+1)).2 (by simp))
  have u1:U' (w.heap.size+1+1+1+1+1+1+1+1+1+1):=(hU _).2 (.inl ((hUo _).2 (by simp)))
  have u2:U' (w.heap.size+1+1+1+1+1+1+1+1+1+1+1):=(hU _).2 (.inl ((hUo _).2 (by simp)))
  have u3:U' (w.heap.size+1+1+1+1+1+1+1+1+1+1+1+1):=(hU _).2 (.inl ((hUo _).2 (by simp)))
  obtain⟨W2,hW2⟩ : ∃ y,y=W.setCell ⟨w.heap.size+1+1+1+1+1+1+1+1+1+1+1+1,0,none⟩ (.int .i64 ((pre.length:Int)+1)):=⟨_,rfl⟩
  have hg2:W.grownBy W2 (some (w.heap.size+1+1+1+1+1+1+1+1+1+1+1+1)):=by rw[hW2];exact grown_setC _ _ _ _
  have K1:=Hd (show Boxed W2 (w.heap.size+1+1+1+1+1+1+1+1+1+1) 26 (.slice A (pairsS pre).length c) from k1.kept hg2 (by intro h;injection h with h;omega))
  have K2:=Hd (show Boxed W2 (w.heap.size+1+1+1+1+1+1+1+1+1+1+1) 28 (.int .i64 0) from k2.kept hg2 (by intro h;injection h with h;omega))
  have K3:=Hd (show Boxed W2 (w.heap.size+1+1+1+1+1+1+1+1+1+1+1+1) 3 (.int .i64 ((pre.length:Int)+1)) by rw[hW2];exact k3.set _)
  have KP:=Hd (show Blk W2 bp 55 #[.string ky,.string vl] from kp.grown hg2 (by intro h;injection h with h;exact nb3 h))
  have KR:=Hd (show W2.ownsRow w.heap.size 55 2 (.slice A (pairsS pre).length c) (pairsS pre).length (prc (pairsS pre)) from hrow.kept hg2 (.inr fun h=>Boxed.not_row k3 (by decide) hrow h.symm))
  have S1:=Hd (s1.kept hg2 (by intro h;injection h with h;omega))
  have S2:=Hd (s2.kept hg2 (by intro h;injection h with h;omega))
  have S3:=Hd (s3.kept hg2 (by intro h;injection h with h;omega))
  have HBw:=Hd (hB.grown hg2 hB.size (by intro k h;injection h with h;omega))
  have HK2:=Hd (show Kept U' W W2 from (Kept.refl _ _).grown hg2 (fun k e=>by cases e;exact .inl u3))
  have HUU:=Hd hU
  have HUo:=Hd hUo
  have HOk:=Hd hok
  clear hU hUo hok hrow hB s1 s2 s3 k1 k2 k3 kp hg2 hbp nbp hA hx
  gi_upto_region 13 with fail
  rw[← hW2]
  clear hW2 q0 q1 c1 c2 c3 f1 f2 f3
  have q0:=KP.out.cell 0
  have q1:=KP.out.cell 1
  have c1:=K1.out.cell
  have c2:=K2.out.cell
  have c3:=K3.out.cell
  have f1:=K1.out.frozen
  have f2:=K2.out.frozen
  simp at q0 q1
  by_cases he:er=0
  ·subst he
   have RA:=Hd (KR.out.alloc (.cells #[.string ky,.string vl] 55))
   have hpn2:(pairsS pre).length+1≤20000:=by omega
   gi_wp2_with (gi_at_builtin;refine wpListIn_append_own_at _ rfl _ _ 26 rfl w.heap.size 55 i0 _ 2 32 Tryz.underlying26 HI0.out hz0 hz1 hz2 rfl (by decide) _ _ _ rfl RA.out ⟨W2.heap.size,0,none⟩ 1 1 (Pr.cells ⟨ky,vl⟩) rfl rfl (reads2 _ _ _ _) (pr_one _) (by unfold maxLen;omega) (by omega) (by have:=HBw.out.size;simp;omega) ?_;intro v6 w6 hown6 hg6 _ hat6;obtain⟨A6,c6,hv6,_,_,_⟩:=own_form hown6;subst hv6;have b6:=(K1.out.alloc (.cells #[.string ky,.string vl] 55)).kept hg6 (fun h=>Boxed.not_row (K1.out.alloc (.cells #[.string ky,.string vl] 55)) (by decide) RA.out h);have b6c:=b6.cell;have b6f:=b6.frozen)
   have B6:=Hd b6
   have R6:=Hd (show w6.ownsRow w.heap.size 55 2 (.slice A6 ((pairsS pre).length+1) c6) ((pairsS pre).length+1) (prc (pairsS pre)++Pr.cells ⟨ky,vl⟩) from hown6)
   have G6:=Hd hg6
   have HT6:=Hd (show (Value.slice A6 ((pairsS pre).length+1) c6).ownBlock=(Value.slice A (pairsS pre).length c).ownBlock∨(Value.slice A6 ((pairsS pre).length+1) c6).ownBlock=some (W2.heap.size+1) from hat6.elim .inl (fun h=>.inr (h.trans (by simp))))
   clear b6 hown6 hg6 hat6 b6c b6f
   have hga:=G6.out
   have hV6 : ∀ k,(Value.slice A6 ((pairsS pre).length+1) c6).ownBlock=some k→(Value.slice A (pairsS pre).length c).ownBlock=some k∨W.heap.size≤k:=fun k hk=>by
    rcases HT6.out with h | h
    ·rw[h] at hk;exact .inl hk
    ·rw[h] at hk
     injection hk with hk
     have:=HK2.out.size
     right;omega
   have gr : ∀ {b:Nat} {t:TypeId} {v:Value},t≠55→Boxed W2 b t v→Boxed w6 b t v:=fun ht h=>(h.alloc _).kept hga (fun e=>Boxed.not_row (h.alloc _) ht RA.out e)
   have gs : ∀ {b:Nat} {t:TypeId} {v u:Value},b≠w.heap.size+1+1+1+1+1+1+1+1+1+1→Boxed w6 b t v→Boxed (w6.setCell ⟨w.heap.size+1+1+1+1+1+1+1+1+1+1,0,none⟩ u) b t v:=fun hne h=>h.other hne _
   refine⟨fun k=>k<w.heap.size+3∨k=w.heap.size+1+1+1+1+1+1+1+1+1+1∨k=w.heap.size+1+1+1+1+1+1+1+1+1+1+1∨k=w.heap.size+1+1+1+1+1+1+1+1+1+1+1+1∨(Value.slice A6 ((pairsS pre).length+1) c6).ownBlock=some k,fun k hk=>?_,?_,.slice A6 ((pairsS pre).length+1) c6,fun k=>Iff.rfl,B6.out.set _,?_,?_,?_,?_,?_,?_,?_⟩
   ·rcases hk with h | h | h | h | h
    ·exact .inl ((HUU.out _).2 (.inl ((HUo.out _).2 (.inl h))))
    ·exact .inl (h ▸ u1)
    ·exact .inl (h ▸ u2)
    ·exact .inl (h ▸ u3)
    ·rcases hV6 k h with h1 | h1
     ·exact .inl ((HUU.out _).2 (.inl ((HUo.out _).2 (.inr (.inr (.inr (.inr h1)))))))
     ·exact .inr h1
   ·exact ((HK2.out.alloc _).grown hga (fun k e=>.inl ((HUU.out _).2 (.inl ((HUo.out _).2 (.inr (.inr (.inr (.inr e))))))))).setCell (.inl u1) _
   ·rw[endS_ok,endS_zero HOk.out.1];exact gs (by omega) (gr (by decide) K2.out)
   ·rw[List.length_append];exact gs (by omega) (gr (by decide) K3.out)
   ·rw[pairsS_ok,List.length_append,← prc_snoc]
    exact R6.out.kept (grown_setC _ _ _ _) (.inr fun h=>Boxed.not_row B6.out (by decide) R6.out h.symm)
   ·exact ((HBw.out.alloc HBw.out.size _).grown hga (by have:=HBw.out.size;simp;omega) (fun k e=>own_base KR.out k e)).setCell (p:=⟨w.heap.size+1+1+1+1+1+1+1+1+1+1,0,none⟩) (by show w.heap.size≤w.heap.size+1+1+1+1+1+1+1+1+1+1;omega) _
   ·exact gs (by omega) (gr (by decide) S1.out)
   ·exact gs (by omega) (gr (by decide) S2.out)
   ·exact gs (by omega) (gr (by decide) S3.out)
  ·have hz:=HOk.out.2 he
   obtain⟨rfl,rfl⟩:ky=⟨#[]⟩∧vl=⟨#[]⟩:=by simp only[Pr.zero] at hz;injection hz with h1 h2;exact⟨h1,h2⟩
   have hpe:=pair_eq ⟨#[]⟩ ⟨#[]⟩
   have hpe2:=pair_eq ByteArray.empty ByteArray.empty
   have he1:(er != 0)=true:=by simpa using he
   have HE:=Hd he
   clear he hz
   gi_wp2
   have he:=HE.out
   have gs : ∀ {b:Nat} {t:TypeId} {v u:Value},b≠w.heap.size+1+1+1+1+1+1+1+1+1+1+1→Boxed W2 b t v→Boxed (W2.setCell ⟨w.heap.size+1+1+1+1+1+1+1+1+1+1+1,0,none⟩ u) b t v:=fun hne h=>h.other hne _
   refine⟨fun k=>k<w.heap.size+3∨k=w.heap.size+1+1+1+1+1+1+1+1+1+1∨k=w.heap.size+1+1+1+1+1+1+1+1+1+1+1∨k=w.heap.size+1+1+1+1+1+1+1+1+1+1+1+1∨(Value.slice A (pairsS pre).length c).ownBlock=some k,fun k hk=>?_,?_,.slice A (pairsS pre).length c,fun k=>Iff.rfl,?_,?_,?_,?_,?_,?_,?_,?_⟩
   ·exact .inl ((HUU.out _).2 (.inl ((HUo.out _).2 hk)))
   ·exact HK2.out.setCell (.inl u2) _
   ·exact gs (by omega) K1.out
   ·rw[endS_no _ _ _ he];exact K2.out.set _
   ·rw[List.length_append];exact gs (by omega) K3.out
   ·rw[pairsS_no _ _ _ he]
    exact KR.out.kept (grown_setC _ _ _ _) (.inr fun h=>Boxed.not_row K2.out (by decide) KR.out h.symm)
   ·exact HBw.out.setCell (p:=⟨w.heap.size+1+1+1+1+1+1+1+1+1+1+1,0,none⟩) (by show w.heap.size≤w.heap.size+1+1+1+1+1+1+1+1+1+1+1;omega) _
   ·exact gs (by omega) S1.out
   ·exact gs (by omega) S2.out
   ·exact gs (by omega) S3.out
 case done =>
  rintro D U' W hD hnD ⟨V,hU,k1,k2,k3,hrow,hB,s1,s2,s3⟩ hK
  obtain⟨A,c,hV,hnc,hcm,hA⟩:=own_form hrow
  subst hV
  rw[HEs.out] at k2
  have c1:=k1.cell
  have c2:=k2.cell
  have t1:=s1.cell
  have t2:=s2.cell
  have t3:=s3.cell
  have g1:=s1.frozen
  have g2:=s2.frozen
  have g3:=s3.frozen
  gi_upto_region 18 with fail
  have HH:=Hd (show Boxed W w.heap.size 26 (.slice none 0 0)∧Boxed W (w.heap.size+1) 28 (.int .i64 0)∧Boxed W (w.heap.size+1+1) 4 (.bool false) from ⟨s1,s2,s3⟩)
  have HR:=Hd hrow
  have HBw:=Hd hB
  have hDn : ∀ k,k<w.heap.size+3→k≠D:=fun k hk e=>hnD ((hU D).2 (.inl (e ▸ hk)))
  have HDn:=Hd hDn
  have HKd:=Hd hK
  have HDw:=Hd (show w.heap.size+3≤D by omega)
  clear hrow hB s1 s2 s3 hDn hU hnD
  refine wpIn_wide.2 ?_
  go_region
  all_goals go_wp2_with fail
  obtain⟨WF,hWF⟩ : ∃ y,y=((W.setCell ⟨w.heap.size,0,none⟩ (.slice A (pairsS XS).length c)).setCell ⟨w.heap.size+1,0,none⟩ (.int .i64 (treeE sz img root))).setCell ⟨w.heap.size+1+1,0,none⟩ (.bool true):=⟨_,rfl⟩
  rw[← hWF]
  have hD0:=HDw.out
  have hkf:KeepsOthers W WF:=by rw[hWF];exact ((KeepsOthers.setCell _ ⟨w.heap.size,0,none⟩ (.slice A (pairsS XS).length c)).trans (KeepsOthers.setCell _ ⟨w.heap.size+1,0,none⟩ (.int .i64 (treeE sz img root)))).trans (KeepsOthers.setCell _ ⟨w.heap.size+1+1,0,none⟩ (.bool true))
  have hKF:WF.drew.heap[D]? = some (.deferred (some [])):=hkf.same D _ HKd.out rfl
  have z1:Boxed WF w.heap.size 26 (.slice A (pairsS XS).length c):=by rw[hWF];exact ((HH.out.1.set _).other (by omega) _).other (by omega) _
  have z2:Boxed WF (w.heap.size+1) 28 (.int .i64 (treeE sz img root)):=by rw[hWF];exact ((HH.out.2.1.other (by omega) _).set _).other (by omega) _
  have z3:Boxed WF (w.heap.size+1+1) 4 (.bool true):=by rw[hWF];exact ((HH.out.2.2.other (by omega) _).other (by omega) _).set _
  have zr:WF.ownsRow w.heap.size 55 2 (.slice A (pairsS XS).length c) (pairsS XS).length (prc (pairsS XS)):=by
   have o1:=HR.out.kept (grown_setC W w.heap.size 0 (.slice A (pairsS XS).length c)) (.inr fun h=>Boxed.not_row HH.out.1 (by decide) HR.out h.symm)
   have o2:=o1.kept (grown_setC _ (w.heap.size+1) 0 (.int .i64 (treeE sz img root))) (.inr fun h=>Boxed.not_row (HH.out.2.1.other (by omega) (.slice A (pairsS XS).length c)) (by decide) o1 h.symm)
   have o3:=o2.kept (grown_setC _ (w.heap.size+1+1) 0 (.bool true)) (.inr fun h=>Boxed.not_row ((HH.out.2.2.other (by omega) (.slice A (pairsS XS).length c)).other (by omega) (.int .i64 (treeE sz img root))) (by decide) o2 h.symm)
   rw[hWF]
   exact o3
  have zb:Below w.heap.size w WF:=by
   rw[hWF]
   exact ((HBw.out.setCell (p:=⟨w.heap.size,0,none⟩) (Nat.le_refl _) _).setCell (p:=⟨w.heap.size+1,0,none⟩) (Nat.le_succ _) _).setCell (p:=⟨w.heap.size+1+1,0,none⟩) (by show w.heap.size≤w.heap.size+1+1;omega) _
  clear hWF hkf HH HR HBw c1 c2 t1 t2 t3 g1 g2 g3
  gi_wp2
  refine⟨by simp,.inl ⟨_,_,rfl,run_takeDeferred hKF,?_⟩⟩
  have p1:=(show Boxed WF.drew _ 26 _ from z1).kept (grownBy_putObj' WF.drew D (.deferred none)) (by intro h;injection h with h;omega)
  have p2:=(show Boxed WF.drew _ 28 _ from z2).kept (grownBy_putObj' WF.drew D (.deferred none)) (by intro h;injection h with h;omega)
  have p3:=(show Boxed WF.drew _ 4 _ from z3).kept (grownBy_putObj' WF.drew D (.deferred none)) (by intro h;injection h with h;omega)
  have pr:=ownsRow_putObj (show WF.drew.ownsRow w.heap.size 55 2 (.slice A (pairsS XS).length c) (pairsS XS).length (prc (pairsS XS)) from zr) (.deferred none) hKF rfl
  have pb:=zb.drew.trans (belowK_b (w:=w) (Nat.le_refl _) WF.drew D _ (.deferred none) (by omega) hKF rfl rfl)
  refine⟨_,results_cells3 rfl _ _ _ _ _ _ _ _ rfl rfl rfl (load_prs p1) (load_erb p2) (load_bol p3),A,(pairsS XS).length,c,rfl,?_,pb⟩
  rw[← HPs.out]
  exact Reads.of_own pr
 case stop =>
  rintro D c pre U W _ _ _ h
  exact h.elim
end Go.Proofs.YtanbbnogdhnikaaGreat

