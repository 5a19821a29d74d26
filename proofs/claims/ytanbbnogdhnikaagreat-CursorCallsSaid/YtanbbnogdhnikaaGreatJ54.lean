/-
  Texts that the main proof rests on, put together: LaFrom, LaWays, CuLaw, Ref12U. No statement is proved here.
-/
import Derived.Test.YtanbbnogdhnikaaGreatJ47
import Derived.Test.YtanbbnogdhnikaaGreatJ53
set_option linter.unusedVariables false
set_option linter.unusedSimpArgs false
set_option maxRecDepth 300000
set_option maxHeartbeats 25600000
namespace Go.Proofs.YtanbbnogdhnikaaGreat
open Go.RowKit
open Go.Lib hiding intOf

def lessN (key:ByteArray) (l:List Pr):Nat:=l.countP fun p=>Op.bytesLess p.ky.toList key.toList
theorem fromP_drop (key:ByteArray) : ∀ {l:List Pr},(l.map (·.ky)).Pairwise lessB→fromP key l=l.drop (lessN key l)
 | [],_=>rfl
 | x::t,h=>by
  rw[List.map_cons,List.pairwise_cons] at h
  rcases hx:Op.bytesLess x.ky.toList key.toList with _ | _
  ·have hall : ∀ y∈t,Op.bytesLess y.ky.toList key.toList=false:=fun y hy=>by
    rcases hb:Op.bytesLess y.ky.toList key.toList with _ | _
    ·rfl
    ·have:=lessB_trans (h.1 y.ky (List.mem_map_of_mem hy)) (show lessB y.ky key from hb)
     unfold lessB at this
     rw[hx] at this
     cases this
   have h0:lessN key (x::t)=0:=by
    unfold lessN
    rw[List.countP_eq_zero]
    intro y hy
    rcases List.mem_cons.1 hy with rfl | hy
    ·simp[hx]
    ·simp[hall y hy]
   rw[h0,List.drop_zero]
   unfold fromP
   rw[List.filter_eq_self]
   intro y hy
   rcases List.mem_cons.1 hy with rfl | hy
   ·simp[hx]
   ·simp[hall y hy]
  ·have h1:lessN key (x::t)=lessN key t+1:=by unfold lessN;simp[List.countP_cons,hx]
   have h2:fromP key (x::t)=fromP key t:=by unfold fromP;simp[List.filter_cons,hx]
   rw[h1,h2,List.drop_succ_cons]
   exact fromP_drop key h.2
theorem sumP_mem : ∀ {l:List Pr} {x:Pr},x∈l→x.ky.size+x.vl.size≤sumP l
 | c::l,x,h=>by
  rcases List.mem_cons.1 h with rfl | h
  ·simp only[sumP];omega
  ·have:=sumP_mem h;simp only[sumP];omega
theorem lightP_parts {l:List Pr} (h:lightP l=true):l.length≤60∧∀ p∈l,p.ky.size≤2500∧p.vl.size≤2500:=by
 simp only[lightP,Bool.and_eq_true,decide_eq_true_eq] at h
 exact⟨h.1,fun p hp=>by have:=sumP_mem hp;omega⟩
structure FewP (l:List Pr):Prop where
 few:l.length≤60
 small : ∀ p∈l,p.ky.size≤2500∧p.vl.size≤2500
 asc:(l.map (·.ky)).Pairwise lessB
theorem FewP.lay {l:List Pr} (h:FewP l):LayOk l:=layOk_light h.few h.small h.asc
def imY (l:List Pr):ByteArray:=layStr 128 ⟨#[]⟩ (topY l).1
structure Told (l:List Pr) (im:ByteArray) (r:Nat):Prop where
 err:layErr 128 ⟨#[]⟩ (topY l).1=0
 size:im.size≤400000
 root:r<4294967296
 tree:(treeV 128 im r).1=l
 te:treeE 128 im r=0
 get : ∀ p∈l,getV 128 im r p.ky=(p.vl,0)
 no : ∀ key,(∀ p∈l,p.ky≠key)→getV 128 im r key=(⟨#[]⟩,5)
structure Stands (l:List Pr) (im:ByteArray) (r d:Nat) (ns:List Nat):Prop where
 size:im.size=(2+ns.length)*128
 d1:1≤d
 d7:d≤7
 tree:TreeR (readAt 128 im) d r l ns
 perm:ns.Perm (List.range' 2 ns.length)
 len:ns.length≤2600
 asc:(l.map (·.ky)).Pairwise lessB
theorem Stands.nodup {l:List Pr} {im:ByteArray} {r d:Nat} {ns:List Nat} (h:Stands l im r d ns):ns.Nodup:=h.perm.nodup_iff.2 List.nodup_range'
theorem Stands.mem {l:List Pr} {im:ByteArray} {r d:Nat} {ns:List Nat} (h:Stands l im r d ns) (n:Nat):n∈ns↔2≤n∧n<2+ns.length:=by rw[h.perm.mem_iff,List.mem_range'_1]
theorem Stands.head {l:List Pr} {im:ByteArray} {r d:Nat} {ns:List Nat} (h:Stands l im r d ns) : ∃ ms,ns=r::ms:=by
 have:=h.tree
 have hd:=h.d1
 cases d with
 | zero=>omega
 | succ d=>obtain⟨p,ms,_,h2,_⟩:=this;exact⟨ms,h2⟩
theorem Stands.root {l:List Pr} {im:ByteArray} {r d:Nat} {ns:List Nat} (h:Stands l im r d ns):2≤r∧r<2+ns.length:=by
 obtain⟨ms,hm⟩:=h.head
 exact (h.mem r).1 (by rw[hm];simp)
theorem Stands.trav {l:List Pr} {im:ByteArray} {r d:Nat} {ns:List Nat} (h:Stands l im r d ns):treeV 128 im r=(l,some ns):=by
 have h7:=h.d7
 have h2:=h.root
 unfold treeV
 rw[show goodSize 128=true from rfl,if_pos rfl,if_neg (by omega)]
 have:=h.tree.trav (f:=16) (L:=[]) (by omega) (by simpa using h.nodup)
 simpa using this
theorem Stands.te {l:List Pr} {im:ByteArray} {r d:Nat} {ns:List Nat} (h:Stands l im r d ns):treeE 128 im r=0:=by
 unfold treeE
 rw[h.trav]
 rfl
theorem Stands.get {l:List Pr} {im:ByteArray} {r d:Nat} {ns:List Nat} (h:Stands l im r d ns) (key:ByteArray) :
  (∀ p∈l,p.ky=key→getV 128 im r key=(p.vl,0))∧((∀ p∈l,p.ky≠key)→getV 128 im r key=(⟨#[]⟩,5)) :=
 h.tree.get (by have:=h.d7;omega) (by have:=h.root;omega) h.asc h.nodup key
theorem stands {l:List Pr} (h:FewP l) (h0:l ≠ []) (hok:okY l=true):layErr 128 ⟨#[]⟩ (topY l).1=0∧∃ d ns,Stands l (imY l) (rootY l) d ns:=by
 obtain⟨im,d,ns,e1,e2,e3,e4,e5,e6,e7,e8⟩:=laid_tree h0 h.few h.small h.asc hok
 have hl:ns.length=(topY l).1.length:=by rw[e7.length_eq,List.length_range']
 have hi:imY l=im:=e1
 exact⟨e2,d,ns,by rw[hi,e3,hl],e4,e5,by rw[hi];exact e6,by rw[hl];exact e7,by rw[hl];exact e8,h.asc⟩
theorem told {l:List Pr} (h:FewP l) (hok:okY l=true):Told l (imY l) (rootY l):=by
 by_cases h0:l=[]
 ·subst h0
  have hr:rootY []=0:=rfl
  have hi:imY []=⟨#[]⟩:=rfl
  rw[hr,hi]
  exact⟨rfl,by decide,by decide,rfl,rfl,by simp,fun key _=>rfl⟩
 ·obtain⟨e,d,ns,hs⟩:=stands h h0 hok
  have h1:=hs.size
  have h2:=hs.len
  have h3:=hs.root
  exact⟨e,by omega,by omega,by rw[hs.trav],hs.te,fun p hp=>(hs.get p.ky).1 p hp rfl,fun key=>(hs.get key).2⟩
end Go.Proofs.YtanbbnogdhnikaaGreat

namespace Go.Proofs.YtanbbnogdhnikaaGreat
open Go.RowKit
open Go.Lib hiding intOf
attribute [local go_sem ↓] Go.wp_at_zero Go.wp_at_succ

def fewL:List Pr:=[⟨⟨#[97]⟩,⟨#[49]⟩⟩,⟨⟨#[98]⟩,⟨#[50]⟩⟩,⟨⟨#[99]⟩,⟨#[]⟩⟩]
theorem fewL_light:lightP fewL=true:=by decide +kernel
theorem fewL_asc:(fewL.map (·.ky)).Pairwise lessB:=by
 simp[fewL,lessB]
 decide +kernel
theorem fewL_few:FewP fewL:=⟨by decide +kernel,(lightP_parts fewL_light).2,fewL_asc⟩
theorem fewL_ok:okY fewL=true:=by decide +kernel
theorem fewL_root:rootY fewL=2:=by decide +kernel
theorem fewL_from:lessN ⟨#[98]⟩ fewL=1:=by decide +kernel
theorem treeS_len {l:List Pr} {im:ByteArray} {r:Nat} (h1:(treeV 128 im r).1.length≤60):(treeS 128 im r).length≤20000∧∀ key,(fromS 128 im r key).length≤20000:=by
 have h:(treeS 128 im r).length≤61:=by
  unfold treeS stepsT
  rw[List.length_append,List.length_map]
  split
  ·simp;omega
  ·simp;omega
 refine⟨by omega,fun key=>?_⟩
 unfold fromS
 have:=List.length_filter_le (keepK key) (treeS 128 im r)
 omega
theorem prc_at {w:World} (L:List Pr) {A:Option Addr} {cs:Array Value} {g:Nat} {t:TypeId} (h:Blk w g t cs) (hc:cs.toList=prc L):Reads w w.heap.size 2 (some ⟨g,0,none⟩) L.length (prc L):=by
 refine⟨by rw[prc,rowsOf_length Pr.cells_len],fun h0=>⟨⟨g,0,none⟩,rfl,h.lt,fun j u hu=>?_⟩⟩
 rw[show (⟨g,0,none⟩:Addr).add j=⟨g,j,none⟩ by unfold Addr.add;split<;>simp_all,h.cell j,← hu,← hc]
 simp
theorem few_any (w:World):Calls Tryz.prog 12 #[] w fun e w'=>∃ A,e=.returned (.slice A 3 3)∧Reads w' w'.heap.size 2 A 3 (prc fewL)∧Below w.heap.size w w':=by
 go_enter Tryz.func12,Tryz.ntmps12
 go_wp2_with fail
 go_ret
 exact⟨_,rfl,prc_at fewL (A:=none) (Blk.new w _ _) rfl,(Below.refl _ _).alloc (Nat.le_refl _) _⟩
theorem laid2_any (A:Option Addr) (n c:Nat) (l:List Pr) (w:World) (hr:Reads w w.heap.size 2 A n (prc l)) (hk:FewP l) :
  Calls Tryz.prog 11 #[.int .i64 128,.slice A n c] w fun e w'=>Below w.heap.size w w'∧((okY l=false∧e=.returned (.tuple #[.string ⟨#[]⟩,.int .u32 0,.bool false]))∨(okY l=true∧e=.returned (.tuple #[.string (imY l),.int .u32 (rootY l),.bool true]))):=by
 refine (laid_any A n c l w hr hk.lay).mono ?_
 rintro e w' ⟨hb,h⟩
 refine⟨hb,h.imp (fun h=>h) fun ⟨h1,h2⟩=>⟨h1,?_⟩⟩
 rw[h2,(told hk h1).err]
 rfl
theorem lives12_any (w:World):Calls Tryz.prog 10 #[] w fun e w'=>e=.returned (.bool true)∧Below w.heap.size w w':=by
 have hT:=told fewL_few fewL_ok
 have hrt:=fewL_root
 obtain⟨im,him⟩ : ∃ x,x=imY fewL:=⟨_,rfl⟩
 obtain⟨r,hr⟩ : ∃ x,x=rootY fewL:=⟨_,rfl⟩
 rw[← him,← hr] at hT
 have hN:=(treeS_len (l:=fewL) (im:=im) (r:=r) (by rw[hT.tree];decide)).2 ⟨#[98]⟩
 have HA:=Hd (fun w=>lall1_any 128 im r ⟨#[98]⟩ w hT.size hT.root hN)
 have hf:fromP ⟨#[98]⟩ (treeV 128 im r).1=fewL.drop 1:=by rw[hT.tree,fromP_drop _ fewL_asc,fewL_from]
 rw[hf,hT.te] at HA
 have HL:=Hd (fun w A (h:Reads w w.heap.size 2 A 3 (prc fewL))=>laid2_any A 3 3 fewL w h fewL_few)
 rw[← him,← hr,fewL_ok] at HL
 clear hN hf hT him hr hrt
 have HB:=Hd (Below.refl w.heap.size w)
 go_enter Tryz.func10,Tryz.ntmps10
 go_wp2_with fail
 refine (few_any _).mono ?_
 rintro e w1 ⟨A1,rfl,h1,hb⟩
 replace HB:=Hd (HB.out.trans (hb.mono HB.out.size))
 have HR1:=Hd h1
 clear hb h1
 go_wp2_with fail
 refine (HL.out _ _ HR1.out).mono ?_
 rintro e w2 ⟨hb,⟨h,_⟩ | ⟨_,rfl⟩⟩
 ·cases h
 replace HB:=Hd (HB.out.trans (hb.mono HB.out.size))
 clear hb HL HR1
 go_wp2_with fail
 refine (HA.out _).mono ?_
 rintro e w3 ⟨A3,n3,c3,rfl,h3,hb⟩
 replace HB:=Hd (HB.out.trans (hb.mono HB.out.size))
 have HR3:=Hd h3
 have hn3:n3=2:=by have:=pr_len h3;simp[fewL] at this;omega
 subst hn3
 clear hb h3 HA
 go_wp2_with fail
 refine (few_any _).mono ?_
 rintro e w4 ⟨A4,rfl,h4,hb⟩
 replace HB:=Hd (HB.out.trans (hb.mono HB.out.size))
 have HR4:=Hd h4
 replace HR3:=Hd (HR3.out.below hb)
 clear hb h4
 obtain⟨X,q,hX,hXr⟩:=partP_hi A4 3 3 1 (by omega) (by omega)
 have HX:=Hd (show Reads w4 w4.heap.size 2 X 2 (prc (fewL.drop 1)) from hXr w4 _ _ HR4.out)
 have hX2 : ∀ w:World,(Instr.sliceAt 26 (.slice A4 3 3) (some (.int .i64 1)) none none).run Tryz.prog w=.ok (.slice X 2 q) w:=hX
 clear hXr hX
 go_wp2_with fail
 refine (same12_yes A3 2 c3 X q (fewL.drop 1) _ HR3.out HX.out (by decide)).mono ?_
 rintro e w5 ⟨rfl,q5,rfl⟩
 replace HB:=Hd (below_drewN HB.out q5)
 clear hX2
 go_wp2_with fail
 go_ret
 exact⟨rfl,HB.out⟩
theorem rall12_any (sz:Int) (img:ByteArray) (root:Nat) (w:World) (hs:img.size≤400000) (hr:root<4294967296) :
  Calls Tryz.prog 21 #[.int .i64 sz,.string img,.int .u32 root] w fun e w'=>∃ A n c,e=.returned (.tuple #[.slice A n c,.int .i64 (treeE sz img root)])∧Reads w' w'.heap.size 2 A n (prc (treeV sz img root).1)∧n≤c∧Below w.heap.size w w':=by
 have HT:=Hd (rthrough_any sz img root w hs hr)
 obtain⟨E,hE⟩ : ∃ q,q=treeE sz img root:=⟨_,rfl⟩
 obtain⟨TV,hTV⟩ : ∃ q,q=treeV sz img root:=⟨_,rfl⟩
 rw[← hE,← hTV]
 clear hs hr
 go_enter Tryz.func21,Tryz.ntmps21
 go_wp2_with fail
 refine HT.out.mono ?_
 rintro e w1 ⟨b,L',V,Vp,rfl,hb,hg,_⟩
 rw[← hE,← hTV] at hg
 obtain⟨A,c,rfl,hc1,hc2,_⟩:=own_form hg.prs
 have HR:=Hd (Reads.of_own hg.prs)
 have HB:=Hd hb
 have c3:=hg.blk.cell 3
 have c4:=hg.blk.cell 4
 simp at c3 c4
 clear hg hb HT hE hTV
 go_wp2_with fail
 go_region
 go_wp2_with fail
 go_ret2
 exact⟨A,_,c,rfl,(HR.out.drewN _),hc1,below_drewN HB.out _⟩
theorem rpages12_any (sz:Int) (img:ByteArray) (root:Nat) (w:World) (hs:img.size≤400000) (hr:root<4294967296) :
  Calls Tryz.prog 26 #[.int .i64 sz,.string img,.int .u32 root] w fun e w'=>∃ A n c,e=.returned (.tuple #[.slice A n c,.int .i64 (treeE sz img root)])∧Reads w' w'.heap.size 1 A n (ucells (if treeE sz img root=0 then ((treeV sz img root).2).getD [] else []))∧Below w.heap.size w w':=by
 have HT:=Hd (rthrough_any sz img root w hs hr)
 obtain⟨E,hE⟩ : ∃ q,q=treeE sz img root:=⟨_,rfl⟩
 obtain⟨TV,hTV⟩ : ∃ q,q=treeV sz img root:=⟨_,rfl⟩
 rw[← hE,← hTV]
 clear hs hr
 go_enter Tryz.func26,Tryz.ntmps26
 go_wp2_with fail
 refine HT.out.mono ?_
 rintro e w1 ⟨b,L',V,Vp,rfl,hb,hg,hl⟩
 rw[← hE,← hTV] at hg hl
 obtain⟨A,c,rfl,hc1,hc2,_⟩:=own_form hg.row
 have HR:=Hd (Reads.of_own hg.row)
 have HB:=Hd hb
 have HL:=Hd hl
 have c2:=hg.blk.cell 2
 have c4:=hg.blk.cell 4
 simp at c2 c4
 clear hg hb HT hE hTV hl
 by_cases h0:E=0
 ·subst h0
  go_wp2_with fail
  go_ret2
  have:=HR.out
  have hl2:L'=TV.snd.getD []:=HL.out (by trivial)
  subst hl2
  exact⟨A,_,⟨c,rfl⟩,this,HB.out⟩
 ·have h1:(E==0)=false:=by simpa using h0
  have h2:(E != 0)=true:=by simpa using h0
  go_wp2_with fail
  go_region
  go_wp2_with fail
  go_ret2
  exact⟨none,0,⟨0,rfl⟩,Reads.none_,HB.out.drew⟩
theorem fromP_snoc (key:ByteArray) (l:List Pr) (x:Pr):fromP key (l++[x])=fromP key l++(if Op.bytesLess x.ky.toList key.toList then [] else [x]):=by
 unfold fromP
 rw[List.filter_append]
 rcases h:Op.bytesLess x.ky.toList key.toList with _ | _<;>simp[h]
theorem fromP_take {key:ByteArray} {l:List Pr} {k:Nat} {x:Pr} (h:l[k]? = some x):fromP key (l.take (k+1))=fromP key (l.take k)++(if Op.bytesLess x.ky.toList key.toList then [] else [x]):=by
 obtain⟨hk,rfl⟩:=List.getElem?_eq_some_iff.1 h
 rw[List.take_succ_eq_append_getElem hk,fromP_snoc]
theorem fromP_len (key:ByteArray) (l:List Pr):(fromP key l).length≤l.length:=List.length_filter_le _ _
theorem rfrom12_any (sz:Int) (img:ByteArray) (root:Nat) (key:ByteArray) (w:World) (hs:img.size≤400000) (hr:root<4294967296) (hn:(treeV sz img root).1.length≤1000000) :
  Calls Tryz.prog 22 #[.int .i64 sz,.string img,.int .u32 root,.string key] w fun e w'=>∃ A n c,e=.returned (.tuple #[.slice A n c,.int .i64 (treeE sz img root)])∧Reads w' w'.heap.size 2 A n (prc (fromP key (treeV sz img root).1))∧Below w.heap.size w w':=by
 obtain⟨i0,hi0,hz0,hz1,hz2⟩:=info_parts infoPr12
 have HT:=Hd (rall12_any sz img root w hs hr)
 obtain⟨E,hE⟩ : ∃ q,q=treeE sz img root:=⟨_,rfl⟩
 obtain⟨l,hl⟩ : ∃ q,q=(treeV sz img root).1:=⟨_,rfl⟩
 rw[← hE,← hl] at HT
 rw[← hl] at hn
 rw[← hE,← hl]
 clear hs hr hE hl
 obtain⟨hzp,hip⟩:=zero_of_info infoPrz
 have HIP:=Hd hip
 clear hip
 go_enter Tryz.func22,Tryz.ntmps22
 go_wp2_with fail
 refine HT.out.mono ?_
 rintro e w1 ⟨A,n,c,rfl,hr,hnc,hb⟩
 have HR:=Hd hr
 have HB:=Hd hb
 have HLn:=Hd (pr_len hr)
 have hn9:n≤1000000:=by have:=pr_len hr;omega
 have HO0:=Hd (show w1.ownsRow w1.heap.size 55 2 (.slice none 0 0) 0 (prc (fromP key (l.take 0))) from ⟨rfl,.inl ⟨rfl,rfl⟩⟩)
 have HW0:=Hd (Below.refl w1.heap.size w1)
 clear hr hb HT hn
 go_upto_region 4 with fail
 go_loopw [12,13] (fun o i wr=>∃ (k m:Nat) (Ao:Option Addr) (co:Nat),k≤n∧i=.int .i64 k∧o=.slice Ao m co∧m≤k∧Hid (wr.ownsRow w1.heap.size 55 2 (.slice Ao m co) m (prc (fromP key (l.take k))))∧Hid (Below w1.heap.size w1 wr)) (fun _ i _=>n-(intOf i).toNat)
 case atStart=>exact⟨0,0,none,0,Nat.zero_le _,rfl,rfl,Nat.le_refl _,HO0,HW0⟩
 case round =>
  clear HO0 HW0
  obtain⟨k,m,Ao,co,hk,rfl,rfl,hmk,HO,HW⟩:=hrel
  by_cases hlt:k<n
  ·obtain⟨ad,x,rfl,_,_,hx,c0,c1⟩:=pr_at (HR.out.below HW.out) hlt
   have hk0:(0:Int)≤(k:Int):=by omega
   have hk1:(k:Int)<(n:Int):=by omega
   have HF:=Hd (fromP_take (key:=key) hx)
   obtain⟨xk,xv⟩:=x
   dsimp only at c0 c1
   rcases hlb:Op.bytesLess xk.toList key.toList with _ | _
   ·have RA:=Hd (HO.out.alloc (.cells #[.string xk,.string xv] 55))
    have HF2:=Hd (show fromP key (l.take (k+1))=fromP key (l.take k)++[⟨xk,xv⟩] by rw[HF.out,hlb];rfl)
    have hsz:=HW.out.size
    clear hx HF
    go_wp2_with (at_builtin;refine wpList_append_any _ rfl (.tmp 34) (.tmp 39) _ rfl w1.heap.size 55 i0 _ 2 32 Tryz.underlying26 hi0 hz0 hz1 hz2 rfl (by omega) _ m _ rfl RA.out (wr.heap.size+1) (some ⟨wr.heap.size,0,none⟩) 1 1 (prc [⟨xk,xv⟩]) rfl (reads_own (n:=1) (Blk.new _ _ _) rfl) (prc_one12 _) (by unfold maxLen;omega) (by omega) (by simp;omega) ?_;intro v6 w6 hown6 hg6 hat6;obtain⟨A6,c6,hv6,_,_,_⟩:=own_form hown6;subst hv6;have HO6:=Hd hown6;have HW6:=Hd ((HW.out.alloc HW.out.size (.cells #[.string xk,.string xv] 55)).grown hg6 (by simp;omega) (fun g hg=>(HO.out.lt g hg).1));clear hown6 hg6 hat6)
    have HO7:=Hd (show w6.ownsRow w1.heap.size 55 2 (.slice A6 (m+1) c6) (m+1) (prc (fromP key (l.take (k+1)))) by rw[HF2.out,prc_append];exact HO6.out)
    go_roundw
    case rel =>
     first
      | exact⟨k+1,m+1,A6,c6,by omega,by go_num,rfl,by omega,HO7,HW6⟩
      | ((repeat apply Exists.intro);exact⟨⟨k+1,m+1,A6,c6,by omega,by go_num,rfl,by omega,HO7,HW6⟩,rfl⟩)
    case measure=>simp[intOf];omega
   ·have HO7:=Hd (show wr.ownsRow w1.heap.size 55 2 (.slice Ao m co) m (prc (fromP key (l.take (k+1)))) by rw[HF.out,hlb,if_pos rfl,List.append_nil];exact HO.out)
    clear hx HF
    go_wp2_with fail
    go_roundw
    case rel =>
     first
      | exact⟨k+1,m,Ao,co,by omega,by go_num,rfl,by omega,HO7,HW⟩
      | ((repeat apply Exists.intro);exact⟨⟨k+1,m,Ao,co,by omega,by go_num,rfl,by omega,HO7,HW⟩,rfl⟩)
    case measure=>simp[intOf];omega
  ·obtain rfl:k=n:=by omega
   have HO7:=Hd (show wr.ownsRow w1.heap.size 55 2 (.slice Ao m co) m (prc (fromP key l)) by have:=HO.out;rwa [List.take_of_length_le (by rw[HLn.out];exact Nat.le_refl _)] at this)
   have hlt2 : ¬ (k:Int)<(k:Int):=by omega
   go_wp2_with fail
   go_ret2
   exact⟨Ao,m,⟨co,rfl⟩,Reads.of_own HO7.out,HB.out.trans (HW.out.mono HB.out.size)⟩
end Go.Proofs.YtanbbnogdhnikaaGreat

