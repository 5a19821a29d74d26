/-
  Texts that the main proof rests on, put together: LePlain, Ref11L. No statement is proved here.
-/
import Derived.Test.YtanbbnogdhnikaaGreatJ26
set_option linter.unusedVariables false
set_option linter.unusedSimpArgs false
set_option maxRecDepth 300000
set_option maxHeartbeats 25600000
namespace Go.Proofs.YtanbbnogdhnikaaGreat
open Go.RowKit
open Go.Lib hiding intOf

def normK:List UInt8→List UInt8
 | []=>[]
 | o::r=>(if o=1 then 1 else 0)::r
def stepC (bs:List UInt8):Option (It×List UInt8):=stepI (normK bs)
def parseC:Nat→List UInt8→Option (List It×List UInt8)
 | 0,bs=>some ([],bs)
 | k+1,bs=>match parseC k bs with
  | none=>none
  | some (l,r)=>match stepC r with
   | none=>none
   | some (b,r')=>some (l++[b],r')
theorem tailI_kind {o:UInt8} {ky:ByteArray} {r:List UInt8} {p:It×List UInt8} (h:tailI o ky r=some p):o=0∨o=1:=by
 unfold tailI at h
 by_cases h0:o=0
 ·exact .inl h0
 ·by_cases h1:o=1
  ·exact .inr h1
  ·rw[if_neg h0,if_neg h1] at h
   cases h
theorem stepC_of {bs:List UInt8} {p:It×List UInt8} (h:stepI bs=some p):stepC bs=some p:=by
 rcases bs with _ | ⟨o,bs⟩
 ·exact h
 rcases bs with _ | ⟨n,r⟩
 ·exact absurd h (by simp[stepI])
 have h2:=h
 simp only[stepI] at h2
 split at h2
 ·cases h2
 rcases tailI_kind h2 with rfl | rfl
 ·exact h
 ·exact h
theorem parseC_of : ∀ {k:Nat} {bs:List UInt8} {p:List It×List UInt8},parseI k bs=some p→parseC k bs=some p
 | 0,bs,p,h=>h
 | k+1,bs,p,h=>by
  simp only[parseI] at h
  split at h
  ·cases h
  ·rename_i l r hp
   split at h
   ·cases h
   ·rename_i b r' hs
    simp only[parseC,parseC_of hp,stepC_of hs]
    exact h
theorem parseC_len : ∀ {k:Nat} {bs:List UInt8} {l:List It} {r:List UInt8},parseC k bs=some (l,r)→l.length=k
 | 0,bs,l,r,h=>by simp[parseC] at h;obtain⟨rfl,_⟩:=h;rfl
 | k+1,bs,l,r,h=>by
  simp only[parseC] at h
  split at h
  ·cases h
  ·rename_i l0 r0 hp
   split at h
   ·cases h
   ·injection h with h
    injection h with h1 h2
    rw[← h1,List.length_append,parseC_len hp]
    rfl
theorem normK_len (bs:List UInt8):(normK bs).length=bs.length:=by
 rcases bs with _ | ⟨o,r⟩<;>rfl
theorem stepC_size {bs r:List UInt8} {b:It} (h:stepC bs=some (b,r)):oneI b+r.length=bs.length:=by
 have h1:=stepI_back h
 rw[← normK_len bs,h1,List.length_append,It.bytes_len]
theorem parseC_size : ∀ {k:Nat} {bs:List UInt8} {l:List It} {r:List UInt8},parseC k bs=some (l,r)→sizeI l+r.length=bs.length
 | 0,bs,l,r,h=>by simp[parseC] at h;obtain⟨rfl,rfl⟩:=h;simp[sizeI]
 | k+1,bs,l,r,h=>by
  simp only[parseC] at h
  split at h
  ·cases h
  ·rename_i l0 r0 hp
   split at h
   ·cases h
   ·rename_i b r' hs
    injection h with h
    injection h with h1 h2
    subst h2
    rw[← h1,sizeI_snoc]
    have h3:=parseC_size hp
    have h4:=stepC_size hs
    omega
theorem parseC_step {k:Nat} {bs r r':List UInt8} {l:List It} {b:It} (h:parseC k bs=some (l,r)) (hs:stepC r=some (b,r')):parseC (k+1) bs=some (l++[b],r'):=by simp only[parseC,h,hs]
theorem parseC_stop {k:Nat} {bs r:List UInt8} {l:List It} (h:parseC k bs=some (l,r)) (hs:stepC r=none):parseC (k+1) bs=none:=by simp only[parseC,h,hs]
theorem parseC_none {k:Nat} {bs:List UInt8} (h:parseC k bs=none) : ∀ d,parseC (k+d) bs=none
 | 0=>h
 | d+1=>by rw[← Nat.add_assoc];simp only[parseC,parseC_none h d]
theorem readI_unread {kd ct:Int} {pg lk ty:Nat} {bd:ByteArray} (h:parseC ct.toNat bd.data.toList=none):readI kd ct pg lk ty bd=none:=by
 rcases hp:parseI ct.toNat bd.data.toList with _ | p
 ·rw[readI,hp]
 ·rw[parseC_of hp] at h
  cases h
theorem readI_unfit {kd ct:Int} {pg lk ty:Nat} {bd:ByteArray} (h : ∀ l,mayP8 ((bd.size+24:Nat):Int) pg ty l=false):readI kd ct pg lk ty bd=none:=by
 rcases hr:readI kd ct pg lk ty bd with _ | l
 ·rfl
 ·have h1:=(readI_some hr).1
  rw[h l] at h1
  cases h1
theorem readI_read {kd ct:Int} {pg lk ty:Nat} {bd:ByteArray} {l l':List It} {r:List UInt8} (h:parseC ct.toNat bd.data.toList=some (l,r)) (hr:readI kd ct pg lk ty bd=some l'):l'=l:=by
 rcases hp:parseI ct.toNat bd.data.toList with _ | ⟨q,r'⟩
 ·rw[readI,hp] at hr
  cases hr
 ·have h1:=parseC_of hp
  rw[h] at h1
  injection h1 with h1
  injection h1 with h1 _
  rw[readI,hp] at hr
  simp only at hr
  split at hr
  ·injection hr with hr
   rw[← hr,← h1]
  ·cases hr
theorem orL_two (a b:Int):orL [a,b]=0↔a=0∧b=0:=by
 by_cases h:a=0
 ·by_cases h2:b=0
  ·simp[orL,h,h2]
  ·simp[orL,h,h2]
 ·simp[orL,h]
theorem orL_three (a b c:Int):orL [a,b,c]=0↔a=0∧b=0∧c=0:=by
 by_cases h:a=0
 ·by_cases h2:b=0
  ·by_cases h3:c=0
   ·simp[orL,h,h2,h3]
   ·simp[orL,h,h2,h3]
  ·simp[orL,h,h2]
 ·simp[orL,h]
theorem headC {s t0 t1 t2 ky:ByteArray} {vo vn:Nat} {x0 x1 x2:Int} (h0:tookN 1 s vo x0 t0) (h1:tookN 1 t0 vn x1 t1) (h2:tookB vn t1 ky x2 t2) :
  (x0=0∧x1=0∧x2=0∧stepC s.data.toList=tailI (if vo=1 then 1 else 0) ky t2.data.toList)∨(¬ (x0=0∧x1=0∧x2=0)∧stepC s.data.toList=none):=by
 rcases h0 with ⟨a0,rfl,e0,f0⟩ | ⟨a0,rfl,f0⟩
 rotate_left
 ·exact .inr ⟨by simp,by rw[list_none a0];rfl⟩
 obtain⟨o,r,hs⟩:=list_one (l:=s.data.toList) (by rw[size_list];exact a0)
 have hv:vo=o.toNat:=by rw[e0,hs];exact leNat_one o
 have hr:t0.data.toList=r:=by rw[f0,ext_drop,hs];rfl
 rcases h1 with ⟨a1,rfl,e1,f1⟩ | ⟨a1,rfl,f1⟩
 rotate_left
 ·have:r=[]:=by rw[← hr];exact list_none a1
  exact .inr ⟨by simp,by rw[hs,this];rfl⟩
 obtain⟨n,q,hq⟩:=list_one (l:=t0.data.toList) (by rw[size_list];exact a1)
 have hn:vn=n.toNat:=by rw[e1,hq];exact leNat_one n
 have hq1:t1.data.toList=q:=by rw[f1,ext_drop,hq];rfl
 have hrq:r=n::q:=by rw[← hr,hq]
 have hl:t1.size=q.length:=by rw[← hq1,size_list]
 rcases h2 with ⟨a2,rfl,e2,f2⟩ | ⟨a2,rfl,f2⟩
 rotate_left
 ·refine .inr ⟨by simp,?_⟩
  rw[hs,hrq]
  simp only[stepC,normK,stepI]
  rw[if_pos (by omega)]
 ·refine .inl ⟨rfl,rfl,rfl,?_⟩
  have h2':t2.data.toList=q.drop n.toNat:=by rw[f2,ext_drop,hq1,hn]
  have hky:ky=⟨(q.take n.toNat).toArray⟩:=by
   apply bytes_ext
   rw[e2,ext_take,hq1,hn]
  have ho:(o=1)↔(vo=1):=by
   rw[hv]
   exact⟨fun h=>by rw[h];rfl,fun h=>by rw[← UInt8.toNat_inj];exact h⟩
  rw[hs,hrq]
  simp only[stepC,normK,stepI]
  rw[if_neg (by omega),h2',hky]
  simp only[ho]
def itemOk (s:ByteArray) (b:It) (x:Int) (s':ByteArray):Prop:=match stepC s.data.toList with
 | none=>x≠0
 | some (b',r)=>x=0∧b'=b∧s'.data.toList=r
theorem item_ov {s t0 t1 t2 t3 t4 ky:ByteArray} {vn v3 v4:Nat} {x0 x1 x2 x3 x4:Int} (h0:tookN 1 s 1 x0 t0) (h1:tookN 1 t0 vn x1 t1) (h2:tookB vn t1 ky x2 t2) (h3:tookN 4 t2 v3 x3 t3) (h4:tookN 4 t3 v4 x4 t4) :
  itemOk s ⟨ky,⟨#[]⟩,true,(v3:Nat),v4⟩ (orL [x0,orL [x1,x2],orL [x3,x4]]) t4:=by
 rcases headC h0 h1 h2 with ⟨rfl,rfl,rfl,hs⟩ | ⟨hx,hs⟩
 ·rw[if_pos rfl] at hs
  rcases tail8_ov (ky:=ky) h3 h4 with ⟨rfl,rfl,ht⟩ | ⟨hx,ht⟩
  ·rw[itemOk,hs,ht]
   exact⟨by simp[orL],rfl,rfl⟩
  ·rw[itemOk,hs,ht]
   intro h
   rw[orL_three,orL_two,orL_two] at h
   exact hx h.2.2
 ·rw[itemOk,hs]
  intro h
  rw[orL_three,orL_two,orL_two] at h
  exact hx ⟨h.1,h.2.1.1,h.2.1.2⟩
theorem item_in {s t0 t1 t2 t3 t4 ky vl:ByteArray} {vo vn v3:Nat} {x0 x1 x2 x3 x4:Int} (hv:vo≠1) (h0:tookN 1 s vo x0 t0) (h1:tookN 1 t0 vn x1 t1) (h2:tookB vn t1 ky x2 t2) (h3:tookN 1 t2 v3 x3 t3) (h4:tookB v3 t3 vl x4 t4) :
  itemOk s ⟨ky,vl,false,0,0⟩ (orL [x0,orL [x1,x2],orL [x3,x4]]) t4:=by
 rcases headC h0 h1 h2 with ⟨rfl,rfl,rfl,hs⟩ | ⟨hx,hs⟩
 ·rw[if_neg hv] at hs
  rcases tail8_in (ky:=ky) h3 h4 with ⟨rfl,rfl,ht⟩ | ⟨hx,ht⟩
  ·rw[itemOk,hs,ht]
   exact⟨by simp[orL],rfl,rfl⟩
  ·rw[itemOk,hs,ht]
   intro h
   rw[orL_three,orL_two,orL_two] at h
   exact hx h.2.2
 ·rw[itemOk,hs]
  intro h
  rw[orL_three,orL_two,orL_two] at h
  exact hx ⟨h.1,h.2.1.1,h.2.1.2⟩
theorem tookN_le {k:Nat} {t t':ByteArray} {v:Nat} {x:Int} (h:tookN k t v x t'):t'.size≤t.size:=by
 rcases h with ⟨_,_,_,rfl⟩ | ⟨_,_,rfl⟩
 ·rw[ByteArray.size_extract];omega
 ·exact Nat.le_refl _
theorem tookB_le {k:Nat} {t v t':ByteArray} {x:Int} (h:tookB k t v x t'):t'.size≤t.size:=by
 rcases h with ⟨_,_,_,rfl⟩ | ⟨_,_,rfl⟩
 ·rw[ByteArray.size_extract];omega
 ·exact Nat.le_refl _
end Go.Proofs.YtanbbnogdhnikaaGreat

namespace Go.Proofs.YtanbbnogdhnikaaGreat
open Go.RowKit
open Go.Lib hiding intOf
attribute [local go_sem ↓] Go.wp_at_zero Go.wp_at_succ

theorem ext_list11 (s:ByteArray) (i j:Nat):(s.extract i j).data.toList=(s.data.toList.drop i).take (j-i):=by
 rw[ByteArray.data_extract,Array.toList_extract,List.extract_eq_take_drop]
theorem conv_zs11 {w:World} {g n:Nat} (h:MRow w g (List.replicate n 0)) :
  (convert 102 9 (.slice (some ⟨g,0,none⟩) n n)).run Tryz.prog w=.ok (.string (zs n)) w:=by
 have hr:=h.reads
 rw[List.length_replicate] at hr
 exact run_string_reads w 102 9 5 n Tryz.underlying102 Tryz.underlying5 Tryz.underlying9 hr
theorem noughts11_any (n:Nat) (w:World) (hn:n≤281474976710656) :
  Calls Tryz.prog 86 #[.int .i64 n] w fun e w'=>e=.returned (.string (zs n))∧Below w.heap.size w w':=by
 have hmk:=run_make_bytes (P:=Tryz.prog) 102 5 Tryz.underlying102 infoU8 n hn w
 have cv:=conv_zs11 (MRow.of_made w 5 n)
 have hb:Below w.heap.size w (w.alloc (.cells (madeCells #[.int .u8 0] n) 5)):=(Below.refl _ _).alloc (Nat.le_refl _) _
 have HB:=Hd hb
 have h0:(max (0:Int) n)=n:=by omega
 clear hb
 go_enter Tryz.func86,Tryz.ntmps86
 go_wp2_with fail
 go_ret
 exact⟨rfl,HB.out⟩
theorem wr_sameZ {I b:ByteArray} {z n a:Nat} (hb:b.size=z) (ha:a=n*z) (h:a+z≤I.size):I.extract 0 a++b++I.extract (a+z) I.size=writeB z n b I:=by
 apply bytes_ext
 rw[writeB_list]
 unfold bWrite
 have hl:=size_list I
 rw[ByteArray.data_append,ByteArray.data_append,Array.toList_append,Array.toList_append,ext_list11,ext_list11,← ha,show a+z-I.data.toList.length=0 by omega]
 simp
 rw[List.take_of_length_le (by rw[List.length_drop,hl];omega)]
theorem wr_moreZ {I b:ByteArray} {z n a:Nat} (hb:b.size=z) (ha:a=n*z) (h:I.size<a+z):(I++zs (a+z-I.size)).extract 0 a++b++(I++zs (a+z-I.size)).extract (a+z) (a+z)=writeB z n b I:=by
 apply bytes_ext
 rw[writeB_list]
 unfold bWrite
 have hl:=size_list I
 rw[ByteArray.data_append,ByteArray.data_append,Array.toList_append,Array.toList_append,ext_list11,ext_list11,ByteArray.data_append,Array.toList_append,zs_list,← ha,hl,List.drop_of_length_le (l:=I.data.toList) (by omega)]
 simp
theorem rdoesZ_any (I b:ByteArray) (z n:Nat) (w:World) (hz:z≤4096) (hn:n≤4294967295) (hI:I.size≤17592186044416) (hs:b.size=z) :
  Calls Tryz.prog 54 #[.int .i64 z,.string I,(.agg #[.bool false,.int .u32 n,.string b])] w fun e w'=>e=.returned (.string (writeB z n b I))∧Below w.heap.size w w':=by
 obtain⟨a,ha⟩ : ∃ a,a=n*z:=⟨_,rfl⟩
 have ha9:a≤4294967295*4096:=by rw[ha];exact Nat.mul_le_mul hn hz
 have hm:(n:Int)*(z:Int)=(a:Int):=by rw[ha];simp
 have hwa:IntKind.i64.wrap (a:Int)=(a:Int):=i64_nat a (by omega)
 have hwa2:wrap64 (a:Int)=(a:Int):=wrap64_nat a (by omega)
 obtain⟨e,he⟩ : ∃ e,e=a+z:=⟨_,rfl⟩
 have he1:(a:Int)+(z:Int)=(e:Int):=by omega
 have hwe:IntKind.i64.wrap (e:Int)=(e:Int):=i64_nat e (by omega)
 have hb:Below w.heap.size w (w.alloc (.cells #[.bool false,.int .u32 n,.string b] 108)):=(Below.refl _ _).alloc (Nat.le_refl _) _
 have HB:=Hd hb
 have hbk:=Blk.new w 108 #[.bool false,.int .u32 n,.string b]
 have k0:=hbk.cell 0
 have k1:=hbk.cell 1
 have k2:=hbk.cell 2
 have hae:(a:Int)≤(e:Int):=by omega
 by_cases hle:e≤I.size
 ·have HT:=Hd (wr_sameZ (I:=I) hs ha (by omega))
  rw[← he] at HT
  have HS:=Hd hs
  have x1:(I.extract 0 a).size=a:=by rw[ByteArray.size_extract];omega
  have x2:(I.extract e I.size).size≤17592186044416:=by rw[ByteArray.size_extract];omega
  have hc1 : ¬ (9223372036854775807<(I.extract 0 a).size+b.size):=by omega
  have hc2 : ¬ (9223372036854775807<(I.extract 0 a).size+b.size+(I.extract e I.size).size):=by omega
  have hc3 : ¬ (9223372036854775807<min a I.size+b.size):=by omega
  have hc4 : ¬ (9223372036854775807<min a I.size+b.size+(I.size-e)):=by omega
  have hc5 : ¬ (9223372036854775807<a+b.size+(I.size-e)):=by omega
  have hi1:(a:Int)≤(I.size:Int):=by omega
  have hi2:(e:Int)≤(I.size:Int):=by omega
  have hd1 : ¬ (I.size:Int)<(e:Int):=by omega
  clear hb x1 x2 ha he hs
  go_enter Tryz.func54,Tryz.ntmps54
  go_wp2_with fail
  go_region
  go_wp2_with fail
  go_ret
  exact⟨by rw[← HT.out];rfl,HB.out.drew⟩
 ·have HT:=Hd (wr_moreZ (I:=I) hs ha (by omega))
  rw[← he] at HT
  have HS:=Hd hs
  obtain⟨d,hd⟩ : ∃ d,d=e-I.size:=⟨_,rfl⟩
  have ed:(e:Int)-(I.size:Int)=(d:Int):=by omega
  have hwd:IntKind.i64.wrap (d:Int)=(d:Int):=i64_nat d (by omega)
  have hd':=noughts11_any d (w.alloc (.cells #[.bool false,.int .u32 n,.string b] 108)) (by omega)
  rw[← hd] at HT
  have HD:=Hd hd
  have hd1:(I.size:Int)<(e:Int):=by omega
  have HAE:=Hd (show a≤e by omega)
  have HSz:=Hd (show e=a+b.size by omega)
  have hJ0:(I++zs d).size=e:=by rw[ByteArray.size_append,zs_size,hd];omega
  have hJc : ¬ (9223372036854775807<I.size+(zs d).size):=by rw[zs_size];omega
  clear hb hd ha he hs
  go_enter Tryz.func54,Tryz.ntmps54
  go_wp2_with fail
  refine hd'.mono ?_
  rintro e' w1 ⟨rfl,hb1⟩
  have hbk1:=hbk.below hb1 hbk.lt
  have j0:=hbk1.cell 0
  have j1:=hbk1.cell 1
  have j2:=hbk1.cell 2
  have hz:=zs_size d
  have x1:((I++zs d).extract 0 a).size=a:=by rw[ByteArray.size_extract];have:=HAE.out;omega
  have x2:((I++zs d).extract e e).size≤17592186044416:=by rw[ByteArray.size_extract];omega
  have hc1 : ¬ (9223372036854775807<((I++zs d).extract 0 a).size+b.size):=by have:=HSz.out;omega
  have hc2 : ¬ (9223372036854775807<((I++zs d).extract 0 a).size+b.size+((I++zs d).extract e e).size):=by have:=HSz.out;omega
  have hc3 : ¬ (9223372036854775807<min a e+b.size):=by have:=HSz.out;omega
  have hc4 : ¬ (9223372036854775807<a+b.size):=by have:=HSz.out;omega
  clear x1 x2
  clear k0 k1 k2
  go_wp2_with fail
  go_region
  go_wp2_with fail
  go_ret
  refine⟨?_,(HB.out.trans (hb1.mono (by simp))).drew⟩
  have hee:(I++zs d).extract e e=(⟨#[]⟩:ByteArray):=by apply bytes_ext;rw[ext_list11];simp
  have hap : ∀ x:ByteArray,x++(⟨#[]⟩:ByteArray)=x:=fun x=>by apply bytes_ext;rw[ByteArray.data_append,Array.toList_append];simp
  rw[← HT.out,hee,hap]
  rfl
theorem pgcell {w:World} {B n k:Nat} {ad:Addr} {L:List Pg} {y:Pg} (h:Reads w B 6 (some ad) n (pgcs L)) (hk:k<n) (hy:L[k]? = some y):PgAt w (ad.add (k*6)) y:=by
 obtain⟨ad',y',ha,_,hx,hc⟩:=page_at h hk
 injection ha with ha
 subst ha
 rw[hy] at hx
 injection hx with hx
 subst hx
 exact hc
theorem rlay11_any (size:Int) (img:ByteArray) (A:Option Addr) (n c:Nat) (L:List Pg) (w:World) (hi:img.size≤8796093022208) (hr:Reads w w.heap.size 6 A n (pgcs L)) (hn:n≤1000000) :
  Calls Tryz.prog 19 #[.int .i64 size,.string img,.slice A n c] w fun e w'=>e=.returned (.tuple #[.string (layStr size img L),.int .i64 (layErr size img L)])∧Below w.heap.size w w':=by
 have HR:=Hd hr
 have HL:=Hd (pgcs_len hr)
 clear hr
 go_enter Tryz.func19,Tryz.ntmps19
 go_wp2_with fail
 go_loopw [1,8] (fun v i wr=>∃ (k:Nat) (im:ByteArray),k≤n∧i=.int .i64 k∧v=.string im∧Hid (layL size img (L.take k)=some im)∧im.size≤8796093022208∧Hid (Below w.heap.size w wr)) (fun _ i _=>n-(intOf i).toNat)
 case atStart=>exact⟨0,img,Nat.zero_le _,rfl,rfl,Hd rfl,hi,Hd (Below.refl _ _)⟩
 case round =>
  obtain⟨k,im,hk,rfl,rfl,HV,hib,HB⟩:=hrel
  by_cases hlt:k<n
  ·obtain⟨ad,y,rfl,_,hy,_⟩:=page_at (HR.out.below HB.out) hlt
   have hj0:(0:Int)≤k:=by omega
   have hj1:(k:Int)<n:=by omega
   obtain⟨d0,d1,d2,d3,d4,d5⟩:=pgcell (HR.out.below HB.out) hlt hy
   have HY:=Hd hy
   have htk:=take_snoc_at hy
   have hvs:=layL_snoc size img (L.take k) y
   rw[← htk,HV.out] at hvs
   obtain⟨pk,pc,pn,pl,pt,pb⟩:=y
   simp only at d0 d1 d2 d3 d4 d5 hvs
   clear htk hy
   rcases hm:mayPg size pk pc pn pl pt pb with _ | _
   ·rw[hm] at hvs
    have HE:=Hd (layL_front hvs)
    have HP:=fun w=>rfput_no size pk pc pn pl pt pb w hm
    clear hvs hm
    go_wp2_with fail
    refine (HP _).mono ?_
    rintro e w2 ⟨rfl,hb⟩
    replace HB:=Hd (HB.out.trans (hb.mono HB.out.size))
    clear hb HP
    go_wp2_with fail
    go_ret2
    rw[(lay_no HE.out).1,(lay_no HE.out).2]
    exact⟨rfl,HB.out⟩
   ·rw[hm] at hvs
    have hmm:=hm
    simp only[mayPg,Bool.and_eq_true,decide_eq_true_eq] at hmm
    obtain⟨k0,rfl⟩:=Int.eq_ofNat_of_zero_le (by omega:0≤pk)
    obtain⟨c0,rfl⟩:=Int.eq_ofNat_of_zero_le (by omega:0≤pc)
    obtain⟨z,rfl,hz1,hz2,_⟩:=good_nat hmm.1
    have hzt:((z:Nat):Int).toNat=z:=by omega
    have hbs:=(block_right (p:=⟨(k0:Int),(c0:Int),pn,pl,pt,pb⟩) hm).1
    have hbk:Pg.block ⟨(k0:Int),(c0:Int),pn,pl,pt,pb⟩=pageB k0 c0 pn pl pt pb:=rfl
    rw[hbk] at hbs hvs
    rw[hzt] at hvs
    have HP:=fun w=>rfput_yes z k0 c0 pn pl pt pb w hm
    obtain⟨bk,hbkk⟩ : ∃ b,b=pageB k0 c0 pn pl pt pb:=⟨_,rfl⟩
    rw[← hbkk] at hbs hvs HP
    have HD:=fun w=>rdoesZ_any im bk z pn w (by omega) (by omega) (by omega) hbs
    have hsz:=writeB_size z pn bk im hbs
    have hmul:pn*z≤2147483647*4096:=Nat.mul_le_mul (by omega) (by omega)
    obtain⟨im2,him2⟩ : ∃ x,x=writeB z pn bk im:=⟨_,rfl⟩
    rw[← him2] at HD hsz hvs
    have hib2:im2.size≤8796093022208:=by omega
    have HV2:=Hd (show layL z img (L.take (k+1))=some im2 from hvs)
    clear hvs hm hmm hbs hbk hbkk hsz hmul him2 hzt
    go_wp2_with fail
    refine (HP _).mono ?_
    rintro e w2 ⟨rfl,hb⟩
    replace HB:=Hd (HB.out.trans (hb.mono HB.out.size))
    clear hb HP d0 d1 d2 d3 d4 d5
    obtain⟨d0,d1,d2,d3,d4,d5⟩:=pgcell (HR.out.below HB.out) hlt HY.out
    simp only at d0 d1 d2 d3 d4 d5
    go_wp2_with fail
    refine (HD _).mono ?_
    rintro e w3 ⟨rfl,hb⟩
    have HB3:=Hd (HB.out.trans (hb.mono HB.out.size))
    clear hb HD d0 d1 d2 d3 d4 d5 HB
    go_wp2_with fail
    go_roundw
    case rel =>
     first
      | exact⟨k+1,im2,by omega,by go_num,rfl,HV2,hib2,HB3⟩
      | ((repeat apply Exists.intro);exact⟨⟨k+1,im2,by omega,by go_num,rfl,HV2,hib2,HB3⟩,rfl⟩)
    case measure=>simp[intOf];omega
  ·obtain rfl:k=n:=by omega
   have ht:L.take k=L:=List.take_of_length_le (by rw[HL.out];exact Nat.le_refl _)
   rw[ht] at HV
   clear hlt ht
   go_wp2_with fail
   go_ret2
   rw[(lay_yes HV.out).1,(lay_yes HV.out).2]
   exact⟨rfl,HB.out⟩
end Go.Proofs.YtanbbnogdhnikaaGreat

