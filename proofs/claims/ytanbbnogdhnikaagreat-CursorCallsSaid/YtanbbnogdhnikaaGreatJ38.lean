/-
  Contract of the reference's Read of layer 11: a value read of its chain. (Written by wip/tools/gen_ref11v.py.)
-/
import Derived.Test.YtanbbnogdhnikaaGreatJ36
import Derived.Test.YtanbbnogdhnikaaGreatJ20
set_option linter.unusedVariables false
set_option linter.unusedSimpArgs false
set_option maxRecDepth 300000
set_option maxHeartbeats 25600000
namespace Go.Proofs.YtanbbnogdhnikaaGreat
open Go.RowKit
open Go.Lib hiding intOf
attribute [local go_sem ↓] Go.wp_at_zero Go.wp_at_succ

theorem along_mem {size:Int} {s:ByteArray} {kd:Int} {head:Nat} : ∀ k,∀ p∈(along size s kd head k).1,readAt size s p.pg=some p∧p.kd=kd
 | 0,p,h=>by simp[along] at h
 | k+1,p,h=>by
  have ih:=along_mem (size:=size) (s:=s) (kd:=kd) (head:=head) k
  simp only[along] at h
  split at h
  ·rename_i q hq
   rcases List.mem_append.1 h with h | h
   ·exact ih p h
   ·simp only[List.mem_singleton] at h
    subst h
    obtain⟨_,_,h3,h4⟩:=goes_some hq
    have h5:=(readAt_some h3).2.2.1
    rw[h5]
    exact⟨h3,h4⟩
  ·exact ih p h
theorem chain_mem {size:Int} {s:ByteArray} {kd:Int} {head:Nat} {p:Pg} (h:p∈chainL size s kd head):readAt size s p.pg=some p∧p.kd=kd:=along_mem _ p h
theorem readAt_body {size:Int} {s:ByteArray} {n:Nat} {p:Pg} (h:readAt size s n=some p):p.bd.size≤4072:=by
 obtain⟨h1,_,_,h4⟩:=readAt_some h
 obtain⟨z,rfl,h5,h6,_⟩:=good_nat h1
 simp only[mayPg,Bool.and_eq_true,decide_eq_true_eq] at h4
 omega
theorem over_size {p:Pg} {v:ByteArray} (h:p.over=some v):v.size≤p.bd.size:=by
 obtain⟨h1,_,h3,h4⟩:=readO_some h
 obtain⟨_,_,h5,_⟩:=mayP9_parts h1
 omega
theorem link_cells {w:World} {B n k:Nat} {ad:Addr} {F:List Lk} {y:Lk} (h:Reads w B 7 (some ad) n (lkc F)) (hk:k<n) (hy:F[k]? = some y):LkAt w (ad.add (k*7)) y:=by
 obtain⟨ad',y',ha,_,hx,hc⟩:=link_at h hk
 injection ha with ha
 subst ha
 rw[hy] at hx
 injection hx with hx
 subst hx
 exact hc
theorem valV_front {L:List Pg} {k:Nat} (h:valV (L.take k)=none):valV L=none:=by
 have:=valV_none h (L.drop k)
 rwa [List.take_append_drop] at this
def rdStr (o:Option (ByteArray×List Nat)):ByteArray:=(o.map (·.1)).getD ⟨#[]⟩
def rdPs (o:Option (ByteArray×List Nat)):List Nat:=(o.map (·.2)).getD []
def rdErr (size:Int) (o:Option (ByteArray×List Nat)):Int:=if goodSize size then (if o.isSome then 0 else 4) else 2
theorem readV_bad {size:Int} {s:ByteArray} {head:Nat} {len:Int} (h:goodSize size=false):readV size s head len=none:=by
 have ha : ∀ k,along size s 5 head k=([],head):=fun k=>by
  induction k with
  | zero=>rfl
  | succ k ih=>simp only[along,ih,goes_bad (readAt_bad h)]
 have hc:chainL size s 5 head=[]:=by rw[chainL,ha]
 unfold readV
 rw[hc]
 split
 ·simp only[valV,List.foldl_nil]
  rw[if_neg]
  rintro ⟨h1,h2⟩
  have:(⟨#[]⟩:ByteArray).size=0:=rfl
  omega
 ·rfl
theorem rread11_new (size:Int) (s:ByteArray) (head:Nat) (len:Int) (w:World) (hs:s.size≤1000000) (hh:head<4294967296) :
  Calls Tryz.prog 58 #[.int .i64 size,.string s,.int .u32 head,.int .i64 len] w fun e w'=>∃ A n c,e=.returned (.tuple #[.string (rdStr (readV size s head len)),.slice A n c,.int .i64 (rdErr size (readV size s head len))])∧ReadsN w.heap.size w' 1 A n (ucells (rdPs (readV size s head len)))∧Below w.heap.size w w':=by
 have HG:=fun w=>rgood_any size w
 rcases hg:goodSize size with _ | _
 ·rw[hg] at HG
  have HE:=Hd (readV_bad (s:=s) (head:=head) (len:=len) hg)
  have HR2:=Hd (show rdErr size none=2 by rw[rdErr,hg];rfl)
  clear hg
  go_enter Tryz.func58,Tryz.ntmps58
  go_wp2_with (go_at_call 32;refine (HG _).mono ?_;rintro e w' ⟨rfl,rfl⟩)
  go_ret3
  rw[HE.out,HR2.out]
  exact⟨none,0,0,rfl,ReadsN.none_,Below.refl _ _⟩
 rw[hg] at HG
 obtain⟨i0,hi0,hz0,hz1,hz2⟩:=info_parts infoU32
 have HF:=fun (w:World)=>rfollow_any size s head 5 w hs hh
 obtain⟨L,hL⟩ : ∃ L,L=chainL size s 5 head:=⟨_,rfl⟩
 have hmem : ∀ p,p∈L→p.bd.size≤4072:=fun p hp=>readAt_body (chain_mem (by rw[← hL];exact hp)).1
 obtain⟨o,ho⟩ : ∃ o,o=readV size s head len:=⟨_,rfl⟩
 have hLs:L.length≤s.size:=by
  have h1:=fresh_le (along_fresh (size:=size) (s:=s) (kd:=5) (head:=head) s.size)
  rw[hL,chainL]
  exact Nat.le_trans h1 (Nat.div_le_self _ _)
 rw[← ho]
 rw[followL,← hL] at HF
 have HOdef:=Hd (show o=if chainOk size s 5 head then (match valV L with | some v=>if 1≤len∧(v.size:Int)=len then some (v,L.map (·.pg)) else none | none=>none) else none by rw[ho,readV,← hL]<;>rfl)
 have HMem:=Hd hmem
 have HLs:=Hd (Nat.le_trans hLs hs)
 have HErr:=Hd (show rdErr size none=4 by rw[rdErr,hg];rfl)
 have HErr0:=Hd (show ∀ x,rdErr size (some x)=0 from fun x=>by rw[rdErr,hg];rfl)
 clear hg hL ho hs hmem hLs
 obtain⟨ok,hok⟩ : ∃ b,b=chainOk size s 5 head:=⟨_,rfl⟩
 rw[← hok] at HF HOdef
 clear hok
 go_enter Tryz.func58,Tryz.ntmps58
 go_wp2_with (go_at_call 32;refine (HG _).mono ?_;rintro e w' ⟨rfl,rfl⟩)
 refine (HF _).mono ?_
 rintro e w1 ⟨Al,nl,cl,rfl,hrl,hb⟩
 have HN:=Hd (show nl=L.length+(if ok then 0 else 1) by
  have h:=lkc_len hrl
  rw[List.length_append,List.length_map] at h
  rw[← h]
  cases ok<;>rfl)
 have RL:=Hd hrl
 have HB:=Hd hb
 have HB1:=Hd hb.size
 clear hrl hb HF HG
 go_wp2_with fail
 go_loopw [12,13,14] (fun v b i wr=>∃ (k:Nat) (sv:ByteArray) (A':Option Addr) (c':Nat),Hid (k≤L.length)∧k≤nl∧i=.int .i64 k∧v=.string sv∧Hid (valV (L.take k)=some sv)∧Hid (sv.size≤k*4072)∧b=.slice A' k c'∧Hid (wr.ownsRow w1.heap.size 23 1 (.slice A' k c') k (ucells ((L.take k).map (·.pg))))∧Hid (Below w1.heap.size w1 wr)∧Hid (Below w.heap.size w wr)) (fun _ _ i _=>nl-(intOf i).toNat)
 case atStart=>exact⟨0,⟨#[]⟩,none,0,Hd (Nat.zero_le _),Nat.zero_le _,rfl,rfl,Hd rfl,Hd (by decide),rfl,Hd (World.ownsRow_nil _ _ _ _),Hd (Below.refl _ _),HB⟩
 case round =>
  clear HB
  obtain⟨k,sv,A',c',HK,hk,rfl,rfl,HV,HS,rfl,HO,HW,HB⟩:=hrel
  have hk9:k≤1000000:=Nat.le_trans HK.out HLs.out
  by_cases hlt:k<nl
  ·obtain⟨ad,y,rfl,_,hy7,_⟩:=link_at (RL.out.below HW.out) hlt
   have hj0:(0:Int)≤k:=by omega
   have hj1:(k:Int)<nl:=by omega
   by_cases hkL:k<L.length
   rotate_left
   ·have hkk:k=L.length:=by have:=HK.out;omega
    have hokf:ok=false:=by
     cases ok
     ·rfl
     ·have:=HN.out
      simp at this
      omega
    have hy9:=hy7
    rw[hokf,List.getElem?_append_right (by rw[List.length_map];omega),List.length_map,show k-L.length=0 by omega] at hy7
    injection hy7 with hy7
    subst hy7
    have HY:=Hd hy9
    have HE:=Hd (show o=none by rw[HOdef.out,hokf];rfl)
    have HOf:=fun w=>rof9_any 0 0 0 0 0 ByteArray.empty w (by decide)
    rw[show readO 0 0 0 0 0 ByteArray.empty=none by decide +kernel] at HOf
    obtain⟨⟨d0,d1,d2,d3,d4,d5⟩,d6⟩:=link_cells (RL.out.below HW.out) hlt HY.out
    simp only[Pg.zero] at d0 d1 d2 d3 d4 d5 d6
    clear hkk hy9 hokf
    go_wp2_with fail
    refine (HOf _).mono ?_
    rintro e w2 ⟨rfl,hb⟩
    replace HW:=Hd (HW.out.trans (hb.mono HW.out.size))
    replace HB:=Hd (HB.out.trans (hb.mono HB.out.size))
    clear hb HOf d0 d1 d2 d3 d4 d5 d6
    obtain⟨_,d6⟩:=link_cells (RL.out.below HW.out) hlt HY.out
    go_wp2_with fail
    go_ret3
    rw[HE.out,HErr.out]
    first
     | exact⟨none,0,0,rfl,ReadsN.none_,HB.out⟩
     | exact⟨none,0,⟨0,rfl⟩,ReadsN.none_,HB.out⟩
   ·have hy9:=hy7
    rw[List.getElem?_append_left (by rw[List.length_map];exact hkL)] at hy7
    obtain⟨p,hp,rfl⟩:=map_lk_at hy7
    have HY:=Hd hy9
    have hpb:=HMem.out p (List.mem_of_getElem? hp)
    have htk:=take_snoc_at hp
    obtain⟨⟨d0,d1,d2,d3,d4,d5⟩,d6⟩:=link_cells (RL.out.below HW.out) hlt HY.out
    have hvs:=valV_snoc (L.take k) p
    rw[← htk,HV.out] at hvs
    have hps:=fun v (h:p.over=some v)=>over_size h
    obtain⟨pk,pc,pn,pl,pt,pb⟩:=p
    have HOf:=fun w=>rof9_any pk pc pn pl pt pb w (Nat.le_trans hpb (by decide))
    simp only at d0 d1 d2 d3 d4 d5 d6 hpb
    have hov:Pg.over ⟨pk,pc,pn,pl,pt,pb⟩=readO pk pc pn pl pt pb:=rfl
    rw[hov] at hvs hps
    have HTk:=Hd htk
    clear hy9 hy7 htk hp hov
    rcases hro:readO pk pc pn pl pt pb with _ | s2
    ·rw[hro] at HOf hvs
     have HE:=Hd (show o=none by rw[HOdef.out,valV_front hvs];cases ok<;>rfl)
     clear hvs hps hro
     go_wp2_with fail
     refine (HOf _).mono ?_
     rintro e w2 ⟨rfl,hb⟩
     replace HW:=Hd (HW.out.trans (hb.mono HW.out.size))
     replace HB:=Hd (HB.out.trans (hb.mono HB.out.size))
     clear hb HOf d0 d1 d2 d3 d4 d5 d6
     obtain⟨_,d6⟩:=link_cells (RL.out.below HW.out) hlt HY.out
     go_wp2_with fail
     go_ret3
     rw[HE.out,HErr.out]
     first
     | exact⟨none,0,0,rfl,ReadsN.none_,HB.out⟩
     | exact⟨none,0,⟨0,rfl⟩,ReadsN.none_,HB.out⟩
    ·rw[hro] at HOf hvs
     have hs2:=hps s2 hro
     have hsv:(sv++s2).size≤(k+1)*4072:=by rw[ByteArray.size_append];have:=HS.out;simp at hs2;omega
     have HV2:=Hd hvs
     have HS2:=Hd hsv
     have hcat : ¬ (9223372036854775807<sv.size+s2.size):=by rw[ByteArray.size_append] at hsv;omega
     clear hvs hps hro hs2 hsv
     go_wp2_with fail
     refine (HOf _).mono ?_
     rintro e w2 ⟨rfl,hb⟩
     replace HW:=Hd (HW.out.trans (hb.mono HW.out.size))
     replace HB:=Hd (HB.out.trans (hb.mono HB.out.size))
     replace HO:=Hd (own_below HO.out hb)
     clear hb HOf d0 d1 d2 d3 d4 d5 d6
     obtain⟨⟨_,_,d2,_,_,_⟩,d6⟩:=link_cells (RL.out.below HW.out) hlt HY.out
     simp only at d2 d6
     have HX:=Hd (HO.out.alloc (.cells #[.int .u32 pn] 23))
     have HBX:=Hd (HB.out.alloc HB.out.size (.cells #[.int .u32 pn] 23))
     have HWX:=Hd (HW.out.alloc HW.out.size (.cells #[.int .u32 pn] 23))
     go_upto_region 8 with (at_builtin;go_loud (refine wpList_append_any _ rfl (.tmp 54) (.tmp 61) _ rfl w1.heap.size 23 i0 _ 1 4 Tryz.underlying31 hi0 hz0 hz1 hz2 rfl (by omega) _ k _ rfl HX.out (w2.heap.size+1) (some ⟨w2.heap.size,0,none⟩) 1 1 (ucells [pn]) rfl (reads_own (n:=1) (Blk.new _ _ _) rfl) (ucells_one _) (by unfold maxLen;omega) (by omega) (by have:=HW.out.size;simp;omega) ?_);intro v5 w5 hown5 hg5 hat)
     clear hat d2 d6
     rw[← ucells_append,show (L.take k).map (·.pg)++[pn]=(L.take (k+1)).map (·.pg) by rw[HTk.out,List.map_append];rfl] at hown5
     obtain⟨A5,c5,rfl,_,_,_⟩:=own_form hown5
     have HO5:=Hd hown5
     have HB5:=Hd (HBX.out.grown hg5 HBX.out.size (fun g hg=>Nat.le_trans HB1.out (HX.out.lt g hg).1))
     have HW5:=Hd (HWX.out.grown hg5 HWX.out.size (fun g hg=>(HX.out.lt g hg).1))
     clear hown5 hg5 HX HBX HWX HO HB HW
     go_wp2_with fail
     go_roundw
     case rel =>
      first
       | exact⟨k+1,_,A5,c5,hkL,by omega,by go_num,rfl,HV2,HS2,rfl,HO5,HW5,HB5⟩
       | ((repeat apply Exists.intro);exact⟨⟨k+1,_,A5,c5,hkL,by omega,by go_num,rfl,HV2,HS2,rfl,HO5,HW5,HB5⟩,rfl⟩)
     case measure=>simp[intOf];omega
  ·obtain rfl:k=nl:=by omega
   have hkL:k=L.length∧ok=true:=by
    have h1:=HN.out
    have h2:=HK.out
    cases ok
    ·simp at h1;omega
    ·simp at h1;exact⟨h1,rfl⟩
   obtain⟨hkL,rfl⟩:=hkL
   have ht:L.take k=L:=List.take_of_length_le (by omega)
   rw[ht] at HV HO
   have HO2:=Hd (show o=if 1≤len∧(sv.size:Int)=len then some (sv,L.map (·.pg)) else none by rw[HOdef.out,HV.out]<;>rfl)
   clear ht hkL hlt
   by_cases hl1:len<1
   ·have HE:=Hd (show o=none by rw[HO2.out,if_neg (by omega)])
    go_wp2_with fail
    go_ret3
    rw[HE.out,HErr.out]
    first
     | exact⟨none,0,0,rfl,ReadsN.none_,HB.out⟩
     | exact⟨none,0,⟨0,rfl⟩,ReadsN.none_,HB.out⟩
   by_cases hl2:(sv.size:Int)=len
   ·have HE:=Hd (show o=some (sv,L.map (·.pg)) by rw[HO2.out,if_pos ⟨by omega,hl2⟩])
    have hq:((sv.size:Int) != len)=false:=by simp[hl2]
    clear hl2
    go_wp2_with fail
    go_ret3
    rw[HE.out,HErr0.out]
    first
     | exact⟨A',k,c',rfl,ReadsN.of_own HO.out HB1.out,HB.out⟩
     | exact⟨A',k,⟨c',rfl⟩,ReadsN.of_own HO.out HB1.out,HB.out⟩
   ·have HE:=Hd (show o=none by rw[HO2.out,if_neg (fun h=>hl2 h.2)])
    have hq:((sv.size:Int) != len)=true:=by simp[hl2]
    clear hl2
    go_wp2_with fail
    go_ret3
    rw[HE.out,HErr.out]
    first
     | exact⟨none,0,0,rfl,ReadsN.none_,HB.out⟩
     | exact⟨none,0,⟨0,rfl⟩,ReadsN.none_,HB.out⟩
theorem rread11_any (size:Int) (s:ByteArray) (head:Nat) (len:Int) (w:World) (hs:s.size≤1000000) (hh:head<4294967296) :
  Calls Tryz.prog 58 #[.int .i64 size,.string s,.int .u32 head,.int .i64 len] w fun e w'=>∃ A n c,e=.returned (.tuple #[.string (rdStr (readV size s head len)),.slice A n c,.int .i64 (rdErr size (readV size s head len))])∧Reads w' w'.heap.size 1 A n (ucells (rdPs (readV size s head len)))∧Below w.heap.size w w' :=
 (rread11_new size s head len w hs hh).mono fun _ _ ⟨A,n,c,h1,h2,h3⟩=>⟨A,n,c,h1,h2.1,h3⟩
end Go.Proofs.YtanbbnogdhnikaaGreat

