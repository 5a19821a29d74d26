/-
  Texts that the main proof rests on, put together: Ref8May, Ref8Valid. No statement is proved here.
-/
import Derived.Test.YtanbbnogdhnikaaGreatJ16
set_option linter.unusedVariables false
set_option linter.unusedSimpArgs false
set_option maxRecDepth 300000
set_option maxHeartbeats 25600000
namespace Go.Proofs.YtanbbnogdhnikaaGreat
open Go.RowKit
open Go.Lib hiding intOf
attribute [local go_sem ↓] Go.wp_at_zero Go.wp_at_succ

def inB (z:Nat) (n:Int):Bool:=decide (0≤n)&&decide (n≤((min (z/8) 255:Nat):Int))
theorem rin_any (z:Nat) (n:Int) (w:World) (hz:(z:Int)≤9223372036854775807):Calls Tryz.prog 67 #[.int .i64 z,.int .i64 n] w fun e w'=>e=.returned (.bool (inB z n))∧w'=w:=by
 by_cases h1:0≤n
 ·have hm:((min (z/8) 255:Nat):Int)=min ((z:Int)/8) 255:=by omega
  have hq:(z:Int).tdiv 8=(z:Int)/8:=by rw[Int.tdiv_eq_ediv_of_nonneg (by omega)]
  have hw:wrap64 ((z:Int)/8)=(z:Int)/8:=by
   have:=wrap64_nat (z/8) (by omega)
   simpa using this
  have HE:=Hd (show inB z n=decide (n≤min ((z:Int)/8) 255) by rw[inB,hm,decide_eq_true h1,Bool.true_and])
  clear hm
  go_enter Tryz.func67,Tryz.ntmps67
  go_wp2
  go_ret
  exact⟨by rw[HE.out];rfl,rfl⟩
 ·have HE:=Hd (show inB z n=false by simp[inB,h1])
  go_enter Tryz.func67,Tryz.ntmps67
  go_wp2
  go_ret
  exact⟨by rw[HE.out];rfl,rfl⟩
theorem rone8_any (b:It) (w:World) (hs:b.ky.size≤140737488351232) (hv:b.vl.size≤140737488351232):Calls Tryz.prog 96 #[.agg #[.string b.ky,.string b.vl,.bool b.ov,.int .i64 b.ln,.int .u32 b.hd]] w fun e w'=>e=.returned (.int .i64 (oneI b))∧Below w.heap.size w w':=by
 obtain⟨ky,vl,ov,ln,hd⟩:=b
 cases ov
 ·have HE:=Hd (show ((oneI ⟨ky,vl,false,ln,hd⟩:Nat):Int)=3+(ky.size:Int)+(vl.size:Int) by simp[oneI])
  dsimp only at hs hv
  go_enter Tryz.func96,Tryz.ntmps96
  go_wp2
  go_ret
  exact⟨by rw[HE.out];rfl,(Below.refl _ _).alloc (Nat.le_refl _) _⟩
 ·have HE:=Hd (show ((oneI ⟨ky,vl,true,ln,hd⟩:Nat):Int)=10+(ky.size:Int) by simp[oneI])
  dsimp only at hs hv
  go_enter Tryz.func96,Tryz.ntmps96
  go_wp2
  go_ret
  exact⟨by rw[HE.out];rfl,(Below.refl _ _).alloc (Nat.le_refl _) _⟩
theorem rsize8_any (A:Option Addr) (n c:Nat) (l:List It) (w:World) (hr:Reads w w.heap.size 5 A n (itc l)) (hn:n≤maxLen) (hx:NearI l) (hs:sizeI l≤9007199254740992) :
  Calls Tryz.prog 70 #[.slice A n c] w fun e w'=>e=.returned (.int .i64 (sizeI l))∧Below w.heap.size w w':=by
 have hl:=it_len hr
 have HR:=Hd hr
 have HL:=Hd hl
 have HX:=Hd hx
 unfold maxLen at hn
 clear hr hl hx
 go_enter Tryz.func70,Tryz.ntmps70
 go_wp2_with fail
 go_loopw [3,4] (fun s i wr=>∃ k:Nat,k≤n∧i=.int .i64 k∧s=.int .i64 (sizeI (l.take k))∧Hid (Below w.heap.size w wr)) (fun _ i _=>n-(intOf i).toNat)
 case atStart=>exact⟨0,Nat.zero_le _,rfl,by simp[sizeI],Hd (Below.refl _ _)⟩
 case round =>
  obtain⟨k,hk,rfl,rfl,HB⟩:=hrel
  by_cases hlt:k<n
  ·obtain⟨ad,x,rfl,_,hp,hx,hc⟩:=it_at HR.out hlt
   obtain⟨hc0,hc1,hc2,hc3,hc4⟩:=hc.below HB.out hp
   have hk0:(0:Int)≤k:=by omega
   have hk1:(k:Int)<n:=by omega
   have hsz:=sizeI_take_succ hx
   have hle:=sizeI_take_le l (k+1)
   have hxx:=HX.out x (List.mem_of_getElem? hx)
   have HS:=Hd hsz
   have hks:sizeI (l.take k)+oneI x≤9007199254740992:=by omega
   have HO:=fun w=>rone8_any x w hxx.1 hxx.2
   clear hx hsz hle hxx
   go_wp2_with fail
   refine (HO _).mono ?_
   rintro e w1 ⟨rfl,hb⟩
   replace HB:=Hd (HB.out.trans (hb.mono HB.out.size))
   clear hb hc hc0 hc1 hc2 hc3 hc4 HO
   have hadd:((sizeI (l.take k):Nat):Int)+((oneI x:Nat):Int)=((sizeI (l.take (k+1)):Nat):Int):=by rw[HS.out];omega
   go_wp2
   go_roundw
   case rel =>
    first
     | exact⟨k+1,by omega,by go_num,by first | rfl | (rw[← hadd];go_num),HB⟩
     | ((repeat apply Exists.intro);exact⟨⟨k+1,by omega,by go_num,by first | rfl | (rw[← hadd];go_num),HB⟩,rfl⟩)
   case measure=>simp[intOf];omega
  ·obtain rfl:k=n:=by omega
   have ht:l.take k=l:=List.take_of_length_le (by rw[HL.out];exact Nat.le_refl _)
   rw[ht]
   clear hlt
   go_wp2
   go_ret
   exact⟨rfl,HB.out⟩
theorem okIt_in {b:It} (h:b.ov=false):okIt b=(keyF b.ky&&(decide (b.vl.size≤255)&&(decide (b.ln=0)&&decide (b.hd=0)))):=by rw[okIt,if_neg (by rw[h];decide)]
theorem okIt_ov {b:It} (h:b.ov=true):okIt b=(keyF b.ky&&(decide (b.vl.size=0)&&(decide (1≤b.ln)&&(decide (b.ln≤4096)&&numB b.hd)))):=by rw[okIt,if_pos h]
theorem rmayone_any (b:It) (w:World):Calls Tryz.prog 111 #[.agg #[.string b.ky,.string b.vl,.bool b.ov,.int .i64 b.ln,.int .u32 b.hd]] w fun e w'=>e=.returned (.bool (okIt b))∧Below w.heap.size w w':=by
 obtain⟨ky,vl,ov,ln,hd⟩:=b
 have HK:=fun w=>rkey_any ky w
 have HN:=fun w=>rnumB_any hd w
 have HB:=Hd ((Below.refl w.heap.size w).alloc (Nat.le_refl _) (.cells #[.string ky,.string vl,.bool ov,.int .i64 ln,.int .u32 hd] 76))
 have hvz:vl.toList.isEmpty=decide (vl.size=0):=by
  rw[Bool.eq_iff_iff,List.isEmpty_iff_length_eq_zero,ByteArray.toList_eq,size_list,decide_eq_true_eq]
 cases ov
 ·clear hvz
  have hE:=okIt_in (b:=⟨ky,vl,false,ln,hd⟩) rfl
  dsimp only at hE
  rcases hk:keyF ky with _ | _
  ·rw[hk] at HK hE
   have HE:=Hd hE
   clear hE hk
   go_enter Tryz.func111,Tryz.ntmps111
   go_wp2_with (go_at_call 81;refine (HK _).mono ?_;rintro e w' ⟨rfl,rfl⟩)
   go_ret
   exact⟨by rw[HE.out];rfl,HB.out⟩
  rw[hk] at HK hE
  by_cases h1:vl.size≤255
  rotate_left
  ·have h1':decide ((vl.size:Int)≤255)=false:=by simp;omega
   rw[decide_eq_false h1] at hE
   have HE:=Hd hE
   clear hE hk h1
   go_enter Tryz.func111,Tryz.ntmps111
   go_wp2_with (go_at_call 81;refine (HK _).mono ?_;rintro e w' ⟨rfl,rfl⟩)
   go_ret
   exact⟨by rw[HE.out];rfl,HB.out⟩
  have h1':decide ((vl.size:Int)≤255)=true:=by simp;omega
  rw[decide_eq_true h1] at hE
  by_cases h2:ln=0
  rotate_left
  ·have h2':(ln==0)=false:=by simpa using h2
   rw[decide_eq_false h2] at hE
   have HE:=Hd hE
   clear hE hk h1 h2
   go_enter Tryz.func111,Tryz.ntmps111
   go_wp2_with (go_at_call 81;refine (HK _).mono ?_;rintro e w' ⟨rfl,rfl⟩)
   go_ret
   exact⟨by rw[HE.out];rfl,HB.out⟩
  have h2':(ln==0)=true:=by simpa using h2
  rw[decide_eq_true h2] at hE
  have h3':((hd:Int)==0)=decide (hd=0):=by
   by_cases h3:hd=0
   ·simp[h3]
   ·simp[h3]
  have HE:=Hd hE
  have H3:=Hd h3'
  clear hE hk h1 h2 h3'
  go_enter Tryz.func111,Tryz.ntmps111
  go_wp2_with (go_at_call 81;refine (HK _).mono ?_;rintro e w' ⟨rfl,rfl⟩)
  go_ret
  exact⟨by rw[HE.out,← H3.out];rfl,HB.out⟩
 ·have hE:=okIt_ov (b:=⟨ky,vl,true,ln,hd⟩) rfl
  dsimp only at hE
  rcases hk:keyF ky with _ | _
  ·rw[hk] at HK hE
   have HE:=Hd hE
   clear hE hk hvz
   go_enter Tryz.func111,Tryz.ntmps111
   go_wp2_with (go_at_call 81;refine (HK _).mono ?_;rintro e w' ⟨rfl,rfl⟩)
   go_ret
   exact⟨by rw[HE.out];rfl,HB.out⟩
  rw[hk] at HK hE
  by_cases h1:vl.size=0
  rotate_left
  ·rw[decide_eq_false h1] at hE hvz
   have HE:=Hd hE
   clear hE hk h1
   go_enter Tryz.func111,Tryz.ntmps111
   go_wp2_with (go_at_call 81;refine (HK _).mono ?_;rintro e w' ⟨rfl,rfl⟩)
   go_ret
   exact⟨by rw[HE.out];rfl,HB.out⟩
  rw[decide_eq_true h1] at hE hvz
  have hvn:vl.toList=[]:=List.isEmpty_iff.1 hvz
  clear hvz
  by_cases h2:1≤ln
  rotate_left
  ·have h2':decide (1≤ln)=false:=decide_eq_false h2
   rw[h2'] at hE
   have HE:=Hd hE
   clear hE hk h1 h2
   go_enter Tryz.func111,Tryz.ntmps111
   go_wp2_with (go_at_call 81;refine (HK _).mono ?_;rintro e w' ⟨rfl,rfl⟩)
   go_ret
   exact⟨by rw[HE.out];rfl,HB.out⟩
  rw[decide_eq_true h2] at hE
  by_cases h3:ln≤4096
  rotate_left
  ·have h3':decide (ln≤4096)=false:=decide_eq_false h3
   rw[h3'] at hE
   have HE:=Hd hE
   clear hE hk h1
   go_enter Tryz.func111,Tryz.ntmps111
   go_wp2_with (go_at_call 81;refine (HK _).mono ?_;rintro e w' ⟨rfl,rfl⟩)
   go_ret
   exact⟨by rw[HE.out];rfl,HB.out⟩
  rw[decide_eq_true h3] at hE
  have HE:=Hd hE
  clear hE hk h1
  go_enter Tryz.func111,Tryz.ntmps111
  go_wp2_with (first | (go_at_call 81;refine (HK _).mono ?_;rintro e w' ⟨rfl,rfl⟩) | (go_at_call 50;refine (HN _).mono ?_;rintro e w' ⟨rfl,rfl⟩))
  go_ret
  exact⟨by rw[HE.out];rfl,HB.out⟩
theorem rfind8_any (A:Option Addr) (n c:Nat) (l:List It) (key:ByteArray) (w:World) {B:Nat} (hr:Reads w B 5 A n (itc l)) (hn:n≤2513169434916) :
  Calls Tryz.prog 57 #[.slice A n c,.string key] w fun e w'=>e=.returned (.tuple #[.int .i64 (findN l key),.bool (findB l key)])∧∃ q,w'=w.drewN q:=by
 have HL:=Hd (it_len hr)
 have HR:=Hd hr
 clear hr
 go_enter Tryz.func57,Tryz.ntmps57
 go_wp2_with fail
 go_loop [6] (fun i=>∃ k:Nat,k≤n∧i=.int .i64 k∧Hid (∀ j y,j<k→l[j]? = some y→Op.bytesLess y.ky.toList key.toList=true)) (fun i=>n-(intOf i).toNat)
 case atStart=>exact⟨0,Nat.zero_le _,rfl,Hd fun j y hj=>absurd hj (by omega)⟩
 case round =>
  obtain⟨k,hk,rfl,HF⟩:=hrel
  by_cases hlt:k<n
  ·obtain⟨ad,x,rfl,_,_,hx,hc0,_⟩:=it_at HR.out hlt
   have hk0:(0:Int)≤k:=by omega
   have hk1:(k:Int)<n:=by omega
   have HX:=Hd hx
   clear hx
   rcases he:Op.bytesLess x.ky.toList key.toList with _ | _
   ·have hN:findN l key=k:=takeWhile_at HF.out (by rw[HL.out];omega) (fun y hy=>by rw[HX.out] at hy;injection hy with hy;subst hy;exact he)
    have HE:=Hd hN
    have HE2:=Hd (show findB l key=(x.ky.toList==key.toList) by rw[findB,hN,HX.out])
    clear hN
    go_wp2_with fail
    go_quiet (fail)
    go_wp2_with fail
    go_ret2
    refine⟨?_,_,rfl⟩
    rw[HE.out,HE2.out]
    rfl
   ·go_wp2_with fail
    go_round
    case rel =>
     refine⟨k+1,by omega,by go_num,Hd fun i y hi hy=>?_⟩
     by_cases hjk:i<k
     ·exact HF.out i y hjk hy
     ·obtain rfl:i=k:=by omega
      rw[HX.out] at hy
      injection hy with hy
      subst hy
      exact he
    case measure=>simp[intOf];omega
  ·obtain rfl:k=n:=by omega
   have hnone:l[k]? = none:=List.getElem?_eq_none (by rw[HL.out];exact Nat.le_refl _)
   have hN:findN l key=k:=takeWhile_at HF.out (by rw[HL.out];exact Nat.le_refl _) (fun y hy=>by rw[hnone] at hy;cases hy)
   have HE:=Hd hN
   have HE2:=Hd (show findB l key=false by rw[findB,hN,hnone])
   have hnl : ¬ ((k:Int)<k):=by omega
   clear hN hlt hnone
   go_wp2_with fail
   go_quiet (fail)
   go_wp2_with fail
   go_ret2
   refine⟨?_,_,rfl⟩
   rw[HE.out,HE2.out]
   rfl
theorem rmay8_any (A:Option Addr) (n c:Nat) (l:List It) (w:World) (hr:Reads w w.heap.size 5 A n (itc l)) (hn:n≤2513169434916) :
  Calls Tryz.prog 92 #[.slice A n c] w fun e w'=>e=.returned (.bool (mayI l))∧Below w.heap.size w w':=by
 have HL:=Hd (it_len hr)
 have HR:=Hd hr
 clear hr
 go_enter Tryz.func92,Tryz.ntmps92
 go_wp2_with fail
 go_loopw [3] (fun i wr=>∃ k:Nat,k≤n∧i=.int .i64 k∧Hid (∀ j,j<k→okAtI l j=true)∧Hid (Below w.heap.size w wr)) (fun i _=>n-(intOf i).toNat)
 case atStart=>exact⟨0,Nat.zero_le _,rfl,Hd fun j hj=>absurd hj (by omega),Hd (Below.refl _ _)⟩
 case round =>
  obtain⟨k,hk,rfl,HF,HB⟩:=hrel
  by_cases hlt:k<n
  ·obtain⟨ad,x,rfl,_,hp,hx,hc⟩:=it_at HR.out hlt
   have HP:=Hd hp
   have hk0:(0:Int)≤k:=by omega
   have hk1:(k:Int)<n:=by omega
   have HX:=Hd hx
   have hkl:k<l.length:=by rw[HL.out];exact hlt
   have HM:=fun w=>rmayone_any x w
   have HC:=Hd (show ItAt wr.drew (ad.add (k*5)) x from ItAt.below (w':=wr) hc HB.out hp)
   have HBd:=Hd HB.out.drew
   go_upto_region 4 with fail
   clear hx hp
   rcases hok:okIt x with _ | _
   ·have HE:=Hd (show mayI l=false by rw[mayI,allOkI_no hkl (by rw[okAtI_of HX.out,hok];rfl)];rfl)
    rw[hok] at HM
    clear hkl hok hc
    refine wp_region_held_drew (S:=(fun w'=>w'.cell? (ad.add (k*5))=some (.string x.ky)∧w'.cell? ⟨(ad.add (k*5)).block,(ad.add (k*5)).off+1,none⟩=some (.string x.vl)∧w'.cell? ⟨(ad.add (k*5)).block,(ad.add (k*5)).off+2,none⟩=some (.bool x.ov)∧w'.cell? ⟨(ad.add (k*5)).block,(ad.add (k*5)).off+3,none⟩=some (.int .i64 x.ln)∧w'.cell? ⟨(ad.add (k*5)).block,(ad.add (k*5)).off+4,none⟩=some (.int .u32 x.hd))) (by kernel_rfl) (HC.out) (fun hHeld=>?_)
    refine tkA (i:=0) ?_
    try simp only[tkP]
    refine tkA (i:=1) ?_
    try simp only[tkP]
    refine tkA (i:=2) ?_
    try simp only[tkP]
    refine tkA (i:=3) ?_
    try simp only[tkP]
    refine wpAnyH_ready (rs:=[4]) (by kernel_rfl) (by simp) ?_
    refine tkC (fun K hK=>?_)
    go_simp
    refine (HM _).mono ?_
    rintro e w2 ⟨rfl,hb⟩
    replace HC:=Hd (HC.out.below hb (Nat.lt_of_lt_of_le HP.out HBd.out.size))
    replace HBd:=Hd (HBd.out.trans (hb.mono HBd.out.size))
    clear hb
    refine hK.out _ _ (HC.out) (fun hHeld=>?_)
    clear hK K
    try simp only[tkP]
    refine tkA (i:=5) ?_
    try simp only[tkP]
    refine tkA (i:=6) ?_
    try simp only[tkP]
    refine tkU (i:=7) ?_
    try simp only[tkP]
    refine tkU (i:=8) ?_
    try simp only[tkP]
    refine tkU (i:=9) ?_
    try simp only[tkP]
    refine tkU (i:=10) ?_
    try simp only[tkP]
    refine tkU (i:=11) ?_
    try simp only[tkP]
    refine tkU (i:=12) ?_
    try simp only[tkP]
    refine tkU (i:=13) ?_
    try simp only[tkP]
    refine tkU (i:=14) ?_
    try simp only[tkP]
    refine tkU (i:=15) ?_
    try simp only[tkP]
    refine tkU (i:=16) ?_
    try simp only[tkP]
    refine tkU (i:=17) ?_
    try simp only[tkP]
    refine tkU (i:=18) ?_
    try simp only[tkP]
    refine tkU (i:=19) ?_
    try simp only[tkP]
    refine tkU (i:=20) ?_
    try simp only[tkP]
    refine tkU (i:=21) ?_
    try simp only[tkP]
    refine tkU (i:=22) ?_
    try simp only[tkP]
    refine tkA (i:=23) ?_
    try simp only[tkP]
    refine wpAnyH_done (by kernel_rfl) ?_ _
    go_wp2_with fail
    go_ret
    exact⟨by rw[HE.out];rfl,HBd.out⟩
   rw[hok] at HM
   by_cases hk00:k=0
   ·have HE:=Hd (show okAtI l k=true by rw[okAtI_of HX.out,hok,hk00];rfl)
    have hk3:decide ((k:Int) > 0)=false:=by simp;omega
    have hk4:decide (0<k)=false:=by simp;omega
    clear hk00 hok hkl hc
    refine wp_region_held_drew (S:=(fun w'=>w'.cell? (ad.add (k*5))=some (.string x.ky)∧w'.cell? ⟨(ad.add (k*5)).block,(ad.add (k*5)).off+1,none⟩=some (.string x.vl)∧w'.cell? ⟨(ad.add (k*5)).block,(ad.add (k*5)).off+2,none⟩=some (.bool x.ov)∧w'.cell? ⟨(ad.add (k*5)).block,(ad.add (k*5)).off+3,none⟩=some (.int .i64 x.ln)∧w'.cell? ⟨(ad.add (k*5)).block,(ad.add (k*5)).off+4,none⟩=some (.int .u32 x.hd))) (by kernel_rfl) (HC.out) (fun hHeld=>?_)
    refine tkA (i:=0) ?_
    try simp only[tkP]
    refine tkA (i:=1) ?_
    try simp only[tkP]
    refine tkA (i:=2) ?_
    try simp only[tkP]
    refine tkA (i:=3) ?_
    try simp only[tkP]
    refine wpAnyH_ready (rs:=[4]) (by kernel_rfl) (by simp) ?_
    refine tkC (fun K hK=>?_)
    go_simp
    refine (HM _).mono ?_
    rintro e w2 ⟨rfl,hb⟩
    replace HC:=Hd (HC.out.below hb (Nat.lt_of_lt_of_le HP.out HBd.out.size))
    replace HBd:=Hd (HBd.out.trans (hb.mono HBd.out.size))
    clear hb
    refine hK.out _ _ (HC.out) (fun hHeld=>?_)
    clear hK K
    try simp only[tkP]
    refine tkA (i:=5) ?_
    try simp only[tkP]
    refine tkA (i:=6) ?_
    try simp only[tkP]
    refine tkA (i:=7) ?_
    try simp only[tkP]
    refine tkA (i:=8) ?_
    try simp only[tkP]
    refine tkA (i:=9) ?_
    try simp only[tkP]
    refine tkU (i:=10) ?_
    try simp only[tkP]
    refine tkU (i:=11) ?_
    try simp only[tkP]
    refine tkU (i:=12) ?_
    try simp only[tkP]
    refine tkU (i:=13) ?_
    try simp only[tkP]
    refine tkU (i:=14) ?_
    try simp only[tkP]
    refine tkU (i:=15) ?_
    try simp only[tkP]
    refine tkU (i:=16) ?_
    try simp only[tkP]
    refine tkU (i:=17) ?_
    try simp only[tkP]
    refine tkU (i:=18) ?_
    try simp only[tkP]
    refine tkU (i:=19) ?_
    try simp only[tkP]
    refine tkU (i:=20) ?_
    try simp only[tkP]
    refine tkU (i:=21) ?_
    try simp only[tkP]
    refine tkA (i:=22) ?_
    try simp only[tkP]
    refine tkA (i:=23) ?_
    try simp only[tkP]
    refine wpAnyH_done (by kernel_rfl) ?_ _
    have HF':=Hd (fun j (hj:j<k+1)=>show okAtI l j=true from by
     by_cases hjk:j<k
     ·exact HF.out j hjk
     ·have e:j=k:=by omega
      rw[e];exact HE.out)
    go_wp2_with fail
    go_roundw
    case rel =>
     first
      | exact⟨k+1,by omega,by go_num,HF',HBd⟩
      | ((repeat apply Exists.intro);exact⟨⟨k+1,by omega,by go_num,HF',HBd⟩,rfl⟩)
    case measure=>simp[intOf];omega
   obtain⟨j,hkj⟩ : ∃ j,k=j+1:=⟨k-1,by omega⟩
   obtain⟨ad',y,had,_,hpy,hy,hcy⟩:=it_at HR.out (show j<n by omega)
   injection had with had
   subst had
   have HPY:=Hd hpy
   have HY:=Hd (show wr.drew.cell? (ad.add (j*5))=some (.string y.ky) from (ItAt.below (w':=wr) hcy HB.out hpy).1)
   have hj1:IntKind.i64.wrap ((k:Int)-1)=(j:Int):=by rw[IntKind.wrap_i64];omega
   have hj2:(k:Int)-1=(j:Int):=by omega
   have hj5:IntKind.i64.wrap (j:Int)=(j:Int):=by rw[IntKind.wrap_i64];omega
   have hj3:(0:Int)≤j:=by omega
   have hj4:(j:Int)<n:=by omega
   have hk3:decide ((k:Int) > 0)=true:=by simp;omega
   have hk4:decide (0<k)=true:=by simp;omega
   have hat:okAtI l k=Op.bytesLess y.ky.toList x.ky.toList:=by rw[okAtI_of HX.out,hok,hkj];simp[hy]
   rcases hless:Op.bytesLess y.ky.toList x.ky.toList with _ | _
   ·have HE:=Hd (show mayI l=false by rw[mayI,allOkI_no hkl (by rw[hat,hless])];rfl)
    clear hat hkl hok hy hkj hk00 hcy hpy hc
    refine wp_region_held_drew (S:=(fun w'=>(w'.cell? (ad.add (k*5))=some (.string x.ky)∧w'.cell? ⟨(ad.add (k*5)).block,(ad.add (k*5)).off+1,none⟩=some (.string x.vl)∧w'.cell? ⟨(ad.add (k*5)).block,(ad.add (k*5)).off+2,none⟩=some (.bool x.ov)∧w'.cell? ⟨(ad.add (k*5)).block,(ad.add (k*5)).off+3,none⟩=some (.int .i64 x.ln)∧w'.cell? ⟨(ad.add (k*5)).block,(ad.add (k*5)).off+4,none⟩=some (.int .u32 x.hd))∧w'.cell? (ad.add (j*5))=some (.string y.ky))) (by kernel_rfl) (⟨HC.out,HY.out⟩) (fun hHeld=>?_)
    refine tkA (i:=0) ?_
    try simp only[tkP]
    refine tkA (i:=1) ?_
    try simp only[tkP]
    refine tkA (i:=2) ?_
    try simp only[tkP]
    refine tkA (i:=3) ?_
    try simp only[tkP]
    refine wpAnyH_ready (rs:=[4]) (by kernel_rfl) (by simp) ?_
    refine tkC (fun K hK=>?_)
    go_simp
    refine (HM _).mono ?_
    rintro e w2 ⟨rfl,hb⟩
    replace HC:=Hd (HC.out.below hb (Nat.lt_of_lt_of_le HP.out HBd.out.size))
    replace HY:=Hd ((hb.cell (p:=ad.add (j*5)) (Nat.lt_of_lt_of_le HPY.out HBd.out.size)).trans HY.out)
    replace HBd:=Hd (HBd.out.trans (hb.mono HBd.out.size))
    clear hb
    refine hK.out _ _ (⟨HC.out,HY.out⟩) (fun hHeld=>?_)
    clear hK K
    try simp only[tkP]
    refine tkA (i:=5) ?_
    try simp only[tkP]
    refine tkA (i:=6) ?_
    try simp only[tkP]
    refine tkA (i:=7) ?_
    try simp only[tkP]
    refine tkA (i:=8) ?_
    try simp only[tkP]
    refine tkA (i:=9) ?_
    try simp only[tkP]
    refine tkA (i:=10) ?_
    try simp only[tkP]
    refine tkA (i:=11) ?_
    try simp only[tkP]
    refine tkA (i:=12) ?_
    try simp only[tkP]
    refine tkA (i:=13) ?_
    try simp only[tkP]
    refine tkA (i:=14) ?_
    try simp only[tkP]
    refine tkA (i:=15) ?_
    try simp only[tkP]
    refine tkA (i:=16) ?_
    try simp only[tkP]
    refine tkA (i:=17) ?_
    try simp only[tkP]
    refine tkA (i:=18) ?_
    try simp only[tkP]
    refine tkA (i:=19) ?_
    try simp only[tkP]
    refine tkA (i:=20) ?_
    try simp only[tkP]
    refine tkA (i:=21) ?_
    try simp only[tkP]
    refine tkA (i:=22) ?_
    try simp only[tkP]
    refine tkA (i:=23) ?_
    try simp only[tkP]
    refine wpAnyH_done (by kernel_rfl) ?_ _
    go_wp2_with fail
    go_ret
    exact⟨by rw[HE.out];rfl,HBd.out⟩
   ·have HE:=Hd (show okAtI l k=true by rw[hat,hless])
    clear hat hkl hok hy hkj hk00 hcy hpy hc
    refine wp_region_held_drew (S:=(fun w'=>(w'.cell? (ad.add (k*5))=some (.string x.ky)∧w'.cell? ⟨(ad.add (k*5)).block,(ad.add (k*5)).off+1,none⟩=some (.string x.vl)∧w'.cell? ⟨(ad.add (k*5)).block,(ad.add (k*5)).off+2,none⟩=some (.bool x.ov)∧w'.cell? ⟨(ad.add (k*5)).block,(ad.add (k*5)).off+3,none⟩=some (.int .i64 x.ln)∧w'.cell? ⟨(ad.add (k*5)).block,(ad.add (k*5)).off+4,none⟩=some (.int .u32 x.hd))∧w'.cell? (ad.add (j*5))=some (.string y.ky))) (by kernel_rfl) (⟨HC.out,HY.out⟩) (fun hHeld=>?_)
    refine tkA (i:=0) ?_
    try simp only[tkP]
    refine tkA (i:=1) ?_
    try simp only[tkP]
    refine tkA (i:=2) ?_
    try simp only[tkP]
    refine tkA (i:=3) ?_
    try simp only[tkP]
    refine wpAnyH_ready (rs:=[4]) (by kernel_rfl) (by simp) ?_
    refine tkC (fun K hK=>?_)
    go_simp
    refine (HM _).mono ?_
    rintro e w2 ⟨rfl,hb⟩
    replace HC:=Hd (HC.out.below hb (Nat.lt_of_lt_of_le HP.out HBd.out.size))
    replace HY:=Hd ((hb.cell (p:=ad.add (j*5)) (Nat.lt_of_lt_of_le HPY.out HBd.out.size)).trans HY.out)
    replace HBd:=Hd (HBd.out.trans (hb.mono HBd.out.size))
    clear hb
    refine hK.out _ _ (⟨HC.out,HY.out⟩) (fun hHeld=>?_)
    clear hK K
    try simp only[tkP]
    refine tkA (i:=5) ?_
    try simp only[tkP]
    refine tkA (i:=6) ?_
    try simp only[tkP]
    refine tkA (i:=7) ?_
    try simp only[tkP]
    refine tkA (i:=8) ?_
    try simp only[tkP]
    refine tkA (i:=9) ?_
    try simp only[tkP]
    refine tkA (i:=10) ?_
    try simp only[tkP]
    refine tkA (i:=11) ?_
    try simp only[tkP]
    refine tkA (i:=12) ?_
    try simp only[tkP]
    refine tkA (i:=13) ?_
    try simp only[tkP]
    refine tkA (i:=14) ?_
    try simp only[tkP]
    refine tkA (i:=15) ?_
    try simp only[tkP]
    refine tkA (i:=16) ?_
    try simp only[tkP]
    refine tkA (i:=17) ?_
    try simp only[tkP]
    refine tkA (i:=18) ?_
    try simp only[tkP]
    refine tkA (i:=19) ?_
    try simp only[tkP]
    refine tkA (i:=20) ?_
    try simp only[tkP]
    refine tkA (i:=21) ?_
    try simp only[tkP]
    refine tkA (i:=22) ?_
    try simp only[tkP]
    refine tkA (i:=23) ?_
    try simp only[tkP]
    refine wpAnyH_done (by kernel_rfl) ?_ _
    clear hj1 hj2 hj5
    have HF':=Hd (fun j (hj:j<k+1)=>show okAtI l j=true from by
     by_cases hjk:j<k
     ·exact HF.out j hjk
     ·have e:j=k:=by omega
      rw[e];exact HE.out)
    go_wp2_with fail
    go_roundw
    case rel =>
     first
      | exact⟨k+1,by omega,by go_num,HF',HBd⟩
      | ((repeat apply Exists.intro);exact⟨⟨k+1,by omega,by go_num,HF',HBd⟩,rfl⟩)
    case measure=>simp[intOf];omega
  ·obtain rfl:k=n:=by omega
   have ha:allOkI l=true:=allOkI_yes fun j hj=>HF.out j (by rw[← HL.out];exact hj)
   have HE:=Hd (show mayI l=decide (0<k) by rw[mayI,ha,HL.out];rfl)
   clear ha hlt
   go_wp2_with fail
   go_ret
   exact⟨by rw[HE.out];rfl,HB.out⟩
end Go.Proofs.YtanbbnogdhnikaaGreat

