/-
  Texts that the main proof rests on, put together: Octet, Crc. No statement is proved here.
-/
import Derived.Test.YtanbbnogdhnikaaGreatJ1
import Derived.Test.YtanbbnogdhnikaaGreatJ2
import Derived.Deep.WholeRow
set_option linter.unusedVariables false
set_option linter.unusedSimpArgs false
set_option maxRecDepth 300000
set_option maxHeartbeats 25600000
namespace Go.Proofs.YtanbbnogdhnikaaGreat
open Go.RowKit
theorem infoRd:(Tryz.prog.info? 209).map (fun i=>(i.zero,i.size,i.bytes))=some (some (.agg #[.pointer none,.string .empty]),2,24):=by kernel_rfl
theorem infoU8:(Tryz.prog.info? 5).map (fun i=>(i.zero,i.size,i.bytes))=some (some (.int .u8 0),1,1):=by kernel_rfl

def IsRd (w:World) (g:Nat) (s:ByteArray):Prop:=Blk w g 209 #[.pointer (some ⟨g,0,none⟩),.string s]

theorem valid_yes {w:World} {g:Nat} {s:ByteArray} (h:IsRd w g s) :
  Calls Tryz.prog 160 #[.pointer (some ⟨g,0,none⟩)] w fun e w'=>e=.returned (.bool true)∧w=w':=by
 obtain⟨i0,hi0,hz0,hz1,hz2⟩:=info_parts infoRd
 have c0:=Blk.cell h 0
 simp at c0
 have heq:=run_eql_ptr_same w ⟨g,0,none⟩ Tryz.underlying189 hi0
 go_enter Tryz.func160,Tryz.ntmps160
 go_wp2
 go_ret
 exact⟨rfl,rfl⟩

theorem width_any (n:Int) (w:World) :
  Calls Tryz.prog 161 #[.int .i64 n] w fun e w'=>e=.returned (.bool (decide (1≤n)&&decide (n≤8)))∧w=w':=by
 by_cases h1:1≤n<;>by_cases h2:n≤8<;>go_enter Tryz.func161,Tryz.ntmps161<;>go_wp2<;>go_ret<;>exact⟨by simp[h1,h2],rfl⟩

theorem new_any (s:ByteArray) (w:World) :
  Calls Tryz.prog 120 #[.string s] w fun e w'=>e=.returned (.pointer (some ⟨w.heap.size,0,none⟩))∧w'=w.alloc (.cells #[.pointer (some ⟨w.heap.size,0,none⟩),.string s] 209):=by
 go_enter Tryz.func120,Tryz.ntmps120
 go_wp2
 go_ret
 exact⟨rfl,rfl⟩
open Go.Lib
theorem getElem_toList (s:ByteArray) (k:Nat) (h:k<s.size):s.data.toList[k]'(by simpa using h)=s[k]:=rfl
theorem number_any (s:ByteArray) (w:World) (hs:s.size≤8) :
  Calls Tryz.prog 163 #[.string s] w fun e w'=>e=.returned (.int .u64 (leNat s.data.toList))∧w=w':=by
 go_enter Tryz.func163,Tryz.ntmps163
 go_wp2
 go_loop [3,7] (fun n i=>∃ k:Nat,k≤s.size∧i=.int .i64 k∧n=.int .u64 (leNat (s.data.toList.take k))) (fun _ i=>s.size-(RowKit.intOf i).toNat)
 case atStart=>exact⟨0,Nat.zero_le _,rfl,rfl⟩
 case round =>
  obtain⟨k,hk,rfl,rfl⟩:=hrel
  by_cases hlt:k<s.size
  ·go_wp2
   go_round
   case rel =>
    refine⟨k+1,by omega,by go_num,?_⟩
    have hl:(s.data.toList.take k).length=k:=by simp;omega
    have h1:=leNat_lt (s.data.toList.take k)
    have h2:=leNat_snoc (s.data.toList.take k) s[k]
    rw[hl] at h1 h2
    rw[or_step _ k s[k] (by omega) h1,take_snoc _ k (by simpa using hlt),← h2]
    rfl
   case measure=>simp[RowKit.intOf];omega
  ·go_wp2
   go_ret
   refine⟨?_,rfl⟩
   rw[List.take_of_length_le (by simp;omega)];rfl
theorem zero_any (s:ByteArray) (w:World) (hs:s.size≤maxLen) :
  Calls Tryz.prog 137 #[.string s] w fun e w'=>e=.returned (.bool (zeros s.data.toList))∧w=w':=by
 unfold maxLen at hs
 go_enter Tryz.func137,Tryz.ntmps137
 go_wp2
 go_loop [3,6] (fun _ i=>∃ k:Nat,k≤s.size∧i=.int .i64 k∧Hid (zeros (s.data.toList.take k)=true)) (fun _ i=>s.size-(RowKit.intOf i).toNat)
 case atStart=>exact⟨0,Nat.zero_le _,rfl,rfl⟩
 case round =>
  obtain⟨k,hk,rfl,HZ⟩:=hrel
  by_cases hlt:k<s.size
  ·go_wp2
   ·have hne:((s[k].toNat:Int) != 0)=true:=by assumption
    go_ret
    refine⟨?_,rfl⟩
    have hk':k<s.data.toList.length:=by simpa using hlt
    rw[zeros_at hk' (fun h=>by rw[getElem_toList s k hlt] at h;simp[h] at hne)];rfl
   ·have hne:((s[k].toNat:Int) != 0)=false:=by assumption
    go_round
    case rel =>
     refine⟨k+1,by omega,by go_num,?_⟩
     show zeros _=true
     rw[take_snoc _ k (by simpa using hlt),zeros_snoc,HZ.out]
     have h0:s[k].toNat=0:=by simpa using hne
     rw[getElem_toList]
     simp
     exact UInt8.toNat_inj.1 (by simpa using h0)
    case measure=>simp[RowKit.intOf];omega
  ·go_wp2
   go_ret
   refine⟨?_,rfl⟩
   have:=HZ.out
   rw[List.take_of_length_le (by simp;omega)] at this
   rw[this];rfl
theorem oneCell_one {u:Value} (h:u.oneCell'=true) : ∀ v ∈ [u],v.oneCell'=true:=by
 intro v hv;simp at hv;subst hv;exact h
theorem reads_new (w:World) (cs:Array Value) (t:TypeId) (fr:Nat×Nat):Reads (w.alloc (.cells cs t fr)) (w.heap.size+1) 1 (some ⟨w.heap.size,0,none⟩) cs.size cs.toList:=by
 refine⟨by simp,fun _=>⟨_,rfl,Nat.lt_succ_self _,fun j u hu=>?_⟩⟩
 have e:(⟨w.heap.size,0,none⟩:Addr).add j=⟨w.heap.size,j,none⟩:=by unfold Addr.add;split<;>simp_all
 rw[e,World.cell?_alloc_mark]
 simpa using hu
theorem byte_cell (num j:Nat) : [Value.int .u8 ((num:Int)/2 ^ (8*j)%256)]=bcells [(num/2 ^ (8*j)%256).toUInt8]:=by
 simp[bcells]
theorem put_yes (A:Option Addr) (n c num k:Nat) (l:List UInt8) (w:World) (hr:Reads w w.heap.size 1 A n (bcells l)) (hn:n+8≤140737488355328) (h1:1≤k) (h2:k≤8) :
  Calls Tryz.prog 166 #[.slice A n c,.int .u64 num,.int .i64 k] w fun e w'=>∃ v,e=.returned v∧w'.ownsRow w.heap.size 5 1 v (n+k) (bcells (l++Go.leBytes k num))∧Below w.heap.size w w':=by
 obtain⟨i0,hi0,hz0,hz1,hz2⟩:=info_parts infoU8
 have h1':(1:Int)≤k:=by omega
 have h2':(k:Int)≤8:=by omega
 have hb:(decide ((1:Int)≤k)&&decide ((k:Int)≤8))=true:=by simp;omega
 go_enter Tryz.func166,Tryz.ntmps166
 go_wp2_with (first
  | (go_at_call 161;refine (width_any _ _).mono ?_;rintro e w' ⟨rfl,rfl⟩)
  | (at_make;refine wpList_make_own _ rfl _ _ 102 rfl w.heap.size 5 i0 _ 1 Tryz.underlying102 hi0 hz0 hz1 _ _ _ (n+k) rfl rfl (by omega) (by rw[hz2];omega) (by unfold maxLen;omega) (Nat.le_refl _) ?_;intro w1 hown1 hg1)
  | (at_builtin;refine wpList_append_any _ rfl (.tmp 17) (.tmp 18) _ rfl w.heap.size 5 i0 _ 1 1 Tryz.underlying102 hi0 hz0 hz1 hz2 rfl (by omega) _ 0 [] rfl hown1 w.heap.size A n c _ rfl (hr.below ((Below.refl _ _).grown hg1 (Nat.le_refl _) (by simp))) (bcells_one _) (by unfold maxLen;omega) (by omega) hg1.size ?_;intro v2 w2 hown2 hg2 hat2))
 have hb2:Below w.heap.size w w2:=((Below.refl _ _).grown hg1 (Nat.le_refl _) (by simp)).grown hg2 hg1.size (by rintro g ⟨⟩;exact Nat.le_refl _)
 clear hg1 hg2 hown1 hat2
 go_loopw [7,21] (fun v i wr=>∃ j:Nat,j≤k∧i=.int .i64 j∧wr.ownsRow w.heap.size 5 1 v (n+j) (bcells (l++Go.leBytes j num))∧Below w.heap.size w wr) (fun _ i _=>k-(RowKit.intOf i).toNat)
 case atStart=>exact⟨0,Nat.zero_le _,rfl,by simpa [Go.leBytes] using hown2,hb2⟩
 case round =>
  obtain⟨j,hj,rfl,hown,hbr⟩:=hrel
  by_cases hlt:j<k
  ·go_wp2_with (first
    | (at_builtin;refine wpList_append_any _ rfl (.tmp 24) (.tmp 30) _ rfl w.heap.size 5 i0 _ 1 1 Tryz.underlying102 hi0 hz0 hz1 hz2 rfl (by omega) _ (n+j) _ rfl (hown.alloc _) (wr.heap.size+1) (some ⟨wr.heap.size,0,none⟩) 1 1 [Value.int .u8 ((num:Int)/2 ^ (8*j)%256)] rfl (reads_new _ _ _ _) (oneCell_one rfl) (by unfold maxLen;omega) (by omega) (by have:=hbr.size;simp;omega) ?_;intro v3 w3 hown3 hg3 hat3))
   go_roundw
   case rel =>
    refine⟨j+1,by omega,by go_num,?_,?_⟩
    ·rw[leBytes_snoc,← List.append_assoc,bcells_append,← byte_cell]
     exact hown3
    ·exact (hbr.alloc hbr.size _).grown hg3 (by have:=hbr.size;simp;omega) (fun g hg=>(hown.lt g hg).1)
   case measure=>simp[RowKit.intOf];omega
  ·go_wp2
   go_ret
   have:j=k:=by omega
   subst this
   exact⟨_,rfl,hown,hbr⟩


theorem bytes_more {w:World} {g:Nat} {s:ByteArray} (h:IsRd w g s) (n:Int) (hn:(s.size:Int)<n) :
  Calls Tryz.prog 162 #[.pointer (some ⟨g,0,none⟩),.int .i64 n] w fun e w'=>e=.returned (.tuple #[.string ⟨#[]⟩,.int .i64 7])∧w=w':=by
 have c1:=Blk.cell h 1
 simp at c1
 have h0 : ¬ n<0:=by omega
 go_enter Tryz.func162,Tryz.ntmps162
 go_wp2_with (go_at_call 160;refine (valid_yes h).mono ?_;rintro e w' ⟨rfl,rfl⟩)
 go_ret2
 exact⟨rfl,rfl⟩
theorem bytes_ok {w:World} {g:Nat} {s:ByteArray} (h:IsRd w g s) (n:Nat) (hn:n≤s.size)  :
  Calls Tryz.prog 162 #[.pointer (some ⟨g,0,none⟩),.int .i64 n] w fun e w'=>e=.returned (.tuple #[.string (s.extract 0 n),.int .i64 0])∧w'=w.setCell ⟨g,1,none⟩ (.string (s.extract n s.size)):=by
 have c1:=Blk.cell h 1
 simp at c1
 have f1:=Blk.frozen h 1
 go_enter Tryz.func162,Tryz.ntmps162
 go_wp2_with (go_at_call 160;refine (valid_yes h).mono ?_;rintro e w' ⟨rfl,rfl⟩)
 go_ret2
 exact⟨rfl,rfl⟩
theorem rest_any {w:World} {g:Nat} {s:ByteArray} (h:IsRd w g s) :
  Calls Tryz.prog 138 #[.pointer (some ⟨g,0,none⟩)] w fun e w'=>e=.returned (.string s)∧w=w':=by
 have c1:=Blk.cell h 1
 simp at c1
 go_enter Tryz.func138,Tryz.ntmps138
 go_wp2_with (go_at_call 160;refine (valid_yes h).mono ?_;rintro e w' ⟨rfl,rfl⟩)
 go_ret
 exact⟨rfl,rfl⟩
theorem number_more {w:World} {g:Nat} {s:ByteArray} (h:IsRd w g s) (n:Int) (h1:1≤n) (h2:n≤8) (hn:(s.size:Int)<n) :
  Calls Tryz.prog 139 #[.pointer (some ⟨g,0,none⟩),.int .i64 n] w fun e w'=>e=.returned (.tuple #[.int .u64 0,.int .i64 7])∧w=w':=by
 have hb:(decide ((1:Int)≤n)&&decide (n≤8))=true:=by simp;omega
 go_enter Tryz.func139,Tryz.ntmps139
 go_wp2_with (first
  | (go_at_call 160;refine (valid_yes h).mono ?_;rintro e w' ⟨rfl,rfl⟩)
  | (go_at_call 161;refine (width_any _ _).mono ?_;rw[hb];rintro e w' ⟨rfl,rfl⟩)
  | (go_at_call 162;refine (bytes_more h _ hn).mono ?_;rintro e w' ⟨rfl,rfl⟩))
 go_ret2
 exact⟨rfl,rfl⟩
theorem number_ok {w:World} {g:Nat} {s:ByteArray} (h:IsRd w g s) (n:Nat) (h1:1≤n) (h2:n≤8) (hn:n≤s.size) :
  Calls Tryz.prog 139 #[.pointer (some ⟨g,0,none⟩),.int .i64 n] w fun e w'=>e=.returned (.tuple #[.int .u64 (leNat (s.data.toList.take n)),.int .i64 0])∧w'=w.setCell ⟨g,1,none⟩ (.string (s.extract n s.size)):=by
 have hb:(decide ((1:Int)≤n)&&decide ((n:Int)≤8))=true:=by simp;omega
 have hsz:(s.extract 0 n).size≤8:=by simp;omega
 have hdat:(s.extract 0 n).data.toList=s.data.toList.take n:=by simp
 go_enter Tryz.func139,Tryz.ntmps139
 go_wp2_with (first
  | (go_at_call 160;refine (valid_yes h).mono ?_;rintro e w' ⟨rfl,rfl⟩)
  | (go_at_call 161;refine (width_any _ _).mono ?_;rw[hb];rintro e w' ⟨rfl,rfl⟩)
  | (go_at_call 162;refine (bytes_ok h n hn).mono ?_;rintro e w' ⟨rfl,rfl⟩)
  | (go_at_call 163;refine (number_any _ _ hsz).mono ?_;rw[hdat];rintro e w' ⟨rfl,rfl⟩))
 go_ret2
 exact⟨rfl,rfl⟩
/-! The same,where the world behind is told by what it is good for: only the reader's block has turned. -/
theorem IsRd.stored {w:World} {g:Nat} {s:ByteArray} (h:IsRd w g s) (s':ByteArray):IsRd (w.setCell ⟨g,1,none⟩ (.string s')) g s'∧w.grownBy (w.setCell ⟨g,1,none⟩ (.string s')) (some g):=by
 refine⟨Blk.set_ h 1 _,rfl,rfl,rfl,by simp[World.setCell],fun k _ hne=>Below.heap_setCell _ _ _ _ (fun e=>hne (by rw[e]))⟩
theorem bytes_ok' {w:World} {g:Nat} {s:ByteArray} (h:IsRd w g s) (n:Nat) (hn:n≤s.size) :
  Calls Tryz.prog 162 #[.pointer (some ⟨g,0,none⟩),.int .i64 n] w fun e w'=>e=.returned (.tuple #[.string (s.extract 0 n),.int .i64 0])∧IsRd w' g (s.extract n s.size)∧w.grownBy w' (some g) :=
 (bytes_ok h n hn).mono fun _ _ ⟨he,hw⟩=>⟨he,by subst hw;exact h.stored _⟩
theorem number_ok' {w:World} {g:Nat} {s:ByteArray} (h:IsRd w g s) (n:Nat) (h1:1≤n) (h2:n≤8) (hn:n≤s.size) :
  Calls Tryz.prog 139 #[.pointer (some ⟨g,0,none⟩),.int .i64 n] w fun e w'=>e=.returned (.tuple #[.int .u64 (leNat (s.data.toList.take n)),.int .i64 0])∧IsRd w' g (s.extract n s.size)∧w.grownBy w' (some g) :=
 (number_ok h n h1 h2 hn).mono fun _ _ ⟨he,hw⟩=>⟨he,by subst hw;exact h.stored _⟩
theorem new_any' (s:ByteArray) (w:World) :
  Calls Tryz.prog 120 #[.string s] w fun e w'=>e=.returned (.pointer (some ⟨w.heap.size,0,none⟩))∧IsRd w' w.heap.size s∧Below w.heap.size w w'∧w.heap.size<w'.heap.size :=
 (new_any s w).mono fun _ _ ⟨he,hw⟩=>⟨he,by subst hw;exact⟨Blk.new _ _ _,(Below.refl _ _).alloc (Nat.le_refl _) _,by simp⟩⟩
end Go.Proofs.YtanbbnogdhnikaaGreat

namespace Go.Proofs.YtanbbnogdhnikaaGreat
open Go.RowKit Go.Lib

theorem half_u32 (m:Nat):((m:Int)/2)=((m/2:Nat):Int):=by simp
theorem st_mul (m:Nat) (hm:m<4294967296):bits .xor .u32 ((m:Int)/2) (2197175160*bits .and .u32 (m:Int) 1%4294967296)=(st m:Nat):=by
 have h1:bits .and .u32 (m:Int) 1=((m &&& 1:Nat):Int):=u32_and_nat m 1 hm (by omega)
 rw[h1,Nat.and_one_is_mod,half_u32,show (2197175160*((m%2:Nat):Int)%4294967296)=((2197175160*(m%2):Nat):Int) by omega,u32_xor_nat _ _ (by omega) (by omega)]
 unfold st
 rw[Nat.shiftRight_eq_div_pow]
 rcases Nat.mod_two_eq_zero_or_one m with h | h<;>simp[h]
theorem st_odd (m:Nat) (hm:m<4294967296) (h:bits .and .u32 (m:Int) 1=1):bits .xor .u32 ((m:Int)/2) 2197175160=(st m:Nat):=by
 have h1:bits .and .u32 (m:Int) 1=((m &&& 1:Nat):Int):=u32_and_nat m 1 hm (by omega)
 rw[h1,Nat.and_one_is_mod] at h
 have h2:=u32_xor_nat (m/2) 2197175160 (by omega) (by omega)
 rw[half_u32,show (2197175160:Int)=((2197175160:Nat):Int) by rfl,h2]
 unfold st
 rw[Nat.shiftRight_eq_div_pow,if_pos (by omega)]
theorem st_even (m:Nat) (hm:m<4294967296) (h:bits .and .u32 (m:Int) 1≠1):(m:Int)/2=(st m:Nat):=by
 have h1:bits .and .u32 (m:Int) 1=((m &&& 1:Nat):Int):=u32_and_nat m 1 hm (by omega)
 rw[h1,Nat.and_one_is_mod] at h
 unfold st
 rw[Nat.shiftRight_eq_div_pow,if_neg (by omega),Nat.xor_zero]
 simp
theorem stn_step {n m k:Nat} (hk:k<8) (h:stn 8 n=stn (8-k) m):stn 8 n=stn (8-(k+1)) (st m):=by
 rw[h,show 8-k=(8-(k+1))+1 by omega];rfl

theorem eight_any (n:Nat) (w:World) (hn:n<4294967296) :
  Calls Tryz.prog 171 #[.int .u32 n] w fun e w'=>e=.returned (.int .u32 (stn 8 n))∧w=w':=by
 go_enter Tryz.func171,Tryz.ntmps171
 go_wp2
 go_loop [0,3] (fun v i=>∃ k m:Nat,k≤8∧m<4294967296∧i=.int .i64 k∧v=.int .u32 m∧Hid (stn 8 n=stn (8-k) m)) (fun _ i=>8-(RowKit.intOf i).toNat)
 case atStart=>exact⟨0,n,by omega,hn,rfl,rfl,rfl⟩
 case round =>
  obtain⟨k,m,hk,hm,rfl,rfl,HS⟩:=hrel
  by_cases hlt:k<8
  ·go_wp2
   go_round
   case rel=>exact⟨k+1,st m,by omega,st_lt hm,by go_num,by rw[st_mul m hm],stn_step hlt HS.out⟩
   case measure=>simp[RowKit.intOf];omega
  ·obtain rfl:k=8:=by omega
   go_wp2
   go_ret
   exact⟨by rw[HS.out];rfl,rfl⟩
theorem step_any (n:Nat) (w:World) (hn:n<4294967296) :
  Calls Tryz.prog 152 #[.int .u32 n] w fun e w'=>e=.returned (.int .u32 (stn 8 n))∧w=w':=by
 go_enter Tryz.func152,Tryz.ntmps152
 go_wp2
 go_loop [0,3] (fun v i=>∃ k m:Nat,k≤8∧m<4294967296∧i=.int .i64 k∧v=.int .u32 m∧Hid (stn 8 n=stn (8-k) m)) (fun _ i=>8-(RowKit.intOf i).toNat)
 case atStart=>exact⟨0,n,by omega,hn,rfl,rfl,rfl⟩
 case round =>
  obtain⟨k,m,hk,hm,rfl,rfl,HS⟩:=hrel
  by_cases hlt:k<8
  ·by_cases hb:bits .and .u32 (m:Int) 1=1
   ·go_wp2
    go_round
    case rel=>exact⟨k+1,st m,by omega,st_lt hm,by go_num,by rw[st_odd m hm hb],stn_step hlt HS.out⟩
    case measure=>simp[RowKit.intOf];omega
   ·go_wp2
    go_round
    case rel=>exact⟨k+1,st m,by omega,st_lt hm,by go_num,by rw[st_even m hm hb],stn_step hlt HS.out⟩
    case measure=>simp[RowKit.intOf];omega
  ·obtain rfl:k=8:=by omega
   go_wp2
   go_ret
   exact⟨by rw[HS.out];rfl,rfl⟩

def tabK (k:Nat):Array Value:=Array.ofFn (n:=256) fun i=>if i.1<k then .int .u32 (stn 8 i.1) else .int .u32 0
theorem tabK_size (k:Nat):(tabK k).size=256:=by simp[tabK]
theorem tabK_at (k i:Nat) (h:i<256):(tabK k)[i]? = some (if i<k then .int .u32 (stn 8 i) else .int .u32 0):=by
 simp[tabK,h]
theorem tabK_set (k:Nat) (h:k<256):(tabK k).setIfInBounds k (.int .u32 (stn 8 k))=tabK (k+1):=by
 apply Array.ext_getElem?
 intro i
 rw[Array.getElem?_setIfInBounds,tabK_size]
 by_cases hi:i<256
 ·rw[tabK_at _ _ hi,tabK_at _ _ hi]
  by_cases he:k=i
  ·subst he;simp[h]
  ·rw[if_neg he]
   congr 1
   by_cases h1:i<k
   ·rw[if_pos h1,if_pos (by omega)]
   ·rw[if_neg h1,if_neg (by omega)]
 ·have e1:(tabK k)[i]? = none:=Array.getElem?_eq_none (by rw[tabK_size];omega)
  have e2:(tabK (k+1))[i]? = none:=Array.getElem?_eq_none (by rw[tabK_size];omega)
  rw[e1,e2,if_neg (by omega)]
theorem tabK_one (k:Nat):(tabK k).all (·.oneCell')=true:=by
 rw[Array.all_eq_true]
 intro i hi
 have h2:=tabK_at k i (by rw[tabK_size] at hi;exact hi)
 rw[Array.getElem?_eq_getElem hi] at h2
 have h3:=Option.some.inj h2
 rw[h3]
 split<;>rfl
def tab:Array Value:=tabK 256
theorem infoTab:(Tryz.prog.info? 202).map (fun i=>(i.zero,i.size))=some (some (.agg (tabK 0)),256):=by kernel_rfl
theorem below_setRow {B:Nat} {a w:World} (h:Below B a w) {g:Nat} (hg:B≤g) (cs:Array Value):Below B a (w.setRow g cs) :=
 ⟨h.os,h.tape,h.output,by rw[setRow_size];exact h.size,fun k hk=>(setRow_other _ _ _ _ (by omega)).trans (h.block k hk)⟩
theorem table_any (w:World) :
  Calls Tryz.prog 170 #[] w fun e w'=>e=.returned (.agg tab)∧Below w.heap.size w w':=by
 obtain⟨hz,hi⟩:=zero_of_info infoTab
 have HI:=Hd hi
 clear hi
 have B0:Blk ((w.alloc (.cells (tabK 0) 202)).alloc (.cells (tabK 0) 202)) w.heap.size 202 (tabK 0):=(Blk.new _ _ _).alloc _
 have B1:Blk ((w.alloc (.cells (tabK 0) 202)).alloc (.cells (tabK 0) 202)) (w.heap.size+1) 202 (tabK 0):=by
  have:=Blk.new (w.alloc (.cells (tabK 0) 202)) 202 (tabK 0)
  simpa using this
 have HB0:=Hd B0
 have HB1:=Hd B1
 clear B0 B1
 go_enter Tryz.func170,Tryz.ntmps170
 go_wp2
 go_loopw [2,3] (fun _ i wr=>∃ k:Nat,k≤256∧i=.int .i64 k∧Blk wr w.heap.size 202 (tabK 0)∧Blk wr (w.heap.size+1) 202 (tabK k)∧Below w.heap.size w wr) (fun _ i _=>256-(RowKit.intOf i).toNat)
 case atStart=>exact⟨0,by omega,rfl,HB0.out,HB1.out,(((Below.refl _ _).alloc (Nat.le_refl _) _).alloc (by simp) _)⟩
 case round =>
  obtain⟨k,hk,rfl,b0,b1,hbr⟩:=hrel
  by_cases hlt:k<256
  ·have c1:=b1.cell k
   rw[tabK_at k k hlt] at c1
   have f1:=b1.frozen k
   have HB0:=Hd b0
   have HB1:=Hd b1
   clear b0 b1
   go_wp2_with fail
   refine (eight_any k _ (by omega)).mono ?_
   rintro e w' ⟨rfl,rfl⟩
   go_wp2_with fail
   go_roundw
   case rel => 
    refine⟨k+1,by omega,by go_num,?_,?_,?_⟩
    ·exact HB0.out.far (by show w.heap.size≠w.heap.size+1;omega) _
    ·have:=HB1.out.set_ k (.int .u32 (stn 8 k))
     rw[tabK_set k hlt] at this
     exact this
    ·exact hbr.setCell (by show w.heap.size≤w.heap.size+1;omega) _
   case measure=>simp[RowKit.intOf];omega
  ·obtain rfl:k=256:=by omega
   have hs0:(Tryz.prog.info? 202).map (·.size)=some (tabK 256).size:=by rw[tabK_size];exact HI.out
   have h0:wr.heap[w.heap.size]? = some (.cells (tabK 0) 202 (0,0)):=b0
   have h1:wr.heap[w.heap.size+1]? = some (.cells (tabK 256) 202 (0,0)):=b1
   have H0:=Hd h0
   have H1:=Hd h1
   have HS:=Hd hs0
   clear b0 b1 h0 h1 hs0 hz
   go_wp2_with (first
    | (refine wpList_load_row rfl 202 (.tmp 1) rfl (w.heap.size+1) rfl 202 (tabK 256) (0,0) _ H1.out Tryz.underlying202 rfl HS.out ?_)
    | (refine wpList_store_row rfl 202 (.tmp 0) (.tmp 12) rfl w.heap.size (tabK 256) rfl rfl 202 (tabK 0) H0.out HS.out (by rw[tabK_size,tabK_size]) (tabK_one _) ?_))
   (try simp only[Exit.inBlock,Exit.then])
   refine bodyPost_ret (results_cell_row rfl _ _ w.heap.size 202 (tabK 256) (0,0) _ rfl (setRow_heap _ _ _ _ _ _ H0.out) Tryz.underlying202 rfl HS.out) rfl ⟨rfl,below_setRow hbr (Nat.le_refl _) _⟩
theorem rtable_any (w:World) :
  Calls Tryz.prog 130 #[] w fun e w'=>e=.returned (.agg tab)∧Below w.heap.size w w':=by
 obtain⟨hz,hi⟩:=zero_of_info infoTab
 have HI:=Hd hi
 clear hi
 have B0:Blk ((w.alloc (.cells (tabK 0) 202)).alloc (.cells (tabK 0) 202)) w.heap.size 202 (tabK 0):=(Blk.new _ _ _).alloc _
 have B1:Blk ((w.alloc (.cells (tabK 0) 202)).alloc (.cells (tabK 0) 202)) (w.heap.size+1) 202 (tabK 0):=by
  have:=Blk.new (w.alloc (.cells (tabK 0) 202)) 202 (tabK 0)
  simpa using this
 have HB0:=Hd B0
 have HB1:=Hd B1
 clear B0 B1
 go_enter Tryz.func130,Tryz.ntmps130
 go_wp2
 go_loopw [2] (fun i wr=>∃ k:Nat,k≤256∧i=.int .i64 k∧Blk wr w.heap.size 202 (tabK 0)∧Blk wr (w.heap.size+1) 202 (tabK k)∧Below w.heap.size w wr) (fun i _=>256-(RowKit.intOf i).toNat)
 case atStart=>exact⟨0,by omega,rfl,HB0.out,HB1.out,(((Below.refl _ _).alloc (Nat.le_refl _) _).alloc (by simp) _)⟩
 case round =>
  obtain⟨k,hk,rfl,b0,b1,hbr⟩:=hrel
  by_cases hlt:k<256
  ·have c1:=b1.cell k
   rw[tabK_at k k hlt] at c1
   have f1:=b1.frozen k
   have HB0:=Hd b0
   have HB1:=Hd b1
   clear b0 b1
   go_wp2_with fail
   refine (step_any k _ (by omega)).mono ?_
   rintro e w' ⟨rfl,rfl⟩
   go_wp2_with fail
   go_roundw
   case rel => 
    refine⟨k+1,by omega,by go_num,?_,?_,?_⟩
    ·exact HB0.out.far (by show w.heap.size≠w.heap.size+1;omega) _
    ·have:=HB1.out.set_ k (.int .u32 (stn 8 k))
     rw[tabK_set k hlt] at this
     exact this
    ·exact hbr.setCell (by show w.heap.size≤w.heap.size+1;omega) _
   case measure=>simp[RowKit.intOf];omega
  ·obtain rfl:k=256:=by omega
   have hs0:(Tryz.prog.info? 202).map (·.size)=some (tabK 256).size:=by rw[tabK_size];exact HI.out
   have h0:wr.heap[w.heap.size]? = some (.cells (tabK 0) 202 (0,0)):=b0
   have h1:wr.heap[w.heap.size+1]? = some (.cells (tabK 256) 202 (0,0)):=b1
   have H0:=Hd h0
   have H1:=Hd h1
   have HS:=Hd hs0
   clear b0 b1 h0 h1 hs0 hz
   go_wp2_with (first
    | (refine wpList_load_row rfl 202 (.tmp 1) rfl (w.heap.size+1) rfl 202 (tabK 256) (0,0) _ H1.out Tryz.underlying202 rfl HS.out ?_)
    | (refine wpList_store_row rfl 202 (.tmp 0) (.tmp 12) rfl w.heap.size (tabK 256) rfl rfl 202 (tabK 0) H0.out HS.out (by rw[tabK_size,tabK_size]) (tabK_one _) ?_))
   (try simp only[Exit.inBlock,Exit.then])
   refine bodyPost_ret (results_cell_row rfl _ _ w.heap.size 202 (tabK 256) (0,0) _ rfl (setRow_heap _ _ _ _ _ _ H0.out) Tryz.underlying202 rfl HS.out) rfl ⟨rfl,below_setRow hbr (Nat.le_refl _) _⟩

theorem idx_u8 (m:Nat) (b:UInt8):bits .xor .u8 ((m:Int)%256) (b.toNat:Int)=(((m ^^^ b.toNat)%256:Nat):Int):=by
 have hb:=b.toNat_lt
 rw[show (m:Int)%256=((m%256:Nat):Int) by omega,u8_xor_nat _ _ (by omega) (by omega)]
 congr 1
 rw[show 256=2 ^ 8 by rfl,Nat.xor_mod_two_pow,Nat.mod_eq_of_lt (show b.toNat<2 ^ 8 by omega)]
theorem upd_u32 (m:Nat) (b:UInt8) (hm:m<4294967296):bits .xor .u32 ((m:Int)/256) ((stn 8 ((m ^^^ b.toNat)%256):Nat):Int)=(upd m b:Nat):=by
 have h1:stn 8 ((m ^^^ b.toNat)%256)<4294967296:=stn_lt 8 (by omega)
 rw[show (m:Int)/256=((m/256:Nat):Int) by omega,u32_xor_nat _ _ (by omega) h1,upd_eq,Nat.shiftRight_eq_div_pow]
theorem after_any (n:Nat) (s:ByteArray) (w:World) (hn:n<4294967296) (hs:s.size≤maxLen) :
  Calls Tryz.prog 169 #[.agg tab,.int .u32 n,.string s] w fun e w'=>e=.returned (.int .u32 (run n s.data.toList))∧Below w.heap.size w w':=by
 unfold maxLen at hs
 have b0:Blk (w.alloc (.cells tab 202)) w.heap.size 202 tab:=Blk.new _ _ _
 have B0:=Hd b0
 clear b0
 go_enter Tryz.func169,Tryz.ntmps169
 go_wp2
 go_loop [1,7,10] (fun v _ i=>∃ k m:Nat,k≤s.size∧m<4294967296∧i=.int .i64 k∧v=.int .u32 m∧Hid (m=run n (s.data.toList.take k))) (fun _ _ i=>s.size-(RowKit.intOf i).toNat)
 case atStart=>exact⟨0,n,by omega,hn,rfl,rfl,rfl⟩
 case round =>
  obtain⟨k,m,hk,hm,rfl,rfl,HS⟩:=hrel
  by_cases hlt:k<s.size
  ·have hi:=idx_u8 m s[k]
   have hj:(m ^^^ s[k].toNat)%256<256:=Nat.mod_lt _ (by omega)
   have c1:=B0.out.cell ((m ^^^ s[k].toNat)%256)
   have hcell:tab[(m ^^^ s[k].toNat)%256]? = some (.int .u32 (stn 8 ((m ^^^ s[k].toNat)%256))):=by rw[tab,tabK_at _ _ hj,if_pos hj]
   rw[hcell] at c1
   clear hcell
   go_wp2
   go_round
   case rel =>
    refine⟨k+1,upd m s[k],by omega,upd_lt _ hm,by go_num,by rw[upd_u32 m _ hm],?_⟩
    show upd m s[k]=_
    rw[take_snoc _ k (by simpa using hlt),run_snoc,← HS.out]
    rfl
   case measure=>simp[RowKit.intOf];omega
  ·obtain rfl:k=s.size:=by omega
   go_wp2
   go_ret
   refine⟨?_,?_⟩
   ·have e:=HS.out
    rw[List.take_of_length_le (by simp)] at e
    rw[← e];rfl
   ·exact (Below.refl _ _).alloc (Nat.le_refl _) _
def crcM (c:Nat) (l:List UInt8):Nat:=4294967295-run (4294967295-c) l
theorem crcM_lt (c:Nat) (l:List UInt8):crcM c l<4294967296:=by unfold crcM;omega
theorem crcM_nil (c:Nat) (h:c<4294967296):crcM c []=c:=by unfold crcM run;simp;omega
theorem xor_ones32 (b:Nat) (hb:b<2 ^ 32):(2 ^ 32-1) ^^^ b=2 ^ 32-1-b:=by
 apply Nat.eq_of_testBit_eq
 intro i
 rw[Nat.testBit_xor,Nat.testBit_two_pow_sub_one,show 2 ^ 32-1-b=2 ^ 32-(b+1) by omega,Nat.testBit_two_pow_sub_succ hb]
 by_cases hi:i<32
 ·simp[hi]
 ·have:b.testBit i=false:=Nat.testBit_lt_two_pow (Nat.lt_of_lt_of_le hb (Nat.pow_le_pow_right (by decide) (by omega)))
  simp[hi,this]
theorem not_u32 (c:Nat) (h:c<4294967296):bits .xor .u32 IntKind.u32.max (c:Int)=((4294967295-c:Nat):Int):=by
 have e:(IntKind.u32.max:Int)=((4294967295:Nat):Int):=by decide
 rw[e,u32_xor_nat _ _ (by omega) h]
 congr 1
 exact xor_ones32 c h
theorem str_nil {s:ByteArray} (h:s.data.toList=[]):s=⟨#[]⟩:=by
 apply ByteArray.ext
 apply Array.ext'
 exact h
theorem more_any (c:Nat) (s:ByteArray) (w:World) (hc:c<4294967296) (hs:s.size≤maxLen) :
  Calls Tryz.prog 168 #[.int .u32 c,.string s] w fun e w'=>e=.returned (.int .u32 (crcM c s.data.toList))∧Below w.heap.size w w':=by
 by_cases h0:s.data.toList=[]
 ·obtain rfl:=str_nil h0
  clear h0
  have hcr:=Hd (crcM_nil c hc)
  go_enter Tryz.func168,Tryz.ntmps168
  go_wp2
  go_ret
  refine⟨?_,Below.refl _ _⟩
  show Ending.returned (.int .u32 ((c:Nat):Int))=Ending.returned (.int .u32 ((crcM c []:Nat):Int))
  rw[hcr.out]
 ·have h1:s.toList ≠ []:=by rw[Lib.toList_data];exact h0
  have h2:s.toList.isEmpty=false:=by simpa using h1
  have hc':=not_u32 c hc
  clear h0
  go_enter Tryz.func168,Tryz.ntmps168
  go_wp2_with fail
  refine (table_any _).mono ?_
  rintro e w1 ⟨rfl,hb1⟩
  go_wp2_with fail
  refine (after_any (4294967295-c) s _ (by omega) hs).mono ?_
  rintro e w2 ⟨rfl,hb2⟩
  have hr:=run_lt s.data.toList (show 4294967295-c<4294967296 by omega)
  have hr':bits .xor .u32 IntKind.u32.max ((run (4294967295-c) s.data.toList:Nat):Int)=((crcM c s.data.toList:Nat):Int):=by rw[not_u32 _ hr];rfl
  go_wp2_with fail
  go_ret
  exact⟨rfl,hb1.trans (hb2.mono hb1.size)⟩
theorem rmore_any (c:Nat) (s:ByteArray) (w:World) (hc:c<4294967296) (hs:s.size≤maxLen) :
  Calls Tryz.prog 108 #[.int .u32 c,.string s] w fun e w'=>e=.returned (.int .u32 (crcM c s.data.toList))∧Below w.heap.size w w':=by
 obtain⟨hz,hi⟩:=zero_of_info infoTab
 have HI:=Hd hi
 clear hi
 have hm:=hs
 unfold maxLen at hs
 have hc':=not_u32 c hc
 go_enter Tryz.func108,Tryz.ntmps108
 go_wp2_with fail
 refine (rtable_any _).mono ?_
 rintro e w1 ⟨rfl,hb1⟩
 have hs0:(Tryz.prog.info? 202).map (·.size)=some tab.size:=by rw[tab,tabK_size];exact HI.out
 have HS:=Hd hs0
 have H0:=Hd (show (w1.alloc (.cells (tabK 0) 202)).heap[w1.heap.size]? = some (.cells (tabK 0) 202 (0,0)) from heap_alloc_new _ _)
 have hb1':=below_setRow (hb1.alloc hb1.size (.cells (tabK 0) 202)) (g:=w1.heap.size) hb1.size tab
 have b0:Blk ((w1.alloc (.cells (tabK 0) 202)).setRow w1.heap.size tab) w1.heap.size 202 tab:=setRow_heap _ _ _ _ _ _ H0.out
 have B0:=Hd b0
 have B1:=Hd hb1'
 clear hs0 b0 hb1' hb1
 go_wp2_with (refine wpList_store_row rfl 202 (.tmp 5) (.tmp 8) rfl w1.heap.size tab rfl rfl 202 (tabK 0) H0.out HS.out (by rw[tab,tabK_size,tabK_size]) (tabK_one _) ?_)
 clear hz
 generalize (w1.alloc (.cells (tabK 0) 202)).setRow w1.heap.size tab=w2 at *
 go_loop [6,7] (fun v i=>∃ k m:Nat,k≤s.size∧m<4294967296∧i=.int .i64 k∧v=.int .u32 m∧Hid (m=run (4294967295-c) (s.data.toList.take k))) (fun _ i=>s.size-(RowKit.intOf i).toNat)
 case atStart=>exact⟨0,_,by omega,by omega,rfl,rfl,rfl⟩
 case round =>
  obtain⟨k,m,hk,hm,rfl,rfl,HS⟩:=hrel
  by_cases hlt:k<s.size
  ·have hi:=idx_u8 m s[k]
   have hj:(m ^^^ s[k].toNat)%256<256:=Nat.mod_lt _ (by omega)
   have c1:=B0.out.cell ((m ^^^ s[k].toNat)%256)
   have hcell:tab[(m ^^^ s[k].toNat)%256]? = some (.int .u32 (stn 8 ((m ^^^ s[k].toNat)%256))):=by rw[tab,tabK_at _ _ hj,if_pos hj]
   rw[hcell] at c1
   clear hcell
   go_wp2
   go_round
   case rel =>
    refine⟨k+1,upd m s[k],by omega,upd_lt _ hm,by go_num,by rw[upd_u32 m _ hm],?_⟩
    show upd m s[k]=_
    rw[take_snoc _ k (by simpa using hlt),run_snoc,← HS.out]
    rfl
   case measure=>simp[RowKit.intOf];omega
  ·obtain rfl:k=s.size:=by omega
   have hr':bits .xor .u32 IntKind.u32.max (m:Int)=((crcM c s.data.toList:Nat):Int):=by
    have e:=HS.out
    rw[List.take_of_length_le (by simp)] at e
    rw[not_u32 m hm,e];rfl
   go_wp2
   go_ret
   exact⟨rfl,B1.out⟩
theorem of_any (s:ByteArray) (w:World) (hs:s.size≤maxLen) :
  Calls Tryz.prog 155 #[.string s] w fun e w'=>e=.returned (.int .u32 (crcM 0 s.data.toList))∧Below w.heap.size w w':=by
 go_enter Tryz.func155,Tryz.ntmps155
 go_wp2_with fail
 refine (more_any 0 s _ (by omega) hs).mono ?_
 rintro e w1 ⟨rfl,hb1⟩
 go_wp2_with fail
 go_ret
 exact⟨rfl,hb1⟩
theorem rof_any (s:ByteArray) (w:World) (hs:s.size≤maxLen) :
  Calls Tryz.prog 85 #[.string s] w fun e w'=>e=.returned (.int .u32 (crcM 0 s.data.toList))∧Below w.heap.size w w':=by
 go_enter Tryz.func85,Tryz.ntmps85
 go_wp2_with fail
 refine (rmore_any 0 s _ (by omega) hs).mono ?_
 rintro e w1 ⟨rfl,hb1⟩
 go_wp2_with fail
 go_ret
 exact⟨rfl,hb1⟩
end Go.Proofs.YtanbbnogdhnikaaGreat

