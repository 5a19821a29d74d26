/-
  Texts that the main proof rests on, put together: Plain, CrcPlain, DevPlain, Shelf, Bld, RoundQ. No statement is proved here.
-/
import Derived.Lib.Endian
import Derived.Lib.EndianBits
import Derived.Laws.Bits64b
import Derived.Laws.BitsAllLaws
import Derived.Below
import Derived.Lib.Strings
import Derived.Shelf.Strconv.Clone
import Derived.Test.YtanbbnogdhnikaaGreatProg
import Derived.Shelf.Strings.BuilderK
import Derived.Sort.QuietIn
import Derived.Sort.BigQuietIn
import Derived.Sort.QuietThIn
import Derived.RangeFuncNested
import Derived.TacticsInMore
set_option linter.unusedVariables false
set_option linter.unusedSimpArgs false
set_option maxRecDepth 300000
set_option maxHeartbeats 25600000
namespace Go.Proofs.YtanbbnogdhnikaaGreat
open Go.Lib

theorem leNat_lt : ∀ l:List UInt8,leNat l<2 ^ (8*l.length)
 | []=>by simp[leNat]
 | b::l=>by
  have h:=leNat_lt l
  have hb:=b.toNat_lt
  simp only[leNat,List.length_cons,Nat.mul_add,Nat.pow_add]
  omega
theorem leNat_snoc : ∀ (l:List UInt8) (b:UInt8),leNat (l++[b])=leNat l+b.toNat*2 ^ (8*l.length)
 | [],b=>by simp[leNat]
 | c::l,b=>by
  have h:=leNat_snoc l b
  simp only[List.cons_append,leNat,h,List.length_cons,Nat.mul_add,Nat.pow_add]
  have e:b.toNat*(2 ^ (8*l.length)*2 ^ (8*1))=256*(b.toNat*2 ^ (8*l.length)):=by
   rw[← Nat.mul_assoc,Nat.mul_comm]
  omega
theorem leBytes_snoc : ∀ (k v:Nat),Go.leBytes (k+1) v=Go.leBytes k v++[(v/2 ^ (8*k)%256).toUInt8]
 | 0,v=>by simp[Go.leBytes]
 | k+1,v=>by
  rw[Go.leBytes,leBytes_snoc k,Go.leBytes,List.cons_append]
  congr 4
  rw[Nat.div_div_eq_div_mul,show 8*(k+1)=8+8*k by omega,Nat.pow_add]
theorem leB_len : ∀ (k v:Nat),(Go.leBytes k v).length=k
 | 0,_=>rfl
 | k+1,v=>by simp[Go.leBytes,leB_len k]
theorem leNat_leBytes_mod : ∀ (k v:Nat),leNat (Go.leBytes k v)=v%2 ^ (8*k)
 | 0,v=>by simp[Go.leBytes,leNat,Nat.mod_one]
 | k+1,v=>by
  rw[Go.leBytes,leNat,leNat_leBytes_mod k,toUInt8_mod,show 8*(k+1)=8+8*k by omega,Nat.pow_add,Nat.mod_mul]

theorem pow_small {k:Nat} (hk:k<8):2 ^ (8*k)≤2 ^ 56:=Nat.pow_le_pow_right (by omega) (by omega)

theorem or_step (n k:Nat) (b:UInt8) (hk:k<8) (hn:n<2 ^ (8*k)) :
  bits .or .u64 (n:Int) (IntKind.u64.wrap (IntKind.u64.wrap (b.toNat:Int)*2 ^ (8*k)))=((n+b.toNat*2 ^ (8*k):Nat):Int):=by
 have hp:=pow_small hk
 have hb:=b.toNat_lt
 have h2:b.toNat*2 ^ (8*k)<2 ^ 64:=by
  have:b.toNat*2 ^ (8*k)≤255*2 ^ 56:=Nat.mul_le_mul (by omega) hp
  omega
 have e1:IntKind.u64.wrap (b.toNat:Int)=(b.toNat:Int):=by rw[IntKind.wrap_u64];omega
 have e2:(b.toNat:Int)*2 ^ (8*k)=((b.toNat*2 ^ (8*k):Nat):Int):=by simp
 rw[e1,e2,IntKind.wrap_u64,show ((b.toNat*2 ^ (8*k):Nat):Int)%18446744073709551616=((b.toNat*2 ^ (8*k):Nat):Int) by omega]
 rw[bits_or_u64_nat _ _ (by omega) (by omega),Nat.or_comm,nat_join (8*k) _ _ (Nat.mul_mod_left _ _) hn]
 congr 1
 omega
theorem take_snoc {α:Type} (l:List α) (k:Nat) (h:k<l.length):l.take (k+1)=l.take k++[l[k]]:=by
 rw[List.take_succ_eq_append_getElem h]

def zeros (l:List UInt8):Bool:=l.all (· == 0)
theorem zeros_snoc (l:List UInt8) (b:UInt8):zeros (l++[b])=(zeros l&&b==0):=by simp[zeros]
theorem zeros_at {l:List UInt8} {k:Nat} (h:k<l.length) (hb:l[k]≠0):zeros l=false:=by
 rw[Bool.eq_false_iff]
 intro hz
 have:=List.all_eq_true.1 hz l[k] (List.getElem_mem h)
 simp at this
 exact hb this
/-! Go's '%' cuts towards nought. -/
/-! Parts of a string. -/
theorem ext_rest (a:ByteArray) (p m:Nat) (_hp:p+m≤a.size):(a.extract p a.size).extract m (a.extract p a.size).size=a.extract (p+m) a.size:=by
 rw[ByteArray.extract_extract,ByteArray.size_extract];congr 1;omega
theorem ext_all (a:ByteArray):a.extract 0 a.size=a:=by simp
def st (n:Nat):Nat:=(n >>> 1) ^^^ (if n%2=1 then 0x82f63b78 else 0)
def stn:Nat→Nat→Nat
 | 0,n=>n
 | k+1,n=>stn k (st n)

theorem st_xor (a b:Nat):st (a ^^^ b)=st a ^^^ st b:=by
 unfold st
 rw[Nat.shiftRight_xor_distrib]
 have h:(a ^^^ b)%2=(a%2+b%2)%2:=by
  have:=@Nat.xor_mod_two_eq_one a b
  rcases Nat.mod_two_eq_zero_or_one a with ha | ha<;>rcases Nat.mod_two_eq_zero_or_one b with hb | hb<;>rcases Nat.mod_two_eq_zero_or_one (a ^^^ b) with hx | hx<;>simp_all
 rw[h]
 rcases Nat.mod_two_eq_zero_or_one a with ha | ha<;>rcases Nat.mod_two_eq_zero_or_one b with hb | hb<;>simp[ha,hb]
 ·rw[Nat.xor_assoc]
 ·rw[Nat.xor_assoc,Nat.xor_assoc,Nat.xor_comm (b >>> 1)]
 ·generalize 2197175160=p
  rw[Nat.xor_assoc,← Nat.xor_assoc p,Nat.xor_comm p,Nat.xor_assoc (b >>> 1),Nat.xor_self,Nat.xor_zero]
theorem stn_xor : ∀ (k a b:Nat),stn k (a ^^^ b)=stn k a ^^^ stn k b
 | 0,_,_=>rfl
 | k+1,a,b=>by rw[stn,st_xor,stn_xor k];rfl
theorem st_double (n:Nat):st (n*2)=n:=by
 unfold st
 rw[if_neg (by omega),Nat.xor_zero,Nat.shiftRight_eq_div_pow]
 omega
theorem stn_shift : ∀ (k n:Nat),stn k (n*2 ^ k)=n
 | 0,n=>by simp[stn]
 | k+1,n=>by rw[stn,Nat.pow_succ,← Nat.mul_assoc,st_double,stn_shift k]
theorem st_lt {n:Nat} (h:n<4294967296):st n<4294967296:=by
 unfold st
 have h1:n >>> 1<2 ^ 32:=by rw[Nat.shiftRight_eq_div_pow];omega
 exact Nat.xor_lt_two_pow (n:=32) h1 (by split<;>decide)
theorem stn_lt : ∀ (k:Nat) {n:Nat},n<4294967296→stn k n<4294967296
 | 0,_,h=>h
 | k+1,_,h=>stn_lt k (st_lt h)
def upd (n:Nat) (b:UInt8):Nat:=stn 8 (n ^^^ b.toNat)
def run (n:Nat) (l:List UInt8):Nat:=l.foldl upd n

theorem low_split (n:Nat):n=(n >>> 8)*2 ^ 8 ^^^ n%256:=by
 have h1:(n >>> 8)*2 ^ 8=(n/256) <<< 8:=by rw[Nat.shiftRight_eq_div_pow,Nat.shiftLeft_eq]
 have h2:(n/256) <<< 8 ^^^ n%256=(n/256) <<< 8 ||| n%256:=by
  apply Nat.eq_of_testBit_eq
  intro i
  simp only[Nat.testBit_xor,Nat.testBit_or,Nat.testBit_shiftLeft]
  by_cases hi:8≤i
  ·have:(n%256).testBit i=false:=Nat.testBit_lt_two_pow (Nat.lt_of_lt_of_le (Nat.mod_lt _ (by omega)) (by rw[show 256=2 ^ 8 by rfl];exact Nat.pow_le_pow_right (by omega) hi))
   simp[this]
  ·simp[hi]
 rw[h1,h2,← Nat.shiftLeft_add_eq_or_of_lt (show n%256<2 ^ 8 by omega),Nat.shiftLeft_eq]
 omega
theorem stn8 (n:Nat):stn 8 n=(n >>> 8) ^^^ stn 8 (n%256):=by
 have h:=low_split n
 have h2:stn 8 n=stn 8 ((n >>> 8)*2 ^ 8 ^^^ n%256):=by rw[← h]
 rw[h2,stn_xor,stn_shift]
theorem upd_eq (n:Nat) (b:UInt8):upd n b=(n >>> 8) ^^^ stn 8 ((n ^^^ b.toNat)%256):=by
 unfold upd
 rw[stn8,Nat.shiftRight_xor_distrib]
 have hb:b.toNat >>> 8=0:=by rw[Nat.shiftRight_eq_div_pow];have:=b.toNat_lt;omega
 rw[hb,Nat.xor_zero]
theorem upd_lt {n:Nat} (b:UInt8) (h:n<4294967296):upd n b<4294967296 :=
 stn_lt 8 (Nat.xor_lt_two_pow (n:=32) h (by have:=b.toNat_lt;omega))
theorem run_lt : ∀ (l:List UInt8) {n:Nat},n<4294967296→run n l<4294967296
 | [],_,h=>h
 | b::l,_,h=>run_lt l (upd_lt b h)
theorem run_snoc (n:Nat) (l:List UInt8) (b:UInt8):run n (l++[b])=upd (run n l) b:=by simp[run]

/-! Bits of byte rows. -/
def lowAt (b p i:Nat):Nat:=(b%2 ^ i)*2 ^ p
def turned (l:List UInt8) (b p i:Nat):List UInt8:=List.zipWith (· ^^^ ·) l (Lib.leBytes l.length (lowAt b p i))
end Go.Proofs.YtanbbnogdhnikaaGreat

namespace Go.Proofs.YtanbbnogdhnikaaGreat

/-! On bytes. -/
def bWrite (size n:Nat) (b img:List UInt8):List UInt8 :=
 (img++List.replicate (n*size+size-img.length) 0).take (n*size)++b++img.drop (n*size+size)
theorem bWrite_len (size n:Nat) (b img:List UInt8) (hb:b.length=size):(bWrite size n b img).length=max img.length (n*size+size):=by
 unfold bWrite
 simp[hb]
 omega

/-! On pages. -/
structure Img where
 pages:List ByteArray
 rest:ByteArray
def zs (n:Nat):ByteArray:=⟨(List.replicate n (0:UInt8)).toArray⟩
theorem zs_size (n:Nat):(zs n).size=n:=by show (List.replicate n (0:UInt8)).toArray.size=n;simp
theorem zs_list (n:Nat):(zs n).data.toList=List.replicate n 0:=by simp[zs]

theorem size_list (s:ByteArray):s.data.toList.length=s.size:=by simp

section
variable {size:Nat} {m:Img}
end
end Go.Proofs.YtanbbnogdhnikaaGreat

namespace Go.Proofs
open Go.Shelf
def Tryz.laysM316_ren:Go.Shelf.Ren:=⟨fun | 316=>150 | n=>n,fun | 9=>9 | 3=>3 | 4=>4 | 37=>102 | 0=>0 | 127=>201 | 5=>5 | n=>n,fun | n=>n⟩
theorem Tryz.laysM316:Go.Proofs.LaysM.n316 Tryz.prog Tryz.laysM316_ren := {
 mixed:=by kernel_rfl
 f316:=Tryz.func150.trans (congrArg some (by kernel_rfl))
 t0:=Tryz.underlying0
 a0:=Tryz.isAgg0
 z0:=Tryz.sizeOf0
 v0:=Tryz.zeroValue0
 t3:=Tryz.underlying3
 a3:=Tryz.isAgg3
 z3:=Tryz.sizeOf3
 v3:=Tryz.zeroValue3
 t4:=Tryz.underlying4
 a4:=Tryz.isAgg4
 z4:=Tryz.sizeOf4
 v4:=Tryz.zeroValue4
 t9:=Tryz.underlying9
 a9:=Tryz.isAgg9
 z9:=Tryz.sizeOf9
 v9:=Tryz.zeroValue9
 t37:=Tryz.underlying102
 a37:=Tryz.isAgg102
 z37:=Tryz.sizeOf102
 v37:=Tryz.zeroValue102
 t127:=Tryz.underlying201
 a127:=Tryz.isAgg201
 z127:=Tryz.sizeOf201
 v127:=Tryz.zeroValue201
 t5:=Tryz.underlying5
 a5:=Tryz.isAgg5
 z5:=Tryz.sizeOf5
 v5:=Tryz.zeroValue5
 i0:=by kernel_rfl
 i3:=by kernel_rfl
 i4:=by kernel_rfl
 i5:=by kernel_rfl
 i9:=by kernel_rfl
 i37:=by kernel_rfl
 i127:=by kernel_rfl }
open Go.RowKit in
theorem Tryz.stringslite_Clone (s:ByteArray) (w:World) (hlim:s.size≤281474976710656) :
  Calls Tryz.prog 150 #[.string s] w fun e w'=>e=.returned (.string s)∧Below w.heap.size w w':=Any.stringslite_Clone Tryz.laysM316 s w hlim
end Go.Proofs

namespace Go.Proofs.YtanbbnogdhnikaaGreat
open Go.Shelf Go.RowKit
def renB:Go.Shelf.Ren:=⟨fun | 166=>104 | 240=>129 | 276=>151 | 170=>103 | 169=>105 | n=>n,fun | 0=>0 | 3=>3 | 4=>4 | 5=>5 | 9=>9 | 20=>20 | 37=>102 | 70=>164 | 72=>166 | 75=>172 | 80=>175 | 164=>216 | 127=>201 | n=>n,fun | n=>n⟩
theorem laysB:Go.Proofs.Lays.n166 Tryz.prog renB := {
 mixed:=by kernel_rfl
 f166:=Tryz.func104.trans (congrArg some (by kernel_rfl))
 f240:=Tryz.func129.trans (congrArg some (by kernel_rfl))
 f276:=Tryz.func151.trans (congrArg some (by kernel_rfl))
 t0:=Tryz.underlying0
 a0:=Tryz.isAgg0
 z0:=Tryz.sizeOf0
 v0:=Tryz.zeroValue0
 t3:=Tryz.underlying3
 a3:=Tryz.isAgg3
 z3:=Tryz.sizeOf3
 v3:=Tryz.zeroValue3
 t4:=Tryz.underlying4
 a4:=Tryz.isAgg4
 z4:=Tryz.sizeOf4
 v4:=Tryz.zeroValue4
 t9:=Tryz.underlying9
 a9:=Tryz.isAgg9
 z9:=Tryz.sizeOf9
 v9:=Tryz.zeroValue9
 t20:=Tryz.underlying20
 a20:=Tryz.isAgg20
 z20:=Tryz.sizeOf20
 v20:=Tryz.zeroValue20
 t37:=Tryz.underlying102
 a37:=Tryz.isAgg102
 z37:=Tryz.sizeOf102
 v37:=Tryz.zeroValue102
 t70:=Tryz.underlying164
 a70:=Tryz.isAgg164
 z70:=Tryz.sizeOf164
 v70:=Tryz.zeroValue164
 t72:=Tryz.underlying166
 a72:=Tryz.isAgg166
 z72:=Tryz.sizeOf166
 v72:=Tryz.zeroValue166
 t75:=Tryz.underlying172
 a75:=Tryz.isAgg172
 z75:=Tryz.sizeOf172
 v75:=Tryz.zeroValue172
 t164:=Tryz.underlying216
 a164:=Tryz.isAgg216
 z164:=Tryz.sizeOf216
 v164:=Tryz.zeroValue216 }
theorem extraB:Builder.Extra Tryz.prog renB := {
 sizeBuilder:=by kernel_rfl
 liesBuilder:=by kernel_rfl
 t5:=Tryz.underlying5
 a5:=Tryz.isAgg5
 z5:=Tryz.sizeOf5
 v5:=Tryz.zeroValue5
 infoByte:=by kernel_rfl
 cellsByte:=by kernel_rfl
 sizeByte:=by kernel_rfl
 neB5:=by decide }
theorem laysBL:Go.Proofs.Lays.n170 Tryz.prog renB := {
 mixed:=by kernel_rfl
 f170:=Tryz.func103.trans (congrArg some (by kernel_rfl))
 t0:=Tryz.underlying0
 a0:=Tryz.isAgg0
 z0:=Tryz.sizeOf0
 v0:=Tryz.zeroValue0
 t3:=Tryz.underlying3
 a3:=Tryz.isAgg3
 z3:=Tryz.sizeOf3
 v3:=Tryz.zeroValue3
 t37:=Tryz.underlying102
 a37:=Tryz.isAgg102
 z37:=Tryz.sizeOf102
 v37:=Tryz.zeroValue102
 t70:=Tryz.underlying164
 a70:=Tryz.isAgg164
 z70:=Tryz.sizeOf164
 v70:=Tryz.zeroValue164
 t72:=Tryz.underlying166
 a72:=Tryz.isAgg166
 z72:=Tryz.sizeOf166
 v72:=Tryz.zeroValue166 }
theorem laysBS:Go.Proofs.Lays.n169 Tryz.prog renB := {
 mixed:=by kernel_rfl
 f169:=Tryz.func105.trans (congrArg some (by kernel_rfl))
 t0:=Tryz.underlying0
 a0:=Tryz.isAgg0
 z0:=Tryz.sizeOf0
 v0:=Tryz.zeroValue0
 t3:=Tryz.underlying3
 a3:=Tryz.isAgg3
 z3:=Tryz.sizeOf3
 v3:=Tryz.zeroValue3
 t9:=Tryz.underlying9
 a9:=Tryz.isAgg9
 z9:=Tryz.sizeOf9
 v9:=Tryz.zeroValue9
 t37:=Tryz.underlying102
 a37:=Tryz.isAgg102
 z37:=Tryz.sizeOf102
 v37:=Tryz.zeroValue102
 t70:=Tryz.underlying164
 a70:=Tryz.isAgg164
 z70:=Tryz.sizeOf164
 v70:=Tryz.zeroValue164
 t72:=Tryz.underlying166
 a72:=Tryz.isAgg166
 z72:=Tryz.sizeOf166
 v72:=Tryz.zeroValue166
 t127:=Tryz.underlying201
 a127:=Tryz.isAgg201
 z127:=Tryz.sizeOf201
 v127:=Tryz.zeroValue201 }
abbrev IsBd (b:Nat) (l:List UInt8) (w:World):Prop:=Lib.IsBuilderF 166 5 b b (Lib.byteCells l) w
theorem IsBd.lt {b:Nat} {l:List UInt8} {w:World} (h:IsBd b l w):b<w.heap.size:=by
 rcases h with h | h
 ·exact h.lt
 ·exact h.lt
theorem blen_any (b:Nat) (l:List UInt8) (w:World) (h:IsBd b l w) :
  Calls Tryz.prog 103 #[.pointer (some ⟨b,0,none⟩)] w fun e w'=>e=.returned (.int .i64 l.length)∧w'=w:=by
 have hc:=Any.Builder_Len_f laysBL b b _ w h
 rw[Lib.byteCells_length] at hc
 exact hc
theorem bwrite_any (b:Nat) (l:List UInt8) (s:ByteArray) (w:World) (h:IsBd b l w) (hl:l.length+s.size≤140737488355328) :
  Calls Tryz.prog 104 #[.pointer (some ⟨b,0,none⟩),.string s] w fun e w'=>e=.returned (.tuple #[.int .i64 s.size,.nilIface])∧IsBd b (l++s.data.toList) w'∧Below b w w'∧Lib.OthersKept 5 (some b) w w':=by
 have hc:=Any.Builder_WriteString_k laysB extraB b b _ s w h (by rw[Lib.byteCells_length];exact hl) (Nat.le_of_lt h.lt)
 refine hc.mono fun e w' ⟨he,h1,h2,h3⟩=>⟨he,?_,h2,h3⟩
 show Lib.IsBuilderF _ _ _ _ (Lib.byteCells (l++s.data.toList)) _
 rw[show Lib.byteCells (l++s.data.toList)=Lib.byteCells l++Lib.byteCells s.data.toList by simp[Lib.byteCells]]
 exact .inr h1
theorem bstring_any (b:Nat) (l:List UInt8) (w:World) (h:IsBd b l w) :
  Calls Tryz.prog 105 #[.pointer (some ⟨b,0,none⟩)] w fun e w'=>e=.returned (.string ⟨l.toArray⟩)∧IsBd b l w'∧Below b w w'∧Lib.OthersKept 5 (some b) w w' :=
 Any.Builder_String_any_k laysBS extraB b b l w h (Nat.le_of_lt h.lt)
end Go.Proofs.YtanbbnogdhnikaaGreat

namespace Go.Proofs.YtanbbnogdhnikaaGreat
open Go.RowKit
section
variable {F:Fence} {n:Nat} {P:Program} {ops:Array Oper} {Q:Exit→Act→World→Prop}
def plainOp (o:Oper):Bool:=match o.op with | .defer _=>false | _=>true
theorem plainOp_spec {o:Oper} (h:plainOp o=true) : ∀ c,o.op ≠ .defer c:=fun c e=>by
 unfold plainOp at h
 rw[e] at h
 cases h
theorem upon_round (l:Nat) (o:Oper) (a:Act) (K:Act→World→Prop) (r:Result Next):o.uponIn (F.inRound l) n P a K Q r=o.uponIn F n P a K Q r:=by
 rcases r with ⟨v,w⟩ | ⟨x,w⟩
 ·cases v<;>rfl
 ·cases x<;>rfl
theorem wpIn_round (hro:F.round=none) (l:Nat) {o:Oper} (hd:plainOp o=true) {a:Act} {w:World} {K:Act→World→Prop} (h:o.wpIn F n P a w K Q):o.wpIn (F.inRound l) n P a w K Q:=by
 refine⟨h.1,?_⟩
 rw[upon_round,Fence.inRound_round,Oper.semAt_some l _ o (plainOp_spec hd)]
 have h2:=h.2
 rw[hro] at h2
 exact h2
theorem wpOpIn_round (hro:F.round=none) (l:Nat) (hd : ∀ (i:Nat) (o:Oper),ops[i]? = some o→plainOp o=true) {i:Nat} {a:Act} {w:World} {K K':Act→World→Prop} (hK : ∀ a w,K a w→K' a w) (h:wpOpIn F n P ops Q i K a w):wpOpIn (F.inRound l) n P ops Q i K' a w:=by
 unfold wpOpIn at h ⊢
 split at h
 ·rename_i e
  exact hK _ _ h
 ·rename_i o e
  split at h
  ·rename_i hw
   simp only[hw,if_true]
   exact wpIn_round hro l (hd i o e) (Oper.wpIn_mono hK h)
  ·rename_i hw
   simp only[hw]
   exact⟨h.1,hK _ _ h.2⟩
theorem wpAnyIn_round (hro:F.round=none) (l:Nat) (md:Region.Mode) (hd : ∀ (i:Nat) (o:Oper),ops[i]? = some o→plainOp o=true) : ∀ (fuel:Nat) (listed:Array Bool) (a:Act) (w:World),wpAnyIn F n P md ops Q fuel listed a w→wpAnyIn (F.inRound l) n P md ops Q fuel listed a w
 | 0,_,_,_,h=>h
 | fuel+1,listed,a,w,h=>⟨h.1,fun i hi=>wpOpIn_round hro l hd (fun a w hk=>wpAnyIn_round hro l md hd fuel _ a w hk) (h.2 i hi)⟩
theorem region_quiet_round {id:Nat} {a:Act} {w:World} {ol:List Oper} (l:Nat) (hro:F.round=none) (hm:P.follows .mixedOrders=true) (hB:Region.lexB .any ol.toArray=true) (hd:ol.all plainOp=true)
  (h:wpQuietIn F n P ol.toArray (fun w'=>∃ n,w'=w.drewN n) (fun a'=>∀ w',(∃ n,w'=w.drewN n)→Q .normal a' w') ol a):(Code.region id ol.toArray true).wpIn (F.inRound l) n P Q a w:=by
 have hB':=hB
 simp only[Region.lexB,Bool.and_eq_true] at hB'
 refine wpIn_region_any hm (wpAnyIn_round hro l .any (fun i o e=>List.all_eq_true.1 hd o (by rw[List.getElem?_toArray] at e;exact List.mem_of_getElem? e)) _ _ _ _ (wpAnyIn_of_quiet (C:=fun w'=>∃ n,w'=w.drewN n) (Q:=fun a'=>∀ w',(∃ n,w'=w.drewN n)→Q .normal a' w') hro (fun _ w' hw' h=>h w' hw') _ _ _ _ ⟨1,rfl⟩ ?_))
 have:=wpAnyQIn_lex (F:=F) (n:=n) (C:=fun w'=>∃ n,w'=w.drewN n) (md:=.any) hB'.1 ol 0 (Array.replicate ol.length false) a (by simp) (by simpa using hB'.2) h
 simpa using this
end
end Go.Proofs.YtanbbnogdhnikaaGreat

