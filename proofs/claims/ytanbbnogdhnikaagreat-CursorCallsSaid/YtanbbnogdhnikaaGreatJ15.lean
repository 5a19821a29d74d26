/-
  Texts that the main proof rests on, put together: FrameGet, FrameUse, FrameAll, Pg, Cn, Kit11, FrameBody, FrameLaw. No statement is proved here.
-/
import Derived.Test.YtanbbnogdhnikaaGreatJ7
import Derived.Test.YtanbbnogdhnikaaGreatJ14
set_option linter.unusedVariables false
set_option linter.unusedSimpArgs false
set_option maxRecDepth 300000
set_option maxHeartbeats 25600000
namespace Go.Proofs.YtanbbnogdhnikaaGreat
open Go.RowKit
open Go.Lib
attribute [local go_sem ↓] Go.wp_at_zero Go.wp_at_succ

theorem results_row_cell {P:Program} {fn:Func} {p q:Tmp} {ty tq:TypeId} (h:fn.results=#[.cell p ty,.cell q tq]) (tmps:Array Value) (w:World) (g g':Nat) (t:TypeId) (cs:Array Value) (fr:Nat×Nat) (d:TypeDesc) (v:Value)
  (hp:tmps.getD p undef=.pointer (some ⟨g,0,none⟩)) (hq:tmps.getD q undef=.pointer (some ⟨g',0,none⟩)) (hg:w.heap[g]? = some (.cells cs t fr))
  (hu:P.underlying ty=some d) (hd:(match d with | .struct _ | .array _ _=>true | _=>false)=true) (hi:(P.info? ty).map (·.size)=some cs.size) (hv:(loadVar tq ⟨g',0,none⟩).run P w=.ok v w) :
  (results fn tmps).run P w=.ok (.tuple #[.agg cs,v]) w:=by
 have hp':tmps[p]?.getD undef=.pointer (some ⟨g,0,none⟩):=by simpa using hp
 have hq':tmps[q]?.getD undef=.pointer (some ⟨g',0,none⟩):=by simpa using hq
 simp[results,h,hp',hq',asAddr,run_loadVar_row w g t ty cs fr d hg hu hd hi,hv]
theorem load_errno (w:World) (g:Nat) (n:Int) (h:w.cell? ⟨g,0,none⟩=some (.int .i64 n)):(loadVar 28 ⟨g,0,none⟩).run Tryz.prog w=.ok (.int .i64 n) w:=by
 simp[go_sem,h]

theorem get_dies (size:Int) (s:ByteArray) (n:Nat) (err:Int) (w:World)
  (hp : ∀ w:World,Calls Tryz.prog 133 #[.agg #[.int .i64 size,.string s],.int .u32 n] w fun e w'=>Dies e err∧Below w.heap.size w w') :
  Calls Tryz.prog 116 #[.int .i64 size,.int .u32 n,.string s] w fun e w'=>e=.returned (.tuple #[.agg #[.int .i64 0,.int .i64 0,.int .u32 0,.int .u32 0,.int .u64 0,.string .empty],.int .i64 err])∧Below w.heap.size w w':=by
 have hmf : ∀ (fn:Fn) (first cap:Array Value) (w:World),(Instr.makeFunc fn first cap).run Tryz.prog w=.ok (.func fn first cap) w:=fun _ _ _ _=>rfl
 obtain⟨hz,hi⟩:=zero_of_info infoPg
 have HI:=Hd hi
 clear hi
 obtain⟨w0,hw0⟩ : ∃ w0,w0=((w.alloc (.cells #[.int .i64 0,.int .i64 0,.int .u32 0,.int .u32 0,.int .u64 0,.string .empty] 41)).alloc (.cells #[.int .i64 0] 28)).alloc (.cells #[.int .i64 size,.string s] 206):=⟨_,rfl⟩
 have r0:Blk w0 w.heap.size 41 #[.int .i64 0,.int .i64 0,.int .u32 0,.int .u32 0,.int .u64 0,.string .empty]:=by rw[hw0];exact ((Blk.new _ _ _).alloc _).alloc _
 have e0:Blk w0 (w.heap.size+1) 28 #[.int .i64 0]:=by
  rw[hw0]
  have:=(Blk.new (w.alloc (.cells #[.int .i64 0,.int .i64 0,.int .u32 0,.int .u32 0,.int .u64 0,.string .empty] 41)) 28 #[.int .i64 0]).alloc (.cells #[.int .i64 size,.string s] 206)
  simpa using this
 have hb0:Below w.heap.size w w0:=by rw[hw0];exact (((Below.refl _ _).alloc (Nat.le_refl _) _).alloc (by simp) _).alloc (by simp;omega) _
 have R0:=Hd r0
 have E0:=Hd e0
 have HB0:=Hd hb0
 clear r0 e0 hb0
 go_enter_defers Tryz.func116,Tryz.ntmps116
 go_wp2_with fail
 rw[← hw0]
 clear hw0
 refine (hp _).mono ?_
 rintro e w1 ⟨rfl,hb1⟩
 replace HB0:=Hd (HB0.out.trans (hb1.mono HB0.out.size))
 replace E0:=Hd (E0.out.below hb1 E0.out.lt)
 replace R0:=Hd (R0.out.below hb1 R0.out.lt)
 clear hb1
 refine leaves_cons (f:=132) (args:=#[.pointer (some ⟨w.heap.size+1,0,none⟩)]) (by simp) (by simp[go_sem]) ?_
 refine (catch_wrong ⟨w.heap.size+1,0,none⟩ 0 err [] _ (E0.out.cell 0) (E0.out.frozen 0)).mono ?_
 rintro e u' w'' ⟨rfl,rfl,rfl⟩
 have E1:=Hd (Blk.set_ E0.out 0 (.int .i64 err))
 have R1:=Hd (R0.out.far (p:=⟨w.heap.size+1,0,none⟩) (Nat.ne_of_lt (Nat.lt_succ_self _)) (.int .i64 err))
 have HB1:=Hd (HB0.out.setCell (p:=⟨w.heap.size+1,0,none⟩) (Nat.le_succ _) (.int .i64 err))
 show Leaves _ _ _ _ [] .returning _
 exact⟨_,results_row_cell rfl _ _ w.heap.size (w.heap.size+1) 41 #[.int .i64 0,.int .i64 0,.int .u32 0,.int .u32 0,.int .u64 0,.string .empty] (0,0) _ _ rfl rfl R1.out Tryz.underlying41 rfl HI.out (load_errno _ _ _ (E1.out.cell 0)),rfl,HB1.out⟩

theorem get_ok_of (size:Int) (s:ByteArray) (n:Nat) (a0 a1:Int) (a2 a3 a4:Nat) (a5:ByteArray) (w:World)
  (hp : ∀ w:World,Calls Tryz.prog 133 #[.agg #[.int .i64 size,.string s],.int .u32 n] w fun e w'=>e=.returned (.agg #[.int .i64 a0,.int .i64 a1,.int .u32 a2,.int .u32 a3,.int .u64 a4,.string a5])∧Below w.heap.size w w') :
  Calls Tryz.prog 116 #[.int .i64 size,.int .u32 n,.string s] w fun e w'=>e=.returned (.tuple #[.agg #[.int .i64 a0,.int .i64 a1,.int .u32 a2,.int .u32 a3,.int .u64 a4,.string a5],.int .i64 0])∧Below w.heap.size w w':=by
 have hmf : ∀ (fn:Fn) (first cap:Array Value) (w:World),(Instr.makeFunc fn first cap).run Tryz.prog w=.ok (.func fn first cap) w:=fun _ _ _ _=>rfl
 obtain⟨hz,hi⟩:=zero_of_info infoPg
 have HI:=Hd hi
 clear hi
 obtain⟨w0,hw0⟩ : ∃ w0,w0=((w.alloc (.cells #[.int .i64 0,.int .i64 0,.int .u32 0,.int .u32 0,.int .u64 0,.string .empty] 41)).alloc (.cells #[.int .i64 0] 28)).alloc (.cells #[.int .i64 size,.string s] 206):=⟨_,rfl⟩
 have r0:Blk w0 w.heap.size 41 #[.int .i64 0,.int .i64 0,.int .u32 0,.int .u32 0,.int .u64 0,.string .empty]:=by rw[hw0];exact ((Blk.new _ _ _).alloc _).alloc _
 have e0:Blk w0 (w.heap.size+1) 28 #[.int .i64 0]:=by
  rw[hw0]
  have:=(Blk.new (w.alloc (.cells #[.int .i64 0,.int .i64 0,.int .u32 0,.int .u32 0,.int .u64 0,.string .empty] 41)) 28 #[.int .i64 0]).alloc (.cells #[.int .i64 size,.string s] 206)
  simpa using this
 have hb0:Below w.heap.size w w0:=by rw[hw0];exact (((Below.refl _ _).alloc (Nat.le_refl _) _).alloc (by simp) _).alloc (by simp;omega) _
 have R0:=Hd r0
 have E0:=Hd e0
 have HB0:=Hd hb0
 clear r0 e0 hb0
 go_enter_defers Tryz.func116,Tryz.ntmps116
 go_wp2_with fail
 rw[← hw0]
 clear hw0
 refine (hp _).mono ?_
 rintro e w1 ⟨rfl,hb1⟩
 replace HB0:=Hd (HB0.out.trans (hb1.mono HB0.out.size))
 replace E0:=Hd (E0.out.below hb1 E0.out.lt)
 replace R0:=Hd (R0.out.below hb1 R0.out.lt)
 clear hb1
 have E1:=Hd ((six_far (a0:=.int .i64 a0) (a1:=.int .i64 a1) (a2:=.int .u32 a2) (a3:=.int .u32 a3) (a4:=.int .u64 a4) (a5:=.string a5) E0.out (Nat.ne_of_gt (Nat.lt_succ_self w.heap.size))).set_ 0 (.int .i64 0))
 have R1:=Hd ((six_at (a0:=.int .i64 a0) (a1:=.int .i64 a1) (a2:=.int .u32 a2) (a3:=.int .u32 a3) (a4:=.int .u64 a4) (a5:=.string a5) R0.out).far (p:=⟨w.heap.size+1,0,none⟩) (Nat.ne_of_lt (Nat.lt_succ_self _)) (.int .i64 0))
 have HB1:=Hd ((six_below (a0:=.int .i64 a0) (a1:=.int .i64 a1) (a2:=.int .u32 a2) (a3:=.int .u32 a3) (a4:=.int .u64 a4) (a5:=.string a5) HB0.out (Nat.le_refl w.heap.size)).setCell (p:=⟨w.heap.size+1,0,none⟩) (Nat.le_succ _) (.int .i64 0))
 have k0:=R0.out.cell 0
 have k1:=R0.out.cell 1
 have k2:=R0.out.cell 2
 have k3:=R0.out.cell 3
 have k4:=R0.out.cell 4
 have k5:=R0.out.cell 5
 have ke:=E0.out.cell 0
 have f0:=R0.out.frozen 0
 have f1:=R0.out.frozen 1
 have f2:=R0.out.frozen 2
 have f3:=R0.out.frozen 3
 have f4:=R0.out.frozen 4
 have f5:=R0.out.frozen 5
 have fe:=E0.out.frozen 0
 simp at k0 k1 k2 k3 k4 k5 ke
 go_wp2_with fail
 refine leaves_cons (f:=132) (args:=#[.pointer (some ⟨w.heap.size+1,0,none⟩)]) (by simp) (by simp[go_sem]) ?_
 refine (catch_idle ⟨w.heap.size+1,0,none⟩ _).mono ?_
 rintro e u' w'' ⟨rfl,rfl,rfl⟩
 show Leaves _ _ _ _ [] .returning _
 exact⟨_,results_row_cell rfl _ _ w.heap.size (w.heap.size+1) 41 #[.int .i64 a0,.int .i64 a1,.int .u32 a2,.int .u32 a3,.int .u64 a4,.string a5] (0,0) _ _ rfl rfl R1.out Tryz.underlying41 rfl HI.out (load_errno _ _ _ (E1.out.cell 0)),rfl,HB1.out⟩
end Go.Proofs.YtanbbnogdhnikaaGreat

namespace Go.Proofs.YtanbbnogdhnikaaGreat
open Go.RowKit
open Go.Lib

/-! Get. -/
theorem mid {α:Type} (A B C:List α) (f k:Nat) (hf:A.length=f) (hk:B.length=k):List.take k (List.drop f (A++(B++C)))=B:=by
 subst hf hk
 simp
section
variable (kd ct pg lk tx:Nat) (bd:ByteArray)
theorem pageB_take4:List.take 4 (pageB kd ct pg lk tx bd).data.toList=Go.leBytes 4 (crcM 0 (restL kd ct pg lk tx bd)):=by
 rw[pageB_list];simp[leB_len]
theorem pageB_drop4:List.drop 4 (pageB kd ct pg lk tx bd).data.toList=restL kd ct pg lk tx bd:=by
 rw[pageB_list];simp[leB_len]
theorem leNat_le (k v:Nat) (h:v<2 ^ (8*k)):leNat (Go.leBytes k v)=v:=by rw[leNat_leBytes_mod,Nat.mod_eq_of_lt h]
theorem pageB_sum:leNat (List.take 4 (pageB kd ct pg lk tx bd).data.toList)=crcM 0 (List.drop 4 (pageB kd ct pg lk tx bd).data.toList):=by
 rw[pageB_take4,pageB_drop4,leNat_le _ _ (crcM_lt _ _)]
theorem pageB_parts:(pageB kd ct pg lk tx bd).data.toList=Go.leBytes 4 (crcM 0 (restL kd ct pg lk tx bd))++(Go.leBytes 1 kd++(Go.leBytes 1 1++(Go.leBytes 2 ct++(Go.leBytes 4 pg++(Go.leBytes 4 lk++(Go.leBytes 8 tx++bd.data.toList)))))):=by
 rw[pageB_list,restL,headL];simp
end
theorem pageB_at (kd ct pg lk tx:Nat) (bd:ByteArray) (h1:kd<256) (h2:ct<65536) (h3:pg<4294967296) (h4:lk<4294967296) (h5:tx<18446744073709551616) :
  leNat (List.take 1 (List.drop 4 (pageB kd ct pg lk tx bd).data.toList))=kd∧leNat (List.take 1 (List.drop 5 (pageB kd ct pg lk tx bd).data.toList))=1 ∧
  leNat (List.take 2 (List.drop 6 (pageB kd ct pg lk tx bd).data.toList))=ct∧leNat (List.take 4 (List.drop 8 (pageB kd ct pg lk tx bd).data.toList))=pg ∧
  leNat (List.take 4 (List.drop 12 (pageB kd ct pg lk tx bd).data.toList))=lk∧leNat (List.take 8 (List.drop 16 (pageB kd ct pg lk tx bd).data.toList))=tx ∧
  (pageB kd ct pg lk tx bd).extract 24 (pageB kd ct pg lk tx bd).size=bd:=by
 have hl:=pageB_parts kd ct pg lk tx bd
 have hz:=pageB_size kd ct pg lk tx bd
 have a0:=leB_len 4 (crcM 0 (restL kd ct pg lk tx bd))
 have a1:=leB_len 1 kd
 have a2:=leB_len 1 1
 have a3:=leB_len 2 ct
 have a4:=leB_len 4 pg
 have a5:=leB_len 4 lk
 have a6:=leB_len 8 tx
 have n1:=leNat_le 1 kd (by omega)
 have n2:=leNat_le 1 1 (by omega)
 have n3:=leNat_le 2 ct (by omega)
 have n4:=leNat_le 4 pg (by omega)
 have n5:=leNat_le 4 lk (by omega)
 have n6:=leNat_le 8 tx (by omega)
 have hx:((pageB kd ct pg lk tx bd).extract 24 (pageB kd ct pg lk tx bd).size).data.toList=List.drop 24 (pageB kd ct pg lk tx bd).data.toList:=by
  rw[Lib.extract_data,List.take_of_length_le]
  rw[List.length_drop,size_list];exact Nat.le_refl _
 rw[hl] at hx ⊢
 generalize Go.leBytes 4 (crcM 0 (restL kd ct pg lk tx bd))=S at *
 generalize Go.leBytes 1 kd=K at *
 generalize Go.leBytes 1 1=V at *
 generalize Go.leBytes 2 ct=C at *
 generalize Go.leBytes 4 pg=P at *
 generalize Go.leBytes 4 lk=L at *
 generalize Go.leBytes 8 tx=T at *
 refine⟨?_,?_,?_,?_,?_,?_,?_⟩
 ·rw[mid S K _ 4 1 a0 a1,n1]
 ·rw[show S++(K++(V++(C++(P++(L++(T++bd.data.toList))))))=(S++K)++(V++(C++(P++(L++(T++bd.data.toList))))) by simp only[List.append_assoc],mid (S++K) V _ 5 1 (by simp[a0,a1]) a2,n2]
 ·rw[show S++(K++(V++(C++(P++(L++(T++bd.data.toList))))))=(S++K++V)++(C++(P++(L++(T++bd.data.toList)))) by simp only[List.append_assoc],mid (S++K++V) C _ 6 2 (by simp[a0,a1,a2]) a3,n3]
 ·rw[show S++(K++(V++(C++(P++(L++(T++bd.data.toList))))))=(S++K++V++C)++(P++(L++(T++bd.data.toList))) by simp only[List.append_assoc],mid (S++K++V++C) P _ 8 4 (by simp[a0,a1,a2,a3]) a4,n4]
 ·rw[show S++(K++(V++(C++(P++(L++(T++bd.data.toList))))))=(S++K++V++C++P)++(L++(T++bd.data.toList)) by simp only[List.append_assoc],mid (S++K++V++C++P) L _ 12 4 (by simp[a0,a1,a2,a3,a4]) a5,n5]
 ·rw[show S++(K++(V++(C++(P++(L++(T++bd.data.toList))))))=(S++K++V++C++P++L)++(T++bd.data.toList) by simp only[List.append_assoc],mid (S++K++V++C++P++L) T _ 16 8 (by simp[a0,a1,a2,a3,a4,a5]) a6,n6]
 ·apply bytes_ext
  rw[hx,show S++(K++(V++(C++(P++(L++(T++bd.data.toList))))))=(S++K++V++C++P++L++T)++bd.data.toList by simp only[List.append_assoc],List.drop_left' (by simp[a0,a1,a2,a3,a4,a5,a6])]
/-! At. -/
theorem at_yes (size n:Nat) (s:ByteArray) (w:World) (hg:goodSize size=true) (hs:s.size≤maxLen) (hn:n<s.size/size) :
  Calls Tryz.prog 115 #[.int .i64 size,.string s,.int .u32 n] w fun e w'=>e=.returned (.tuple #[.string (s.extract (n*size) (n*size+size)),.bool true])∧w=w':=by
 have hp:=good_pos hg
 have HP:=fun w=>fpages_yes size s w hg hs
 obtain⟨q,hq⟩ : ∃ q,q=s.size/size:=⟨_,rfl⟩
 have hb:n*size+size≤s.size:=by
  have h1:(n+1)*size≤s.size/size*size:=Nat.mul_le_mul_right _ hn
  have h2:=Nat.div_mul_le_self s.size size
  rw[Nat.add_mul,Nat.one_mul] at h1
  omega
 have hql:s.size/size≤s.size:=Nat.div_le_self _ _
 rw[← hq] at HP hql hn
 unfold maxLen at hs
 obtain⟨f,hf⟩ : ∃ f,f=n*size:=⟨_,rfl⟩
 rw[← hf] at hb ⊢
 have g1:decide (q≤n)=false:=by simp;omega
 have g2:(0:Int)≤f:=by omega
 have g4:(f:Int)≤((f+size:Nat):Int):=by omega
 have g5:((f+size:Nat):Int)≤s.size:=by omega
 have z1:n<18446744073709551616:=by omega
 have z2:q<18446744073709551616:=by omega
 have z3:n<9223372036854775808:=by omega
 have z4:f<9223372036854775808:=by omega
 have z5:f+size<9223372036854775808:=by omega
 have w1:=u64_nat n z1
 have w2:=u64_nat q z2
 have w3:=i64_nat n z3
 have w4:wrap64 ((n:Int)*(size:Int))=(f:Int):=by rw[← Int.natCast_mul,← hf];exact wrap64_nat f z4
 have g3:wrap64 ((f:Int)+(size:Int))=((f+size:Nat):Int):=by rw[← Int.natCast_add];exact wrap64_nat _ z5
 clear hq hf hn hql hs hp hb z1 z2 z3 z4 z5
 go_enter Tryz.func115,Tryz.ntmps115
 go_wp2_with fail
 refine (HP _).mono ?_
 rintro e w' ⟨rfl,rfl⟩
 go_wp2_with fail
 go_ret2
 exact⟨rfl,rfl⟩
theorem at_no (size n:Nat) (s:ByteArray) (w:World) (hg:goodSize size=true) (hs:s.size≤maxLen) (hn : ¬ n<s.size/size) (hn2:n<4294967296) :
  Calls Tryz.prog 115 #[.int .i64 size,.string s,.int .u32 n] w fun e w'=>e=.returned (.tuple #[.string ⟨#[]⟩,.bool false])∧w=w':=by
 have HP:=fun w=>fpages_yes size s w hg hs
 obtain⟨q,hq⟩ : ∃ q,q=s.size/size:=⟨_,rfl⟩
 have hql:s.size/size≤s.size:=Nat.div_le_self _ _
 rw[← hq] at HP hql hn
 unfold maxLen at hs
 have g1:decide (q≤n)=true:=by simp;omega
 have w1:=u64_nat n (by omega)
 have w2:=u64_nat q (by omega)
 clear hq hn hql hs hn2
 go_enter Tryz.func115,Tryz.ntmps115
 go_wp2_with fail
 refine (HP _).mono ?_
 rintro e w' ⟨rfl,rfl⟩
 go_wp2_with fail
 go_ret2
 exact⟨rfl,rfl⟩
end Go.Proofs.YtanbbnogdhnikaaGreat

namespace Go.Proofs.YtanbbnogdhnikaaGreat
open Go.RowKit
open Go.Lib

def numAt (s:ByteArray) (f k:Nat):Nat:=leNat (List.take k (List.drop f s.data.toList))
def blockOk (size:Int) (n:Nat) (s:ByteArray):Bool :=
 decide ((s.size:Int)=size)&&(decide (leNat (List.take 4 s.data.toList)=crcM 0 (List.drop 4 s.data.toList))&&(decide (numAt s 5 1=1)&&(decide (numAt s 8 4=n)&&mayPg size (numAt s 4 1) (numAt s 6 2) (numAt s 8 4) (numAt s 12 4) (numAt s 16 8) (s.extract 24 s.size))))
theorem get_right (size:Int) (n:Nat) (s:ByteArray) (w:World) (h:blockOk size n s=true) :
  Calls Tryz.prog 116 #[.int .i64 size,.int .u32 n,.string s] w fun e w'=>e=.returned (.tuple #[.agg #[.int .i64 (numAt s 4 1),.int .i64 (numAt s 6 2),.int .u32 (numAt s 8 4),.int .u32 (numAt s 12 4),.int .u64 (numAt s 16 8),.string (s.extract 24 s.size)],.int .i64 0])∧Below w.heap.size w w':=by
 simp only[blockOk,Bool.and_eq_true,decide_eq_true_eq] at h
 obtain⟨h1,h2,h3,h4,h5⟩:=h
 have hg:goodSize size=true:=by
  simp only[mayPg,Bool.and_eq_true] at h5
  exact h5.1
 exact get_ok_of size s n _ _ _ _ _ _ w fun w=>rpage_ok size s n w hg h1 h2 h3 _ _ _ _ _ rfl rfl rfl rfl rfl h5 h4
theorem get_wrong (size:Int) (n:Nat) (s:ByteArray) (w:World) (hg:goodSize size=true) (h:blockOk size n s=false) :
  Calls Tryz.prog 116 #[.int .i64 size,.int .u32 n,.string s] w fun e w'=>e=.returned (.tuple #[.agg #[.int .i64 0,.int .i64 0,.int .u32 0,.int .u32 0,.int .u64 0,.string .empty],.int .i64 4])∧Below w.heap.size w w':=by
 refine get_dies size s n 4 w fun w=>?_
 by_cases h1:(s.size:Int)=size
 case neg=>exact rpage_len size s n w hg h1
 by_cases h2:leNat (List.take 4 s.data.toList)=crcM 0 (List.drop 4 s.data.toList)
 case neg=>exact rpage_sum size s n w hg h1 h2
 by_cases h3:numAt s 5 1=1
 case neg=>exact rpage_ver size s n w hg h1 h2 h3
 by_cases h4:numAt s 8 4=n
 case neg=>exact rpage_num size s n w hg h1 h2 h3 (numAt s 4 1) (numAt s 6 2) (numAt s 8 4) (numAt s 12 4) (numAt s 16 8) rfl rfl rfl rfl rfl h4
 have h5:mayPg size (numAt s 4 1) (numAt s 6 2) (numAt s 8 4) (numAt s 12 4) (numAt s 16 8) (s.extract 24 s.size)=false:=by
  rcases hm:mayPg size (numAt s 4 1) (numAt s 6 2) (numAt s 8 4) (numAt s 12 4) (numAt s 16 8) (s.extract 24 s.size) with _ | _
  ·rfl
  ·rw[blockOk,hm] at h
   simp[h1,h2,h3,h4] at h
 exact rpage_bad size s n w hg h1 h2 h3 (numAt s 4 1) (numAt s 6 2) (numAt s 8 4) (numAt s 12 4) (numAt s 16 8) rfl rfl rfl rfl rfl h4 h5
theorem le_back : ∀ l:List UInt8,Go.leBytes l.length (leNat l)=l
 | []=>rfl
 | b::l=>by
  have hb:=b.toNat_lt
  rw[List.length_cons,Go.leBytes,leNat]
  have e1:(b.toNat+256*leNat l)/256=leNat l:=by omega
  have e2:(b.toNat+256*leNat l)%256=b.toNat:=by omega
  rw[e1,e2,le_back l]
  congr 1
  rw[← UInt8.toNat_inj]
  simp
theorem part_back (l:List UInt8) (f k:Nat) (h:f+k≤l.length):Go.leBytes k (leNat (List.take k (List.drop f l)))=List.take k (List.drop f l):=by
 have h1:=le_back (List.take k (List.drop f l))
 rw[show (List.take k (List.drop f l)).length=k by rw[List.length_take,List.length_drop];omega] at h1
 exact h1
theorem cut_at (l:List UInt8) (f k:Nat):List.drop f l=List.take k (List.drop f l)++List.drop (f+k) l:=by
 rw[← List.drop_drop,List.take_append_drop]
theorem drop_ext (s:ByteArray) (p:Nat):(s.extract p s.size).data.toList=List.drop p s.data.toList:=by
 rw[Lib.extract_data,List.take_of_length_le]
 rw[List.length_drop,size_list];exact Nat.le_refl _
end Go.Proofs.YtanbbnogdhnikaaGreat

namespace Go.Proofs.YtanbbnogdhnikaaGreat
open Go.RowKit
open Go.Lib hiding intOf

structure Pg where
 kd:Int
 ct:Int
 pg:Nat
 lk:Nat
 tx:Nat
 bd:ByteArray
def Pg.cells (b:Pg):List Value:=[.int .i64 b.kd,.int .i64 b.ct,.int .u32 b.pg,.int .u32 b.lk,.int .u64 b.tx,.string b.bd]
def Pg.agg (b:Pg):Value:=.agg #[.int .i64 b.kd,.int .i64 b.ct,.int .u32 b.pg,.int .u32 b.lk,.int .u64 b.tx,.string b.bd]
def Pg.zero:Pg:=⟨0,0,0,0,0,ByteArray.empty⟩
theorem Pg.cells_len (b:Pg):b.cells.length=6:=rfl
def pgcs (l:List Pg):List Value:=rowsOf Pg.cells l
theorem pgcs_len {w:World} {B n:Nat} {A:Option Addr} {l:List Pg} (h:Reads w B 6 A n (pgcs l)):l.length=n:=rows_len (fun b=>Pg.cells_len b) (by decide) h
theorem pgcs_append (l m:List Pg):pgcs (l++m)=pgcs l++pgcs m:=rowsOf_append l m
structure Lk where
 p:Pg
 e:Int
def Lk.cells (b:Lk):List Value:=[.int .i64 b.p.kd,.int .i64 b.p.ct,.int .u32 b.p.pg,.int .u32 b.p.lk,.int .u64 b.p.tx,.string b.p.bd,.int .i64 b.e]
theorem Lk.cells_len (b:Lk):b.cells.length=7:=rfl
def lkc (l:List Lk):List Value:=rowsOf Lk.cells l
theorem lkc_len {w:World} {B n:Nat} {A:Option Addr} {l:List Lk} (h:Reads w B 7 A n (lkc l)):l.length=n:=rows_len (fun b=>Lk.cells_len b) (by decide) h
theorem lkc_snoc (l:List Lk) (b:Lk):lkc l++b.cells=lkc (l++[b]):=by simp[lkc,rowsOf]
theorem cells7 {w:World} {p:Addr} {v0 v1 v2 v3 v4 v5 v6:Value} (h : ∀ j u,([v0,v1,v2,v3,v4,v5,v6]:List Value)[j]? = some u→w.cell? (p.add j)=some u) :
  w.cell? p=some v0∧w.cell? ⟨p.block,p.off+1,none⟩=some v1∧w.cell? ⟨p.block,p.off+2,none⟩=some v2∧w.cell? ⟨p.block,p.off+3,none⟩=some v3∧w.cell? ⟨p.block,p.off+4,none⟩=some v4∧w.cell? ⟨p.block,p.off+5,none⟩=some v5∧w.cell? ⟨p.block,p.off+6,none⟩=some v6:=by
 have e : ∀ k,0<k→p.add k=⟨p.block,p.off+k,none⟩:=fun k hk=>by unfold Addr.add;rw[if_neg (by omega)]
 refine⟨h 0 _ rfl,?_,?_,?_,?_,?_,?_⟩
 ·rw[← e 1 (by decide)];exact h 1 _ rfl
 ·rw[← e 2 (by decide)];exact h 2 _ rfl
 ·rw[← e 3 (by decide)];exact h 3 _ rfl
 ·rw[← e 4 (by decide)];exact h 4 _ rfl
 ·rw[← e 5 (by decide)];exact h 5 _ rfl
 ·rw[← e 6 (by decide)];exact h 6 _ rfl
theorem cells6p {w:World} {p:Addr} {v0 v1 v2 v3 v4 v5:Value} (h : ∀ j u,([v0,v1,v2,v3,v4,v5]:List Value)[j]? = some u→w.cell? (p.add j)=some u) :
  w.cell? p=some v0∧w.cell? ⟨p.block,p.off+1,none⟩=some v1∧w.cell? ⟨p.block,p.off+2,none⟩=some v2∧w.cell? ⟨p.block,p.off+3,none⟩=some v3∧w.cell? ⟨p.block,p.off+4,none⟩=some v4∧w.cell? ⟨p.block,p.off+5,none⟩=some v5:=by
 have e : ∀ k,0<k→p.add k=⟨p.block,p.off+k,none⟩:=fun k hk=>by unfold Addr.add;rw[if_neg (by omega)]
 refine⟨h 0 _ rfl,?_,?_,?_,?_,?_⟩
 ·rw[← e 1 (by decide)];exact h 1 _ rfl
 ·rw[← e 2 (by decide)];exact h 2 _ rfl
 ·rw[← e 3 (by decide)];exact h 3 _ rfl
 ·rw[← e 4 (by decide)];exact h 4 _ rfl
 ·rw[← e 5 (by decide)];exact h 5 _ rfl
def PgAt (w:World) (p:Addr) (b:Pg):Prop:=w.cell? p=some (.int .i64 b.kd)∧w.cell? ⟨p.block,p.off+1,none⟩=some (.int .i64 b.ct)∧w.cell? ⟨p.block,p.off+2,none⟩=some (.int .u32 b.pg)∧w.cell? ⟨p.block,p.off+3,none⟩=some (.int .u32 b.lk)∧w.cell? ⟨p.block,p.off+4,none⟩=some (.int .u64 b.tx)∧w.cell? ⟨p.block,p.off+5,none⟩=some (.string b.bd)
theorem page_at {w:World} {B n i:Nat} {A:Option Addr} {l:List Pg} (h:Reads w B 6 A n (pgcs l)) (hi:i<n) :
  ∃ ad x,A=some ad∧(ad.add (i*6)).block<B∧l[i]? = some x∧PgAt w (ad.add (i*6)) x:=by
 obtain⟨ad,x,hA,hb,hx,hc⟩:=row_at (fun b=>Pg.cells_len b) (by decide) h hi
 exact⟨ad,x,hA,by rw[block_add];exact hb,hx,cells6p hc⟩
def LkAt (w:World) (p:Addr) (b:Lk):Prop:=PgAt w p b.p∧w.cell? ⟨p.block,p.off+6,none⟩=some (.int .i64 b.e)
theorem link_at {w:World} {B n i:Nat} {A:Option Addr} {l:List Lk} (h:Reads w B 7 A n (lkc l)) (hi:i<n) :
  ∃ ad x,A=some ad∧(ad.add (i*7)).block<B∧l[i]? = some x∧LkAt w (ad.add (i*7)) x:=by
 obtain⟨ad,x,hA,hb,hx,hc⟩:=row_at (fun b=>Lk.cells_len b) (by decide) h hi
 obtain⟨h0,h1,h2,h3,h4,h5,h6⟩:=cells7 hc
 exact⟨ad,x,hA,by rw[block_add];exact hb,hx,⟨h0,h1,h2,h3,h4,h5⟩,h6⟩
def blkOf (z:Nat) (s:ByteArray) (n:Nat):ByteArray:=s.extract (n*z) (n*z+z)
def readAt (size:Int) (s:ByteArray) (n:Nat):Option Pg :=
 if goodSize size&&(decide (n<s.size/size.toNat)&&blockOk size n (blkOf size.toNat s n)) then
  some ⟨numAt (blkOf size.toNat s n) 4 1,numAt (blkOf size.toNat s n) 6 2,numAt (blkOf size.toNat s n) 8 4,numAt (blkOf size.toNat s n) 12 4,numAt (blkOf size.toNat s n) 16 8,(blkOf size.toNat s n).extract 24 (blkOf size.toNat s n).size⟩
 else none
theorem readAt_some {size:Int} {s:ByteArray} {n:Nat} {p:Pg} (h:readAt size s n=some p):goodSize size=true∧n<s.size/size.toNat∧p.pg=n∧mayPg size p.kd p.ct p.pg p.lk p.tx p.bd=true:=by
 unfold readAt at h
 split at h
 ·rename_i hc
  injection h with h
  subst h
  simp only[Bool.and_eq_true,decide_eq_true_eq] at hc
  obtain⟨h1,h2,h3⟩:=hc
  simp only[blockOk,Bool.and_eq_true,decide_eq_true_eq] at h3
  obtain⟨_,_,_,h4,h5⟩:=h3
  exact⟨h1,h2,h4,h5⟩
 ·cases h
theorem readAt_bad {size:Int} {s:ByteArray} {n:Nat} (h:goodSize size=false):readAt size s n=none:=by unfold readAt;rw[h];rfl
def wasIn (L:List Pg) (n:Nat):Bool:=L.any fun p=>decide (p.pg=n)
def goes (size:Int) (s:ByteArray) (kd:Int) (L:List Pg) (h:Nat):Option Pg :=
 if decide (2≤h) && !wasIn L h then (match readAt size s h with
  | some p=>if p.kd=kd then some p else none
  | none=>none) else none
def along (size:Int) (s:ByteArray) (kd:Int) (head:Nat):Nat→List Pg×Nat
 | 0=>([],head)
 | k+1=>match goes size s kd (along size s kd head k).1 (along size s kd head k).2 with
  | some p=>((along size s kd head k).1++[p],p.lk)
  | none=>along size s kd head k
def chainL (size:Int) (s:ByteArray) (kd:Int) (head:Nat):List Pg:=(along size s kd head s.size).1
def chainOk (size:Int) (s:ByteArray) (kd:Int) (head:Nat):Bool:=decide ((along size s kd head s.size).2=0)
theorem goes_some {size:Int} {s:ByteArray} {kd:Int} {L:List Pg} {h:Nat} {p:Pg} (hg:goes size s kd L h=some p):2≤h∧wasIn L h=false∧readAt size s h=some p∧p.kd=kd:=by
 unfold goes at hg
 split at hg
 ·rename_i h1
  simp only[Bool.and_eq_true,decide_eq_true_eq,Bool.not_eq_true'] at h1
  split at hg
  ·rename_i q hq
   split at hg
   ·rename_i hk
    injection hg with hg
    subst hg
    exact⟨h1.1,h1.2,hq,hk⟩
   ·cases hg
  ·cases hg
 ·cases hg
theorem along_next {size:Int} {s:ByteArray} {kd:Int} {head k h:Nat} {L:List Pg} {p:Pg} (ha:along size s kd head k=(L,h)) (hg:goes size s kd L h=some p):along size s kd head (k+1)=(L++[p],p.lk):=by
 simp only[along,ha,hg]
theorem along_stop {size:Int} {s:ByteArray} {kd:Int} {head k h:Nat} {L:List Pg} (ha:along size s kd head k=(L,h)) (hg:goes size s kd L h=none) : ∀ d,along size s kd head (k+d)=(L,h)
 | 0=>ha
 | d+1=>by
  rw[← Nat.add_assoc]
  simp only[along,along_stop ha hg d,hg]
def Fresh (P:Nat):List Pg→Prop
 | []=>True
 | p::l=>p.pg<P∧wasIn l p.pg=false∧Fresh P l
theorem wasIn_append (L M:List Pg) (n:Nat):wasIn (L++M) n=(wasIn L n || wasIn M n):=by unfold wasIn;rw[List.any_append]
theorem Fresh.snoc {P:Nat} : ∀ {L:List Pg} {p:Pg},Fresh P L→p.pg<P→wasIn L p.pg=false→Fresh P (L++[p])
 | [],p,_,h1,_=>⟨h1,rfl,trivial⟩
 | q::l,p,⟨g1,g2,g3⟩,h1,h2=>by
  have h3:wasIn l p.pg=false∧¬ q.pg=p.pg:=by
   unfold wasIn at h2 ⊢
   simp only[List.any_cons,Bool.or_eq_false_iff,decide_eq_false_iff_not] at h2
   exact⟨h2.2,h2.1⟩
  refine⟨g1,?_,Fresh.snoc g3 h1 h3.1⟩
  show wasIn (l++[p]) q.pg=false
  rw[wasIn_append,g2]
  unfold wasIn
  simp
  exact fun h=>h3.2 h.symm
theorem fresh_drop {P:Nat} : ∀ {L:List Pg},Fresh (P+1) L→∃ M,Fresh P M∧L.length≤M.length+1∧∀ n,n<P→wasIn M n=wasIn L n
 | [],_=>⟨[],trivial,by simp,fun n _=>rfl⟩
 | q::l,⟨g1,g2,g3⟩=>by
  by_cases hq:q.pg=P
  ·refine⟨l,?_,by simp,fun n hn=>?_⟩
   ·clear g1
    induction l with
    | nil=>trivial
    | cons a t ih =>
     have h2 : ¬ a.pg=q.pg∧wasIn t q.pg=false:=by
      unfold wasIn at g2 ⊢
      simp only[List.any_cons,Bool.or_eq_false_iff,decide_eq_false_iff_not] at g2
      exact g2
     exact⟨by have:=g3.1;omega,g3.2.1,ih h2.2 g3.2.2⟩
   ·unfold wasIn
    simp only[List.any_cons]
    rw[decide_eq_false (by omega : ¬ q.pg=n),Bool.false_or]
  ·obtain⟨M,h1,h2,h3⟩:=fresh_drop g3
   refine⟨q::M,⟨by omega,?_,h1⟩,by simp only[List.length_cons];omega,fun n hn=>?_⟩
   ·rw[h3 q.pg (by omega)]
    exact g2
   ·have:=h3 n hn
    unfold wasIn at this ⊢
    simp only[List.any_cons]
    rw[this]
theorem fresh_le : ∀ {P:Nat} {L:List Pg},Fresh P L→L.length≤P
 | 0,[],_=>Nat.le_refl _
 | 0,q::l,h=>absurd h.1 (by omega)
 | P+1,L,h=>by
  obtain⟨M,h1,h2,_⟩:=fresh_drop h
  have:=fresh_le h1
  omega
theorem along_fresh {size:Int} {s:ByteArray} {kd:Int} {head:Nat} : ∀ k,Fresh (s.size/size.toNat) (along size s kd head k).1
 | 0=>trivial
 | k+1=>by
  have ih:=along_fresh (size:=size) (s:=s) (kd:=kd) (head:=head) k
  simp only[along]
  split
  ·rename_i p hp
   obtain⟨_,h2,h3,_⟩:=goes_some hp
   obtain⟨_,h4,h5,_⟩:=readAt_some h3
   exact ih.snoc (by rw[h5];exact h4) (by rw[h5];exact h2)
  ·exact ih
theorem along_len {size:Int} {s:ByteArray} {kd:Int} {head k h:Nat} {L:List Pg} (ha:along size s kd head k=(L,h)) (hl:L.length=k) {p:Pg} (hg:goes size s kd L h=some p):k+1≤s.size:=by
 have h1:=along_fresh (size:=size) (s:=s) (kd:=kd) (head:=head) (k+1)
 rw[along_next ha hg] at h1
 have h2:=fresh_le h1
 rw[List.length_append,hl] at h2
 have h3:=Nat.div_le_self s.size size.toNat
 simp at h2
 omega
theorem chain_end {size:Int} {s:ByteArray} {kd:Int} {head k h:Nat} {L:List Pg} (hk:k≤s.size) (ha:along size s kd head k=(L,h)) (hg:goes size s kd L h=none):chainL size s kd head=L∧chainOk size s kd head=decide (h=0):=by
 have h1:=along_stop ha hg (s.size-k)
 rw[show k+(s.size-k)=s.size by omega] at h1
 exact⟨by rw[chainL,h1],by rw[chainOk,h1]⟩
theorem goes_zero {size:Int} {s:ByteArray} {kd:Int} {L:List Pg}:goes size s kd L 0=none:=by unfold goes;rfl
theorem goes_bad {size:Int} {s:ByteArray} {kd:Int} {L:List Pg} {h:Nat} (hg:readAt size s h=none):goes size s kd L h=none:=by
 unfold goes;rw[hg];simp
theorem goes_is {size:Int} {s:ByteArray} {kd:Int} {L:List Pg} {h:Nat} {p:Pg} (hg:readAt size s h=some p):goes size s kd L h=if (decide (h<2) || !decide (p.kd=kd)) || wasIn L h then none else some p:=by
 unfold goes
 rw[hg]
 by_cases h1:2≤h<;>by_cases h2:p.kd=kd<;>cases h3:wasIn L h<;>simp[h1,h2]<;>omega
def followL (size:Int) (s:ByteArray) (kd:Int) (head:Nat):List Lk:=(chainL size s kd head).map (fun p=>⟨p,0⟩)++(if chainOk size s kd head then [] else [⟨Pg.zero,4⟩])
end Go.Proofs.YtanbbnogdhnikaaGreat

namespace Go.Proofs.YtanbbnogdhnikaaGreat
open Go.RowKit
open Go.Lib hiding intOf
attribute [local go_sem ↓] Go.wp_at_zero Go.wp_at_succ

theorem infoPg11:(Tryz.prog.info? 41).map (fun i=>(i.zero,i.size,i.bytes))=some (some (.agg #[.int .i64 0,.int .i64 0,.int .u32 0,.int .u32 0,.int .u64 0,.string .empty]),6,48):=by kernel_rfl
theorem pgcs_one (l:List Pg) : ∀ u∈pgcs l,u.oneCell'=true:=by
 intro u hu
 unfold pgcs rowsOf at hu
 obtain⟨b,_,hb⟩:=List.mem_flatMap.1 hu
 simp[Pg.cells] at hb
 rcases hb with rfl | rfl | rfl | rfl | rfl | rfl<;>rfl
end Go.Proofs.YtanbbnogdhnikaaGreat

namespace Go.Proofs.YtanbbnogdhnikaaGreat
open Go.RowKit
open Go.Lib

theorem fread_bad (size:Int) (s:ByteArray) (n:Nat) (w:World) (hg:goodSize size=false) :
  Calls Tryz.prog 98 #[.int .i64 size,.string s,.int .u32 n] w fun e w'=>e=.returned (.tuple #[.agg #[.int .i64 0,.int .i64 0,.int .u32 0,.int .u32 0,.int .u64 0,.string .empty],.int .i64 2])∧Below w.heap.size w w':=by
 obtain⟨hz,hi⟩:=zero_of_info infoPg
 have HI:=Hd hi
 clear hi
 obtain⟨w0,hw0⟩ : ∃ w0,w0=w.alloc (.cells #[.int .i64 0,.int .i64 0,.int .u32 0,.int .u32 0,.int .u64 0,.string .empty] 41):=⟨_,rfl⟩
 have R0:=Hd (show Blk w0 w.heap.size 41 #[.int .i64 0,.int .i64 0,.int .u32 0,.int .u32 0,.int .u64 0,.string .empty] by rw[hw0];exact Blk.new _ _ _)
 have HB0:=Hd (show Below w.heap.size w w0 by rw[hw0];exact (Below.refl _ _).alloc (Nat.le_refl _) _)
 go_enter Tryz.func98,Tryz.ntmps98
 go_wp2_with fail
 rw[← hw0]
 clear hw0
 refine (dgood_is size _ _ hg).mono ?_
 rintro e w' ⟨rfl,rfl⟩
 have k0:=R0.out.cell 0
 have k1:=R0.out.cell 1
 have k2:=R0.out.cell 2
 have k3:=R0.out.cell 3
 have k4:=R0.out.cell 4
 have k5:=R0.out.cell 5
 have f0:=R0.out.frozen 0
 have f1:=R0.out.frozen 1
 have f2:=R0.out.frozen 2
 have f3:=R0.out.frozen 3
 have f4:=R0.out.frozen 4
 have f5:=R0.out.frozen 5
 simp at k0 k1 k2 k3 k4 k5
 go_wp2_with fail
 refine bodyPost_ret (read_row rfl _ _ _ w.heap.size #[.int .i64 0,.int .i64 0,.int .u32 0,.int .u32 0,.int .u64 0,.string .empty] rfl (load_page (six_at R0.out))) rfl ⟨rfl,six_below HB0.out (Nat.le_refl _)⟩
theorem fread_none (size n:Nat) (s:ByteArray) (w:World) (hg:goodSize size=true) (hs:s.size≤maxLen) (hn : ¬ n<s.size/size) (hn2:n<4294967296) :
  Calls Tryz.prog 98 #[.int .i64 size,.string s,.int .u32 n] w fun e w'=>e=.returned (.tuple #[.agg #[.int .i64 0,.int .i64 0,.int .u32 0,.int .u32 0,.int .u64 0,.string .empty],.int .i64 5])∧Below w.heap.size w w':=by
 obtain⟨hz,hi⟩:=zero_of_info infoPg
 have HI:=Hd hi
 clear hi
 obtain⟨w0,hw0⟩ : ∃ w0,w0=w.alloc (.cells #[.int .i64 0,.int .i64 0,.int .u32 0,.int .u32 0,.int .u64 0,.string .empty] 41):=⟨_,rfl⟩
 have R0:=Hd (show Blk w0 w.heap.size 41 #[.int .i64 0,.int .i64 0,.int .u32 0,.int .u32 0,.int .u64 0,.string .empty] by rw[hw0];exact Blk.new _ _ _)
 have HB0:=Hd (show Below w.heap.size w w0 by rw[hw0];exact (Below.refl _ _).alloc (Nat.le_refl _) _)
 have HA:=fun w=>at_no size n s w hg hs hn hn2
 clear hs hn hn2
 go_enter Tryz.func98,Tryz.ntmps98
 go_wp2_with fail
 rw[← hw0]
 clear hw0
 refine (dgood_is size _ _ hg).mono ?_
 rintro e w' ⟨rfl,rfl⟩
 go_wp2_with fail
 refine (HA _).mono ?_
 rintro e w' ⟨rfl,rfl⟩
 have k0:=R0.out.cell 0
 have k1:=R0.out.cell 1
 have k2:=R0.out.cell 2
 have k3:=R0.out.cell 3
 have k4:=R0.out.cell 4
 have k5:=R0.out.cell 5
 have f0:=R0.out.frozen 0
 have f1:=R0.out.frozen 1
 have f2:=R0.out.frozen 2
 have f3:=R0.out.frozen 3
 have f4:=R0.out.frozen 4
 have f5:=R0.out.frozen 5
 simp at k0 k1 k2 k3 k4 k5
 go_wp2_with fail
 refine bodyPost_ret (read_row rfl _ _ _ w.heap.size #[.int .i64 0,.int .i64 0,.int .u32 0,.int .u32 0,.int .u64 0,.string .empty] rfl (load_page (six_at R0.out))) rfl ⟨rfl,six_below HB0.out (Nat.le_refl _)⟩
theorem fread_get (size n:Nat) (s:ByteArray) (a0 a1:Int) (a2 a3 a4:Nat) (a5:ByteArray) (err:Int) (w:World) (hg:goodSize size=true) (hs:s.size≤maxLen) (hn:n<s.size/size)
  (hget : ∀ w:World,Calls Tryz.prog 116 #[.int .i64 size,.int .u32 n,.string (s.extract (n*size) (n*size+size))] w fun e w'=>e=.returned (.tuple #[.agg #[.int .i64 a0,.int .i64 a1,.int .u32 a2,.int .u32 a3,.int .u64 a4,.string a5],.int .i64 err])∧Below w.heap.size w w') :
  Calls Tryz.prog 98 #[.int .i64 size,.string s,.int .u32 n] w fun e w'=>e=.returned (.tuple #[.agg #[.int .i64 a0,.int .i64 a1,.int .u32 a2,.int .u32 a3,.int .u64 a4,.string a5],.int .i64 err])∧Below w.heap.size w w':=by
 obtain⟨hz,hi⟩:=zero_of_info infoPg
 have HI:=Hd hi
 clear hi
 obtain⟨w0,hw0⟩ : ∃ w0,w0=w.alloc (.cells #[.int .i64 0,.int .i64 0,.int .u32 0,.int .u32 0,.int .u64 0,.string .empty] 41):=⟨_,rfl⟩
 have R0:=Hd (show Blk w0 w.heap.size 41 #[.int .i64 0,.int .i64 0,.int .u32 0,.int .u32 0,.int .u64 0,.string .empty] by rw[hw0];exact Blk.new _ _ _)
 have HB0:=Hd (show Below w.heap.size w w0 by rw[hw0];exact (Below.refl _ _).alloc (Nat.le_refl _) _)
 have HA:=fun w=>at_yes size n s w hg hs hn
 obtain⟨b,hb⟩ : ∃ b,b=s.extract (n*size) (n*size+size):=⟨_,rfl⟩
 rw[← hb] at HA hget
 clear hb hs hn
 go_enter Tryz.func98,Tryz.ntmps98
 go_wp2_with fail
 rw[← hw0]
 clear hw0
 refine (dgood_is size _ _ hg).mono ?_
 rintro e w' ⟨rfl,rfl⟩
 go_wp2_with fail
 refine (HA _).mono ?_
 rintro e w' ⟨rfl,rfl⟩
 go_wp2_with fail
 refine (hget _).mono ?_
 rintro e w1 ⟨rfl,hb1⟩
 replace HB0:=Hd (HB0.out.trans (hb1.mono HB0.out.size))
 replace R0:=Hd (R0.out.below hb1 R0.out.lt)
 clear hb1
 have k0:=R0.out.cell 0
 have k1:=R0.out.cell 1
 have k2:=R0.out.cell 2
 have k3:=R0.out.cell 3
 have k4:=R0.out.cell 4
 have k5:=R0.out.cell 5
 have f0:=R0.out.frozen 0
 have f1:=R0.out.frozen 1
 have f2:=R0.out.frozen 2
 have f3:=R0.out.frozen 3
 have f4:=R0.out.frozen 4
 have f5:=R0.out.frozen 5
 simp at k0 k1 k2 k3 k4 k5
 go_wp2_with fail
 refine bodyPost_ret (read_row rfl _ _ _ w.heap.size #[.int .i64 a0,.int .i64 a1,.int .u32 a2,.int .u32 a3,.int .u64 a4,.string a5] rfl (load_page (six_at R0.out))) rfl ⟨rfl,six_below HB0.out (Nat.le_refl _)⟩

end Go.Proofs.YtanbbnogdhnikaaGreat

