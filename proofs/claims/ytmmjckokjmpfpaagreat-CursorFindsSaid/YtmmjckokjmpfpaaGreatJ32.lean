/-
  Texts that the main proof rests on, put together: Bld, Ref9Of, Ref11V, ChAcc, OvSmall. No statement is proved here.
-/
import Derived.Shelf.Strings.BuilderK
import Derived.Test.YtmmjckokjmpfpaaGreatProg
import Derived.Test.YtmmjckokjmpfpaaGreatJ16
import Derived.Test.YtmmjckokjmpfpaaGreatJ31
import Derived.Test.YtmmjckokjmpfpaaGreatJ10
import Derived.Test.YtmmjckokjmpfpaaGreatJ15
import Derived.Test.YtmmjckokjmpfpaaGreatJ4
import Derived.Test.YtmmjckokjmpfpaaGreatJ8
import Derived.Deep.CutRange
set_option linter.unusedVariables false
set_option linter.unusedSimpArgs false
namespace Go.Proofs.YtmmjckokjmpfpaaGreat
open Go.Shelf Go.RowKit
def renB : Go.Shelf.Ren := ⟨fun | 166 => 104 | 240 => 129 | 276 => 151 | 170 => 103 | 169 => 105 | n => n, fun | 0 => 0 | 3 => 3 | 4 => 4 | 5 => 5 | 9 => 9 | 20 => 20 | 37 => 102 | 70 => 164 | 72 => 166 | 75 => 172 | 80 => 175 | 164 => 216 | 127 => 201 | n => n, fun | n => n⟩
theorem laysB : Go.Proofs.Lays.n166 Tryz.prog renB := {
 mixed := by kernel_rfl
 f166 := Tryz.func104.trans (congrArg some (by kernel_rfl))
 f240 := Tryz.func129.trans (congrArg some (by kernel_rfl))
 f276 := Tryz.func151.trans (congrArg some (by kernel_rfl))
 t0 := Tryz.underlying0
 a0 := Tryz.isAgg0
 z0 := Tryz.sizeOf0
 v0 := Tryz.zeroValue0
 t3 := Tryz.underlying3
 a3 := Tryz.isAgg3
 z3 := Tryz.sizeOf3
 v3 := Tryz.zeroValue3
 t4 := Tryz.underlying4
 a4 := Tryz.isAgg4
 z4 := Tryz.sizeOf4
 v4 := Tryz.zeroValue4
 t9 := Tryz.underlying9
 a9 := Tryz.isAgg9
 z9 := Tryz.sizeOf9
 v9 := Tryz.zeroValue9
 t20 := Tryz.underlying20
 a20 := Tryz.isAgg20
 z20 := Tryz.sizeOf20
 v20 := Tryz.zeroValue20
 t37 := Tryz.underlying102
 a37 := Tryz.isAgg102
 z37 := Tryz.sizeOf102
 v37 := Tryz.zeroValue102
 t70 := Tryz.underlying164
 a70 := Tryz.isAgg164
 z70 := Tryz.sizeOf164
 v70 := Tryz.zeroValue164
 t72 := Tryz.underlying166
 a72 := Tryz.isAgg166
 z72 := Tryz.sizeOf166
 v72 := Tryz.zeroValue166
 t75 := Tryz.underlying172
 a75 := Tryz.isAgg172
 z75 := Tryz.sizeOf172
 v75 := Tryz.zeroValue172
 t164 := Tryz.underlying216
 a164 := Tryz.isAgg216
 z164 := Tryz.sizeOf216
 v164 := Tryz.zeroValue216 }
theorem extraB : Builder.Extra Tryz.prog renB := {
 sizeBuilder := by kernel_rfl
 liesBuilder := by kernel_rfl
 t5 := Tryz.underlying5
 a5 := Tryz.isAgg5
 z5 := Tryz.sizeOf5
 v5 := Tryz.zeroValue5
 infoByte := by kernel_rfl
 cellsByte := by kernel_rfl
 sizeByte := by kernel_rfl
 neB5 := by decide }
theorem laysBL : Go.Proofs.Lays.n170 Tryz.prog renB := {
 mixed := by kernel_rfl
 f170 := Tryz.func103.trans (congrArg some (by kernel_rfl))
 t0 := Tryz.underlying0
 a0 := Tryz.isAgg0
 z0 := Tryz.sizeOf0
 v0 := Tryz.zeroValue0
 t3 := Tryz.underlying3
 a3 := Tryz.isAgg3
 z3 := Tryz.sizeOf3
 v3 := Tryz.zeroValue3
 t37 := Tryz.underlying102
 a37 := Tryz.isAgg102
 z37 := Tryz.sizeOf102
 v37 := Tryz.zeroValue102
 t70 := Tryz.underlying164
 a70 := Tryz.isAgg164
 z70 := Tryz.sizeOf164
 v70 := Tryz.zeroValue164
 t72 := Tryz.underlying166
 a72 := Tryz.isAgg166
 z72 := Tryz.sizeOf166
 v72 := Tryz.zeroValue166 }
theorem laysBS : Go.Proofs.Lays.n169 Tryz.prog renB := {
 mixed := by kernel_rfl
 f169 := Tryz.func105.trans (congrArg some (by kernel_rfl))
 t0 := Tryz.underlying0
 a0 := Tryz.isAgg0
 z0 := Tryz.sizeOf0
 v0 := Tryz.zeroValue0
 t3 := Tryz.underlying3
 a3 := Tryz.isAgg3
 z3 := Tryz.sizeOf3
 v3 := Tryz.zeroValue3
 t9 := Tryz.underlying9
 a9 := Tryz.isAgg9
 z9 := Tryz.sizeOf9
 v9 := Tryz.zeroValue9
 t37 := Tryz.underlying102
 a37 := Tryz.isAgg102
 z37 := Tryz.sizeOf102
 v37 := Tryz.zeroValue102
 t70 := Tryz.underlying164
 a70 := Tryz.isAgg164
 z70 := Tryz.sizeOf164
 v70 := Tryz.zeroValue164
 t72 := Tryz.underlying166
 a72 := Tryz.isAgg166
 z72 := Tryz.sizeOf166
 v72 := Tryz.zeroValue166
 t127 := Tryz.underlying201
 a127 := Tryz.isAgg201
 z127 := Tryz.sizeOf201
 v127 := Tryz.zeroValue201 }
abbrev IsBd (b : Nat) (l : List UInt8) (w : World) : Prop := Lib.IsBuilderF 166 5 b b (Lib.byteCells l) w
theorem IsBd.lt {b : Nat} {l : List UInt8} {w : World} (h : IsBd b l w) : b < w.heap.size := by
 rcases h with h | h
 ·exact h.lt
 ·exact h.lt
theorem blen_any (b : Nat) (l : List UInt8) (w : World) (h : IsBd b l w) :
  Calls Tryz.prog 103 #[.pointer (some ⟨b, 0, none⟩)] w fun e w' => e = .returned (.int .i64 l.length) ∧ w' = w := by
 have hc := Any.Builder_Len_f laysBL b b _ w h
 rw [Lib.byteCells_length] at hc
 exact hc
theorem bwrite_any (b : Nat) (l : List UInt8) (s : ByteArray) (w : World) (h : IsBd b l w) (hl : l.length + s.size ≤ 140737488355328) :
  Calls Tryz.prog 104 #[.pointer (some ⟨b, 0, none⟩), .string s] w fun e w' => e = .returned (.tuple #[.int .i64 s.size, .nilIface]) ∧ IsBd b (l ++ s.data.toList) w' ∧ Below b w w' ∧ Lib.OthersKept 5 (some b) w w' := by
 have hc := Any.Builder_WriteString_k laysB extraB b b _ s w h (by rw [Lib.byteCells_length]; exact hl) (Nat.le_of_lt h.lt)
 refine hc.mono fun e w' ⟨he, h1, h2, h3⟩ => ⟨he, ?_, h2, h3⟩
 show Lib.IsBuilderF _ _ _ _ (Lib.byteCells (l ++ s.data.toList)) _
 rw [show Lib.byteCells (l ++ s.data.toList) = Lib.byteCells l ++ Lib.byteCells s.data.toList by simp [Lib.byteCells]]
 exact .inr h1
theorem bstring_any (b : Nat) (l : List UInt8) (w : World) (h : IsBd b l w) :
  Calls Tryz.prog 105 #[.pointer (some ⟨b, 0, none⟩)] w fun e w' => e = .returned (.string ⟨l.toArray⟩) ∧ IsBd b l w' ∧ Below b w w' ∧ Lib.OthersKept 5 (some b) w w' :=
 Any.Builder_String_any_k laysBS extraB b b l w h (Nat.le_of_lt h.lt)
end Go.Proofs.YtmmjckokjmpfpaaGreat

namespace Go.Proofs.YtmmjckokjmpfpaaGreat
open Go.RowKit
open Go.Lib hiding intOf
attribute [local go_sem ↓] Go.wp_at_zero Go.wp_at_succ

theorem page9_neq_no (a0 a1 a2 a3 a4 : Int) (a5 : ByteArray) (w : World) : (binOp .neq 41 (.agg #[.int .i64 a0, .int .i64 a1, .int .u32 a2, .int .u32 a3, .int .u64 a4, .string a5]) (.agg #[.int .i64 a0, .int .i64 a1, .int .u32 a2, .int .u32 a3, .int .u64 a4, .string a5])).run Tryz.prog w = .ok (.bool false) w := by
 simp [go_sem]
theorem page9_neq_yes (a0 a1 a2 a3 a4 : Int) (a5 : ByteArray) (b0 b1 b2 b3 b4 : Int) (b5 : ByteArray) (w : World) (h : ¬ (a0 = b0 ∧ a1 = b1 ∧ a2 = b2 ∧ a3 = b3 ∧ a4 = b4 ∧ a5 = b5)) : (binOp .neq 41 (.agg #[.int .i64 a0, .int .i64 a1, .int .u32 a2, .int .u32 a3, .int .u64 a4, .string a5]) (.agg #[.int .i64 b0, .int .i64 b1, .int .u32 b2, .int .u32 b3, .int .u64 b4, .string b5])).run Tryz.prog w = .ok (.bool true) w := by
 have h1 : (((((a0 == b0 && a1 == b1) && a2 == b2) && a3 == b3) && a4 == b4) && a5.toList == b5.toList) = false := by
  rw [Bool.eq_false_iff]
  intro ht
  simp only [Bool.and_eq_true, beq_iff_eq] at ht
  obtain ⟨⟨⟨⟨⟨h0, h1⟩, h2⟩, h3⟩, h4⟩, h5⟩ := ht
  rw [ByteArray.toList_eq, ByteArray.toList_eq] at h5
  exact h ⟨h0, h1, h2, h3, h4, bytes_ext h5⟩
 simp [go_sem] at h1 ⊢
 exact h1
def OfPost9 (o : Option ByteArray) (lk : Nat) (w : World) (e : Ending) (w' : World) : Prop :=
 match o with
 | none => e = .returned (.tuple #[.string ⟨#[]⟩, .int .u32 0, .int .i64 4]) ∧ Below w.heap.size w w'
 | some s => e = .returned (.tuple #[.string s, .int .u32 lk, .int .i64 0]) ∧ Below w.heap.size w w'
end Go.Proofs.YtmmjckokjmpfpaaGreat

namespace Go.Proofs.YtmmjckokjmpfpaaGreat
open Go.RowKit
open Go.Lib hiding intOf
attribute [local go_sem ↓] Go.wp_at_zero Go.wp_at_succ

theorem readAt_body {size : Int} {s : ByteArray} {n : Nat} {p : Pg} (h : readAt size s n = some p) : p.bd.size ≤ 4072 := by
 obtain ⟨h1, _, _, h4⟩ := readAt_some h
 obtain ⟨z, rfl, h5, h6, _⟩ := good_nat h1
 simp only [mayPg, Bool.and_eq_true, decide_eq_true_eq] at h4
 omega
def rdStr (o : Option (ByteArray × List Nat)) : ByteArray := (o.map (·.1)).getD ⟨#[]⟩
def rdPs (o : Option (ByteArray × List Nat)) : List Nat := (o.map (·.2)).getD []
def rdErr (size : Int) (o : Option (ByteArray × List Nat)) : Int := if goodSize size then (if o.isSome then 0 else 4) else 2
theorem readV_bad {size : Int} {s : ByteArray} {head : Nat} {len : Int} (h : goodSize size = false) : readV size s head len = none := by
 have ha : ∀ k, along size s 5 head k = ([], head) := fun k => by
  induction k with
  | zero => rfl
  | succ k ih => simp only [along, ih, goes_bad (readAt_bad h)]
 have hc : chainL size s 5 head = [] := by rw [chainL, ha]
 unfold readV
 rw [hc]
 split
 ·simp only [valV, List.foldl_nil]
  rw [if_neg]
  rintro ⟨h1, h2⟩
  have : (⟨#[]⟩ : ByteArray).size = 0 := rfl
  omega
 ·rfl
end Go.Proofs.YtmmjckokjmpfpaaGreat

namespace Go.Proofs.YtmmjckokjmpfpaaGreat
open Go.RowKit Go.Shelf

/-! The links of a chain. -/
theorem along_memF {size : Int} {s : ByteArray} {kd : Int} {head : Nat} : ∀ k, ∀ p ∈ (along size s kd head k).1, ∃ n, readAt size s n = some p ∧ p.kd = kd
 | 0, p, hp => by simp [along] at hp
 | k + 1, p, hp => by
  simp only [along] at hp
  split at hp
  ·rename_i q hq
   rcases List.mem_append.1 hp with h | h
   ·exact along_memF k p h
   ·obtain rfl : p = q := by simpa using h
    obtain ⟨_, _, h3, h4⟩ := goes_some hq
    exact ⟨_, h3, h4⟩
  ·exact along_memF k p hp
theorem follow_ok {size : Int} {s : ByteArray} {kd : Int} {head : Nat} {x : Lk} (h : x ∈ followL size s kd head) : x = ⟨Pg.zero, 4⟩ ∨ (x.e = 0 ∧ mayPg size x.p.kd x.p.ct x.p.pg x.p.lk x.p.tx x.p.bd = true) := by
 unfold followL at h
 rcases List.mem_append.1 h with h | h
 ·obtain ⟨p, hp, rfl⟩ := List.mem_map.1 h
  obtain ⟨n, hn, _⟩ := along_memF _ p hp
  exact .inr ⟨rfl, (readAt_some hn).2.2.2⟩
 ·split at h
  ·cases h
  ·obtain rfl : x = ⟨Pg.zero, 4⟩ := by simpa using h
   exact .inl rfl
theorem follow_small {size : Int} {s : ByteArray} {kd : Int} {head : Nat} {x : Lk} (h : x ∈ followL size s kd head) : x.p.bd.size ≤ 4096 ∧ x.p.pg < 4294967296 := by
 rcases follow_ok h with rfl | ⟨_, h⟩
 ·exact ⟨by decide, by decide⟩
 ·simp only [mayPg, goodSize, Bool.and_eq_true, decide_eq_true_eq] at h
  omega
def stepA (a : Option ByteArray) (x : Lk) : Option ByteArray := match a, (if x.e = 0 then x.p.over else none) with | some v, some t => some (v ++ t) | _, _ => none
def accA (l : List Lk) : Option ByteArray := l.foldl stepA (some ⟨#[]⟩)
theorem accA_snoc (l : List Lk) (x : Lk) : accA (l ++ [x]) = stepA (accA l) x := by unfold accA; rw [List.foldl_append]; rfl
theorem accA_more {l : List Lk} : ∀ (m : List Lk) {v : ByteArray}, accA (l ++ m) = some v → ∃ u, accA l = some u ∧ u.size ≤ v.size := by
 intro m
 induction m generalizing l with
 | nil => intro v h; exact ⟨v, by simpa using h, Nat.le_refl _⟩
 | cons x t ih =>
  intro v h
  rw [show l ++ x :: t = (l ++ [x]) ++ t by simp] at h
  obtain ⟨u, h1, h2⟩ := ih h
  rw [accA_snoc] at h1
  unfold stepA at h1
  split at h1
  ·rename_i a b c d
   injection h1 with h1
   subst h1
   rw [ByteArray.size_append] at h2
   exact ⟨_, c, by omega⟩
  ·cases h1
theorem accA_map (L : List Pg) : accA (L.map fun p => (⟨p, 0⟩ : Lk)) = valV L := by
 unfold accA valV
 rw [List.foldl_map]
 rfl
theorem accA_follow {size : Int} {s : ByteArray} {kd : Int} {head : Nat} : accA (followL size s kd head) = if chainOk size s kd head then valV (chainL size s kd head) else none := by
 unfold followL
 rcases chainOk size s kd head with _ | _
 ·simp only [Bool.false_eq_true, if_false]
  rw [accA_snoc]
  unfold stepA
  split
  ·rename_i a b c d
   simp at d
  ·rfl
 ·simp only [if_true]
  rw [List.append_nil, accA_map]
theorem readV_bad_pre {size : Int} {s : ByteArray} {head : Nat} {len : Int} {l : List Lk} (hp : l <+: followL size s 5 head) (hb : accA l = none ∨ ∃ v, accA l = some v ∧ len < (v.size : Int)) : readV size s head len = none := by
 obtain ⟨m, hm⟩ := hp
 unfold readV
 rcases ho : chainOk size s 5 head with _ | _
 ·rfl
 ·simp only [if_true]
  rcases hv : valV (chainL size s 5 head) with _ | v
  ·rfl
  ·have ha : accA (followL size s 5 head) = some v := by rw [accA_follow, ho, if_pos rfl, hv]
   rw [← hm] at ha
   obtain ⟨u, h1, h2⟩ := accA_more _ ha
   rcases hb with hb | ⟨v', h3, h4⟩
   ·rw [hb] at h1; cases h1
   ·rw [h3] at h1
    injection h1 with h1
    subst h1
    dsimp only
    rw [if_neg (by omega)]
theorem readV_end {size : Int} {s : ByteArray} {head : Nat} {len : Int} {v : ByteArray} (ha : accA (followL size s 5 head) = some v) : readV size s head len = if 1 ≤ len ∧ (v.size : Int) = len then some (v, (followL size s 5 head).map (·.p.pg)) else none := by
 rw [accA_follow] at ha
 rcases ho : chainOk size s 5 head with _ | _
 ·rw [ho] at ha; cases ha
 ·rw [ho, if_pos rfl] at ha
  unfold readV
  rw [ho, if_pos rfl, ha]
  dsimp only
  have : (followL size s 5 head).map (·.p.pg) = (chainL size s 5 head).map (·.pg) := by unfold followL; rw [ho]; simp
  rw [this]

/-! Blocks that stay. -/
theorem IsBd.new (w : World) : IsBd w.heap.size [] (w.alloc (.cells #[.pointer none, .slice none 0 0] 166)) := Lib.IsBuilderF.of (Lib.fresh_isBuilder _ _ w)
theorem IsBd.alloc {b : Nat} {l : List UInt8} {w : World} (h : IsBd b l w) (o : Obj) : IsBd b l (w.alloc o) := Lib.IsBuilderF.alloc h o
theorem IsBd.drewN {b : Nat} {l : List UInt8} {w : World} (h : IsBd b l w) (n : Nat) : IsBd b l (w.drewN n) := h
theorem IsBd.block {b : Nat} {l : List UInt8} {w : World} (h : IsBd b l w) : ∃ cs fz, w.heap[b]? = some (.cells cs 166 fz) := by
 rcases h with ⟨_, v, h, _⟩ | ⟨_, v, h, _⟩ <;> exact ⟨_, _, h⟩
theorem IsBd.grown {b : Nat} {l : List UInt8} {w w' : World} {row : Option Nat} (h : IsBd b l w) (hg : w.grownBy w' row) (hr : ∀ r, row = some r → ∀ cs fz, w.heap[r]? ≠ some (.cells cs 166 fz) ∧ w.heap[r]? ≠ some (.cells cs 5 fz)) : IsBd b l w' := by
 have one : ∀ p, Lib.BuilderAtF 166 5 b b p (Lib.byteCells l) w → Lib.BuilderAtF 166 5 b b p (Lib.byteCells l) w' := by
  rintro p ⟨hB, v, hb, hown, hne⟩
  refine ⟨hB, v, (hg.block b (Array.getElem?_eq_some_iff.1 hb).1 (fun e => (hr b e.symm _ _).1 hb)).trans hb, hown.kept hg ?_, hne⟩
  rcases hv : v.ownBlock with _ | g
  ·exact .inl rfl
  ·refine .inr fun e => ?_
   obtain ⟨c, fz, hc⟩ := Lib.ownsRowF_kind hown g hv
   exact (hr g e.symm _ _).2 hc
 exact h.elim (fun x => .inl (one _ x)) (fun x => .inr (one _ x))
theorem IsBd.below {b : Nat} {l : List UInt8} {w w' : World} (h : IsBd b l w) (hb : Below w.heap.size w w') : IsBd b l w' := h.grown (grown_of_below hb) (by simp)
theorem others_block {b k : Nat} {l : List UInt8} {W W' : World} {o : Obj} (hI : IsBd b l W) (hk : Lib.OthersKept 5 (some b) W W') (h : W.heap[k]? = some o) (ho : ∀ cs t fz, o = .cells cs t fz → t ≠ 5 ∧ t ≠ 166) : W'.heap[k]? = some o := by
 refine hk k o h (fun e => ?_) (fun c fz e => (ho c _ fz e).1 rfl)
 obtain ⟨cs, fz, hb⟩ := hI.block
 obtain rfl : k = b := by simpa using e
 rw [h] at hb
 injection hb with hb
 exact (ho cs _ fz hb).2 rfl
theorem others_box {b k : Nat} {l : List UInt8} {W W' : World} {t : TypeId} {v : Value} (hI : IsBd b l W) (hk : Lib.OthersKept 5 (some b) W W') (h : Boxed W k t v) (ht : t ≠ 5 ∧ t ≠ 166) : Boxed W' k t v :=
 others_block hI hk h (fun cs t' fz e => by cases e; exact ht)
theorem others_kpF {b : Nat} {l : List UInt8} {W W' : World} (hI : IsBd b l W) (hk : Lib.OthersKept 5 (some b) W W') : KpF W W' := fun k o h hko =>
 others_block hI hk h (fun cs t fz e => by
  subst e
  constructor <;> (rintro rfl; simp [keepO, Obj.isWalk] at hko))
theorem others_from {b : Nat} {l : List UInt8} {W W' : World} (hI : IsBd b l W) (hk : Lib.OthersKept 5 (some b) W W') (hs : W.heap.size ≤ W'.heap.size) (B : Nat) : KeepsFrom B W W' :=
 ⟨hs, fun k o _ h ho => others_block hI hk h (fun cs t fz e => by subst e; cases ho)⟩
theorem others_row {b base size n : Nat} {l : List UInt8} {e : TypeId} {v : Value} {xs : List Value} {W W' : World} (hI : IsBd b l W) (hk : Lib.OthersKept 5 (some b) W W') (h : W.ownsRow base e size v n xs) (he : e ≠ 5 ∧ e ≠ 166) : W'.ownsRow base e size v n xs := by
 refine ⟨h.1, ?_⟩
 rcases h.2 with h0 | ⟨g, cap, cur, hv, hb, hg, hr⟩
 ·exact .inl h0
 ·exact .inr ⟨g, cap, cur, hv, hb, others_block hI hk hg (fun cs t fz e' => by cases e'; exact he), hr⟩
theorem cells_own {W W' : World} {b : Nat} {cs : Array Value} {t : TypeId} {fz} {row : Option Nat} (h : W.heap[b]? = some (.cells cs t fz)) (hg : W.grownBy W' row) (hr : ∀ r, row = some r → ∃ o : Obj, W.heap[r]? = some o ∧ o.isCells = false) : W'.heap[b]? = some (.cells cs t fz) := by
 refine (hg.block b (Array.getElem?_eq_some_iff.1 h).1 fun e => ?_).trans h
 obtain ⟨o, h1, h2⟩ := hr b e.symm
 rw [h] at h1
 cases h1
 cases h2
theorem IsBd.own {b : Nat} {l : List UInt8} {W W' : World} {row : Option Nat} (h : IsBd b l W) (hg : W.grownBy W' row) (hr : ∀ r, row = some r → ∃ o : Obj, W.heap[r]? = some o ∧ o.isCells = false) : IsBd b l W' :=
 h.grown hg fun r e cs fz => by
  obtain ⟨o, h1, h2⟩ := hr r e
  rw [h1]
  exact ⟨(by intro e'; cases e'; cases h2), (by intro e'; cases e'; cases h2)⟩
theorem row_own {W W' : World} {base size n : Nat} {e : TypeId} {v : Value} {xs : List Value} {row : Option Nat} (h : W.ownsRow base e size v n xs) (hg : W.grownBy W' row) (hr : ∀ r, row = some r → ∃ o : Obj, W.heap[r]? = some o ∧ o.isCells = false) : W'.ownsRow base e size v n xs := by
 refine ⟨h.1, ?_⟩
 rcases h.2 with h0 | ⟨g, cap, cur, hv, hb, hgg, hrr⟩
 ·exact .inl h0
 ·exact .inr ⟨g, cap, cur, hv, hb, cells_own hgg hg hr, hrr⟩
theorem results_cells3 {P : Program} {fn : Func} {p q r : Tmp} {ty tq tr : TypeId} (h : fn.results = #[.cell p ty, .cell q tq, .cell r tr]) (tmps : Array Value) (w : World) (g g' g'' : Nat) (u v z : Value)
  (hp : tmps.getD p undef = .pointer (some ⟨g, 0, none⟩)) (hq : tmps.getD q undef = .pointer (some ⟨g', 0, none⟩)) (hr : tmps.getD r undef = .pointer (some ⟨g'', 0, none⟩)) (hu : (loadVar ty ⟨g, 0, none⟩).run P w = .ok u w) (hv : (loadVar tq ⟨g', 0, none⟩).run P w = .ok v w) (hz : (loadVar tr ⟨g'', 0, none⟩).run P w = .ok z w) :
  (results fn tmps).run P w = .ok (.tuple #[u, v, z]) w := by
 have hp' : tmps[p]?.getD undef = .pointer (some ⟨g, 0, none⟩) := by simpa using hp
 have hq' : tmps[q]?.getD undef = .pointer (some ⟨g', 0, none⟩) := by simpa using hq
 have hr' : tmps[r]?.getD undef = .pointer (some ⟨g'', 0, none⟩) := by simpa using hr
 simp [results, h, hp', hq', hr', asAddr, hu, hv, hz]
theorem load_boxR {w : World} {g : Nat} {t : TypeId} {v : Value} (ht : t = 9 ∨ t = 31 ∨ t = 28) (h : Boxed w g t v) : (loadVar t ⟨g, 0, none⟩).run Tryz.prog w = .ok v w := by
 have hc := h.cell
 rcases ht with rfl | rfl | rfl <;> simp [go_sem, hc]
end Go.Proofs.YtmmjckokjmpfpaaGreat

namespace Go.Proofs.YtmmjckokjmpfpaaGreat
open Go.RowKit
open Go.Lib hiding intOf
attribute [local go_sem ↓] Go.wp_at_zero Go.wp_at_succ

set_option maxRecDepth 100000 in
set_option maxHeartbeats 3200000 in
theorem onum_any (n : Nat) (w : World) : Calls Tryz.prog 149 #[.int .u32 n] w fun e w' => e = .returned (.bool (numB n)) ∧ w' = w := by
 by_cases h1 : 2 ≤ n
 ·have h1' : (2 : Int) ≤ n := by omega
  by_cases h2 : n ≤ 2147483647
  ·have h2' : (n : Int) ≤ 2147483647 := by omega
   have HE := Lib.hid (show numB n = true by simp [numB, h1, h2])
   go_enter Tryz.func149, Tryz.ntmps149
   go_wp2
   go_ret
   exact ⟨by rw [HE.out]; rfl, rfl⟩
  ·have h2' : ¬ (n : Int) ≤ 2147483647 := by omega
   have HE := Lib.hid (show numB n = false by simp [numB, h1, h2])
   go_enter Tryz.func149, Tryz.ntmps149
   go_wp2
   go_ret
   exact ⟨by rw [HE.out]; rfl, rfl⟩
 ·have h1' : ¬ (2 : Int) ≤ n := by omega
  have HE := Lib.hid (show numB n = false by simp [numB, h1])
  go_enter Tryz.func149, Tryz.ntmps149
  go_wp2
  go_ret
  exact ⟨by rw [HE.out]; rfl, rfl⟩
end Go.Proofs.YtmmjckokjmpfpaaGreat

