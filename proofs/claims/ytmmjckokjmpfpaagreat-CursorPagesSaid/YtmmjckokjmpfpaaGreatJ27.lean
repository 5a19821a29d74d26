/-
  Texts that the main proof rests on, put together: ChAcc, OvSmall. No statement is proved here.
-/
import Derived.Test.YtmmjckokjmpfpaaGreatJ26
import Derived.Test.YtmmjckokjmpfpaaGreatJ8
import Derived.Test.YtmmjckokjmpfpaaGreatJ2
import Derived.Test.YtmmjckokjmpfpaaGreatJ7
import Derived.Deep.CutRange
set_option linter.unusedVariables false
set_option linter.unusedSimpArgs false
namespace Go.Proofs.YtmmjckokjmpfpaaGreat
open Go.RowKit Go.Shelf

/-! The links of a chain. -/
theorem along_memF {size : Int} {s : ByteArray} {kd : Int} {head : Nat} : ∀ k, ∀ p ∈ (along size s kd head k).1, ∃ n, readAt size s n = some p ∧ p.kd = kd
 | 0, p, hp => by simp [along] at hp
 | k + 1, p, hp => by
  simp only [along] at hp
  split at hp
  ·rename_i q hq
   rcases List.mem_append.1 hp with h | h
   ·exact along_memF k p h
   ·obtain rfl : p = q := by simpa using h
    obtain ⟨_, _, h3, h4⟩ := goes_some hq
    exact ⟨_, h3, h4⟩
  ·exact along_memF k p hp
theorem follow_ok {size : Int} {s : ByteArray} {kd : Int} {head : Nat} {x : Lk} (h : x ∈ followL size s kd head) : x = ⟨Pg.zero, 4⟩ ∨ (x.e = 0 ∧ mayPg size x.p.kd x.p.ct x.p.pg x.p.lk x.p.tx x.p.bd = true) := by
 unfold followL at h
 rcases List.mem_append.1 h with h | h
 ·obtain ⟨p, hp, rfl⟩ := List.mem_map.1 h
  obtain ⟨n, hn, _⟩ := along_memF _ p hp
  exact .inr ⟨rfl, (readAt_some hn).2.2.2⟩
 ·split at h
  ·cases h
  ·obtain rfl : x = ⟨Pg.zero, 4⟩ := by simpa using h
   exact .inl rfl
theorem follow_small {size : Int} {s : ByteArray} {kd : Int} {head : Nat} {x : Lk} (h : x ∈ followL size s kd head) : x.p.bd.size ≤ 4096 ∧ x.p.pg < 4294967296 := by
 rcases follow_ok h with rfl | ⟨_, h⟩
 ·exact ⟨by decide, by decide⟩
 ·simp only [mayPg, goodSize, Bool.and_eq_true, decide_eq_true_eq] at h
  omega
def stepA (a : Option ByteArray) (x : Lk) : Option ByteArray := match a, (if x.e = 0 then x.p.over else none) with | some v, some t => some (v ++ t) | _, _ => none
def accA (l : List Lk) : Option ByteArray := l.foldl stepA (some ⟨#[]⟩)
theorem accA_snoc (l : List Lk) (x : Lk) : accA (l ++ [x]) = stepA (accA l) x := by unfold accA; rw [List.foldl_append]; rfl
theorem accA_more {l : List Lk} : ∀ (m : List Lk) {v : ByteArray}, accA (l ++ m) = some v → ∃ u, accA l = some u ∧ u.size ≤ v.size := by
 intro m
 induction m generalizing l with
 | nil => intro v h; exact ⟨v, by simpa using h, Nat.le_refl _⟩
 | cons x t ih =>
  intro v h
  rw [show l ++ x :: t = (l ++ [x]) ++ t by simp] at h
  obtain ⟨u, h1, h2⟩ := ih h
  rw [accA_snoc] at h1
  unfold stepA at h1
  split at h1
  ·rename_i a b c d
   injection h1 with h1
   subst h1
   rw [ByteArray.size_append] at h2
   exact ⟨_, c, by omega⟩
  ·cases h1
theorem accA_map (L : List Pg) : accA (L.map fun p => (⟨p, 0⟩ : Lk)) = valV L := by
 unfold accA valV
 rw [List.foldl_map]
 rfl
theorem accA_follow {size : Int} {s : ByteArray} {kd : Int} {head : Nat} : accA (followL size s kd head) = if chainOk size s kd head then valV (chainL size s kd head) else none := by
 unfold followL
 rcases chainOk size s kd head with _ | _
 ·simp only [Bool.false_eq_true, if_false]
  rw [accA_snoc]
  unfold stepA
  split
  ·rename_i a b c d
   simp at d
  ·rfl
 ·simp only [if_true]
  rw [List.append_nil, accA_map]
theorem readV_bad_pre {size : Int} {s : ByteArray} {head : Nat} {len : Int} {l : List Lk} (hp : l <+: followL size s 5 head) (hb : accA l = none ∨ ∃ v, accA l = some v ∧ len < (v.size : Int)) : readV size s head len = none := by
 obtain ⟨m, hm⟩ := hp
 unfold readV
 rcases ho : chainOk size s 5 head with _ | _
 ·rfl
 ·simp only [if_true]
  rcases hv : valV (chainL size s 5 head) with _ | v
  ·rfl
  ·have ha : accA (followL size s 5 head) = some v := by rw [accA_follow, ho, if_pos rfl, hv]
   rw [← hm] at ha
   obtain ⟨u, h1, h2⟩ := accA_more _ ha
   rcases hb with hb | ⟨v', h3, h4⟩
   ·rw [hb] at h1; cases h1
   ·rw [h3] at h1
    injection h1 with h1
    subst h1
    dsimp only
    rw [if_neg (by omega)]
theorem readV_end {size : Int} {s : ByteArray} {head : Nat} {len : Int} {v : ByteArray} (ha : accA (followL size s 5 head) = some v) : readV size s head len = if 1 ≤ len ∧ (v.size : Int) = len then some (v, (followL size s 5 head).map (·.p.pg)) else none := by
 rw [accA_follow] at ha
 rcases ho : chainOk size s 5 head with _ | _
 ·rw [ho] at ha; cases ha
 ·rw [ho, if_pos rfl] at ha
  unfold readV
  rw [ho, if_pos rfl, ha]
  dsimp only
  have : (followL size s 5 head).map (·.p.pg) = (chainL size s 5 head).map (·.pg) := by unfold followL; rw [ho]; simp
  rw [this]

/-! Blocks that stay. -/
theorem IsBd.new (w : World) : IsBd w.heap.size [] (w.alloc (.cells #[.pointer none, .slice none 0 0] 166)) := Lib.IsBuilderF.of (Lib.fresh_isBuilder _ _ w)
theorem IsBd.alloc {b : Nat} {l : List UInt8} {w : World} (h : IsBd b l w) (o : Obj) : IsBd b l (w.alloc o) := Lib.IsBuilderF.alloc h o
theorem IsBd.drewN {b : Nat} {l : List UInt8} {w : World} (h : IsBd b l w) (n : Nat) : IsBd b l (w.drewN n) := h
theorem IsBd.block {b : Nat} {l : List UInt8} {w : World} (h : IsBd b l w) : ∃ cs fz, w.heap[b]? = some (.cells cs 166 fz) := by
 rcases h with ⟨_, v, h, _⟩ | ⟨_, v, h, _⟩ <;> exact ⟨_, _, h⟩
theorem IsBd.grown {b : Nat} {l : List UInt8} {w w' : World} {row : Option Nat} (h : IsBd b l w) (hg : w.grownBy w' row) (hr : ∀ r, row = some r → ∀ cs fz, w.heap[r]? ≠ some (.cells cs 166 fz) ∧ w.heap[r]? ≠ some (.cells cs 5 fz)) : IsBd b l w' := by
 have one : ∀ p, Lib.BuilderAtF 166 5 b b p (Lib.byteCells l) w → Lib.BuilderAtF 166 5 b b p (Lib.byteCells l) w' := by
  rintro p ⟨hB, v, hb, hown, hne⟩
  refine ⟨hB, v, (hg.block b (Array.getElem?_eq_some_iff.1 hb).1 (fun e => (hr b e.symm _ _).1 hb)).trans hb, hown.kept hg ?_, hne⟩
  rcases hv : v.ownBlock with _ | g
  ·exact .inl rfl
  ·refine .inr fun e => ?_
   obtain ⟨c, fz, hc⟩ := Lib.ownsRowF_kind hown g hv
   exact (hr g e.symm _ _).2 hc
 exact h.elim (fun x => .inl (one _ x)) (fun x => .inr (one _ x))
theorem IsBd.below {b : Nat} {l : List UInt8} {w w' : World} (h : IsBd b l w) (hb : Below w.heap.size w w') : IsBd b l w' := h.grown (grown_of_below hb) (by simp)
theorem others_block {b k : Nat} {l : List UInt8} {W W' : World} {o : Obj} (hI : IsBd b l W) (hk : Lib.OthersKept 5 (some b) W W') (h : W.heap[k]? = some o) (ho : ∀ cs t fz, o = .cells cs t fz → t ≠ 5 ∧ t ≠ 166) : W'.heap[k]? = some o := by
 refine hk k o h (fun e => ?_) (fun c fz e => (ho c _ fz e).1 rfl)
 obtain ⟨cs, fz, hb⟩ := hI.block
 obtain rfl : k = b := by simpa using e
 rw [h] at hb
 injection hb with hb
 exact (ho cs _ fz hb).2 rfl
theorem others_box {b k : Nat} {l : List UInt8} {W W' : World} {t : TypeId} {v : Value} (hI : IsBd b l W) (hk : Lib.OthersKept 5 (some b) W W') (h : Boxed W k t v) (ht : t ≠ 5 ∧ t ≠ 166) : Boxed W' k t v :=
 others_block hI hk h (fun cs t' fz e => by cases e; exact ht)
theorem others_kpF {b : Nat} {l : List UInt8} {W W' : World} (hI : IsBd b l W) (hk : Lib.OthersKept 5 (some b) W W') : KpF W W' := fun k o h hko =>
 others_block hI hk h (fun cs t fz e => by
  subst e
  constructor <;> (rintro rfl; simp [keepO, Obj.isWalk] at hko))
theorem others_from {b : Nat} {l : List UInt8} {W W' : World} (hI : IsBd b l W) (hk : Lib.OthersKept 5 (some b) W W') (hs : W.heap.size ≤ W'.heap.size) (B : Nat) : KeepsFrom B W W' :=
 ⟨hs, fun k o _ h ho => others_block hI hk h (fun cs t fz e => by subst e; cases ho)⟩
theorem others_row {b base size n : Nat} {l : List UInt8} {e : TypeId} {v : Value} {xs : List Value} {W W' : World} (hI : IsBd b l W) (hk : Lib.OthersKept 5 (some b) W W') (h : W.ownsRow base e size v n xs) (he : e ≠ 5 ∧ e ≠ 166) : W'.ownsRow base e size v n xs := by
 refine ⟨h.1, ?_⟩
 rcases h.2 with h0 | ⟨g, cap, cur, hv, hb, hg, hr⟩
 ·exact .inl h0
 ·exact .inr ⟨g, cap, cur, hv, hb, others_block hI hk hg (fun cs t fz e' => by cases e'; exact he), hr⟩
theorem cells_own {W W' : World} {b : Nat} {cs : Array Value} {t : TypeId} {fz} {row : Option Nat} (h : W.heap[b]? = some (.cells cs t fz)) (hg : W.grownBy W' row) (hr : ∀ r, row = some r → ∃ o : Obj, W.heap[r]? = some o ∧ o.isCells = false) : W'.heap[b]? = some (.cells cs t fz) := by
 refine (hg.block b (Array.getElem?_eq_some_iff.1 h).1 fun e => ?_).trans h
 obtain ⟨o, h1, h2⟩ := hr b e.symm
 rw [h] at h1
 cases h1
 cases h2
theorem IsBd.own {b : Nat} {l : List UInt8} {W W' : World} {row : Option Nat} (h : IsBd b l W) (hg : W.grownBy W' row) (hr : ∀ r, row = some r → ∃ o : Obj, W.heap[r]? = some o ∧ o.isCells = false) : IsBd b l W' :=
 h.grown hg fun r e cs fz => by
  obtain ⟨o, h1, h2⟩ := hr r e
  rw [h1]
  exact ⟨(by intro e'; cases e'; cases h2), (by intro e'; cases e'; cases h2)⟩
theorem row_own {W W' : World} {base size n : Nat} {e : TypeId} {v : Value} {xs : List Value} {row : Option Nat} (h : W.ownsRow base e size v n xs) (hg : W.grownBy W' row) (hr : ∀ r, row = some r → ∃ o : Obj, W.heap[r]? = some o ∧ o.isCells = false) : W'.ownsRow base e size v n xs := by
 refine ⟨h.1, ?_⟩
 rcases h.2 with h0 | ⟨g, cap, cur, hv, hb, hgg, hrr⟩
 ·exact .inl h0
 ·exact .inr ⟨g, cap, cur, hv, hb, cells_own hgg hg hr, hrr⟩
theorem results_cells3 {P : Program} {fn : Func} {p q r : Tmp} {ty tq tr : TypeId} (h : fn.results = #[.cell p ty, .cell q tq, .cell r tr]) (tmps : Array Value) (w : World) (g g' g'' : Nat) (u v z : Value)
  (hp : tmps.getD p undef = .pointer (some ⟨g, 0, none⟩)) (hq : tmps.getD q undef = .pointer (some ⟨g', 0, none⟩)) (hr : tmps.getD r undef = .pointer (some ⟨g'', 0, none⟩)) (hu : (loadVar ty ⟨g, 0, none⟩).run P w = .ok u w) (hv : (loadVar tq ⟨g', 0, none⟩).run P w = .ok v w) (hz : (loadVar tr ⟨g'', 0, none⟩).run P w = .ok z w) :
  (results fn tmps).run P w = .ok (.tuple #[u, v, z]) w := by
 have hp' : tmps[p]?.getD undef = .pointer (some ⟨g, 0, none⟩) := by simpa using hp
 have hq' : tmps[q]?.getD undef = .pointer (some ⟨g', 0, none⟩) := by simpa using hq
 have hr' : tmps[r]?.getD undef = .pointer (some ⟨g'', 0, none⟩) := by simpa using hr
 simp [results, h, hp', hq', hr', asAddr, hu, hv, hz]
theorem load_boxR {w : World} {g : Nat} {t : TypeId} {v : Value} (ht : t = 9 ∨ t = 31 ∨ t = 28) (h : Boxed w g t v) : (loadVar t ⟨g, 0, none⟩).run Tryz.prog w = .ok v w := by
 have hc := h.cell
 rcases ht with rfl | rfl | rfl <;> simp [go_sem, hc]
end Go.Proofs.YtmmjckokjmpfpaaGreat

namespace Go.Proofs.YtmmjckokjmpfpaaGreat
open Go.RowKit
open Go.Lib hiding intOf
attribute [local go_sem ↓] Go.wp_at_zero Go.wp_at_succ

set_option maxRecDepth 100000 in
set_option maxHeartbeats 3200000 in
theorem onum_any (n : Nat) (w : World) : Calls Tryz.prog 149 #[.int .u32 n] w fun e w' => e = .returned (.bool (numB n)) ∧ w' = w := by
 by_cases h1 : 2 ≤ n
 ·have h1' : (2 : Int) ≤ n := by omega
  by_cases h2 : n ≤ 2147483647
  ·have h2' : (n : Int) ≤ 2147483647 := by omega
   have HE := Lib.hid (show numB n = true by simp [numB, h1, h2])
   go_enter Tryz.func149, Tryz.ntmps149
   go_wp2
   go_ret
   exact ⟨by rw [HE.out]; rfl, rfl⟩
  ·have h2' : ¬ (n : Int) ≤ 2147483647 := by omega
   have HE := Lib.hid (show numB n = false by simp [numB, h1, h2])
   go_enter Tryz.func149, Tryz.ntmps149
   go_wp2
   go_ret
   exact ⟨by rw [HE.out]; rfl, rfl⟩
 ·have h1' : ¬ (2 : Int) ≤ n := by omega
  have HE := Lib.hid (show numB n = false by simp [numB, h1])
  go_enter Tryz.func149, Tryz.ntmps149
  go_wp2
  go_ret
  exact ⟨by rw [HE.out]; rfl, rfl⟩
end Go.Proofs.YtmmjckokjmpfpaaGreat

