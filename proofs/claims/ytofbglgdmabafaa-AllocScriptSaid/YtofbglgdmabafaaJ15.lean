/-
  A slice of numbers that lies somewhere in a block of its owner's (its head cut off, say): MidU; append to it, slices.Insert into it, slices.BinarySearch in it. Each with its conditions in its own statement.
-/
import Derived.Test.YtofbglgdmabafaaJ6
import Derived.Test.YtofbglgdmabafaaJ11
import Derived.Test.YtofbglgdmabafaaJ12
import Derived.Test.YtofbglgdmabafaaJ13
import Derived.Test.YtofbglgdmabafaaJ14
import Derived.Test.YtofbglgdmabafaaJ8
import Derived.Deep.LoopGhost
import Derived.Lib.Overlaps
import Derived.Lib.AppendZerosOnto
import Derived.Lib.Walk
namespace Go.Proofs.Ytofbglgdmabafaa
open Go.RowKit
open Go.Lib hiding intOf
set_option linter.unusedVariables false
set_option linter.unusedSimpArgs false
attribute [local go_sem ↓] Go.wp_at_zero Go.wp_at_succ

/-- F, and what has been made since. -/
def GrowF (F : Nat → Prop) (w w' : World) (k : Nat) : Prop := F k ∨ (w.heap.size ≤ k ∧ k < w'.heap.size)
def MidU (w : World) (F : Nat → Prop) (A : Option Addr) (n c : Nat) (l : List Nat) : Prop :=
  l.length = n ∧ n ≤ c ∧ ((A = none ∧ c = 0) ∨ ∃ g o cur, A = some ⟨g, o, none⟩ ∧ F g ∧ w.heap[g]? = some (.cells cur 27 (0, 0)) ∧ o + c ≤ cur.size ∧ cur.size ≤ maxLen ∧ (cur.toList.drop o).take n = ucells l)
theorem seg_at (l : List Value) (o : Nat) (cs : List Value) (h : o + cs.length ≤ l.length) (j : Nat) : (seg l o cs)[j]? = if j < o then l[j]? else if j < o + cs.length then cs[j - o]? else l[j]? := by
  simp only [seg, List.getElem?_append, List.length_append, List.length_take, List.getElem?_take, List.getElem?_drop]
  rw [Nat.min_eq_left (by omega)]
  by_cases h1 : j < o
  · rw [if_pos (by omega), if_pos h1, if_pos h1, if_pos h1]
  · by_cases h2 : j < o + cs.length
    · rw [if_pos h2, if_neg h1, if_neg h1, if_pos h2]
    · rw [if_neg h2, if_neg h1, if_neg h2]; congr 1; omega
theorem seg_nil (l : List Value) (o : Nat) : seg l o [] = l := by simp [seg]
theorem drop_take_at {C : List Value} {o n : Nat} {L : List Value} (h : (C.drop o).take n = L) {j : Nat} (hj : j < n) : C[o + j]? = L[j]? := by
  rw [← h, List.getElem?_take_of_lt hj, List.getElem?_drop]
/-- What two copies leave: room made in place i, the new cell stored there. -/
theorem mid_insert {C : List Value} {o n i : Nat} {L : List Value} (v : Value) (h : (C.drop o).take n = L) (hL : L.length = n) (hi : i ≤ n) (hC : o + n + 1 ≤ C.length) :
    ((seg (seg C (o + (i + 1)) (L.drop i)) (o + i) [v]).drop o).take (n + 1) = L.take i ++ v :: L.drop i := by
  have hd : (L.drop i).length = n - i := by rw [List.length_drop, hL]
  have h1 : (seg C (o + (i + 1)) (L.drop i)).length = C.length := seg_length (by rw [hd]; omega)
  have hlt : (L.take i).length = i := by rw [List.length_take, hL]; omega
  apply List.ext_getElem?
  intro j
  by_cases hj : j < n + 1
  · rw [List.getElem?_take_of_lt hj, List.getElem?_drop, seg_at _ _ _ (by rw [h1]; simp; omega), List.getElem?_append, hlt]
    by_cases h2 : j < i
    · rw [if_pos (by omega), if_pos h2, seg_at _ _ _ (by rw [hd]; omega), if_pos (by omega), drop_take_at h (by omega), List.getElem?_take_of_lt h2]
    · rw [if_neg (by omega), if_neg h2]
      by_cases h3 : j = i
      · subst h3
        simp
      · rw [if_neg (by simp; omega), seg_at _ _ _ (by rw [hd]; omega), if_neg (by omega), if_pos (by rw [hd]; omega), show j - i = (j - i - 1) + 1 by omega, List.getElem?_cons_succ]
        congr 1
        omega
  · rw [List.getElem?_eq_none (by rw [List.length_take]; omega), List.getElem?_eq_none (by rw [List.length_append, hlt, List.length_cons, hd]; omega)]
theorem mid_insert2 {R : List Value} {n i : Nat} {L : List Value} (v : Value) (h : R.take i = L.take i) (hL : L.length = n) (hi : i ≤ n) (hR : n + 1 ≤ R.length) :
    (seg (seg R i [v]) (i + 1) (L.drop i)).take (n + 1) = L.take i ++ v :: L.drop i := by
  have hd : (L.drop i).length = n - i := by rw [List.length_drop, hL]
  have h1 : (seg R i [v]).length = R.length := seg_length (by simp; omega)
  have hlt : (L.take i).length = i := by rw [List.length_take, hL]; omega
  apply List.ext_getElem?
  intro j
  by_cases hj : j < n + 1
  · rw [List.getElem?_take_of_lt hj, seg_at _ _ _ (by rw [h1, hd]; omega), List.getElem?_append, hlt]
    by_cases h2 : j < i
    · have h5 : R[j]? = (L.take i)[j]? := by rw [← h, List.getElem?_take_of_lt h2]
      rw [if_pos (by omega), if_pos h2, seg_at _ _ _ (by simp; omega), if_pos h2, h5]
    · rw [if_neg h2]
      by_cases h3 : j = i
      · subst h3
        rw [if_pos (by omega), seg_at _ _ _ (by simp; omega), if_neg (by omega), if_pos (by simp)]
        simp
      · rw [if_neg (by omega), if_pos (by rw [hd]; omega), show j - i = (j - i - 1) + 1 by omega, List.getElem?_cons_succ]
        first
          | rfl
          | (congr 1; omega)
  · rw [List.getElem?_eq_none (by rw [List.length_take]; omega), List.getElem?_eq_none (by rw [List.length_append, hlt, List.length_cons, hd]; omega)]
section
variable {w w' : World} {F G : Nat → Prop} {A : Option Addr} {n c : Nat} {l : List Nat}
theorem MidU.nil (w : World) (F : Nat → Prop) : MidU w F none 0 0 [] := ⟨rfl, Nat.le_refl _, .inl ⟨rfl, rfl⟩⟩
theorem MidU.wide (h : MidU w F A n c l) (hG : ∀ k, F k → G k) : MidU w G A n c l := by
  refine ⟨h.1, h.2.1, ?_⟩
  rcases h.2.2 with h1 | ⟨g, o, cur, e, hF, h2⟩
  · exact .inl h1
  · exact .inr ⟨g, o, cur, e, hG g hF, h2⟩
theorem MidU.kept (h : MidU w F A n c l) (hk : Kept G w w') (hn : ∀ k, F k → ¬ G k) : MidU w' F A n c l := by
  refine ⟨h.1, h.2.1, ?_⟩
  rcases h.2.2 with h1 | ⟨g, o, cur, e, hF, h2, h3⟩
  · exact .inl h1
  · exact .inr ⟨g, o, cur, e, hF, hk.blk (t := 27) h2 (hn g hF), h3⟩
theorem MidU.own {base : Nat} (h : w.ownsRow base 27 1 (.slice A n c) n (ucells l)) : MidU w (fun k => base ≤ k ∧ k < w.heap.size) A n c l := by
  have hl : l.length = n := by have := h.1; rw [ucells_length] at this; omega
  rcases h.2 with ⟨hv, h0⟩ | ⟨g, cap, cur, hv, hb, hg, hnc, hcm, hs, ht⟩
  · injection hv with hA hn hc
    subst hA; subst hc
    exact ⟨hl, by omega, .inl ⟨rfl, rfl⟩⟩
  · injection hv with hA hn hc
    subst hA; subst hc
    rw [Nat.mul_one] at hs ht
    exact ⟨hl, hnc, .inr ⟨g, 0, cur, rfl, ⟨hb, Blk.lt (t := 27) hg⟩, hg, by omega, by omega, by rw [List.drop_zero]; exact ht⟩⟩
theorem MidU.reads (h : MidU w F A n c l) (hF : ∀ k, F k → k < w.heap.size) : Reads w w.heap.size 1 A n (ucells l) := by
  refine ⟨by rw [ucells_length, h.1, Nat.mul_one], fun h0 => ?_⟩
  rcases h.2.2 with ⟨h1, h2⟩ | ⟨g, o, cur, e, hFg, hg, hs, _, ht⟩
  · have := h.2.1; omega
  · refine ⟨_, e, hF g hFg, fun j u hj => ?_⟩
    rw [add_row, Blk.cell (t := 27) hg]
    have hjl : j < n := by
      rcases Nat.lt_or_ge j n with h3 | h3
      · exact h3
      · rw [List.getElem?_eq_none (by rw [ucells_length, h.1]; exact h3)] at hj; cases hj
    have := drop_take_at ht hjl
    rw [Array.getElem?_toList] at this
    rw [this, hj]
theorem MidU.lt (h : MidU w F A n c l) : l.length ≤ maxLen := by
  rcases h.2.2 with ⟨h1, h2⟩ | ⟨g, o, cur, e, hFg, hg, hs, hm, ht⟩
  · have := h.1; have := h.2.1; omega
  · have := h.1; have := h.2.1; omega
theorem MidU.tail {x : Nat} (h : MidU w F A n c (x :: l)) : MidU w F (if c = 1 then A else A.map (·.add 1)) (n - 1) (c - 1) l := by
  obtain ⟨h1, h2, h3⟩ := h
  simp only [List.length_cons] at h1
  refine ⟨by omega, by omega, ?_⟩
  rcases h3 with ⟨rfl, h4⟩ | ⟨g, o, cur, rfl, hF, hg, hs, hm, ht⟩
  · exact .inl ⟨by simp, by omega⟩
  · have hl : (cur.toList.drop (o + 1)).take (n - 1) = ucells l := by
      have := congrArg (List.drop 1) ht
      rw [List.drop_take, List.drop_drop] at this
      rw [this]
      rfl
    by_cases hc : c = 1
    · rw [if_pos hc]
      have hn0 : n - 1 = 0 := by omega
      have hl0 : l = [] := List.eq_nil_of_length_eq_zero (by omega)
      exact .inr ⟨g, o, cur, rfl, hF, hg, by omega, hm, by rw [hn0, hl0]; rfl⟩
    · rw [if_neg hc]
      exact .inr ⟨g, o + 1, cur, by simp [add_row], hF, hg, by omega, hm, hl⟩
end
theorem sizeU32 : (Try.prog.info? 27).map (·.size) = some 1 := by kernel_rfl
theorem infoU32b : (Try.prog.info? 27).map (fun i => (i.zero, i.size, i.bytes)) = some (some (.int .u32 0), 1, 4) := by kernel_rfl
theorem zeroU_size (m : Nat) : (Builtin.zeroCells (Value.int .u32 0).cells m).size = m := by simp [Builtin.zeroCells, Value.cells]
/-- Capacities that a slice of numbers may have here. -/
theorem own_fit {base : Nat} {w : World} {g G n : Nat} {cur : Array Value} {l : List Nat} (hg : w.heap[g]? = some (.cells cur 27 (0, 0))) (hs : cur.size = G) (hn : n ≤ G) (hG : G ≤ maxLen) (hl : l.length = n) (ht : cur.toList.take n = ucells l) {F : Nat → Prop} (hF : F g) :
    MidU w F (some ⟨g, 0, none⟩) n G l := ⟨hl, hn, .inr ⟨g, 0, cur, rfl, hF, hg, by omega, by omega, by rw [List.drop_zero]; exact ht⟩⟩
theorem kept_row {w : World} {F : Nat → Prop} (g : Nat) (hF : F g) (cur : Array Value) : Kept F w (w.setRow g cur) :=
  Kept.of_grown (grown_setRow w g cur) (fun k e => by cases e; exact hF)
section
variable {P : Program}
theorem run_append_room_o (w : World) (t ty e : TypeId) (i : TypeInfo) (ht : P.underlying t = some (.slice e)) (hi : P.info? e = some i) (hsz : i.size = 1)
    (g o sLen sCap : Nat) (cur : Array Value) (hg : w.heap[g]? = some (.cells cur e (0, 0)))
    (a : Addr) (m c : Nat) (news : List Value) (hl : news.length = m) (hnews : ∀ j u, news[j]? = some u → w.cell? (a.add j) = some u) (h1 : ∀ u ∈ news, u.oneCell' = true)
    (hroom : sLen + m ≤ sCap) (hfit : o + sLen + news.length ≤ cur.size) :
    (Builtin.append_ #[t, t] ty #[.slice (some ⟨g, o, none⟩) sLen sCap, .slice (some a) m c]).run P w =
      .ok (.slice (some ⟨g, o, none⟩) (sLen + m) sCap) (w.setRow g (seg cur.toList (o + sLen) news).toArray) := by
  have hf := run_firstCells_some (P := P) w i.size m a m c news (by rw [hsz, hl, Nat.mul_one]) hnews
  have hst := run_storeCells_at P g (o + sLen) e news 0 cur w hg (by simpa using hfit) h1
  simp only [Nat.add_zero] at hst
  rw [hsz] at hf
  simp [Builtin.append_, run_underlying ht, sizeOf, typeInfo, hi, Builtin.lenOf, hroom, hf, hsz, add_row, hst, seg]
end
/-- 'append(s, x)', s wherever it lies in its owner's blocks. -/
theorem run_append_mid (w : World) {F : Nat → Prop} {A : Option Addr} {n c : Nat} {l : List Nat} (x vb ty : Nat) (h : MidU w F A n c l) (hn : n ≤ 4398046511104) (hv : Blk w vb 27 #[.int .u32 x]) :
    ∃ A' c' w', (Builtin.append_ #[28, 28] ty #[.slice A n c, .slice (some ⟨vb, 0, none⟩) 1 1]).run Try.prog w = .ok (.slice A' (n + 1) c') w' ∧ MidU w' (GrowF F w w') A' (n + 1) c' (l ++ [x]) ∧ Kept F w w' := by
  obtain ⟨i0, hi0, hz0, hz1, hz2⟩ := info_parts infoU32b
  obtain ⟨hl, hnc, h3⟩ := h
  have hnews : ∀ j u, [Value.int .u32 (x : Int)][j]? = some u → w.cell? ((⟨vb, 0, none⟩ : Addr).add j) = some u := fun j u hu => by
    rw [add_row, Nat.zero_add, hv.cell]
    simpa using hu
  have h1 : ∀ u ∈ [Value.int .u32 (x : Int)], u.oneCell' = true := by simp [Value.oneCell']
  have hxc : ucells (l ++ [x]) = ucells l ++ [Value.int .u32 (x : Int)] := by rw [ucells_append]; rfl
  have grow : ∀ (olds : List Value), olds = ucells l → c < n + 1 → (Builtin.firstCells i0.size n (.slice A n c)).run Try.prog w.drew = .ok olds.toArray w.drew →
      (Builtin.append_ #[28, 28] ty #[.slice A n c, .slice (some ⟨vb, 0, none⟩) 1 1]).run Try.prog w = .ok (.slice (some ⟨w.heap.size, 0, none⟩) (n + 1) (grownCap w (n + 1) c 27)) (w.drew.alloc (.cells ((ucells l).toArray ++ #[Value.int .u32 (x : Int)] ++ Builtin.zeroCells (Value.int .u32 0).cells (grownCap w (n + 1) c 27 - (n + 1))) 27)) := fun olds ho hc hold => by
    subst ho
    have hw1 : ¬ (n + 1 ≤ c) := by omega
    have h63' : ¬ (9223372036854775807 < ((n : Int) + 1)) := by omega
    have h48' : ¬ (281474976710656 < Builtin.nextslicecap (n + 1) c * i0.bytes) := by rw [hz2]; have := growslice_fits (bytes := 4) (show c < n + 1 by omega) (by omega); omega
    have hf := run_firstCells_some (P := Try.prog) w.drew i0.size 1 ⟨vb, 0, none⟩ 1 1 [Value.int .u32 (x : Int)] (by rw [hz1]; rfl) (fun j u hu => hnews j u hu)
    simp [Builtin.append_, run_underlying Try.underlying28, sizeOf, typeInfo, zeroValue, hi0, hz0, Builtin.lenOf, hw1, h63', h48', Question.forced, hold, hf, newRow, grownCap]
  have fin : ∀ G, n + 1 ≤ G → G ≤ maxLen → MidU (w.drew.alloc (.cells ((ucells l).toArray ++ #[Value.int .u32 (x : Int)] ++ Builtin.zeroCells (Value.int .u32 0).cells (G - (n + 1))) 27)) (GrowF F w (w.drew.alloc (.cells ((ucells l).toArray ++ #[Value.int .u32 (x : Int)] ++ Builtin.zeroCells (Value.int .u32 0).cells (G - (n + 1))) 27))) (some ⟨w.heap.size, 0, none⟩) (n + 1) G (l ++ [x]) := fun G hG hG2 => by
    refine own_fit (base := 0) (heap_alloc_new w.drew _) ?_ hG hG2 (by simp [hl]) ?_ (.inr ⟨Nat.le_refl _, by simp [World.alloc]⟩)
    · rw [Array.size_append, Array.size_append, zeroU_size]
      simp [ucells_length, hl]
      omega
    · simp only [Array.toList_append, List.toList_toArray]
      rw [List.take_append_of_le_length (by simp [ucells_length, hl]), List.take_of_length_le (by simp [ucells_length, hl]), hxc]
  have kp : ∀ o, Kept F w (w.drew.alloc o) := fun o => ((Kept.refl F w).drew).alloc o
  rcases h3 with ⟨rfl, rfl⟩ | ⟨g, o, cur, rfl, hF, hg, hs, hm, ht⟩
  · obtain rfl : n = 0 := by omega
    obtain rfl : l = [] := List.eq_nil_of_length_eq_zero hl
    refine ⟨_, _, _, grow [] rfl (by omega) (by simp [Builtin.firstCells]), fin _ (grownCap_ge w _ _ _) (grownCap_le_maxLen w _ _ _ (by unfold maxLen; omega)), kp _⟩
  · rcases Nat.lt_or_ge n c with hc | hc
    · obtain ⟨C, hC⟩ : ∃ C : Array Value, C = (seg cur.toList (o + n) [Value.int .u32 (x : Int)]).toArray := ⟨_, rfl⟩
      have hr := run_append_room_o (P := Try.prog) w 28 ty 27 i0 Try.underlying28 hi0 hz1 g o n c cur hg ⟨vb, 0, none⟩ 1 1 [Value.int .u32 (x : Int)] rfl hnews h1 (by omega) (by simp; omega)
      rw [← hC] at hr
      have hCs : C.size = cur.size := by rw [hC]; simp only [List.size_toArray]; rw [seg_length (by simp; omega), Array.length_toList]
      refine ⟨_, _, _, hr, ⟨by simp [hl], by omega, .inr ⟨g, o, C, rfl, .inl hF, setRow_heap w g _ _ _ _ hg, by omega, by omega, ?_⟩⟩, kept_row g hF C⟩
      rw [hC, List.toList_toArray]
      have hins := mid_insert (C := cur.toList) (i := n) (.int .u32 (x : Int)) ht (by rw [ucells_length, hl]) (Nat.le_refl _) (by rw [Array.length_toList]; omega)
      have e1 : (ucells l).drop n = [] := List.drop_of_length_le (by rw [ucells_length, hl]; exact Nat.le_refl _)
      have e2 : (ucells l).take n = ucells l := List.take_of_length_le (by rw [ucells_length, hl]; exact Nat.le_refl _)
      rw [e1, e2] at hins
      rw [seg_nil] at hins
      rw [hxc, ← hins]
    · obtain rfl : c = n := by omega
      refine ⟨_, _, _, grow (ucells l) rfl (by omega) ?_, fin _ (grownCap_ge w _ _ _) (grownCap_le_maxLen w _ _ _ (by unfold maxLen; omega)), kp _⟩
      refine run_firstCells_some w.drew i0.size c ⟨g, o, none⟩ c c (ucells l) (by rw [hz1, ucells_length, hl, Nat.mul_one]) (fun j u hj => ?_)
      rw [add_row, (show Blk w.drew g _ _ from hg).cell]
      have hjl : j < c := by
        rcases Nat.lt_or_ge j c with h3 | h3
        · exact h3
        · rw [List.getElem?_eq_none (by rw [ucells_length, hl]; exact h3)] at hj; cases hj
      have := drop_take_at ht hjl
      rw [Array.getElem?_toList] at this
      rw [this, hj]
end Go.Proofs.Ytofbglgdmabafaa

