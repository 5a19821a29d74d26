/-
  Contract of slices.Insert of one number into numbers that lie somewhere in a block of their owner's. Each with its conditions in its own statement.
-/
import Derived.Test.YtofbglgdmabafaaJ15
import Derived.Deep.DrawnRows
namespace Go.Proofs.Ytofbglgdmabafaa
open Go.RowKit
open Go.Lib hiding intOf
set_option linter.unusedVariables false
set_option linter.unusedSimpArgs false
attribute [local go_sem ↓] Go.wp_at_zero Go.wp_at_succ

theorem uslice_tail (A : Option Addr) (n c k : Nat) (z : Int) (hz : z = k) (hk : k ≤ n) : ∃ X, X = (if c = k then A else A.map (·.add k)) ∧ ∀ w : World, (Instr.sliceAt 28 (.slice A n c) (some (.int .i64 z)) none none).run Try.prog w = .ok (.slice X (n - k) (c - k)) w := usliced A n c k z hz hk
theorem shapeU {w : World} {g : Nat} {cs : Array Value} (h : Blk w g 27 cs) : w.shape? g = some (27, cs.size) := by
  unfold Blk at h
  simp [World.shape?, h]
theorem srcU {w : World} {g : Nat} {cur : Array Value} {o : Nat} {news : List Value} (h : Blk w g 27 cur) (hn : ∀ j u, news[j]? = some u → cur[o + j]? = some u) : ∀ j u, news[j]? = some u → w.cell? ((⟨g, o, none⟩ : Addr).add j) = some u := fun j u hu => by
  rw [add_row, h.cell]
  exact hn j u hu
set_option maxRecDepth 100000 in
set_option maxHeartbeats 3200000 in
theorem uins_room (g o n c i x : Nat) (cur : Array Value) (l : List Nat) (vb : Nat) (w : World) (hg : Blk w g 27 cur) (hs : o + c ≤ cur.size) (hcm : cur.size ≤ maxLen) (ht : (cur.toList.drop o).take n = ucells l) (hll : l.length = n) (hn : n + 1 ≤ c) (hi : i < n)
    (hv : Blk w vb 27 #[.int .u32 x]) (hne : ¬ vb = g) :
    Calls Try.prog 38 #[.slice (some ⟨g, o, none⟩) n c, .int .i64 i, .slice (some ⟨vb, 0, none⟩) 1 1] w fun e w' => ∃ cur' : Array Value, e = .returned (.slice (some ⟨g, o, none⟩) (n + 1) c) ∧ Blk w' g 27 cur' ∧ cur'.size = cur.size ∧ (cur'.toList.drop o).take (n + 1) = ucells (l.take i ++ x :: l.drop i) ∧ w.grownBy w' (some g) := by
  obtain ⟨X, hX, hsl⟩ := uslice_tail (some ⟨g, o, none⟩) (n + 1) c (i + 1) ((i : Int) + 1) (by omega) (by omega)
  obtain ⟨Y, hY, hsy⟩ := uslice_tail (some ⟨g, o, none⟩) (n + 1) c i i rfl (by omega)
  obtain ⟨Z, hZ, hsz⟩ := uslice_tail (some ⟨g, o, none⟩) n c i i rfl (by omega)
  have hX' : X = if c = i + 1 then some ⟨g, o, none⟩ else some ⟨g, o + (i + 1), none⟩ := by rw [hX]; simp [add_row]
  have hY' : Y = some ⟨g, o + i, none⟩ := by rw [hY, if_neg (by omega)]; simp [add_row]
  have hZ' : Z = some ⟨g, o + i, none⟩ := by rw [hZ, if_neg (by omega)]; simp [add_row]
  have hX2 : X = some ⟨g, o + (i + 1), none⟩ := by rw [hX', if_neg (by omega)]
  clear hX hY hZ hX'
  subst hX2
  subst hY'
  subst hZ'
  rw [show n + 1 - (i + 1) = n - i by omega] at hsl
  obtain ⟨news, hnews⟩ : ∃ x, x = (ucells l).drop i := ⟨_, rfl⟩
  have hnl : news.length = n - i := by rw [hnews, List.length_drop, ucells_length, hll]
  have hn1 : ∀ u ∈ news, u.oneCell' = true := by rw [hnews]; exact fun u hu => ucells_one l u (List.mem_of_mem_drop hu)
  have hnc : ∀ j u, news[j]? = some u → cur[o + i + j]? = some u := fun j u hu => by
    have hj : i + j < n := by
      rcases Nat.lt_or_ge (i + j) n with h | h
      · exact h
      · rw [List.getElem?_eq_none (by rw [hnl]; omega)] at hu; cases hu
    have := drop_take_at ht hj
    rw [Array.getElem?_toList] at this
    rw [hnews, List.getElem?_drop] at hu
    rw [Nat.add_assoc, this, hu]
  obtain ⟨cur1, hcur1⟩ : ∃ x, x = (seg cur.toList (o + (i + 1)) news).toArray := ⟨_, rfl⟩
  have hs1 : cur1.size = cur.size := by rw [hcur1]; simp only [List.size_toArray]; rw [seg_length (by rw [hnl, Array.length_toList]; omega), Array.length_toList]
  obtain ⟨cur2, hcur2⟩ : ∃ y, y = (seg cur1.toList (o + i) [Value.int .u32 (x : Int)]).toArray := ⟨_, rfl⟩
  have hs2 : cur2.size = cur.size := by rw [hcur2]; simp only [List.size_toArray]; rw [seg_length (by simp; omega), Array.length_toList, hs1]
  have ht2 : (cur2.toList.drop o).take (n + 1) = ucells (l.take i ++ x :: l.drop i) := by
    rw [hcur2, hcur1, hnews]
    simp only [List.toList_toArray]
    rw [mid_insert (.int .u32 (x : Int)) ht (by rw [ucells_length, hll]) (by omega) (by rw [Array.length_toList]; omega)]
    simp [ucells]
  have hcp1 : ∀ (W : World) ty, Blk W g 27 cur → (Builtin.copy_ #[28, 28] ty #[.slice (some ⟨g, o + (i + 1), none⟩) (n - i) (c - (i + 1)), .slice (some ⟨g, o + i, none⟩) (n + 1 - i) (c - i)]).run Try.prog W = .ok (goInt ((n - i : Nat) : Int)) (W.setRow g cur1) := fun W ty hW => by
    rw [run_copy_rowk W _ _ ty 27 g _ _ _ ⟨g, o + i, none⟩ (n + 1 - i) (c - i) 1 (n - i) cur 27 news Try.underlying28 sizeU32 hW (by simp only [Nat.min_def]; split <;> omega) (by omega) (srcU hW hnc) (by rw [hnl]; omega) hn1, ← hcur1]
  have hcp2 : ∀ (W : World) ty, Blk W g 27 cur1 → Blk W vb 27 #[.int .u32 x] → (Builtin.copy_ #[28, 28] ty #[.slice (some ⟨g, o + i, none⟩) (n + 1 - i) (c - i), .slice (some ⟨vb, 0, none⟩) 1 1]).run Try.prog W = .ok (goInt ((1 : Nat) : Int)) (W.setRow g cur2) := fun W ty hW hV => by
    rw [run_copy_rowk W _ _ ty 27 g _ _ _ ⟨vb, 0, none⟩ 1 1 1 1 cur1 27 [Value.int .u32 (x : Int)] Try.underlying28 sizeU32 hW (by simp only [Nat.min_def]; split <;> omega) rfl (srcU hV (fun j u hu => by rw [Nat.zero_add]; simpa using hu)) (by rw [hs1]; simp; omega) (by simp [Value.oneCell']), ← hcur2]
  have hov : ∀ (W : World) lb cb, Blk W g 27 cur → Blk W vb 27 #[.int .u32 x] → 0 < lb → o + (i + 1) + lb ≤ cur.size → (callFunc 57 #[.slice (some ⟨vb, 0, none⟩) 1 1, .slice (some ⟨g, o + (i + 1), none⟩) lb cb]).run Try.prog W = .ok (.value (.bool false)) W := fun W lb cb hW hV h0 hl => by
    rw [run_callFunc_extern Try.func57 (by kernel_rfl) (by kernel_rfl) (by kernel_rfl) (e := Extern.SlicesOverlaps.overlaps #[28, 28] #[4]) (by kernel_rfl),
      Lib.run_overlaps_apart W 28 4 27 Try.underlying28 1 (fun w => by obtain ⟨i0, hi0, hz0, hz1, hz2⟩ := info_parts infoU32b; simp [sizeOf, typeInfo, hi0, hz1]) ⟨vb, 0, none⟩ ⟨g, o + (i + 1), none⟩ 1 1 lb cb hne 27 27 1 cur.size (shapeU hV) (shapeU hW) (by omega) (hV.frozen 0) (by first | exact hV.frozen 1 | exact hW.frozen _)]
    rfl
  have hcm' : c ≤ 9223372036854775807 := by unfold maxLen at hcm; omega
  have hw1 : IntKind.i64.wrap ((i : Int) + 1) = (i : Int) + 1 := by rw [IntKind.wrap_i64]; omega
  have hw2 : IntKind.i64.wrap ((n : Int) + 1) = (n : Int) + 1 := by rw [IntKind.wrap_i64]; omega
  have hie : ¬ ((i : Int) = (n : Int)) := by omega
  have hk1 : (i : Int) ≤ n := by omega
  have hk0 : (0 : Int) ≤ i := by omega
  have hk2 : ¬ ((c : Int) < (n : Int) + 1) := by omega
  have HG := Lib.hid hg
  have HV := Lib.hid hv
  have F := Lib.hid (And.intro hs2 ht2)
  have hov1 := fun cb => hov w (n - i) cb hg hv (by omega) (by omega)
  clear hs ht hnews hnl hcur1 hs1 hcur2 hs2 ht2 hll hg hn1 hnc hov hv hcm
  go_enter Try.func38, Try.ntmps38
  go_wp2_with (simp only [hov1])
  go_region_law (refine step_copy_runk (by rfl) _ _ _ _ (by rfl) _ _ (by simp [Act.eval, Act.put]) (by simp [Act.eval, Act.put]) (hcp1 _ _ HG.out.drew) ?_)
  have B1 := Lib.hid (show Blk (w.drew.setRow g cur1) g 27 cur1 from setRow_heap w.drew g _ _ _ _ HG.out)
  have V1 := Lib.hid (show Blk (w.drew.setRow g cur1) vb 27 #[.int .u32 x] from (setRow_other w.drew g vb cur1 hne).trans HV.out)
  have G1 := Lib.hid (show w.grownBy (w.drew.setRow g cur1) (some g) from grown_trans (grown_drew w _) (grown_setRow w.drew g cur1))
  generalize w.drew.setRow g cur1 = w1 at *
  have hc2 := fun ty => hcp2 w1 ty B1.out V1.out
  clear hcp1 hov1 hcp2
  go_wp2
  go_ret
  exact ⟨cur2, rfl, setRow_heap w1 g _ _ _ _ B1.out, F.out.1, F.out.2, grown_trans G1.out (grown_setRow w1 g cur2)⟩
set_option maxRecDepth 100000 in
set_option maxHeartbeats 3200000 in
theorem uins_grow (g o n i x : Nat) (cur : Array Value) (l : List Nat) (vb : Nat) (w : World) (hg : Blk w g 27 cur) (hs : o + n ≤ cur.size) (ht : (cur.toList.drop o).take n = ucells l) (hll : l.length = n) (hn : n + 1 ≤ 4398046511104) (hi : i < n)
    (hv : Blk w vb 27 #[.int .u32 x]) :
    Calls Try.prog 38 #[.slice (some ⟨g, o, none⟩) n n, .int .i64 i, .slice (some ⟨vb, 0, none⟩) 1 1] w fun e w' => ∃ (G : Nat) (cur' : Array Value), e = .returned (.slice (some ⟨w.heap.size, 0, none⟩) (n + 1) G) ∧ n + 1 ≤ G ∧ G ≤ maxLen ∧ Blk w' w.heap.size 27 cur' ∧ cur'.size = G ∧ cur'.toList.take (n + 1) = ucells (l.take i ++ x :: l.drop i) ∧ w.grownBy w' none := by
  obtain ⟨i0, hi0, hz0, hz1, hz2⟩ := info_parts infoU32b
  obtain ⟨N, hN⟩ : ∃ N, N = w.heap.size := ⟨_, rfl⟩
  have hgN : ¬ g = N := by have := hg.lt; omega
  have hvN : ¬ vb = N := by have := hv.lt; omega
  obtain ⟨G, hG⟩ : ∃ G, G = grownCap w (n + 1) n 27 := ⟨_, rfl⟩
  have hG1 : n + 1 ≤ G := by rw [hG]; exact grownCap_ge w _ _ _
  have hG2 : G ≤ maxLen := by rw [hG]; exact grownCap_le_maxLen w _ _ _ (by unfold maxLen; omega)
  obtain ⟨ROW, hROW⟩ : ∃ ROW : Array Value, ROW = (ucells (l.take i)).toArray ++ Builtin.zeroCells (Value.int .u32 0).cells (n + 1 - i) ++ Builtin.zeroCells (Value.int .u32 0).cells (G - (n + 1)) := ⟨_, rfl⟩
  have hRs : ROW.size = G := by
    rw [hROW, Array.size_append, Array.size_append, zeroU_size, zeroU_size, List.size_toArray, ucells_length, List.length_take, hll]
    omega
  have hRt : ROW.toList.take i = (ucells l).take i := by
    have hbl : (ucells (l.take i)).length = i := by rw [ucells_length, List.length_take, hll, Nat.min_eq_left (by omega)]
    rw [hROW]
    simp only [Array.toList_append, List.toList_toArray]
    rw [List.append_assoc, List.take_append_of_le_length (by omega), List.take_of_length_le (by omega)]
    simp [ucells, List.map_take]
  have hsrc : ∀ j u, (ucells l)[j]? = some u → cur[o + j]? = some u := fun j u hu => by
    have hj : j < n := by
      rcases Nat.lt_or_ge j n with h | h
      · exact h
      · rw [List.getElem?_eq_none (by rw [ucells_length, hll]; omega)] at hu; cases hu
    have := drop_take_at ht hj
    rw [Array.getElem?_toList] at this
    rw [this, hu]
  have hold : (Builtin.firstCells i0.size i (.slice (some ⟨g, o, none⟩) i n)).run Try.prog w.drew = .ok (ucells (l.take i)).toArray w.drew := by
    rw [hz1]
    refine run_firstCells_some w.drew 1 i ⟨g, o, none⟩ i n (ucells (l.take i)) (by rw [ucells_length, List.length_take, hll]; omega) (fun j v hj => ?_)
    rw [add_row, (show Blk w.drew g _ _ from hg).cell]
    refine hsrc j v ?_
    rw [show ucells (l.take i) = (ucells l).take i by simp [ucells, List.map_take], List.getElem?_take] at hj
    split at hj
    · exact hj
    · cases hj
  have hkk : ((n : Int) + 1 - (i : Int)) = ((n + 1 - i : Nat) : Int) := by omega
  have hik : i + (n + 1 - i) = n + 1 := by omega
  obtain ⟨w1, hw1⟩ : ∃ x, x = w.drew.alloc (.cells ROW 27) := ⟨_, rfl⟩
  have hrz : ∀ ty, (Builtin.append_ #[28, 3] ty #[.slice (some ⟨g, o, none⟩) i n, .int .i64 ((n : Int) + 1 - (i : Int))]).run Try.prog w = .ok (.slice (some ⟨N, 0, none⟩) (n + 1) G) w1 := fun ty => by
    have h := Lib.run_append_grow_zeros w 28 3 ty 27 i0 _ .i64 .i64 Try.underlying28 Try.underlying3 hi0 hz0 (some ⟨g, o, none⟩) i n (ucells (l.take i)) hold (n + 1 - i) (by omega) (by omega) (by omega) (by omega) (by rw [hz2]; omega) (by rw [hz2, hik]; exact growslice_fits (by omega) (by omega))
    rw [hik, ← hG, ← hROW, ← hw1, ← hN] at h
    rw [hkk]
    exact h
  have B1 : Blk w1 N 27 ROW := by rw [hw1, hN]; exact Blk.new w.drew _ _
  have g1 : Blk w1 g 27 cur := by rw [hw1]; exact hg.drew.alloc _
  have v1 : Blk w1 vb 27 #[.int .u32 x] := by rw [hw1]; exact hv.drew.alloc _
  have G1 : w.grownBy w1 none := by rw [hw1]; exact grown_trans (grown_drew w _) (World.grownBy_alloc _ _ _)
  obtain ⟨cur1, hcur1⟩ : ∃ y, y = (seg ROW.toList i [Value.int .u32 (x : Int)]).toArray := ⟨_, rfl⟩
  have hs1 : cur1.size = G := by rw [hcur1]; simp only [List.size_toArray]; rw [seg_length (by show i + 1 ≤ _; rw [Array.length_toList, hRs]; omega), Array.length_toList, hRs]
  obtain ⟨cur2, hcur2⟩ : ∃ x, x = (seg cur1.toList (i + 1) ((ucells l).drop i)).toArray := ⟨_, rfl⟩
  have hdl : ((ucells l).drop i).length = n - i := by rw [List.length_drop, ucells_length, hll]
  have hs2 : cur2.size = G := by rw [hcur2]; simp only [List.size_toArray]; rw [seg_length (by rw [hdl, Array.length_toList, hs1]; omega), Array.length_toList, hs1]
  have ht2 : cur2.toList.take (n + 1) = ucells (l.take i ++ x :: l.drop i) := by
    rw [hcur2, hcur1]
    simp only [List.toList_toArray]
    rw [mid_insert2 (.int .u32 (x : Int)) hRt (by rw [ucells_length, hll]) (by omega) (by rw [Array.length_toList, hRs]; omega)]
    simp [ucells]
  obtain ⟨X, hX, hsx⟩ := uslice_tail (some ⟨N, 0, none⟩) (n + 1) G (i + 1) ((i : Int) + 1) (by omega) (by omega)
  obtain ⟨Y, hY, hsy⟩ := uslice_tail (some ⟨N, 0, none⟩) (n + 1) G i i rfl (by omega)
  obtain ⟨Z, hZ, hsz⟩ := uslice_tail (some ⟨g, o, none⟩) n n i i rfl (by omega)
  rw [if_neg (by omega)] at hX hY hZ
  rw [show n + 1 - (i + 1) = n - i by omega] at hsx
  have hX' : X = some ⟨N, i + 1, none⟩ := by rw [hX]; simp [add_row]
  have hY' : Y = some ⟨N, i, none⟩ := by rw [hY]; simp [add_row]
  have hZ' : Z = some ⟨g, o + i, none⟩ := by rw [hZ]; simp [add_row]
  clear hX hY hZ
  subst hX'
  subst hY'
  subst hZ'
  have hcp1 : ∀ ty, (Builtin.copy_ #[28, 28] ty #[.slice (some ⟨N, i, none⟩) (n + 1 - i) (G - i), .slice (some ⟨vb, 0, none⟩) 1 1]).run Try.prog w1 = .ok (goInt ((1 : Nat) : Int)) (w1.setRow N cur1) := fun ty => by
    rw [run_copy_rowk w1 _ _ ty 27 N _ _ _ ⟨vb, 0, none⟩ 1 1 1 1 ROW 27 [Value.int .u32 (x : Int)] Try.underlying28 sizeU32 B1 (by simp only [Nat.min_def]; split <;> omega) rfl (srcU v1 (fun j u hu => by rw [Nat.zero_add]; simpa using hu)) (by show i + 1 ≤ _; rw [hRs]; omega) (by simp [Value.oneCell']), ← hcur1]
  obtain ⟨w2, hw2⟩ : ∃ x, x = w1.setRow N cur1 := ⟨_, rfl⟩
  rw [← hw2] at hcp1
  have B2 : Blk w2 N 27 cur1 := by rw [hw2]; exact setRow_heap w1 N _ _ _ _ B1
  have g2 : Blk w2 g 27 cur := by rw [hw2]; exact (setRow_other w1 N g cur1 hgN).trans g1
  have hgN2 : ∀ k, k < w.heap.size → some k ≠ some N := fun k hk h => by injection h; omega
  have G2 : w.grownBy w2 none := by
    rw [hw2]
    have h := grown_setRow w1 N cur1
    exact ⟨h.os.trans G1.os, h.tape.trans G1.tape, h.output.trans G1.output, Nat.le_trans G1.size h.size, fun k hk _ => (h.block k (Nat.lt_of_lt_of_le hk G1.size) (hgN2 k hk)).trans (G1.block k hk (by simp))⟩
  have hcp2 : ∀ (W : World) ty, Blk W N 27 cur1 → Blk W g 27 cur → (Builtin.copy_ #[28, 28] ty #[.slice (some ⟨N, i + 1, none⟩) (n - i) (G - (i + 1)), .slice (some ⟨g, o + i, none⟩) (n - i) (n - i)]).run Try.prog W = .ok (goInt ((n - i : Nat) : Int)) (W.setRow N cur2) := fun W ty hW hgW => by
    rw [run_copy_rowk W _ _ ty 27 N _ _ _ ⟨g, o + i, none⟩ (n - i) (n - i) 1 (n - i) cur1 27 ((ucells l).drop i) Try.underlying28 sizeU32 hW (Nat.min_self _) (by rw [hdl, Nat.mul_one]) (srcU hgW (fun j u hu => by
      rw [List.getElem?_drop] at hu
      rw [Nat.add_assoc]
      exact hsrc _ _ hu)) (by rw [hdl, hs1]; omega) (fun u hu => ucells_one l u (List.mem_of_mem_drop hu)), ← hcur2]
  have hwi : IntKind.i64.wrap ((i : Int) + 1) = (i : Int) + 1 := by rw [IntKind.wrap_i64]; omega
  have hwn : IntKind.i64.wrap ((n : Int) + 1) = (n : Int) + 1 := by rw [IntKind.wrap_i64]; omega
  have hwd : IntKind.i64.wrap ((n : Int) + 1 - (i : Int)) = (n : Int) + 1 - (i : Int) := by rw [IntKind.wrap_i64]; omega
  have hie : ¬ ((i : Int) = (n : Int)) := by omega
  have hk1 : (i : Int) ≤ n := by omega
  have hk0 : (0 : Int) ≤ i := by omega
  have hk2 : (n : Int) < (n : Int) + 1 := by omega
  have F := Lib.hid (And.intro hG1 (And.intro hG2 (And.intro hs2 ht2)))
  rw [← hN]
  have HB := Lib.hid B2
  have HN := Lib.hid hN
  have HG := Lib.hid g2
  have HW := Lib.hid G2
  clear hkk hik hold hROW hG hRs hRt hs hg hv hs1 hs2 ht2 hdl hcur1 hcur2 hw1 hw2 B1 B2 g1 g2 v1 G1 G2 hll ht hgN2 hN hsrc
  go_enter Try.func38, Try.ntmps38
  go_wp2_with (at_builtin; refine Lib.wpList_append_run _ rfl _ _ _ _ rfl _ _ rfl rfl _ _ (hrz _) ?_)
  go_region_law (refine step_copy_runk (by rfl) _ _ _ _ (by rfl) _ _ (by simp [Act.eval, Act.put]) (by simp [Act.eval, Act.put]) (hcp2 _ _ HB.out.drew HG.out.drew) ?_)
  have B3 := Lib.hid (show Blk (w2.drew.setRow N cur2) N 27 cur2 from setRow_heap w2.drew N _ _ _ _ HB.out)
  have G3 := Lib.hid (show w.grownBy (w2.drew.setRow N cur2) none from by
    have h := grown_setRow w2.drew N cur2
    have hN := HN.out
    exact ⟨h.os.trans HW.out.os, h.tape.trans HW.out.tape, h.output.trans HW.out.output, Nat.le_trans HW.out.size h.size, fun k hk _ => (h.block k (Nat.lt_of_lt_of_le hk HW.out.size) (fun h => by injection h; omega)).trans (HW.out.block k hk (by simp))⟩)
  generalize w2.drew.setRow N cur2 = w3 at *
  clear hcp2 hrz hcp1
  go_wp2
  go_ret
  exact ⟨G, cur2, rfl, F.out.1, F.out.2.1, B3.out, F.out.2.2.1, F.out.2.2.2, G3.out⟩
set_option maxRecDepth 100000 in
set_option maxHeartbeats 3200000 in
/-- slices.Insert of one number. -/
theorem uins_any {w : World} {F : Nat → Prop} {A : Option Addr} {n c : Nat} {l : List Nat} (i x vb : Nat) (h : MidU w F A n c l) (hn : n + 1 ≤ 4398046511104) (hi : i ≤ n) (hv : Blk w vb 27 #[.int .u32 x]) (hvF : ¬ F vb) :
    Calls Try.prog 38 #[.slice A n c, .int .i64 i, .slice (some ⟨vb, 0, none⟩) 1 1] w fun e w' => ∃ A' c', e = .returned (.slice A' (n + 1) c') ∧ MidU w' (GrowF F w w') A' (n + 1) c' (l.take i ++ x :: l.drop i) ∧ Kept F w w' := by
  have hlen : (l.take i ++ x :: l.drop i).length = n + 1 := by
    simp only [List.length_append, List.length_take, List.length_cons, List.length_drop, h.1]
    omega
  rcases Nat.lt_or_ge i n with hlt | hge
  · rcases h.2.2 with ⟨h1, h2⟩ | ⟨g, o, cur, rfl, hF, hg, hs, hm, ht⟩
    · have := h.2.1; omega
    · have hvg : ¬ vb = g := fun e => hvF (e ▸ hF)
      rcases Nat.lt_or_ge n c with hc | hc
      · refine (uins_room g o n c i x cur l vb w hg hs hm ht h.1 hc hlt hv hvg).mono ?_
        rintro e w' ⟨cur', rfl, hB, hs', ht', hgr⟩
        exact ⟨_, _, rfl, ⟨hlen, hc, .inr ⟨g, o, cur', rfl, .inl hF, hB, by omega, by omega, ht'⟩⟩, Kept.of_grown hgr (fun k e => by cases e; exact hF)⟩
      · have := h.2.1
        obtain rfl : c = n := by omega
        refine (uins_grow g o c i x cur l vb w hg hs ht h.1 hn hlt hv).mono ?_
        rintro e w' ⟨G, cur', rfl, hG1, hG2, hB, hs', ht', hgr⟩
        exact ⟨_, _, rfl, own_fit (base := 0) hB hs' hG1 hG2 hlen ht' (.inr ⟨Nat.le_refl _, hB.lt⟩), Kept.of_grown hgr (fun k e => by cases e)⟩
  · obtain rfl : i = n := by omega
    obtain ⟨A', c', w2, hr, hM, hK⟩ := run_append_mid w x vb 28 h (by omega) hv
    have e : l.take i ++ x :: l.drop i = l ++ [x] := by rw [List.take_of_length_le (by have := h.1; omega), List.drop_of_length_le (by have := h.1; omega)]
    rw [e]
    obtain ⟨X, hX, hsl⟩ := uslice_tail A i c i i rfl (Nat.le_refl _)
    have hcm : i ≤ 9223372036854775807 := by omega
    have HM := Lib.hid hM
    have HK := Lib.hid hK
    clear hX hM hK hv e hge hi h hlen hvF
    go_enter Try.func38, Try.ntmps38
    go_wp2_with (at_builtin; refine Lib.wpList_append_run _ rfl _ _ _ _ rfl _ _ rfl rfl _ _ hr ?_)
    go_ret
    exact ⟨A', c', rfl, HM.out, HK.out⟩
end Go.Proofs.Ytofbglgdmabafaa

