/-
  Contract of slices.Insert over buckets where there is no room, and at the end; then of slices.Insert altogether, and of catalog.Set and catalog.Del.
-/
import Derived.Test.YtgljmcameeeaiaaCatRow
import Derived.Test.YtgljmcameeeaiaaCatFind
namespace Go.Proofs.Ytgljmcameeeaiaa
open Go.RowKit
open Go.Lib hiding intOf
set_option linter.unusedVariables false
set_option linter.unusedSimpArgs false
attribute [local go_sem ↓] Go.wp_at_zero Go.wp_at_succ

set_option maxRecDepth 100000 in
set_option maxHeartbeats 3200000 in
theorem sins_grow (g n i : Nat) (cur : Array Value) (l : List Bk) (b : Bk) (vb : Nat) (w : World) (hg : Blk w g 33 cur) (hs : cur.size = n * 3) (ht : cur.toList.take (n * 3) = bkc l) (hn : n + 1 ≤ 4398046511104) (hi : i < n)
    (hv : Blk w vb 33 b.cells.toArray) :
    Calls Try.prog 39 #[.slice (some ⟨g, 0, none⟩) n n, .int .i64 i, .slice (some ⟨vb, 0, none⟩) 1 1] w fun e w' => ∃ (G : Nat) (cur' : Array Value), e = .returned (.slice (some ⟨w.heap.size, 0, none⟩) (n + 1) G) ∧ n + 1 ≤ G ∧ G ≤ maxLen ∧ Blk w' w.heap.size 33 cur' ∧ cur'.size = G * 3 ∧ cur'.toList.take ((n + 1) * 3) = bkc (l.take i ++ b :: l.drop i) ∧ w.grownBy w' none := by
  have hll : l.length = n := by
    have h1 := congrArg List.length ht
    rw [bkc_length, List.length_take, Array.length_toList, hs] at h1
    omega
  obtain ⟨i0, hi0, hz0, hz1, hz2⟩ := info_parts infoBk
  obtain ⟨N, hN⟩ : ∃ N, N = w.heap.size := ⟨_, rfl⟩
  have hgN : ¬ g = N := by have := hg.lt; omega
  have hvN : ¬ vb = N := by have := hv.lt; omega
  obtain ⟨G, hG⟩ : ∃ G, G = grownCap w (n + 1) n 33 := ⟨_, rfl⟩
  have hG1 : n + 1 ≤ G := by rw [hG]; exact grownCap_ge w _ _ _
  have hG2 : G ≤ maxLen := by rw [hG]; exact grownCap_le_maxLen w _ _ _ (by unfold maxLen; omega)
  obtain ⟨ROW, hROW⟩ : ∃ ROW : Array Value, ROW = (bkc (l.take i)).toArray ++ Builtin.zeroCells (Value.agg #[.string ByteArray.empty, .int .u32 0, .int .i64 0]).cells (n + 1 - i) ++ Builtin.zeroCells (Value.agg #[.string ByteArray.empty, .int .u32 0, .int .i64 0]).cells (G - (n + 1)) := ⟨_, rfl⟩
  have hzc : ∀ m, (Builtin.zeroCells (Value.agg #[.string ByteArray.empty, .int .u32 0, .int .i64 0]).cells m).size = m * 3 := fun m => by
    rw [Builtin.zeroCells, Array.size_map, Array.size_range]; rfl
  have hRs : ROW.size = G * 3 := by
    rw [hROW, Array.size_append, Array.size_append, hzc, hzc, List.size_toArray, bkc_length, List.length_take, hll]
    omega
  have hRt : ROW.toList.take (i * 3) = bkc (l.take i) := by
    have hbl : (bkc (l.take i)).length = i * 3 := by rw [bkc_length, List.length_take, hll, Nat.min_eq_left (by omega)]
    rw [hROW]
    simp only [Array.toList_append, List.toList_toArray]
    rw [List.append_assoc, List.take_append_of_le_length (by omega), List.take_of_length_le (by omega)]
  have hold : (Builtin.firstCells i0.size i (.slice (some ⟨g, 0, none⟩) i n)).run Try.prog w.drew = .ok (bkc (l.take i)).toArray w.drew := by
    rw [hz1]
    refine run_firstCells_some w.drew 3 i ⟨g, 0, none⟩ i n (bkc (l.take i)) (by rw [bkc_length, List.length_take, hll]; omega) (fun j v hj => ?_)
    rw [add_row, (show Blk w.drew g _ _ from hg).cell, Nat.zero_add]
    rw [← bkc_take, ← ht, List.getElem?_take] at hj
    split at hj
    · rw [List.getElem?_take] at hj
      split at hj
      · rwa [Array.getElem?_toList] at hj
      · cases hj
    · cases hj
  have hkk : ((n : Int) + 1 - (i : Int)) = ((n + 1 - i : Nat) : Int) := by omega
  have hik : i + (n + 1 - i) = n + 1 := by omega
  obtain ⟨w1, hw1⟩ : ∃ x, x = w.drew.alloc (.cells ROW 33) := ⟨_, rfl⟩
  have hrz : ∀ ty, (Builtin.append_ #[30, 3] ty #[.slice (some ⟨g, 0, none⟩) i n, .int .i64 ((n : Int) + 1 - (i : Int))]).run Try.prog w = .ok (.slice (some ⟨N, 0, none⟩) (n + 1) G) w1 := fun ty => by
    have h := Lib.run_append_grow_zeros w 30 3 ty 33 i0 _ .i64 .i64 Try.underlying30 Try.underlying3 hi0 hz0 (some ⟨g, 0, none⟩) i n (bkc (l.take i)) hold (n + 1 - i) (by omega) (by omega) (by omega) (by omega) (by rw [hz2]; omega) (by rw [hz2, hik]; exact growslice_fits (by omega) (by omega))
    rw [hik, ← hG, ← hROW, ← hw1, ← hN] at h
    rw [hkk]
    exact h
  have B1 : Blk w1 N 33 ROW := by rw [hw1, hN]; exact Blk.new w.drew _ _
  have g1 : Blk w1 g 33 cur := by rw [hw1]; exact hg.drew.alloc _
  have v1 : Blk w1 vb 33 b.cells.toArray := by rw [hw1]; exact hv.drew.alloc _
  have G1 : w.grownBy w1 none := by rw [hw1]; exact grown_trans (grown_drew w _) (World.grownBy_alloc _ _ _)
  obtain ⟨cur1, hcur1⟩ : ∃ x, x = (seg ROW.toList (i * 3) b.cells).toArray := ⟨_, rfl⟩
  have hs1 : cur1.size = G * 3 := by rw [hcur1]; simp only [List.size_toArray]; rw [seg_length (by show i * 3 + 3 ≤ _; rw [Array.length_toList, hRs]; omega), Array.length_toList, hRs]
  obtain ⟨cur2, hcur2⟩ : ∃ x, x = (seg cur1.toList ((i + 1) * 3) (bkc (l.drop i))).toArray := ⟨_, rfl⟩
  have hdl : (bkc (l.drop i)).length = (n - i) * 3 := by rw [bkc_length, List.length_drop, hll]
  have hs2 : cur2.size = G * 3 := by rw [hcur2]; simp only [List.size_toArray]; rw [seg_length (by rw [hdl, Array.length_toList, hs1]; omega), Array.length_toList, hs1]
  have ht2 : cur2.toList.take ((n + 1) * 3) = bkc (l.take i ++ b :: l.drop i) := by
    rw [hcur2, hcur1]
    exact ins_take2 hRt hll (by omega) (by rw [Array.length_toList, hRs]; omega) b
  obtain ⟨X, hX, hsx⟩ := slice_tail (some ⟨N, 0, none⟩) (n + 1) G (i + 1) ((i : Int) + 1) (by omega) (by omega)
  obtain ⟨Y, hY, hsy⟩ := slice_tail (some ⟨N, 0, none⟩) (n + 1) G i i rfl (by omega)
  obtain ⟨Z, hZ, hsz⟩ := slice_tail (some ⟨g, 0, none⟩) n n i i rfl (by omega)
  rw [if_neg (by omega)] at hX hY hZ
  rw [show n + 1 - (i + 1) = n - i by omega] at hsx
  have hX' : X = some ⟨N, (i + 1) * 3, none⟩ := by rw [hX]; simp [add_row]
  have hY' : Y = some ⟨N, i * 3, none⟩ := by rw [hY]; simp [add_row]
  have hZ' : Z = some ⟨g, i * 3, none⟩ := by rw [hZ]; simp [add_row]
  clear hX hY hZ
  subst hX'
  subst hY'
  subst hZ'
  have hcp1 : ∀ ty, (Builtin.copy_ #[30, 30] ty #[.slice (some ⟨N, i * 3, none⟩) (n + 1 - i) (G - i), .slice (some ⟨vb, 0, none⟩) 1 1]).run Try.prog w1 = .ok (goInt ((1 : Nat) : Int)) (w1.setRow N cur1) := fun ty => by
    rw [run_copy_rowk w1 _ _ ty 33 N _ _ _ ⟨vb, 0, none⟩ 1 1 3 1 ROW 33 b.cells Try.underlying30 sizeBk B1 (by simp only [Nat.min_def]; split <;> omega) rfl (src_row v1 (fun j u hu => by simpa using hu)) (by show i * 3 + 3 ≤ _; rw [hRs]; omega) (bk_one b), ← hcur1]
  obtain ⟨w2, hw2⟩ : ∃ x, x = w1.setRow N cur1 := ⟨_, rfl⟩
  rw [← hw2] at hcp1
  have B2 : Blk w2 N 33 cur1 := by rw [hw2]; exact setRow_heap w1 N _ _ _ _ B1
  have g2 : Blk w2 g 33 cur := by rw [hw2]; exact (setRow_other w1 N g cur1 hgN).trans g1
  have hgN2 : ∀ k, k < w.heap.size → some k ≠ some N := fun k hk h => by injection h; omega
  have G2 : w.grownBy w2 none := by
    rw [hw2]
    have h := grown_setRow w1 N cur1
    exact ⟨h.os.trans G1.os, h.tape.trans G1.tape, h.output.trans G1.output, Nat.le_trans G1.size h.size, fun k hk _ => (h.block k (Nat.lt_of_lt_of_le hk G1.size) (hgN2 k hk)).trans (G1.block k hk (by simp))⟩
  have hcp2 : ∀ (W : World) ty, Blk W N 33 cur1 → Blk W g 33 cur → (Builtin.copy_ #[30, 30] ty #[.slice (some ⟨N, (i + 1) * 3, none⟩) (n - i) (G - (i + 1)), .slice (some ⟨g, i * 3, none⟩) (n - i) (n - i)]).run Try.prog W = .ok (goInt ((n - i : Nat) : Int)) (W.setRow N cur2) := fun W ty hW hgW => by
    rw [run_copy_rowk W _ _ ty 33 N _ _ _ ⟨g, i * 3, none⟩ (n - i) (n - i) 3 (n - i) cur1 33 (bkc (l.drop i)) Try.underlying30 sizeBk hW (Nat.min_self _) hdl (src_row hgW (fun j u hu => by
      rw [← bkc_drop, List.getElem?_drop, ← ht, List.getElem?_take] at hu
      split at hu
      · rwa [Array.getElem?_toList] at hu
      · cases hu)) (by rw [hdl, hs1]; omega) (bkc_one _), ← hcur2]
  have hwi : IntKind.i64.wrap ((i : Int) + 1) = (i : Int) + 1 := by rw [IntKind.wrap_i64]; omega
  have hwn : IntKind.i64.wrap ((n : Int) + 1) = (n : Int) + 1 := by rw [IntKind.wrap_i64]; omega
  have hwd : IntKind.i64.wrap ((n : Int) + 1 - (i : Int)) = (n : Int) + 1 - (i : Int) := by rw [IntKind.wrap_i64]; omega
  have hie : ¬ ((i : Int) = (n : Int)) := by omega
  have hk1 : (i : Int) ≤ n := by omega
  have hk0 : (0 : Int) ≤ i := by omega
  have hk2 : (n : Int) < (n : Int) + 1 := by omega
  have F := Lib.hid (And.intro hG1 (And.intro hG2 (And.intro hs2 ht2)))
  rw [← hN]
  have HB := Lib.hid B2
  have HN := Lib.hid hN
  have HG := Lib.hid g2
  have HW := Lib.hid G2
  clear hkk hik hold hROW hG hRs hRt hzc hs hg hv hs1 hs2 ht2 hdl hcur1 hcur2 hw1 hw2 B1 B2 g1 g2 v1 G1 G2 hll ht hgN2 hN
  go_enter Try.func39, Try.ntmps39
  go_wp2_with (at_builtin; refine Lib.wpList_append_run _ rfl _ _ _ _ rfl _ _ rfl rfl _ _ (hrz _) ?_)
  go_region_law (refine step_copy_runk (by rfl) _ _ _ _ (by rfl) _ _ (by simp [Act.eval, Act.put]) (by simp [Act.eval, Act.put]) (hcp2 _ _ HB.out.drew HG.out.drew) ?_)
  have B3 := Lib.hid (show Blk (w2.drew.setRow N cur2) N 33 cur2 from setRow_heap w2.drew N _ _ _ _ HB.out)
  have G3 := Lib.hid (show w.grownBy (w2.drew.setRow N cur2) none from by
    have h := grown_setRow w2.drew N cur2
    have hN := HN.out
    exact ⟨h.os.trans HW.out.os, h.tape.trans HW.out.tape, h.output.trans HW.out.output, Nat.le_trans HW.out.size h.size, fun k hk _ => (h.block k (Nat.lt_of_lt_of_le hk HW.out.size) (fun h => by injection h; omega)).trans (HW.out.block k hk (by simp))⟩)
  generalize w2.drew.setRow N cur2 = w3 at *
  clear hcp2 hrz hcp1
  go_wp2
  go_ret
  exact ⟨G, cur2, rfl, F.out.1, F.out.2.1, B3.out, F.out.2.2.1, F.out.2.2.2, G3.out⟩
theorem sins_any (base : Nat) (v : Value) (n i : Nat) (l : List Bk) (b : Bk) (vb : Nat) (w : World) (hown : w.ownsRow base 33 3 v n (bkc l)) (hv : Blk w vb 33 b.cells.toArray) (hne : v.ownBlock ≠ some vb) (hi : i ≤ n) (hn : n + 1 ≤ 4398046511104) (hbase : base ≤ w.heap.size) :
    Calls Try.prog 39 #[v, .int .i64 i, .slice (some ⟨vb, 0, none⟩) 1 1] w fun e w' => ∃ v', e = .returned v' ∧ w'.ownsRow base 33 3 v' (n + 1) (bkc (l.take i ++ b :: l.drop i)) ∧ w.grownBy w' v.ownBlock := by
  have hll : l.length = n := by
    have := hown.1
    rw [bkc_length] at this
    omega
  rcases Nat.lt_or_ge i n with hlt | hge
  · rcases hown.2 with ⟨_, h0⟩ | ⟨g, c, cur, rfl, hb, hblk, hnc, hcm, hs, ht⟩
    · omega
    · have hvg : ¬ vb = g := fun h => hne (by simp [Value.ownBlock, h])
      rcases Nat.lt_or_ge n c with hc | hc
      · refine (sins_room g n c i cur l b vb w hblk hs ht hc hcm hlt hv hvg).mono ?_
        rintro e w' ⟨cur', rfl, hB, hs', ht', hg⟩
        exact ⟨_, rfl, ⟨by rw [bkc_length]; simp only [List.length_append, List.length_take, List.length_cons, List.length_drop]; omega, .inr ⟨g, c, cur', rfl, hb, hB, hc, hcm, hs', ht'⟩⟩, hg⟩
      · obtain rfl : c = n := by omega
        refine (sins_grow g c i cur l b vb w hblk hs ht hn hlt hv).mono ?_
        rintro e w' ⟨G, cur', rfl, hG1, hG2, hB, hs', ht', hg⟩
        exact ⟨_, rfl, ⟨by rw [bkc_length]; simp only [List.length_append, List.length_take, List.length_cons, List.length_drop]; omega, .inr ⟨_, G, cur', rfl, hbase, hB, hG1, hG2, hs', ht'⟩⟩, ⟨hg.os, hg.tape, hg.output, hg.size, fun k hk _ => hg.block k hk (by simp)⟩⟩
  · obtain rfl : i = n := by omega
    obtain ⟨i0, hi0, hz0, hz1, hz2⟩ := info_parts infoBk
    obtain ⟨A, c, rfl, hc, hcm, _⟩ := own_form hown
    obtain ⟨X, hX, hsl⟩ := slice_tail A i c i i rfl (Nat.le_refl _)
    have hr : Reads w (vb + 1) 3 (some ⟨vb, 0, none⟩) 1 b.cells := reads_own (n := 1) hv rfl
    have HO := Lib.hid hown
    have HR := Lib.hid hr
    have e : l.take i ++ b :: l.drop i = l ++ [b] := by rw [List.take_of_length_le (by omega), List.drop_of_length_le (by omega)]
    rw [e]
    clear hX hown hr hv e hll hge hi
    go_enter Try.func39, Try.ntmps39
    go_wp2_with (at_builtin; refine wpList_append_any _ rfl (.tmp 23) (.tmp 24) _ rfl base 33 i0 _ 3 32 Try.underlying30 hi0 hz0 hz1 hz2 rfl (by omega) _ i _ rfl HO.out (vb + 1) (some ⟨vb, 0, none⟩) 1 1 b.cells rfl HR.out (bk_one b) (by unfold maxLen; omega) (by omega) hbase ?_; intro v2 w2 hown2 hg2 hat2)
    go_ret
    rw [bkc_snoc] at hown2
    exact ⟨v2, rfl, hown2, hg2⟩
end Go.Proofs.Ytgljmcameeeaiaa
