/-
  Contracts of slices.Clone, slices.Delete and slices.Insert over buckets.
-/
import Derived.Test.YtgljmcameeeaiaaRowK
import Derived.Test.YtgljmcameeeaiaaRef6Set
import Derived.Deep.RegionLaw
import Derived.Deep.DrawnRows
import Derived.Lib.Hide
import Derived.Lib.SliceRun
import Derived.Deep.WholeRow
namespace Go.Proofs.Ytgljmcameeeaiaa
open Go.RowKit
open Go.Lib hiding intOf
set_option linter.unusedVariables false
set_option linter.unusedSimpArgs false
attribute [local go_sem ↓] Go.wp_at_zero Go.wp_at_succ

theorem bkc_length (l : List Bk) : (bkc l).length = l.length * 3 := rowsOf_length (fun b => Bk.cells_len b) l
theorem bkc_snoc' (l m : List Bk) (b : Bk) : bkc l ++ (b.cells ++ bkc m) = bkc (l ++ b :: m) := by simp [bkc, rowsOf]
theorem bkc_drop (l : List Bk) (k : Nat) : (bkc l).drop (k * 3) = bkc (l.drop k) := rowsOf_drop (fun b => Bk.cells_len b) l k
theorem bkc_take (l : List Bk) (k : Nat) : (bkc l).take (k * 3) = bkc (l.take k) := rowsOf_take (fun b => Bk.cells_len b) l k
theorem sizeBk : (Try.prog.info? 33).map (·.size) = some 3 := by kernel_rfl

theorem infoBkz : (Try.prog.info? 33).map (fun i => (i.zero, i.size)) = some (some (.agg #[.string ByteArray.empty, .int .u32 0, .int .i64 0]), 3) := by kernel_rfl

theorem clone6_any (A : Option Addr) (n c : Nat) (l : List Bk) (w : World) (hr : Reads w w.heap.size 3 A n (bkc l)) (hn : n ≤ 4398046511104) :
    Calls Try.prog 38 #[.slice A n c] w fun e w' => ∃ v, e = .returned v ∧ w'.ownsRow w.heap.size 33 3 v n (bkc l) ∧ Below w.heap.size w w' := by
  obtain ⟨i0, hi0, hz0, hz1, hz2⟩ := info_parts infoBk
  rcases A with _ | ad
  · have h0 : n = 0 := by
      rcases Nat.eq_zero_or_pos n with h | h
      · exact h
      · obtain ⟨ad, h1, _⟩ := hr.2 (by omega)
        cases h1
    subst h0
    have hl : l = [] := List.eq_nil_of_length_eq_zero (bk_len hr)
    subst hl
    have heq := fun w => run_eql_slice_nil (P := Try.prog) w 30 33 none 0 c 0 0 Try.underlying30
    go_enter Try.func38, Try.ntmps38
    go_wp2
    go_ret
    exact ⟨_, rfl, World.ownsRow_nil _ _ _ _, Below.refl _ _⟩
  · have hown1 : (w.alloc (.cells #[] 33)).ownsRow w.heap.size 33 3 (.slice (some ⟨w.heap.size, 0, none⟩) 0 0) 0 [] := World.ownsRow_made w #[] 0 (Nat.le_refl _) (by simp [maxLen]) rfl
    have HO := Lib.hid hown1
    have HB := Lib.hid ((Below.refl w.heap.size w).alloc (Nat.le_refl _) (.cells #[] 33))
    clear hown1
    have heq := fun w => run_eql_slice_nil (P := Try.prog) w 30 33 (some ad) n c 0 0 Try.underlying30
    go_enter Try.func38, Try.ntmps38
    go_wp2_with (at_builtin; refine wpList_append_any _ rfl (.tmp 5) (.tmp 6) _ rfl w.heap.size 33 i0 _ 3 32 Try.underlying30 hi0 hz0 hz1 hz2 rfl (by omega) _ 0 [] rfl HO.out w.heap.size (some ad) n c _ rfl (hr.below HB.out) (bkc_one _) (by unfold maxLen; omega) (by omega) HB.out.size ?_; intro v2 w2 hown2 hg2 hat2)
    go_ret
    simp only [Nat.zero_add, List.nil_append] at hown2
    exact ⟨v2, rfl, hown2, HB.out.grown hg2 HB.out.size (by rintro g ⟨⟩; exact Nat.le_refl _)⟩

/-- l[i:j] and l[i:j:m] of a slice of buckets, its address under one name. -/
theorem slice_mid (A : Option Addr) (n c i j : Nat) (zi zj : Int) (hzi : zi = i) (hzj : zj = j) (hi : i ≤ j) (hj : j ≤ c) : ∃ X, X = (if c = i then A else A.map (·.add (i * 3))) ∧ ∀ w : World, (Instr.sliceAt 30 (.slice A n c) (some (.int .i64 zi)) (some (.int .i64 zj)) none).run Try.prog w = .ok (.slice X (j - i) (c - i)) w := by
  refine ⟨_, rfl, fun w => ?_⟩
  obtain ⟨i0, hi0, hz0, hz1, hz2⟩ := info_parts infoBk
  have he : Try.prog.elem 30 = 33 := by kernel_rfl
  have hu : Try.prog.underlying 30 = some (.slice (Try.prog.elem 30)) := by rw [he]; exact Try.underlying30
  rw [run_sliceAt_slice w _ _ _ _ _ hu, run_slice_lh w _ A n c hu .i64 .i64 zi zj (by omega) (by omega) (by omega), he]
  simp [sizeOf, typeInfo, hi0, hz1, sliced, hzi, hzj]
theorem slice_full (A : Option Addr) (n c i j m : Nat) (zi zj zm : Int) (hzi : zi = i) (hzj : zj = j) (hzm : zm = m) (hi : i ≤ j) (hj : j ≤ m) (hm : m ≤ c) : ∃ X, ∀ w : World, (Instr.sliceAt 30 (.slice A n c) (some (.int .i64 zi)) (some (.int .i64 zj)) (some (.int .i64 zm))).run Try.prog w = .ok (.slice X (j - i) (m - i)) w := by
  refine ⟨if m = i then A else A.map (·.add (i * 3)), fun w => ?_⟩
  obtain ⟨i0, hi0, hz0, hz1, hz2⟩ := info_parts infoBk
  have he : Try.prog.elem 30 = 33 := by kernel_rfl
  have hu : Try.prog.underlying 30 = some (.slice (Try.prog.elem 30)) := by rw [he]; exact Try.underlying30
  rw [run_sliceAt_slice w _ _ _ _ _ hu, run_slice_lhm w _ A n c hu .i64 .i64 .i64 zi zj zm (by omega) (by omega) (by omega) (by omega), he]
  simp [sizeOf, typeInfo, hi0, hz1, sliced, hzi, hzj, hzm]
theorem grown_setRow (w : World) (g : Nat) (cs : Array Value) : w.grownBy (w.setRow g cs) (some g) := ⟨rfl, rfl, rfl, by simp, fun k hk hne => setRow_other w g k cs (fun h => hne (by rw [h]))⟩
set_option maxRecDepth 100000 in
set_option maxHeartbeats 3200000 in
theorem sdel_any (g n c i : Nat) (cur : Array Value) (l : List Bk) (w : World) (hg : Blk w g 33 cur) (hs : cur.size = c * 3) (ht : cur.toList.take (n * 3) = bkc l) (hn : n ≤ c) (hcm : c ≤ maxLen) (hi : i < n) :
    Calls Try.prog 40 #[.slice (some ⟨g, 0, none⟩) n c, .int .i64 i, .int .i64 ((i : Int) + 1)] w fun e w' => ∃ cur' : Array Value, e = .returned (.slice (some ⟨g, 0, none⟩) (n - 1) c) ∧ Blk w' g 33 cur' ∧ cur'.size = c * 3 ∧ cur'.toList.take ((n - 1) * 3) = bkc (l.take i ++ l.drop (i + 1)) ∧ w.grownBy w' (some g) := by
  have hll : l.length = n := by
    have h1 := congrArg List.length ht
    rw [bkc_length, List.length_take, Array.length_toList, hs] at h1
    omega
  -- the cells that move
  obtain ⟨news, hnews⟩ : ∃ x, x = bkc (l.drop (i + 1)) := ⟨_, rfl⟩
  have hnl : news.length = (n - (i + 1)) * 3 := by rw [hnews, bkc_length, List.length_drop, hll]
  obtain ⟨X, hX, hsl⟩ := slice_tail (some ⟨g, 0, none⟩) n c (i + 1) ((i : Int) + 1) (by omega) (by omega)
  obtain ⟨Y, hsl3⟩ := slice_full (some ⟨g, 0, none⟩) n c i (i + 1) n i ((i : Int) + 1) n rfl (by omega) rfl (by omega) (by omega) hn
  obtain ⟨Z, hZ, hslm⟩ := slice_mid (some ⟨g, 0, none⟩) (n - 1) c (n - 1) n ((n - 1 : Nat) : Int) n rfl rfl (by omega) hn
  rw [if_neg (by omega)] at hZ
  have hZ' : Z = some ⟨g, (n - 1) * 3, none⟩ := by rw [hZ]; simp [add_row]
  clear hZ
  subst hZ'
  have hcur : ∀ W : World, Blk W g 33 cur → ∀ a : Addr, X = some a → ∀ j u, news[j]? = some u → W.cell? (a.add j) = some u := fun W hW a ha j u hu => by
    rw [hX] at ha
    have hj : j < news.length := (List.getElem?_eq_some_iff.1 hu).1
    rw [hnl] at hj
    rw [if_neg (by omega)] at ha
    injection ha with ha
    subst ha
    show W.cell? (((⟨g, 0, none⟩ : Addr).add ((i + 1) * 3)).add j) = some u
    rw [add_row, add_row, hW.cell, Nat.zero_add, ← Array.getElem?_toList]
    rw [hnews, ← bkc_drop, ← ht, List.getElem?_drop, List.getElem?_take] at hu
    split at hu
    · exact hu
    · cases hu
  obtain ⟨a, ha⟩ : ∃ a, X = some a := by
    rw [hX]
    split
    · exact ⟨_, rfl⟩
    · exact ⟨_, rfl⟩
  have HC := Lib.hid (fun W hW => hcur W hW a ha)
  subst ha
  clear hcur hX
  obtain ⟨cur1, hcur1⟩ : ∃ x, x = (seg cur.toList (i * 3) news).toArray := ⟨_, rfl⟩
  have hin : i + (n - (i + 1)) = n - 1 := by omega
  have hs1 : cur1.size = c * 3 := by rw [hcur1]; simp only [List.size_toArray]; rw [seg_length (by rw [hnl, Array.length_toList, hs]; omega), Array.length_toList, hs]
  have ht1 : cur1.toList.take ((n - 1) * 3) = bkc (l.take i ++ l.drop (i + 1)) := by
    rw [hcur1, show (n - 1) * 3 = i * 3 + news.length by rw [hnl]; omega, List.toList_toArray, seg_take_end (by rw [Array.length_toList, hs]; omega), hnews, bkc_append, ← bkc_take, ← ht, List.take_take, Nat.min_eq_left (by omega)]
  have happ : ∀ (W : World) ty, Blk W g 33 cur → (Builtin.append_ #[30, 30] ty #[.slice (some ⟨g, 0, none⟩) i c, .slice (some a) (n - (i + 1)) (c - (i + 1))]).run Try.prog W = .ok (.slice (some ⟨g, 0, none⟩) (n - 1) c) (W.setRow g cur1) := fun W ty hW => by
    rw [run_append_roomk W _ ty 33 3 Try.underlying30 sizeBk g i c cur hW a (n - (i + 1)) (c - (i + 1)) news hnl (HC.out W hW) (by rw [hnews]; exact bkc_one _) (by omega) (by rw [hnl, hs]; omega), ← hcur1, hin]
  obtain ⟨cur2, hcur2⟩ : ∃ x, x = (seg cur1.toList ((n - 1) * 3) [.string ByteArray.empty, .int .u32 0, .int .i64 0]).toArray := ⟨_, rfl⟩
  have hs2 : cur2.size = c * 3 := by rw [hcur2]; simp only [List.size_toArray]; rw [seg_length (by show (n - 1) * 3 + 3 ≤ _; rw [Array.length_toList, hs1]; omega), Array.length_toList, hs1]
  have ht2 : cur2.toList.take ((n - 1) * 3) = bkc (l.take i ++ l.drop (i + 1)) := by
    rw [hcur2, List.toList_toArray, seg_take_le (Nat.le_refl _) (by rw [Array.length_toList, hs1]; omega), ht1]
  obtain ⟨hz, hzi⟩ := zero_of_info infoBkz
  have hclr : ∀ (W : World) ty, Blk W g 33 cur1 → (Builtin.clear_ #[30] ty #[.slice (some ⟨g, (n - 1) * 3, none⟩) (n - (n - 1)) (c - (n - 1))]).run Try.prog W = .ok (.tuple #[]) (W.setRow g cur2) := fun W ty hW => by
    rw [show n - (n - 1) = 1 by omega, run_clear_rowk W _ 33 ty _ Try.underlying30 hz g _ 1 _ cur1 33 [.string ByteArray.empty, .int .u32 0, .int .i64 0] (by kernel_rfl) (by simp [Value.oneCell']) (by decide) hW (by rw [hs1]; simp only [List.length_cons, List.length_nil]; omega), ← hcur2]
  have hw1 : IntKind.i64.wrap ((i : Int) + 1) = (i : Int) + 1 := by unfold maxLen at hcm; rw [IntKind.wrap_i64]; omega
  have hie : ¬ ((i : Int) = (i : Int) + 1) := by omega
  have hk1 : (i : Int) ≤ c := by omega
  have hk0 : (0 : Int) ≤ i := by omega
  have HG := Lib.hid hg
  have F := Lib.hid (And.intro hs2 ht2)
  clear hs ht hnews hnl hcur1 hs1 ht1 hcur2 hs2 ht2 hz hll hg hin HC
  go_enter Try.func40, Try.ntmps40
  go_wp2_with fail
  go_region_law (refine step_append_runk (by rfl) _ _ _ _ (by rfl) _ _ (by rfl) (by rfl) (happ _ _ HG.out.drew) ?_)
  have B1 := Lib.hid (show Blk (w.drew.setRow g cur1) g 33 cur1 from setRow_heap w.drew g _ _ _ _ HG.out)
  have G1 := Lib.hid (show w.grownBy (w.drew.setRow g cur1) (some g) from ⟨rfl, rfl, rfl, by simp, (grown_setRow w.drew g cur1).block⟩)
  generalize w.drew.setRow g cur1 = w1 at *
  have hc2 := fun ty => hclr w1 ty B1.out
  clear happ hclr
  go_wp2
  go_ret
  refine ⟨cur2, rfl, setRow_heap w1 g _ _ _ _ B1.out, F.out.1, F.out.2, ?_⟩
  have h2 := grown_setRow w1 g cur2
  exact ⟨h2.os.trans G1.out.os, h2.tape.trans G1.out.tape, h2.output.trans G1.out.output, Nat.le_trans G1.out.size h2.size, fun k hk hne => (h2.block k (Nat.lt_of_lt_of_le hk G1.out.size) hne).trans (G1.out.block k hk hne)⟩
theorem grown_trans {a b c : World} {r : Option Nat} (h1 : a.grownBy b r) (h2 : b.grownBy c r) : a.grownBy c r :=
  ⟨h2.os.trans h1.os, h2.tape.trans h1.tape, h2.output.trans h1.output, Nat.le_trans h1.size h2.size, fun k hk hne => (h2.block k (Nat.lt_of_lt_of_le hk h1.size) hne).trans (h1.block k hk hne)⟩
theorem grown_drew (w : World) (r : Option Nat) : w.grownBy w.drew r := ⟨rfl, rfl, rfl, Nat.le_refl _, fun _ _ _ => rfl⟩
theorem src_row {w : World} {g o : Nat} {t : TypeId} {cur : Array Value} (h : Blk w g t cur) {cs : List Value} (hc : ∀ j u, cs[j]? = some u → cur[o + j]? = some u) : ∀ j u, cs[j]? = some u → w.cell? ((⟨g, o, none⟩ : Addr).add j) = some u := fun j u hu => by
  rw [add_row, h.cell]
  exact hc j u hu
/-- The end of a list with a stretch put in: before it, it, behind it. -/
theorem ins_take {cur : List Value} {i n : Nat} {l : List Bk} (ht : cur.take (n * 3) = bkc l) (hi : i ≤ n) (hn : (n + 1) * 3 ≤ cur.length) (b : Bk) :
    (seg (seg cur ((i + 1) * 3) ((bkc l).drop (i * 3))) (i * 3) b.cells).take ((n + 1) * 3) = bkc (l.take i ++ b :: l.drop i) := by
  have hll : (bkc l).length = n * 3 := by rw [← ht, List.length_take]; omega
  have hd : ((bkc l).drop (i * 3)).length = (n - i) * 3 := by rw [List.length_drop, hll]; omega
  have hb : b.cells.length = 3 := rfl
  have h1 : (seg cur ((i + 1) * 3) ((bkc l).drop (i * 3))).length = cur.length := seg_length (by rw [hd]; omega)
  have e1 : (seg cur ((i + 1) * 3) ((bkc l).drop (i * 3))).take ((n + 1) * 3) = cur.take ((i + 1) * 3) ++ (bkc l).drop (i * 3) := by
    rw [show (n + 1) * 3 = (i + 1) * 3 + ((bkc l).drop (i * 3)).length by rw [hd]; omega]
    exact seg_take_end (by omega)
  generalize seg cur ((i + 1) * 3) ((bkc l).drop (i * 3)) = m at *
  have e2 : (seg m (i * 3) b.cells).take ((n + 1) * 3) = m.take (i * 3) ++ b.cells ++ (m.take ((n + 1) * 3)).drop ((i + 1) * 3) := by
    rw [seg, List.take_append, List.take_of_length_le (by simp only [List.length_append, List.length_take, hb]; omega), List.drop_take]
    simp only [List.length_append, List.length_take, hb]
    rw [show i * 3 + 3 = (i + 1) * 3 by omega, show (n + 1) * 3 - (min (i * 3) m.length + 3) = (n + 1) * 3 - (i + 1) * 3 by omega]
  have e3 : m.take (i * 3) = bkc (l.take i) := by
    have : m.take (i * 3) = (m.take ((n + 1) * 3)).take (i * 3) := by rw [List.take_take, Nat.min_eq_left (by omega)]
    rw [this, e1, List.take_append_of_le_length (by rw [List.length_take]; omega), List.take_take, Nat.min_eq_left (by omega), ← bkc_take, ← ht, List.take_take, Nat.min_eq_left (by omega)]
  rw [e2, e3, e1, List.drop_left' (by rw [List.length_take]; omega), bkc_drop, ← bkc_snoc' , List.append_assoc]
theorem ins_take2 {R : List Value} {i n : Nat} {l : List Bk} (hR : R.take (i * 3) = bkc (l.take i)) (hl : l.length = n) (hi : i ≤ n) (hn : (n + 1) * 3 ≤ R.length) (b : Bk) :
    (seg (seg R (i * 3) b.cells) ((i + 1) * 3) (bkc (l.drop i))).take ((n + 1) * 3) = bkc (l.take i ++ b :: l.drop i) := by
  have hd : (bkc (l.drop i)).length = (n - i) * 3 := by rw [bkc_length, List.length_drop, hl]
  have hb : b.cells.length = 3 := rfl
  have h1 : (seg R (i * 3) b.cells).length = R.length := seg_length (by rw [hb]; omega)
  rw [show (n + 1) * 3 = (i + 1) * 3 + (bkc (l.drop i)).length by rw [hd]; omega, seg_take_end (by rw [h1]; omega), show (i + 1) * 3 = i * 3 + b.cells.length by rw [hb]; omega, seg_take_end (by omega), hR, List.append_assoc, bkc_snoc']
theorem shape_of {w : World} {g : Nat} {t : TypeId} {cs : Array Value} (h : Blk w g t cs) : w.shape? g = some (t, cs.size) := by
  unfold Blk at h
  simp [World.shape?, h]
set_option maxRecDepth 100000 in
set_option maxHeartbeats 3200000 in
theorem sins_room (g n c i : Nat) (cur : Array Value) (l : List Bk) (b : Bk) (vb : Nat) (w : World) (hg : Blk w g 33 cur) (hs : cur.size = c * 3) (ht : cur.toList.take (n * 3) = bkc l) (hn : n + 1 ≤ c) (hcm : c ≤ maxLen) (hi : i < n)
    (hv : Blk w vb 33 b.cells.toArray) (hne : ¬ vb = g) :
    Calls Try.prog 39 #[.slice (some ⟨g, 0, none⟩) n c, .int .i64 i, .slice (some ⟨vb, 0, none⟩) 1 1] w fun e w' => ∃ cur' : Array Value, e = .returned (.slice (some ⟨g, 0, none⟩) (n + 1) c) ∧ Blk w' g 33 cur' ∧ cur'.size = c * 3 ∧ cur'.toList.take ((n + 1) * 3) = bkc (l.take i ++ b :: l.drop i) ∧ w.grownBy w' (some g) := by
  have hll : l.length = n := by
    have h1 := congrArg List.length ht
    rw [bkc_length, List.length_take, Array.length_toList, hs] at h1
    omega
  obtain ⟨X, hX, hsl⟩ := slice_tail (some ⟨g, 0, none⟩) (n + 1) c (i + 1) ((i : Int) + 1) (by omega) (by omega)
  obtain ⟨Y, hY, hsy⟩ := slice_tail (some ⟨g, 0, none⟩) (n + 1) c i i rfl (by omega)
  obtain ⟨Z, hZ, hsz⟩ := slice_tail (some ⟨g, 0, none⟩) n c i i rfl (by omega)
  rw [if_neg (by omega)] at hX hY hZ
  rw [show n + 1 - (i + 1) = n - i by omega] at hsl
  have hX' : X = some ⟨g, (i + 1) * 3, none⟩ := by rw [hX]; simp [add_row]
  have hY' : Y = some ⟨g, i * 3, none⟩ := by rw [hY]; simp [add_row]
  have hZ' : Z = some ⟨g, i * 3, none⟩ := by rw [hZ]; simp [add_row]
  clear hX hY hZ
  subst hX'
  subst hY'
  subst hZ'
  obtain ⟨news, hnews⟩ : ∃ x, x = (bkc l).drop (i * 3) := ⟨_, rfl⟩
  have hnl : news.length = (n - i) * 3 := by rw [hnews, List.length_drop, bkc_length, hll]; omega
  have hn1 : ∀ u ∈ news, u.oneCell' = true := by rw [hnews]; exact fun u hu => bkc_one l u (List.mem_of_mem_drop hu)
  have hnc : ∀ j u, news[j]? = some u → cur[i * 3 + j]? = some u := fun j u hu => by
    rw [hnews, List.getElem?_drop, ← ht, List.getElem?_take] at hu
    split at hu
    · rwa [Array.getElem?_toList] at hu
    · cases hu
  obtain ⟨cur1, hcur1⟩ : ∃ x, x = (seg cur.toList ((i + 1) * 3) news).toArray := ⟨_, rfl⟩
  have hs1 : cur1.size = c * 3 := by rw [hcur1]; simp only [List.size_toArray]; rw [seg_length (by rw [hnl, Array.length_toList, hs]; omega), Array.length_toList, hs]
  obtain ⟨cur2, hcur2⟩ : ∃ x, x = (seg cur1.toList (i * 3) b.cells).toArray := ⟨_, rfl⟩
  have hs2 : cur2.size = c * 3 := by rw [hcur2]; simp only [List.size_toArray]; rw [seg_length (by show i * 3 + 3 ≤ _; rw [Array.length_toList, hs1]; omega), Array.length_toList, hs1]
  have ht2 : cur2.toList.take ((n + 1) * 3) = bkc (l.take i ++ b :: l.drop i) := by
    rw [hcur2, hcur1, hnews]
    exact ins_take ht (by omega) (by rw [Array.length_toList, hs]; omega) b
  have hcp1 : ∀ (W : World) ty, Blk W g 33 cur → (Builtin.copy_ #[30, 30] ty #[.slice (some ⟨g, (i + 1) * 3, none⟩) (n - i) (c - (i + 1)), .slice (some ⟨g, i * 3, none⟩) (n + 1 - i) (c - i)]).run Try.prog W = .ok (goInt ((n - i : Nat) : Int)) (W.setRow g cur1) := fun W ty hW => by
    rw [run_copy_rowk W _ _ ty 33 g _ _ _ ⟨g, i * 3, none⟩ (n + 1 - i) (c - i) 3 (n - i) cur 33 news Try.underlying30 sizeBk hW (by simp only [Nat.min_def]; split <;> omega) hnl (src_row hW hnc) (by rw [hnl, hs]; omega) hn1, ← hcur1]
  have hcp2 : ∀ (W : World) ty, Blk W g 33 cur1 → Blk W vb 33 b.cells.toArray → (Builtin.copy_ #[30, 30] ty #[.slice (some ⟨g, i * 3, none⟩) (n + 1 - i) (c - i), .slice (some ⟨vb, 0, none⟩) 1 1]).run Try.prog W = .ok (goInt ((1 : Nat) : Int)) (W.setRow g cur2) := fun W ty hW hV => by
    rw [run_copy_rowk W _ _ ty 33 g _ _ _ ⟨vb, 0, none⟩ 1 1 3 1 cur1 33 b.cells Try.underlying30 sizeBk hW (by simp only [Nat.min_def]; split <;> omega) rfl (src_row hV (fun j u hu => by simpa using hu)) (by show i * 3 + 3 ≤ _; rw [hs1]; omega) (bk_one b), ← hcur2]
  have hov : ∀ (W : World) lb cb, Blk W g 33 cur → Blk W vb 33 b.cells.toArray → (callFunc 55 #[.slice (some ⟨vb, 0, none⟩) 1 1, .slice (some ⟨g, (i + 1) * 3, none⟩) lb cb]).run Try.prog W = .ok (.value (.bool false)) W := fun W lb cb hW hV => by
    rw [run_callFunc_extern Try.func55 (by kernel_rfl) (by kernel_rfl) (by kernel_rfl) (e := Extern.SlicesOverlaps.overlaps #[30, 30] #[4]) (by kernel_rfl),
      Lib.run_overlaps_apart W 30 4 33 Try.underlying30 3 (fun w => by obtain ⟨i0, hi0, hz0, hz1, hz2⟩ := info_parts infoBk; simp [sizeOf, typeInfo, hi0, hz1]) ⟨vb, 0, none⟩ ⟨g, (i + 1) * 3, none⟩ 1 1 lb cb hne 33 33 3 (c * 3) (shape_of hV) (by rw [shape_of hW, hs]) (by omega) (hV.frozen 0) (hV.frozen 3)]
    rfl
  have hw1 : IntKind.i64.wrap ((i : Int) + 1) = (i : Int) + 1 := by unfold maxLen at hcm; rw [IntKind.wrap_i64]; omega
  have hw2 : IntKind.i64.wrap ((n : Int) + 1) = (n : Int) + 1 := by unfold maxLen at hcm; rw [IntKind.wrap_i64]; omega
  have hie : ¬ ((i : Int) = (n : Int)) := by omega
  have hk1 : (i : Int) ≤ n := by omega
  have hk0 : (0 : Int) ≤ i := by omega
  have hk2 : ¬ ((c : Int) < (n : Int) + 1) := by omega
  have HG := Lib.hid hg
  have HV := Lib.hid hv
  have F := Lib.hid (And.intro hs2 ht2)
  have hov1 := fun lb cb => hov w lb cb hg hv
  clear hs ht hnews hnl hcur1 hs1 hcur2 hs2 ht2 hll hg hn1 hnc hov hv
  go_enter Try.func39, Try.ntmps39
  go_wp2_with (simp only [hov1])
  go_region_law (refine step_copy_runk (by rfl) _ _ _ _ (by rfl) _ _ (by simp [Act.eval, Act.put]) (by simp [Act.eval, Act.put]) (hcp1 _ _ HG.out.drew) ?_)
  have B1 := Lib.hid (show Blk (w.drew.setRow g cur1) g 33 cur1 from setRow_heap w.drew g _ _ _ _ HG.out)
  have V1 := Lib.hid (show Blk (w.drew.setRow g cur1) vb 33 b.cells.toArray from (setRow_other w.drew g vb cur1 hne).trans HV.out)
  have G1 := Lib.hid (show w.grownBy (w.drew.setRow g cur1) (some g) from grown_trans (grown_drew w _) (grown_setRow w.drew g cur1))
  generalize w.drew.setRow g cur1 = w1 at *
  have hc2 := fun ty => hcp2 w1 ty B1.out V1.out
  clear hcp1 hov1 hcp2
  go_wp2
  go_ret
  exact ⟨cur2, rfl, setRow_heap w1 g _ _ _ _ B1.out, F.out.1, F.out.2, grown_trans G1.out (grown_setRow w1 g cur2)⟩
end Go.Proofs.Ytgljmcameeeaiaa
