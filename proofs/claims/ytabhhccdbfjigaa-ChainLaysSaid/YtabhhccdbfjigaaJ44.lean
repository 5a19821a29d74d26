/-
  Texts that the main proof rests on, put together: SortU, ChDist, ChOn. No statement is proved here.
-/
import Derived.Sort.WalkA
import Derived.WalkKit
import Derived.BigGuard
import Derived.BigCall
import Derived.CellFam
import Derived.Deep.Draws
import Derived.Deep.QuietTactic
import Derived.BigQuiet
import Derived.Sort.AssemblyPlain
import Derived.Test.YtabhhccdbfjigaaJ1
import Derived.Test.YtabhhccdbfjigaaJ2
import Derived.Test.YtabhhccdbfjigaaJ43
import Derived.Test.YtabhhccdbfjigaaJ35
import Derived.Test.YtabhhccdbfjigaaJ26
import Derived.Test.YtabhhccdbfjigaaJ16
import Derived.Lib.SliceRun
import Derived.Test.YtabhhccdbfjigaaJ42
import Derived.Test.YtabhhccdbfjigaaJ32
import Derived.Test.YtabhhccdbfjigaaJ31
import Derived.Test.YtabhhccdbfjigaaJ23
import Derived.Test.YtabhhccdbfjigaaJ25
import Derived.Deep.CutRange
namespace Go.Proofs.Ytabhhccdbfjigaa
open Go.RowKit Go.Sort
set_option linter.unusedVariables false
set_option linter.unusedSimpArgs false

theorem nanU (x : Int) (w : World) : Calls Try.prog 127 #[.int .u32 x] w fun e w' => e = .returned (.bool false) ∧ w' = w := by
  go_enter Try.func127, Try.ntmps127
  go_wp2_with fail
  go_ret
  exact ⟨by simp, rfl⟩
theorem lessU (x y : Int) (w : World) : Calls Try.prog 110 #[.int .u32 x, .int .u32 y] w fun e w' => e = .returned (.bool (ltInt x y)) ∧ w' = w := by
  go_enter Try.func110, Try.ntmps110
  go_wp2_with (go_at_call 127; refine (nanU _ _).mono ?_; rintro e w' ⟨rfl, rfl⟩)
  go_ret
  exact ⟨rfl, rfl⟩
abbrev encW : Int → Value := Value.int .u32
/-- One step of the inner loop: what it leaves is what the whole inner loop leaves. -/
theorem inner_end {a i j : Nat} {dk dj : Array Int} {b : Nat} {d0 : Array Int} (hI : insInner ltInt a j dj = insInner ltInt a i dk) (hO : insOuter ltInt a b i dk = d0) (hib : i < b) (hs : j ≤ a ∨ ltInt dj[j]! dj[j - 1]! = false) : insOuter ltInt a b (i + 1) dj = d0 := by
  rw [← hO, insOuter_go _ _ _ _ _ hib, ← hI, insInner_stop _ _ _ _ hs]
set_option maxRecDepth 100000 in
set_option maxHeartbeats 6400000 in
theorem insU (blk off cap a b : Nat) (d : Array Int) (w : World) (hH : Holds encW w blk off d) (hab : a ≤ b) (hb : b ≤ d.size) (hsz : d.size < 4611686018427387904) :
    Calls Try.prog 104 #[.slice (some ⟨blk, off, none⟩) d.size cap, .int .i64 a, .int .i64 b] w fun e w' =>
      e = .returned (.tuple #[]) ∧ ∃ n, w' = putRow encW (Sort.ahead w n) blk off (Sort.insertionSort ltInt d a b) := by
  obtain ⟨d0, hd0⟩ : ∃ d0, d0 = insOuter ltInt a b (a + 1) d := ⟨_, rfl⟩
  have HE := Lib.hid (show Sort.insertionSort ltInt d a b = d0 from hd0.symm)
  have HH := Lib.hid hH
  clear hH
  go_enter Try.func104, Try.ntmps104
  go_wp2
  go_loopw [6] (fun vi wr => ∃ (i n : Nat) (dk : Array Int), vi = .int .i64 i ∧ a < i ∧ i ≤ b + 1 ∧ dk.size = d.size ∧ Hid (wr = putRow encW (Sort.ahead w n) blk off dk) ∧ Hid (insOuter ltInt a b i dk = d0)) (fun vi _ => b + 1 - (RowKit.intOf vi).toNat)
  case atStart => exact ⟨a + 1, 0, d, by go_num, by omega, by omega, rfl, Lib.hid (putRow_self _ _ _ _ _ HH.out).symm, Lib.hid hd0.symm⟩
  case round =>
    obtain ⟨i, n, dk, rfl, hai, hib, hsk, HW, HO⟩ := hrel
    clear hd0
    by_cases hlt : i < b
    rotate_left
    · have HF := Lib.hid (show dk = d0 by rw [← HO.out, insOuter_stop _ _ _ _ _ hlt])
      go_wp2
      go_end0
      exact ⟨rfl, n, by rw [HE.out, ← HF.out]; exact HW.out⟩
    go_wp2
    obtain ⟨wo, hwo⟩ : ∃ wo, wo = wr := ⟨_, rfl⟩
    subst hwo
    go_loopw [7] (fun vj wr => ∃ (j m : Nat) (dj : Array Int), vj = .int .i64 j ∧ a ≤ j ∧ j ≤ i ∧ dj.size = d.size ∧ Hid (wr = putRow encW (Sort.ahead w m) blk off dj) ∧ Hid (insInner ltInt a j dj = insInner ltInt a i dk)) (fun vj _ => (RowKit.intOf vj).toNat)
    case atStart => exact ⟨i, n, dk, rfl, by omega, Nat.le_refl _, hsk, HW, Lib.hid rfl⟩
    case round =>
      obtain ⟨j, m, dj, rfl, haj, hji, hsj, HX, HI⟩ := hrel
      obtain ⟨G, hG⟩ : ∃ G : Nat → Int, ∀ t, G t = dj[t]! := ⟨fun t => dj[t]!, fun _ => rfl⟩
      have hcw : ∀ t, t < d.size → wr.cell? ⟨blk, off + t, none⟩ = some (.int .u32 (G t)) := fun t ht => by
        rw [HX.out, hG]; exact cell?_putRow _ _ _ _ d dj (holds_ahead _ _ _ _ _ _ HH.out) hsj t (by omega)
      have hfw : ∀ t, t < d.size → wr.frozen? ⟨blk, off + t, none⟩ = false := fun t ht => by
        rw [HX.out, frozen?_putRow]; exact ((holds_ahead _ _ m _ _ _ HH.out) t ht).2
      have HG := Lib.hid hG
      clear hG
      by_cases hja : a < j
      rotate_left
      · have HN := Lib.hid (inner_end HI.out HO.out hlt (Or.inl (by omega)))
        go_wp2
        go_quiet (first | (go_at_call 110; refine Calls.quiet_of_same (lessU _ _ _)))
        go_wp2
        go_roundw
        case rel => exact ⟨i + 1, m + nq, dj, by go_num, by omega, by omega, hsj, Lib.hid (by rw [HX.out]; exact putRow_drewN _ _ _ _ _ _ _), HN⟩
        case measure => simp [RowKit.intOf]; omega
      rcases hl : ltInt (G j) (G (j - 1)) with _ | _
      · have HN := Lib.hid (inner_end HI.out HO.out hlt (Or.inr (by rw [← HG.out, ← HG.out]; exact hl)))
        go_wp2
        go_quiet (first | (go_at_call 110; refine Calls.quiet_of_same (lessU _ _ _)))
        go_wp2
        go_roundw
        case rel => exact ⟨i + 1, m + nq, dj, by go_num, by omega, by omega, hsj, Lib.hid (by rw [HX.out]; exact putRow_drewN _ _ _ _ _ _ _), HN⟩
        case measure => simp [RowKit.intOf]; omega
      · have HN := Lib.hid ((insInner_go ltInt a j dj hja (by rw [← HG.out, ← HG.out]; exact hl)).symm.trans HI.out)
        go_wp2
        go_quiet (first | (go_at_call 110; refine Calls.quiet_of_same (lessU _ _ _)))
        go_wp2
        go_region
        all_goals go_wp2
        go_roundw
        case rel =>
          refine ⟨j - 1, m + (nq + 1), swp dj j (j - 1), by congr 1; omega, by omega, by omega, by rw [size_swp]; exact hsj, Lib.hid ?_, HN⟩
          rw [HX.out, HG.out, HG.out]
          exact swap_worldA _ w m (nq + 1) blk off dj j (j - 1) (by omega) (by omega)
        case measure => simp [RowKit.intOf]; omega
/-! Rows of the call's own behind a sort. -/
theorem putCells_take (d : Array Int) (cur : Array Value) (h : d.size ≤ cur.size) : (putCells encW 0 d cur).toList.take d.size = d.toList.map encW := by
  apply List.ext_getElem?
  intro k
  rw [List.getElem?_take]
  by_cases hk : k < d.size
  · rw [if_pos hk, Array.getElem?_toList]
    unfold putCells
    rw [Array.getElem?_mapIdx, Array.getElem?_eq_getElem (by omega : k < cur.size), List.getElem?_map, Array.getElem?_toList, Array.getElem?_eq_getElem hk]
    simp [hk]
  · rw [if_neg hk, List.getElem?_eq_none (by simp; omega)]
theorem size_putCells (d : Array Int) (cur : Array Value) : (putCells encW 0 d cur).size = cur.size := by unfold putCells; simp
theorem heap_putRow (w : World) (n g : Nat) (d : Array Int) (k : Nat) : (putRow encW (Sort.ahead w n) g 0 d).heap[k]? = if g = k then (w.heap[k]?).map (onCells (putCells encW 0 d)) else w.heap[k]? := by
  unfold putRow mapBlock
  rw [Array.getElem?_modify]
  rfl
theorem grown_putRow (w : World) (n g : Nat) (d : Array Int) : w.grownBy (putRow encW (Sort.ahead w n) g 0 d) (some g) :=
  ⟨rfl, rfl, rfl, by simp, fun k _ hk => by rw [heap_putRow, if_neg (by intro e; exact hk (by rw [e]))]⟩
theorem own_sorted {w : World} {base n g c : Nat} {cur : Array Value} {m : Nat} (d : Array Int) (hb : base ≤ g) (hg : w.heap[g]? = some (.cells cur 29 (0, 0))) (hn : n ≤ c) (hc : c ≤ maxLen) (hs : cur.size = c) (hd : d.size = n) :
    (putRow encW (Sort.ahead w m) g 0 d).ownsRow base 29 1 (.slice (some ⟨g, 0, none⟩) n c) n (d.toList.map encW) := by
  refine ⟨by simp [hd], .inr ⟨g, c, putCells encW 0 d cur, rfl, hb, by rw [heap_putRow, if_pos rfl, hg]; rfl, hn, hc, by rw [size_putCells, hs, Nat.mul_one], ?_⟩⟩
  rw [Nat.mul_one, ← hd]
  exact putCells_take d cur (by omega)
/-- A few numbers, sorted: the insertion sort's result as a list of naturals. -/
theorem ins_nats (l : List Nat) : ∃ l' : List Nat, l'.Perm l ∧ l'.Pairwise (· ≤ ·) ∧ (Sort.insertionSort ltInt (l.map Int.ofNat).toArray 0 (l.map Int.ofNat).toArray.size).size = l.length ∧ (Sort.insertionSort ltInt (l.map Int.ofNat).toArray 0 (l.map Int.ofNat).toArray.size).toList = l'.map Int.ofNat := by
  obtain ⟨d, hd⟩ : ∃ d, d = (l.map Int.ofNat).toArray := ⟨_, rfl⟩
  rw [← hd]
  obtain ⟨⟨h1, _, h2⟩, h3⟩ := insertionSort_holds (lt := ltInt) swo_ltInt d 0 d.size (Nat.zero_le _) (Nat.le_refl _)
  obtain ⟨e, he⟩ : ∃ e, e = Sort.insertionSort ltInt d 0 d.size := ⟨_, rfl⟩
  rw [← he] at h1 h2 h3 ⊢
  have hds : d.size = l.length := by rw [hd]; simp
  have hp : e.toList.Perm (l.map Int.ofNat) := by
    have : e.toList.Perm d.toList := by
      have a1 : (e.extract 0 d.size).toList = e.toList := by rw [← h1]; simp
      have a2 : (d.extract 0 d.size).toList = d.toList := by simp
      rw [a1, a2] at h2
      exact h2
    rw [hd] at this
    simpa using this
  have hm : e.toList = (e.toList.map Int.toNat).map Int.ofNat := by
    rw [List.map_map]
    refine (List.map_id' _).symm.trans (List.map_congr_left fun x hx => ?_)
    obtain ⟨y, _, rfl⟩ := List.mem_map.1 (hp.mem_iff.1 hx)
    simp
  refine ⟨e.toList.map Int.toNat, ?_, ?_, by rw [h1, hds], hm⟩
  · have := hp.map Int.toNat
    rw [List.map_map] at this
    refine this.trans (List.Perm.of_eq ?_)
    conv => rhs; rw [← List.map_id l]
    exact List.map_congr_left fun x _ => by simp
  · rw [List.pairwise_map, List.pairwise_iff_getElem]
    intro i j hi hj hij
    have h4 := h3 i j (Nat.zero_le _) hij (by rw [← h1]; simpa using hj)
    rw [Array.length_toList] at hi hj
    rw [getElem!_pos e j hj, getElem!_pos e i hi] at h4
    unfold ltInt at h4
    rw [decide_eq_false_iff_not] at h4
    rw [Array.getElem_toList, Array.getElem_toList]
    omega
set_option maxRecDepth 100000 in
set_option maxHeartbeats 6400000 in
theorem insU0 (A : Option Addr) (c : Nat) (w : World) : Calls Try.prog 104 #[.slice A 0 c, .int .i64 0, .int .i64 0] w fun e w' => e = .returned (.tuple #[]) ∧ w' = w := by
  go_enter Try.func104, Try.ntmps104
  go_wp2
  refine wp_loop_rounds 1 ?_
  rw [rounds_succ]
  go_wp2
  go_end0
  exact ⟨rfl, rfl⟩
set_option maxRecDepth 100000 in
set_option maxHeartbeats 6400000 in
theorem pdq12 (A : Option Addr) (n c : Nat) (k : Int) (w : World) (hn : n ≤ 12) {R : World → Prop} (hi : Calls Try.prog 104 #[.slice A n c, .int .i64 0, .int .i64 n] w fun e w' => e = .returned (.tuple #[]) ∧ R w') :
    Calls Try.prog 94 #[.slice A n c, .int .i64 0, .int .i64 n, .int .i64 k] w fun e w' => e = .returned (.tuple #[]) ∧ R w' := by
  have hw : wrap64 ((n : Int) - 0) = (n : Int) := by unfold wrap64; omega
  have h12 : (n : Int) ≤ 12 := by omega
  go_enter Try.func94, Try.ntmps94
  go_wp2
  refine wp_loop_rounds 1 ?_
  rw [rounds_succ]
  go_wp2_with (go_at_call 104; refine hi.mono ?_; rintro e w' ⟨rfl, hR⟩)
  refine bodyPost_ret (results_none rfl _ _ _) rfl ?_
  exact ⟨rfl, hR⟩
set_option maxRecDepth 100000 in
set_option maxHeartbeats 6400000 in
theorem sort12 (A : Option Addr) (n c : Nat) (w : World) (hn : n ≤ 12) {R : World → Prop} (hi : Calls Try.prog 104 #[.slice A n c, .int .i64 0, .int .i64 n] w fun e w' => e = .returned (.tuple #[]) ∧ R w') :
    Calls Try.prog 73 #[.slice A n c] w fun e w' => e = .returned (.tuple #[]) ∧ R w' := by
  have hp := fun k => pdq12 A n c k w hn hi
  go_enter Try.func73, Try.ntmps73
  go_wp2_with (first
    | (go_at_call 95; refine (Try.bits_Len (n : Int) _ (by omega) (by omega)).mono ?_; rintro e w' ⟨rfl, rfl⟩)
    | (go_at_call 94; refine (hp _).mono ?_; rintro e w' ⟨rfl, hR⟩))
  go_end0
  exact ⟨rfl, hR⟩
end Go.Proofs.Ytabhhccdbfjigaa
namespace Go.Proofs.Ytabhhccdbfjigaa
open Go.RowKit Go.Sort
set_option linter.unusedVariables false
set_option linter.unusedSimpArgs false

theorem asc_nodup {l l' : List Nat} (hp : l'.Perm l) (hs : l'.Pairwise (· ≤ ·)) : ascU l' = decide l.Nodup := by
  have hn : l'.Nodup ↔ l.Nodup := hp.nodup_iff
  rw [Bool.eq_iff_iff, decide_eq_true_iff, ← hn]
  unfold ascU nthU
  rw [List.all_eq_true]
  constructor
  · intro h
    have h2 : l'.Pairwise (· < ·) := by
      rw [List.pairwise_iff_getElem]
      intro i j hi hj hij
      have step : ∀ k, k + 1 < l'.length → l'.getD k 0 < l'.getD (k + 1) 0 := fun k hk => by
        have := h k (List.mem_range.2 (by omega))
        simpa using this
      have h3 := step i (by omega)
      rw [List.getD_eq_getElem?_getD, List.getD_eq_getElem?_getD, List.getElem?_eq_getElem hi, List.getElem?_eq_getElem (by omega : i + 1 < l'.length)] at h3
      simp only [Option.getD_some] at h3
      rcases Nat.lt_or_ge (i + 1) j with h4 | h4
      · have h5 := (List.pairwise_iff_getElem.1 hs) (i + 1) j (by omega) hj h4
        omega
      · obtain rfl : j = i + 1 := by omega
        exact h3
    exact h2.imp (fun h => Nat.ne_of_lt h)
  · intro h i hi
    rw [List.mem_range] at hi
    have hi1 : i < l'.length := by omega
    have hi2 : i + 1 < l'.length := by omega
    have h1 := (List.pairwise_iff_getElem.1 hs) i (i + 1) hi1 hi2 (by omega)
    have h2 : l'[i] ≠ l'[i + 1] := (List.pairwise_iff_getElem.1 h) i (i + 1) hi1 hi2 (by omega)
    rw [decide_eq_true_iff]
    simp only [List.getD_eq_getElem?_getD, List.getElem?_eq_getElem hi1, List.getElem?_eq_getElem hi2, Option.getD_some]
    omega
set_option maxRecDepth 100000 in
theorem cloneU_any {w : World} {A : Option Addr} {n : Nat} {l : List Nat} (c : Nat) (hr : Reads w w.heap.size 1 A n (ucells l)) (hn : n ≤ 17592186044416) (hA : A = none → n = 0) :
    Calls Try.prog 72 #[.slice A n c] w fun e w' => ∃ A' c', e = .returned (.slice A' n c') ∧ w'.ownsRow w.heap.size 29 1 (.slice A' n c') n (ucells l) ∧ Below w.heap.size w w' := by
  have hq := fun w => Lib.run_eql_slice_nil (P := Try.prog) w 32 29 A n c 0 0 Try.underlying32
  obtain ⟨i0, hi0, hz0, hz1, hz2⟩ := info_parts infoU32
  rcases A with _ | ad
  · obtain rfl := hA rfl
    have hl : l = [] := by have := hr.1; simpa [ucells] using this
    subst hl
    have hq2 := fun w => hq w
    simp only [Option.isNone_none] at hq2
    clear hq hr
    go_enter Try.func72, Try.ntmps72
    go_wp2_with fail
    go_ret
    exact ⟨none, 0, rfl, World.ownsRow_nil _ _ _ _, Below.refl _ _⟩
  · have hq2 := fun w => hq w
    simp only [Option.isNone_some] at hq2
    clear hq
    go_enter Try.func72, Try.ntmps72
    go_wp2_with (at_builtin; refine wpList_append_any _ rfl (.tmp 5) (.tmp 6) _ rfl w.heap.size 29 i0 _ 1 4 Try.underlying32 hi0 hz0 hz1 hz2 rfl (by omega) _ 0 [] rfl (World.ownsRow_made w #[] 0 (Nat.le_refl _) (Nat.zero_le _) rfl) (w.heap.size + 1) (some ad) n c (ucells l) rfl ((hr.alloc (Nat.le_refl _) _).more (by omega)) (ucells_one _) (by unfold maxLen; omega) (by omega) (by simp) ?_; intro v2 w2 hown2 hg2 hat2)
    go_ret
    have hown3 : w2.ownsRow w.heap.size 29 1 v2 n (ucells l) := by simpa using hown2
    obtain ⟨A', c', rfl, _⟩ := own_form hown3
    exact ⟨A', c', rfl, hown3, ((Below.refl _ _).alloc (Nat.le_refl _) _).grown hg2 (by simp) (by rintro k ⟨⟩; exact Nat.le_refl _)⟩
theorem ucells_enc (l : List Nat) : (l.map Int.ofNat).map encW = ucells l := by
  unfold ucells
  rw [List.map_map]
  rfl
theorem sortU_any {A : Option Addr} {n c base : Nat} {l : List Nat} {w : World} (ho : w.ownsRow base 29 1 (.slice A n c) n (ucells l)) (hn : n ≤ 12) (hb : base ≤ w.heap.size) :
    Calls Try.prog 73 #[.slice A n c] w fun e w' => e = .returned (.tuple #[]) ∧ ∃ l' : List Nat, l'.Perm l ∧ l'.Pairwise (· ≤ ·) ∧ w'.ownsRow base 29 1 (.slice A n c) n (ucells l') ∧ Below base w w' := by
  refine sort12 A n c w hn ?_
  have hlen : l.length = n := by have := ho.1; simpa [ucells] using this
  rcases Nat.eq_zero_or_pos n with h0 | h0
  · subst h0
    obtain rfl : l = [] := List.length_eq_zero_iff.1 hlen
    exact (insU0 A c w).mono (by rintro e w' ⟨rfl, rfl⟩; exact ⟨rfl, [], List.Perm.refl _, List.Pairwise.nil, ho, Below.refl _ _⟩)
  · rcases ho.2 with ⟨_, h⟩ | ⟨g, cap, cur, hv, hbg, hg, hnc, hcm, hcs, htk⟩
    · omega
    · injection hv with hA _ hc
      subst hA
      subst hc
      obtain ⟨l', hp, hs, hz, he⟩ := ins_nats l
      obtain ⟨d, hd⟩ : ∃ d, d = (l.map Int.ofNat).toArray := ⟨_, rfl⟩
      rw [← hd] at hz he
      have hds : d.size = n := by rw [hd]; simp [hlen]
      rw [Nat.mul_one] at htk hcs
      have hH : Holds encW w g 0 d := fun j hj => by
        have hc1 : cur[j]? = some (encW d[j]!) := by
          have h1 : (cur.toList.take n)[j]? = (ucells l)[j]? := by rw [htk]
          rw [List.getElem?_take_of_lt (by omega), Array.getElem?_toList] at h1
          rw [h1, ← ucells_enc, List.getElem?_map, getElem!_pos d j hj]
          have : (l.map Int.ofNat)[j]? = some d[j] := by
            subst hd
            rw [List.getElem_toArray, List.getElem?_eq_getElem]
          rw [this]
          rfl
        refine ⟨?_, ?_⟩
        · rw [Nat.zero_add, Blk.cell (t := 29) hg j]; exact hc1
        · rw [Nat.zero_add]; exact Blk.frozen (t := 29) hg j
      have h := insU g 0 c 0 d.size d w hH (Nat.zero_le _) (Nat.le_refl _) (by omega)
      rw [hds] at h
      refine h.mono ?_
      rintro e w' ⟨rfl, m, rfl⟩
      rw [hds, hlen] at hz
      rw [hds] at he
      refine ⟨rfl, l', hp, hs, ?_, (Below.refl base w).grown (grown_putRow w m g _) hb (fun k e => by cases e; exact hbg)⟩
      rw [← ucells_enc, ← he]
      exact own_sorted _ hbg hg hnc hcm hcs hz
theorem hdistinct_any (A : Option Addr) (n c : Nat) (l : List Nat) (w : World) (hr : Reads w w.heap.size 1 A n (ucells l)) (hn : n ≤ 12) :
    Calls Try.prog 37 #[.slice A n c] w fun e w' => e = .returned (.bool (decide l.Nodup)) ∧ Below w.heap.size w w' := by
  have hA : A = none → n = 0 := fun e => by
    rcases Nat.eq_zero_or_pos n with h | h
    · exact h
    · obtain ⟨ad, h1, _⟩ := hr.2 h
      rw [e] at h1
      cases h1
  have HR := Lib.hid hr
  clear hr
  go_enter Try.func37, Try.ntmps37
  go_wp2_with (first
    | (go_at_call 72; refine (cloneU_any c HR.out (by omega) hA).mono ?_; rintro e w1 ⟨A1, c1, rfl, ho1, hb1⟩)
    | (go_at_call 73; refine (sortU_any ho1 hn hb1.size).mono ?_; rintro e w2 ⟨rfl, l', hp, hs, ho2, hb2⟩)
    | (go_at_call 36; refine (frises_any A1 n c1 l' w2 (Reads.of_own ho2) (by omega)).mono ?_; rintro e w3 ⟨rfl, hb3⟩))
  go_ret
  exact ⟨by first | rfl | (rw [← asc_nodup hp hs]; rfl) | (rw [asc_nodup hp hs]; rfl), (hb1.trans hb2).trans (hb3.mono (Nat.le_trans hb1.size hb2.size))⟩
end Go.Proofs.Ytabhhccdbfjigaa
namespace Go.Proofs.Ytabhhccdbfjigaa
open Go.RowKit
open Go.Lib hiding intOf
set_option linter.unusedVariables false
set_option linter.unusedSimpArgs false
attribute [local go_sem ↓] Go.wp_at_zero Go.wp_at_succ

/-- chain.distinct tells whether no number stands twice, of at most M numbers. -/
def DistOK (M : Nat) : Prop := ∀ (A : Option Addr) (n c : Nat) (l : List Nat) (w : World), Reads w w.heap.size 1 A n (ucells l) → n ≤ M →
    Calls Try.prog 37 #[.slice A n c] w fun e w' => e = .returned (.bool (decide l.Nodup)) ∧ Below w.heap.size w w'
theorem dist12 : DistOK 12 := fun A n c l w hr hn => hdistinct_any A n c l w hr hn
/-- The page of a value's part, if it may be one. -/
def onF (size : Int) (tx : Nat) (ps : List Nat) (v : ByteArray) (k : Nat) : Option Pg :=
  if mayP9 size (nthU ps k) (nextL ps k) tx ((partsL size v).getD k ⟨#[]⟩) then some ⟨5, ((partsL size v).getD k ⟨#[]⟩).size, nthU ps k, nextL ps k, tx, overBody size.toNat ((partsL size v).getD k ⟨#[]⟩)⟩ else none
theorem piece_le (r : Nat) (v : ByteArray) (i : Nat) : (piece r v i).size ≤ v.size := by
  unfold piece
  rw [ByteArray.size_extract]
  omega
theorem part_le (size : Int) (v s : ByteArray) (k : Nat) (h : (partsL size v)[k]? = some s) (hv : v.size ≤ 1000000) : s.size ≤ 1000000 := by
  unfold partsL at h
  split at h
  · unfold chunks at h
    rw [List.getElem?_map, Option.map_eq_some_iff] at h
    obtain ⟨a, _, rfl⟩ := h
    have := piece_le ((size - 24 : Int).toNat) v a
    omega
  · cases h
theorem opage_all (size : Int) (tx : Nat) (ps : List Nat) (v : ByteArray) (hv : v.size ≤ 1000000) (k : Nat) (s : ByteArray) (W : World) (hs : (partsL size v)[k]? = some s) :
    Calls Try.prog 47 #[.int .i64 size, .int .u32 (nthU ps k), .int .u32 (nextL ps k), .int .u64 tx, .string s] W fun e w' => e = .returned (.tuple #[.agg #[.int .i64 (pgOr (onF size tx ps v k)).kd, .int .i64 (pgOr (onF size tx ps v k)).ct, .int .u32 (pgOr (onF size tx ps v k)).pg, .int .u32 (pgOr (onF size tx ps v k)).lk, .int .u64 (pgOr (onF size tx ps v k)).tx, .string (pgOr (onF size tx ps v k)).bd], .int .i64 (errOr (onF size tx ps v k))]) ∧ Below W.heap.size W w' := by
  have hg : (partsL size v).getD k ⟨#[]⟩ = s := by rw [List.getD, hs]; rfl
  unfold onF
  rw [hg]
  rcases hm : mayP9 size (nthU ps k) (nextL ps k) tx s with _ | _
  · exact opage9_no size _ _ _ s W (part_le size v s k hs hv) hm
  · have hgs : goodSize size = true := by simp only [mayP9, Bool.and_eq_true] at hm; exact hm.1
    obtain ⟨z, rfl, _⟩ := good_nat hgs
    exact opage9_yes z _ _ _ s W hm
theorem onF_yes {z tx : Nat} {ps : List Nat} {v : ByteArray} {L : List Pg} (ho : onL z tx ps v = some L) {k : Nat} (hk : k < ps.length) : onF z tx ps v k = some (onPg z tx ps v k) := by
  obtain ⟨e1, e2⟩ := on_part ho hk
  unfold onF onPg
  rw [e1, if_pos e2]
  simp only [Int.toNat_natCast]
theorem on_is (size : Int) (tx : Nat) (ps : List Nat) (v : ByteArray) (h1 : goodSize size = true) (h2 : 0 < v.size) (h3 : v.size ≤ 4096) (h4 : (partsL size v).length = ps.length) (h5 : ps.Nodup) : linkG (onF size tx ps v) ps.length = onL size tx ps v := by
  have hpos : 0 < ps.length := by
    have hgp := good_nat h1
    obtain ⟨z, rfl, hz, _⟩ := good_nat h1
    rw [← h4]
    unfold partsL
    rw [if_pos h1, chunks_len]
    rcases Nat.eq_zero_or_pos (ceilD v.size (((z : Int) - 24).toNat)) with h0 | h0
    · exact absurd (piece_end (n := v.size) (r := ((z : Int) - 24).toNat) (i := 0) (by omega) (by omega)) (by omega)
    · exact h0
  by_cases h6 : tx ≤ 4611686018427387904
  rotate_left
  · rw [onL_no (.inr (.inr (.inr (.inr (.inr (by omega))))))]
    refine linkG_bad (k := 0) ?_ hpos
    unfold onF
    rw [if_neg]
    simp only [mayP9, Bool.and_eq_true, decide_eq_true_eq]
    omega
  by_cases h7 : fineL ps = true
  · have ho := onL_yes (tx := tx) h1 h2 h3 h4 h7 h6
    obtain ⟨z, rfl, _⟩ := good_nat h1
    rw [ho]
    refine linkG_all fun k hk => ?_
    exact onF_yes ho hk
  · rw [onL_no (.inr (.inr (.inr (.inr (.inl (by simpa using h7))))))]
    have h8 : ps.all numB = false := by
      rcases h9 : ps.all numB with _ | _
      · rfl
      · exact absurd (by unfold fineL; rw [h9, decide_eq_true h5]; rfl) h7
    rw [List.all_eq_false] at h8
    obtain ⟨x, hx, hn⟩ := h8
    obtain ⟨i, hi, rfl⟩ := List.mem_iff_getElem.1 hx
    refine linkG_bad (k := i) ?_ hi
    unfold onF
    rw [if_neg]
    simp only [mayP9, Bool.and_eq_true]
    rintro ⟨_, _, _, h9, _⟩
    rw [show nthU ps i = ps[i] by unfold nthU; rw [List.getElem?_eq_getElem hi]; rfl] at h9
    exact hn h9
theorem parts_made {size : Int} {v : ByteArray} {H : Nat} {w w2 w3 : World} (h : w3 = (w2.alloc (.cells #[.string v] 9)).alloc (.cells #[.int .i64 (roomI size)] 3)) (hb : Below H w w2) (hs : H ≤ w2.heap.size) :
    Boxed w3 w2.heap.size 9 (.string v) ∧ Boxed w3 (w2.heap.size + 1) 3 (.int .i64 (roomI size)) ∧ Below H w w3 := by
  subst h
  refine ⟨(Boxed.new w2 _ _).alloc _, ?_, (hb.alloc hs _).alloc (by simp; omega) _⟩
  have := Boxed.new (w2.alloc (.cells #[.string v] 9)) 3 (.int .i64 (roomI size))
  simpa using this
set_option maxRecDepth 100000 in
set_option maxHeartbeats 6400000 in
theorem hon_gen {M : Nat} (HD : DistOK M) (size : Int) (tx : Nat) (A : Option Addr) (n c : Nat) (ps : List Nat) (v : ByteArray) (w : World) (hr : Reads w w.heap.size 1 A n (ucells ps)) (hn : n ≤ M) (hn9 : n ≤ 1000000) (hv : v.size ≤ 1000000) :
    Calls Try.prog 14 #[.int .i64 size, .int .u64 tx, .slice A n c, .string v] w (PgsPost (onL size tx ps v) w) := by
  have hnl := ulen hr
  have HG := fun (b : Bool) (h : goodSize size = b) (w : World) => dgood_is size b w h
  have HN := fun w => oneed_any size v.size w (by omega)
  have HDi := Lib.hid (HD A n c ps w hr hn)
  have d1 : decide ((1 : Int) ≤ (v.size : Int)) = decide (1 ≤ v.size) := by simp; omega
  rcases hg : goodSize size with _ | _
  · rw [onL_no (.inl hg)]
    by_cases h0 : 1 ≤ v.size
    · have e1 : decide ((1 : Int) ≤ (v.size : Int)) = true := by simp; omega
      clear d1
      go_enter Try.func14, Try.ntmps14
      go_wp2_with (go_at_call 29; refine (HG _ hg _).mono ?_; rintro e w' ⟨rfl, rfl⟩)
      go_ret2
      exact ⟨rfl, Below.refl _ _⟩
    · have e1 : decide ((1 : Int) ≤ (v.size : Int)) = false := by simp; omega
      clear d1
      go_enter Try.func14, Try.ntmps14
      go_wp2_with (go_at_call 29; refine (HG _ hg _).mono ?_; rintro e w' ⟨rfl, rfl⟩)
      go_ret2
      exact ⟨rfl, Below.refl _ _⟩
  by_cases h0 : v.size = 0
  · rw [onL_no (.inr (.inl h0))]
    have e1 : decide ((1 : Int) ≤ (v.size : Int)) = false := by simp; omega
    clear d1 h0
    go_enter Try.func14, Try.ntmps14
    go_wp2_with (go_at_call 29; refine (HG _ hg _).mono ?_; rintro e w' ⟨rfl, rfl⟩)
    go_ret2
    exact ⟨rfl, Below.refl _ _⟩
  have e1 : decide ((1 : Int) ≤ (v.size : Int)) = true := by simp; omega
  clear d1
  by_cases h1 : 4096 < v.size
  · rw [onL_no (.inr (.inr (.inl h1)))]
    have e2 : decide ((v.size : Int) ≤ (4096 : Int)) = false := by simp; omega
    clear h0
    go_enter Try.func14, Try.ntmps14
    go_wp2_with (go_at_call 29; refine (HG _ hg _).mono ?_; rintro e w' ⟨rfl, rfl⟩)
    go_ret2
    exact ⟨rfl, Below.refl _ _⟩
  have e2 : decide ((v.size : Int) ≤ (4096 : Int)) = true := by simp; omega
  obtain ⟨nd, hnd⟩ : ∃ x, x = needN size v.size := ⟨_, rfl⟩
  rw [← hnd] at HN
  have hpn := parts_need size v
  rw [← hnd] at hpn
  by_cases h2 : n = nd
  rotate_left
  · rw [onL_no (.inr (.inr (.inr (.inl (by omega)))))]
    have e3 : ((n : Int) != (nd : Int)) = true := by simp; omega
    have e4 : (n != nd) = true := by simp [h2]
    clear h0 h1 hnd hpn h2 hnl
    go_enter Try.func14, Try.ntmps14
    go_wp2_with (first
      | (go_at_call 29; refine (HG _ hg _).mono ?_; rintro e w' ⟨rfl, rfl⟩)
      | (go_at_call 26; refine (HN _).mono ?_; rintro e w1 ⟨rfl, hb1⟩))
    go_ret2
    exact ⟨rfl, hb1⟩
  have e3 : ((n : Int) != (nd : Int)) = false := by simp; omega
  have e4 : (n != nd) = false := by simp [h2]
  have hpl : (partsL size v).length = ps.length := by omega
  have HDw := Lib.hid (fun (w1 : World) (hb : Below w.heap.size w w1) => HD A n c ps w1 ((hr.below hb).more hb.size) hn)
  rcases hd : decide ps.Nodup with _ | _
  · rw [onL_no (.inr (.inr (.inr (.inr (.inl (by unfold fineL; rw [hd]; simp))))))]
    have HDx := Lib.hid (fun (w1 : World) (hb : Below w.heap.size w w1) => (HDw.out w1 hb).mono (R' := fun e w' => e = .returned (.bool false) ∧ Below w1.heap.size w1 w') (fun e w' h => ⟨by rw [h.1, hd], h.2⟩))
    clear h0 h1 hnd hpn h2 hnl hd HDw
    go_enter Try.func14, Try.ntmps14
    go_wp2_with (first
      | (go_at_call 29; refine (HG _ hg _).mono ?_; rintro e w' ⟨rfl, rfl⟩)
      | (go_at_call 26; refine (HN _).mono ?_; rintro e w1 ⟨rfl, hb1⟩)
      | (go_at_call 37; refine (HDx.out w1 hb1).mono ?_; rintro e w2 ⟨rfl, hb2⟩))
    go_ret2
    exact ⟨rfl, hb1.trans (hb2.mono hb1.size)⟩
  have HDx := Lib.hid (fun (w1 : World) (hb : Below w.heap.size w w1) => (HDw.out w1 hb).mono (R' := fun e w' => e = .returned (.bool true) ∧ Below w1.heap.size w1 w') (fun e w' h => ⟨by rw [h.1, hd], h.2⟩))
  obtain ⟨o, ho⟩ : ∃ o, o = onL size tx ps v := ⟨_, rfl⟩
  have hIs : linkG (onF size tx ps v) n = o := by rw [← hnl, ho]; exact on_is size tx ps v hg (by omega) (by omega) hpl (of_decide_eq_true hd)
  rw [← ho]
  have hln : (partsL size v).length = n := by omega
  have HLk := Lib.hid (fun (W : World) (B : Option Addr) (d : Nat) (hw : Below w.heap.size w W) (hp : Reads W W.heap.size 1 B n ((partsL size v).map Value.string)) => hlinkS_any size tx A n c ps B d (partsL size v) (onF size tx ps v) W ((hr.below hw).more hw.size) hn9 hp (fun k s W' hs => opage_all size tx ps v hv k s W' hs))
  rw [hIs] at HLk
  have HLn := Lib.hid hln
  have HPl := Lib.hid hnl
  clear h0 h1 hnd hpn h2 hnl hd HDw hpl hln hr hIs ho
  go_enter Try.func14, Try.ntmps14
  go_upto_region 4 with (first
    | (go_at_call 29; refine (HG _ hg _).mono ?_; rintro e w' ⟨rfl, rfl⟩)
    | (go_at_call 26; refine (HN _).mono ?_; rintro e w1 ⟨rfl, hb1⟩)
    | (go_at_call 37; refine (HDx.out w1 hb1).mono ?_; rintro e w2 ⟨rfl, hb2⟩))
  have HB2 := Lib.hid (hb1.trans (hb2.mono hb1.size))
  clear hb1 hb2
  go_wp2_with (first
    | (go_at_call 46; refine (omake_any size v _).mono ?_; rintro e w3 ⟨rfl, hw3⟩
       obtain ⟨c2, c1, hb3⟩ := parts_made hw3 HB2.out HB2.out.size
       have HB3 := Lib.hid hb3
       clear hb3
       clear hw3)
    | (go_at_call 45; refine (collect_any size v _ _ _ hv c1 c2).mono ?_; rintro e w4 ⟨V, rfl, hr4, hb4⟩
       obtain ⟨AV, cV, rfl, _, _, _⟩ := own_form hr4
       rw [HLn.out] at hr4
       have HB4 := Lib.hid (HB3.out.trans (hb4.mono HB3.out.size))
       rw [HLn.out])
    | (go_at_call 44; refine (HLk.out _ AV cV HB4.out (Reads.of_own hr4)).mono ?_))
  rintro e w5 h2
  cases o with
  | none =>
    obtain ⟨rfl, hb⟩ := h2
    have HB5 := Lib.hid (HB4.out.trans (hb.mono HB4.out.size))
    clear hb hb4
    go_wp2_with fail
    go_ret2
    exact ⟨rfl, HB5.out⟩
  | some L =>
    obtain ⟨A2, n2, c2, rfl, hr2, hb⟩ := h2
    have HR2 := Lib.hid hr2
    have HB5 := Lib.hid (HB4.out.trans (hb.mono HB4.out.size))
    clear hb hb4 hr2
    go_wp2_with fail
    go_ret2
    exact ⟨A2, n2, c2, rfl, HR2.out, HB5.out⟩
end Go.Proofs.Ytabhhccdbfjigaa
