/-
  slices.Sort at numbers of 32 bits, of at most 12 of them: the numbers in order.
-/
import Derived.Sort.WalkA
import Derived.WalkKit
import Derived.BigGuard
import Derived.BigCall
import Derived.CellFam
import Derived.Deep.Draws
import Derived.Deep.QuietTactic
import Derived.BigQuiet
import Derived.Sort.AssemblyPlain
import Derived.Test.YtofbglgdmabafaaJ1
import Derived.Test.YtofbglgdmabafaaJ2
import Derived.Test.YtofbglgdmabafaaJ23
namespace Go.Proofs.Ytofbglgdmabafaa
open Go.RowKit Go.Sort
set_option linter.unusedVariables false
set_option linter.unusedSimpArgs false

theorem nanU (x : Int) (w : World) : Calls Try.prog 84 #[.int .u32 x] w fun e w' => e = .returned (.bool false) ∧ w' = w := by
  go_enter Try.func84, Try.ntmps84
  go_wp2_with fail
  go_ret
  exact ⟨by simp, rfl⟩
theorem lessU (x y : Int) (w : World) : Calls Try.prog 55 #[.int .u32 x, .int .u32 y] w fun e w' => e = .returned (.bool (ltInt x y)) ∧ w' = w := by
  go_enter Try.func55, Try.ntmps55
  go_wp2_with (go_at_call 84; refine (nanU _ _).mono ?_; rintro e w' ⟨rfl, rfl⟩)
  go_ret
  exact ⟨rfl, rfl⟩
abbrev encW : Int → Value := Value.int .u32
/-- One step of the inner loop: what it leaves is what the whole inner loop leaves. -/
theorem inner_end {a i j : Nat} {dk dj : Array Int} {b : Nat} {d0 : Array Int} (hI : insInner ltInt a j dj = insInner ltInt a i dk) (hO : insOuter ltInt a b i dk = d0) (hib : i < b) (hs : j ≤ a ∨ ltInt dj[j]! dj[j - 1]! = false) : insOuter ltInt a b (i + 1) dj = d0 := by
  rw [← hO, insOuter_go _ _ _ _ _ hib, ← hI, insInner_stop _ _ _ _ hs]
set_option maxRecDepth 100000 in
set_option maxHeartbeats 6400000 in
theorem insU (blk off cap a b : Nat) (d : Array Int) (w : World) (hH : Holds encW w blk off d) (hab : a ≤ b) (hb : b ≤ d.size) (hsz : d.size < 4611686018427387904) :
    Calls Try.prog 86 #[.slice (some ⟨blk, off, none⟩) d.size cap, .int .i64 a, .int .i64 b] w fun e w' =>
      e = .returned (.tuple #[]) ∧ ∃ n, w' = putRow encW (Sort.ahead w n) blk off (Sort.insertionSort ltInt d a b) := by
  obtain ⟨d0, hd0⟩ : ∃ d0, d0 = insOuter ltInt a b (a + 1) d := ⟨_, rfl⟩
  have HE := Lib.hid (show Sort.insertionSort ltInt d a b = d0 from hd0.symm)
  have HH := Lib.hid hH
  clear hH
  go_enter Try.func86, Try.ntmps86
  go_wp2
  go_loopw [6] (fun vi wr => ∃ (i n : Nat) (dk : Array Int), vi = .int .i64 i ∧ a < i ∧ i ≤ b + 1 ∧ dk.size = d.size ∧ Hid (wr = putRow encW (Sort.ahead w n) blk off dk) ∧ Hid (insOuter ltInt a b i dk = d0)) (fun vi _ => b + 1 - (RowKit.intOf vi).toNat)
  case atStart => exact ⟨a + 1, 0, d, by go_num, by omega, by omega, rfl, Lib.hid (putRow_self _ _ _ _ _ HH.out).symm, Lib.hid hd0.symm⟩
  case round =>
    obtain ⟨i, n, dk, rfl, hai, hib, hsk, HW, HO⟩ := hrel
    clear hd0
    by_cases hlt : i < b
    rotate_left
    · have HF := Lib.hid (show dk = d0 by rw [← HO.out, insOuter_stop _ _ _ _ _ hlt])
      go_wp2
      go_end0
      exact ⟨rfl, n, by rw [HE.out, ← HF.out]; exact HW.out⟩
    go_wp2
    obtain ⟨wo, hwo⟩ : ∃ wo, wo = wr := ⟨_, rfl⟩
    subst hwo
    go_loopw [7] (fun vj wr => ∃ (j m : Nat) (dj : Array Int), vj = .int .i64 j ∧ a ≤ j ∧ j ≤ i ∧ dj.size = d.size ∧ Hid (wr = putRow encW (Sort.ahead w m) blk off dj) ∧ Hid (insInner ltInt a j dj = insInner ltInt a i dk)) (fun vj _ => (RowKit.intOf vj).toNat)
    case atStart => exact ⟨i, n, dk, rfl, by omega, Nat.le_refl _, hsk, HW, Lib.hid rfl⟩
    case round =>
      obtain ⟨j, m, dj, rfl, haj, hji, hsj, HX, HI⟩ := hrel
      obtain ⟨G, hG⟩ : ∃ G : Nat → Int, ∀ t, G t = dj[t]! := ⟨fun t => dj[t]!, fun _ => rfl⟩
      have hcw : ∀ t, t < d.size → wr.cell? ⟨blk, off + t, none⟩ = some (.int .u32 (G t)) := fun t ht => by
        rw [HX.out, hG]; exact cell?_putRow _ _ _ _ d dj (holds_ahead _ _ _ _ _ _ HH.out) hsj t (by omega)
      have hfw : ∀ t, t < d.size → wr.frozen? ⟨blk, off + t, none⟩ = false := fun t ht => by
        rw [HX.out, frozen?_putRow]; exact ((holds_ahead _ _ m _ _ _ HH.out) t ht).2
      have HG := Lib.hid hG
      clear hG
      by_cases hja : a < j
      rotate_left
      · have HN := Lib.hid (inner_end HI.out HO.out hlt (Or.inl (by omega)))
        go_wp2
        go_quiet (first | (go_at_call 55; refine Calls.quiet_of_same (lessU _ _ _)))
        go_wp2
        go_roundw
        case rel => exact ⟨i + 1, m + nq, dj, by go_num, by omega, by omega, hsj, Lib.hid (by rw [HX.out]; exact putRow_drewN _ _ _ _ _ _ _), HN⟩
        case measure => simp [RowKit.intOf]; omega
      rcases hl : ltInt (G j) (G (j - 1)) with _ | _
      · have HN := Lib.hid (inner_end HI.out HO.out hlt (Or.inr (by rw [← HG.out, ← HG.out]; exact hl)))
        go_wp2
        go_quiet (first | (go_at_call 55; refine Calls.quiet_of_same (lessU _ _ _)))
        go_wp2
        go_roundw
        case rel => exact ⟨i + 1, m + nq, dj, by go_num, by omega, by omega, hsj, Lib.hid (by rw [HX.out]; exact putRow_drewN _ _ _ _ _ _ _), HN⟩
        case measure => simp [RowKit.intOf]; omega
      · have HN := Lib.hid ((insInner_go ltInt a j dj hja (by rw [← HG.out, ← HG.out]; exact hl)).symm.trans HI.out)
        go_wp2
        go_quiet (first | (go_at_call 55; refine Calls.quiet_of_same (lessU _ _ _)))
        go_wp2
        go_region
        all_goals go_wp2
        go_roundw
        case rel =>
          refine ⟨j - 1, m + (nq + 1), swp dj j (j - 1), by congr 1; omega, by omega, by omega, by rw [size_swp]; exact hsj, Lib.hid ?_, HN⟩
          rw [HX.out, HG.out, HG.out]
          exact swap_worldA _ w m (nq + 1) blk off dj j (j - 1) (by omega) (by omega)
        case measure => simp [RowKit.intOf]; omega
/-! Rows of the call's own behind a sort. -/
theorem putCells_take (d : Array Int) (cur : Array Value) (h : d.size ≤ cur.size) : (putCells encW 0 d cur).toList.take d.size = d.toList.map encW := by
  apply List.ext_getElem?
  intro k
  rw [List.getElem?_take]
  by_cases hk : k < d.size
  · rw [if_pos hk, Array.getElem?_toList]
    unfold putCells
    rw [Array.getElem?_mapIdx, Array.getElem?_eq_getElem (by omega : k < cur.size), List.getElem?_map, Array.getElem?_toList, Array.getElem?_eq_getElem hk]
    simp [hk]
  · rw [if_neg hk, List.getElem?_eq_none (by simp; omega)]
theorem size_putCells (d : Array Int) (cur : Array Value) : (putCells encW 0 d cur).size = cur.size := by unfold putCells; simp
theorem heap_putRow (w : World) (n g : Nat) (d : Array Int) (k : Nat) : (putRow encW (Sort.ahead w n) g 0 d).heap[k]? = if g = k then (w.heap[k]?).map (onCells (putCells encW 0 d)) else w.heap[k]? := by
  unfold putRow mapBlock
  rw [Array.getElem?_modify]
  rfl
theorem grown_putRow (w : World) (n g : Nat) (d : Array Int) : w.grownBy (putRow encW (Sort.ahead w n) g 0 d) (some g) :=
  ⟨rfl, rfl, rfl, by simp, fun k _ hk => by rw [heap_putRow, if_neg (by intro e; exact hk (by rw [e]))]⟩
theorem own_sorted {w : World} {base n g c : Nat} {cur : Array Value} {m : Nat} (d : Array Int) (hb : base ≤ g) (hg : w.heap[g]? = some (.cells cur 27 (0, 0))) (hn : n ≤ c) (hc : c ≤ maxLen) (hs : cur.size = c) (hd : d.size = n) :
    (putRow encW (Sort.ahead w m) g 0 d).ownsRow base 27 1 (.slice (some ⟨g, 0, none⟩) n c) n (d.toList.map encW) := by
  refine ⟨by simp [hd], .inr ⟨g, c, putCells encW 0 d cur, rfl, hb, by rw [heap_putRow, if_pos rfl, hg]; rfl, hn, hc, by rw [size_putCells, hs, Nat.mul_one], ?_⟩⟩
  rw [Nat.mul_one, ← hd]
  exact putCells_take d cur (by omega)
/-- A few numbers, sorted: the insertion sort's result as a list of naturals. -/
theorem ins_nats (l : List Nat) : ∃ l' : List Nat, l'.Perm l ∧ l'.Pairwise (· ≤ ·) ∧ (Sort.insertionSort ltInt (l.map Int.ofNat).toArray 0 (l.map Int.ofNat).toArray.size).size = l.length ∧ (Sort.insertionSort ltInt (l.map Int.ofNat).toArray 0 (l.map Int.ofNat).toArray.size).toList = l'.map Int.ofNat := by
  obtain ⟨d, hd⟩ : ∃ d, d = (l.map Int.ofNat).toArray := ⟨_, rfl⟩
  rw [← hd]
  obtain ⟨⟨h1, _, h2⟩, h3⟩ := insertionSort_holds (lt := ltInt) swo_ltInt d 0 d.size (Nat.zero_le _) (Nat.le_refl _)
  obtain ⟨e, he⟩ : ∃ e, e = Sort.insertionSort ltInt d 0 d.size := ⟨_, rfl⟩
  rw [← he] at h1 h2 h3 ⊢
  have hds : d.size = l.length := by rw [hd]; simp
  have hp : e.toList.Perm (l.map Int.ofNat) := by
    have : e.toList.Perm d.toList := by
      have a1 : (e.extract 0 d.size).toList = e.toList := by rw [← h1]; simp
      have a2 : (d.extract 0 d.size).toList = d.toList := by simp
      rw [a1, a2] at h2
      exact h2
    rw [hd] at this
    simpa using this
  have hm : e.toList = (e.toList.map Int.toNat).map Int.ofNat := by
    rw [List.map_map]
    refine (List.map_id' _).symm.trans (List.map_congr_left fun x hx => ?_)
    obtain ⟨y, _, rfl⟩ := List.mem_map.1 (hp.mem_iff.1 hx)
    simp
  refine ⟨e.toList.map Int.toNat, ?_, ?_, by rw [h1, hds], hm⟩
  · have := hp.map Int.toNat
    rw [List.map_map] at this
    refine this.trans (List.Perm.of_eq ?_)
    conv => rhs; rw [← List.map_id l]
    exact List.map_congr_left fun x _ => by simp
  · rw [List.pairwise_map, List.pairwise_iff_getElem]
    intro i j hi hj hij
    have h4 := h3 i j (Nat.zero_le _) hij (by rw [← h1]; simpa using hj)
    rw [Array.length_toList] at hi hj
    rw [getElem!_pos e j hj, getElem!_pos e i hi] at h4
    unfold ltInt at h4
    rw [decide_eq_false_iff_not] at h4
    rw [Array.getElem_toList, Array.getElem_toList]
    omega
set_option maxRecDepth 100000 in
set_option maxHeartbeats 6400000 in
theorem insU0 (A : Option Addr) (c : Nat) (w : World) : Calls Try.prog 86 #[.slice A 0 c, .int .i64 0, .int .i64 0] w fun e w' => e = .returned (.tuple #[]) ∧ w' = w := by
  go_enter Try.func86, Try.ntmps86
  go_wp2
  refine wp_loop_rounds 1 ?_
  rw [rounds_succ]
  go_wp2
  go_end0
  exact ⟨rfl, rfl⟩
set_option maxRecDepth 100000 in
set_option maxHeartbeats 6400000 in
theorem pdq12 (A : Option Addr) (n c : Nat) (k : Int) (w : World) (hn : n ≤ 12) {R : World → Prop} (hi : Calls Try.prog 86 #[.slice A n c, .int .i64 0, .int .i64 n] w fun e w' => e = .returned (.tuple #[]) ∧ R w') :
    Calls Try.prog 61 #[.slice A n c, .int .i64 0, .int .i64 n, .int .i64 k] w fun e w' => e = .returned (.tuple #[]) ∧ R w' := by
  have hw : wrap64 ((n : Int) - 0) = (n : Int) := by unfold wrap64; omega
  have h12 : (n : Int) ≤ 12 := by omega
  go_enter Try.func61, Try.ntmps61
  go_wp2
  refine wp_loop_rounds 1 ?_
  rw [rounds_succ]
  go_wp2_with (go_at_call 86; refine hi.mono ?_; rintro e w' ⟨rfl, hR⟩)
  refine bodyPost_ret (results_none rfl _ _ _) rfl ?_
  exact ⟨rfl, hR⟩
set_option maxRecDepth 100000 in
set_option maxHeartbeats 6400000 in
theorem sort12 (A : Option Addr) (n c : Nat) (w : World) (hn : n ≤ 12) {R : World → Prop} (hi : Calls Try.prog 86 #[.slice A n c, .int .i64 0, .int .i64 n] w fun e w' => e = .returned (.tuple #[]) ∧ R w') :
    Calls Try.prog 42 #[.slice A n c] w fun e w' => e = .returned (.tuple #[]) ∧ R w' := by
  have hp := fun k => pdq12 A n c k w hn hi
  go_enter Try.func42, Try.ntmps42
  go_wp2_with (first
    | (go_at_call 62; refine (Try.bits_Len (n : Int) _ (by omega) (by omega)).mono ?_; rintro e w' ⟨rfl, rfl⟩)
    | (go_at_call 61; refine (hp _).mono ?_; rintro e w' ⟨rfl, hR⟩))
  go_end0
  exact ⟨rfl, hR⟩
end Go.Proofs.Ytofbglgdmabafaa

