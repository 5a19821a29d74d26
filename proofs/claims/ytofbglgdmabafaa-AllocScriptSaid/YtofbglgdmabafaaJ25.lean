/-
  The library's sort of numbers of 32 bits, first part: what a step keeps of the world; siftDown, heapSort, reverseRange.
-/
import Derived.Test.YtofbglgdmabafaaJ24
import Derived.Test.YtofbglgdmabafaaJ8
import Derived.Sort.LotD3
namespace Go.Proofs.Ytofbglgdmabafaa
open Go.RowKit Go.Sort
set_option linter.unusedVariables false
set_option linter.unusedSimpArgs false

/-- The world but for what stands in one block's cells, and what was made since. -/
def SameU (blk : Nat) (w w' : World) : Prop := w.grownBy w' (some blk) ∧ blk < w.heap.size ∧ ∀ cur t fr, w.heap[blk]? = some (.cells cur t fr) → ∃ cur', w'.heap[blk]? = some (.cells cur' t fr) ∧ cur'.size = cur.size
theorem SameU.refl {blk : Nat} {w : World} (h : blk < w.heap.size) : SameU blk w w := ⟨⟨rfl, rfl, rfl, Nat.le_refl _, fun _ _ _ => rfl⟩, h, fun cur t fr h => ⟨cur, h, rfl⟩⟩
theorem SameU.trans {blk : Nat} {a b c : World} (h : SameU blk a b) (g : SameU blk b c) : SameU blk a c :=
  ⟨grown_trans h.1 g.1, h.2.1, fun cur t fr e => by
    obtain ⟨x, hx, hs⟩ := h.2.2 cur t fr e
    obtain ⟨y, hy, hs2⟩ := g.2.2 x t fr hx
    exact ⟨y, hy, hs2.trans hs⟩⟩
theorem SameU.drewN {blk : Nat} {a b : World} (h : SameU blk a b) (n : Nat) : SameU blk a (b.drewN n) := ⟨⟨h.1.os, h.1.tape, h.1.output, h.1.size, h.1.block⟩, h.2⟩
theorem SameU.drew {blk : Nat} {a b : World} (h : SameU blk a b) : SameU blk a b.drew := ⟨⟨h.1.os, h.1.tape, h.1.output, h.1.size, h.1.block⟩, h.2⟩
theorem SameU.lt {blk : Nat} {a b : World} (h : SameU blk a b) : blk < b.heap.size := Nat.lt_of_lt_of_le h.2.1 h.1.size
theorem SameU.set {blk : Nat} {a b : World} (h : SameU blk a b) (i : Nat) (v : Value) : SameU blk a (b.setCell ⟨blk, i, none⟩ v) := by
  refine ⟨⟨h.1.os, h.1.tape, h.1.output, by simpa [World.setCell] using h.1.size, fun k hk hne => (Below.heap_setCell _ _ _ _ (fun e => hne (by rw [e]))).trans (h.1.block k hk hne)⟩, h.2.1, fun cur t fr e => ?_⟩
  obtain ⟨x, hx, hs⟩ := h.2.2 cur t fr e
  refine ⟨x.setIfInBounds i v, ?_, by rw [Array.size_setIfInBounds]; exact hs⟩
  rw [setCell_eq]
  unfold mapBlock
  rw [Array.getElem?_modify, if_pos rfl, hx]
  rfl
theorem SameU.setNew {blk : Nat} {a b : World} (h : SameU blk a b) {p : Addr} (hp : a.heap.size ≤ p.block) (v : Value) : SameU blk a (b.setCell p v) :=
  ⟨grown_cell h.1 hp v, h.2.1, fun cur t fr e => by
    obtain ⟨x, hx, hs⟩ := h.2.2 cur t fr e
    have hlt := h.2.1
    exact ⟨x, (Below.heap_setCell _ _ _ _ (by omega)).trans hx, hs⟩⟩
theorem SameU.alloc {blk : Nat} {a b : World} (h : SameU blk a b) (o : Obj) : SameU blk a (b.alloc o) := by
  have hl := h.lt
  have hb := h.1.size
  refine ⟨⟨h.1.os, h.1.tape, h.1.output, by simp; omega, fun k hk hne => (heap_alloc_old b o (Nat.lt_of_lt_of_le hk hb)).trans (h.1.block k hk hne)⟩, h.2.1, fun cur t fr e => ?_⟩
  obtain ⟨x, hx, hs⟩ := h.2.2 cur t fr e
  exact ⟨x, (heap_alloc_old b o hl).trans hx, hs⟩
theorem SameU.put {blk off : Nat} {a : World} {n : Nat} {d : Array Int} (h : blk < a.heap.size) : SameU blk a (putRow encW (Sort.ahead a n) blk off d) := by
  refine ⟨⟨rfl, rfl, rfl, by simp, fun k _ hk => ?_⟩, h, fun cur t fr e => ⟨putCells encW off d cur, ?_, by unfold putCells; simp⟩⟩
  · unfold putRow mapBlock
    rw [Array.getElem?_modify, if_neg (by intro e; exact hk (by rw [e]))]
    rfl
  · unfold putRow mapBlock
    rw [Array.getElem?_modify, if_pos rfl]
    show (a.heap[blk]?).map _ = _
    rw [e]
    rfl
theorem holds_alloc {w : World} {blk off : Nat} {d : Array Int} (h : Holds encW w blk off d) (o : Obj) (hb : blk < w.heap.size) : Holds encW (w.alloc o) blk off d := fun j hj => by
  have := h j hj
  refine ⟨?_, ?_⟩
  · rw [← this.1]
    simp only [World.cell?, heap_alloc_old w o hb]
  · rw [← this.2]
    simp only [World.frozen?, heap_alloc_old w o hb]
theorem holds_other {w : World} {blk off : Nat} {d : Array Int} (h : Holds encW w blk off d) {p : Addr} (hp : blk ≠ p.block) (v : Value) : Holds encW (w.setCell p v) blk off d := fun j hj => by
  have := h j hj
  have hh := Below.heap_setCell w p v blk hp
  refine ⟨?_, ?_⟩
  · rw [← this.1]
    simp only [World.cell?, hh]
  · rw [← this.2]
    simp only [World.frozen?, hh]
theorem holds_set {w : World} {blk off : Nat} {d : Array Int} (h : Holds encW w blk off d) {i : Nat} (hi : i < d.size) (x : Int) : Holds encW (w.setCell ⟨blk, off + i, none⟩ (.int .u32 x)) blk off (d.setIfInBounds i x) := by
  have e := putRow_set encW w blk off d i x hi
  rw [putRow_self _ _ _ _ _ h] at e
  rw [e]
  exact holds_putRow _ _ _ _ d _ h (by simp)
theorem holds_swp {w : World} {blk off : Nat} {d : Array Int} (h : Holds encW w blk off d) {i j : Nat} (hi : i < d.size) (hj : j < d.size) :
    Holds encW ((w.setCell ⟨blk, off + i, none⟩ (.int .u32 d[j]!)).setCell ⟨blk, off + j, none⟩ (.int .u32 d[i]!)) blk off (swp d i j) :=
  holds_set (holds_set h hi d[j]!) (by simpa using hj) d[i]!
theorem same_swp {a b : World} {blk off i j : Nat} {x y : Value} (h : SameU blk a b) : SameU blk a ((b.setCell ⟨blk, off + i, none⟩ x).setCell ⟨blk, off + j, none⟩ y) := (h.set _ _).set _ _
/-- The cells of a row, as the walk loads them, by a letter. -/
theorem row_fact {w : World} {blk off : Nat} {d : Array Int} (h : Holds encW w blk off d) {G : Nat → Int} (hG : ∀ t, G t = d[t]!) {n : Nat} (hn : d.size = n) : (∀ t, t < n → w.cell? ⟨blk, off + t, none⟩ = some (.int .u32 (G t))) ∧ ∀ t, t < n → w.frozen? ⟨blk, off + t, none⟩ = false :=
  ⟨fun t ht => by rw [hG]; exact (h t (by omega)).1, fun t ht => (h t (by omega)).2⟩
theorem i64w (k : Nat) (z : Int) (hz : z = (k : Int)) (h : k < 9223372036854775808) : IntKind.i64.wrap z = z := by subst hz; rw [IntKind.wrap_i64]; omega
theorem meas_sift {hi r k : Nat} (h : r < k ∧ k ≤ hi) : hi - k < hi - r := by omega
theorem sift_stop {hi first r : Nat} {d : Array Int} (h : hi ≤ 2 * r + 1) : Sort.siftDown ltInt hi first r d = d := by rw [Sort.siftDown, dif_pos h]
theorem sift_one {hi first r : Nat} {d : Array Int} (h : 2 * r + 1 < hi) (h2 : ¬ (2 * r + 1 + 1 < hi ∧ ltInt d[first + (2 * r + 1)]! d[first + (2 * r + 1) + 1]! = true)) :
    Sort.siftDown ltInt hi first r d = if ltInt d[first + r]! d[first + (2 * r + 1)]! = true then Sort.siftDown ltInt hi first (2 * r + 1) (swp d (first + r) (first + (2 * r + 1))) else d := by
  rw [Sort.siftDown, dif_neg (by omega), if_neg (by simpa [Bool.and_eq_true, decide_eq_true_eq] using h2)]
  rcases ltInt d[first + r]! d[first + (2 * r + 1)]! with _ | _ <;> simp
theorem sift_two {hi first r : Nat} {d : Array Int} (h : 2 * r + 1 + 1 < hi) (h2 : ltInt d[first + (2 * r + 1)]! d[first + (2 * r + 1) + 1]! = true) :
    Sort.siftDown ltInt hi first r d = if ltInt d[first + r]! d[first + (2 * r + 2)]! = true then Sort.siftDown ltInt hi first (2 * r + 2) (swp d (first + r) (first + (2 * r + 2))) else d := by
  rw [Sort.siftDown, dif_neg (by omega), if_pos (by simp [h, h2])]
  rcases ltInt d[first + r]! d[first + (2 * r + 2)]! with _ | _ <;> simp
  omega
set_option maxRecDepth 100000 in
set_option maxHeartbeats 6400000 in
theorem siftU (blk off cap lo hi first : Nat) (d : Array Int) (w : World) (hH : Holds encW w blk off d) (hl : lo ≤ hi) (hb : first + hi ≤ d.size) (hsz : d.size < 4611686018427387904) (hblk : blk < w.heap.size) :
    Calls Try.prog 110 #[.slice (some ⟨blk, off, none⟩) d.size cap, .int .i64 lo, .int .i64 hi, .int .i64 first] w fun e w' =>
      e = .returned (.tuple #[]) ∧ Holds encW w' blk off (Sort.siftDown ltInt hi first lo d) ∧ SameU blk w w' := by
  obtain ⟨d0, hd0⟩ : ∃ d0, d0 = Sort.siftDown ltInt hi first lo d := ⟨_, rfl⟩
  rw [← hd0]
  have HH := Lib.hid hH
  have HS := Lib.hid (SameU.refl hblk)
  have HD := Lib.hid hd0.symm
  clear hH hblk hd0
  go_enter Try.func110, Try.ntmps110
  go_wp2
  go_loopw [8] (fun v wr => ∃ (r : Nat) (dk : Array Int), v = .int .i64 r ∧ r ≤ hi ∧ dk.size = d.size ∧ Hid (Holds encW wr blk off dk) ∧ Hid (SameU blk w wr) ∧ Hid (Sort.siftDown ltInt hi first r dk = d0)) (fun v _ => hi - (RowKit.intOf v).toNat)
  case atStart => exact ⟨lo, d, rfl, hl, rfl, HH, HS, HD⟩
  case round =>
    obtain ⟨r, dk, rfl, hr, hs, HK, HW, HQ⟩ := hrel
    by_cases h1 : hi ≤ 2 * r + 1
    · have HF := Lib.hid (show dk = d0 by rw [← HQ.out, sift_stop h1])
      go_wp2
      go_end0
      exact ⟨rfl, by rw [← HF.out]; exact HK.out, HW.out⟩
    obtain ⟨G, hG⟩ : ∃ G : Nat → Int, ∀ t, G t = dk[t]! := ⟨fun t => dk[t]!, fun _ => rfl⟩
    obtain ⟨hcw, hfw⟩ := row_fact HK.out hG hs
    have HG := Lib.hid hG
    clear hG
    obtain ⟨k, hk⟩ : ∃ k, k = 2 * r + 1 := ⟨_, rfl⟩
    have e9 : 2 * (r : Int) + 1 = (k : Int) := by omega
    have z1 : k < hi := by omega
    have z1b : (k : Int) < (hi : Int) := by omega
    have y1 : decide ((hi : Int) ≤ (k : Int)) = false := by simp; omega
    have q0 : r < hi := by omega
    have q1 : hi ≤ d.size := by omega
    have xr := i64w (first + r) ((first : Int) + (r : Int)) (by omega) (by omega)
    have i1 : (0 : Int) ≤ (first : Int) + (r : Int) := by omega
    have i2 : (first : Int) + (r : Int) < d.size := by omega
    have n1 : ((first : Int) + (r : Int)).toNat = first + r := by omega
    have J1 := Lib.hid (show first + r < d.size by omega)
    clear h1
    by_cases h2 : k + 1 < hi
    rotate_left
    · have E1 := Lib.hid (sift_one (d := dk) (first := first) (show 2 * r + 1 < hi by omega) (fun h => h2 (by omega)))
      rw [← hk] at E1
      have y2 : decide ((k : Int) + 1 < (hi : Int)) = false := by simp; omega
      have xk := i64w (first + k) ((first : Int) + (k : Int)) (by omega) (by omega)
      have i3 : (0 : Int) ≤ (first : Int) + (k : Int) := by omega
      have i4 : (first : Int) + (k : Int) < d.size := by omega
      have n2 : ((first : Int) + (k : Int)).toNat = first + k := by omega
      have J2 := Lib.hid (show first + k < d.size by omega)
      have ZK := Lib.hid (show k ≤ hi by omega)
      have ZR := Lib.hid (show r < k ∧ k ≤ hi by omega)
      clear hk
      rcases hm : ltInt (G (first + r)) (G (first + k)) with _ | _
      · have HF := Lib.hid (show dk = d0 by rw [← HQ.out, E1.out, if_neg (by rw [← HG.out, ← HG.out, hm]; decide)])
        go_wp2
        go_quiet (first | (go_at_call 55; refine Calls.quiet_of_same (lessU _ _ _)))
        obtain ⟨w2, hw2⟩ : ∃ x, x = wr.drewN nq := ⟨_, rfl⟩
        have HK2 := Lib.hid (show Holds encW w2 blk off dk by rw [hw2]; exact HK.out)
        have HW2 := Lib.hid (show SameU blk w w2 by rw [hw2]; exact HW.out.drewN _)
        obtain ⟨hcw, hfw⟩ := row_fact HK2.out HG.out hs
        rw [← hw2]
        clear hw2
        go_wp2
        go_quiet (first | (go_at_call 55; refine Calls.quiet_of_same (lessU _ _ _)))
        go_wp2
        refine bodyPost_ret (results_none rfl _ _ _) rfl ?_
        exact ⟨rfl, by rw [← HF.out]; exact HK2.out, HW2.out.drewN _⟩
      · have HN := Lib.hid (show Sort.siftDown ltInt hi first k (swp dk (first + r) (first + k)) = d0 by rw [← HQ.out, E1.out, if_pos (by rw [← HG.out, ← HG.out, hm])])
        go_wp2
        go_quiet (first | (go_at_call 55; refine Calls.quiet_of_same (lessU _ _ _)))
        obtain ⟨w2, hw2⟩ : ∃ x, x = wr.drewN nq := ⟨_, rfl⟩
        have HK2 := Lib.hid (show Holds encW w2 blk off dk by rw [hw2]; exact HK.out)
        have HW2 := Lib.hid (show SameU blk w w2 by rw [hw2]; exact HW.out.drewN _)
        obtain ⟨hcw, hfw⟩ := row_fact HK2.out HG.out hs
        rw [← hw2]
        clear hw2
        go_wp2
        go_quiet (first | (go_at_call 55; refine Calls.quiet_of_same (lessU _ _ _)))
        obtain ⟨w3, hw3⟩ : ∃ x, x = w2.drewN nq := ⟨_, rfl⟩
        have HK3 := Lib.hid (show Holds encW w3 blk off dk by rw [hw3]; exact HK2.out)
        have HW3 := Lib.hid (show SameU blk w w3 by rw [hw3]; exact HW2.out.drewN _)
        obtain ⟨hcw, hfw⟩ := row_fact HK3.out HG.out hs
        rw [← hw3]
        clear hw3
        go_wp2
        go_region
        all_goals go_wp2
        go_roundw
        case rel =>
          refine ⟨k, swp dk (first + r) (first + k), by go_num, ZK.out, by rw [size_swp]; exact hs, Lib.hid ?_, Lib.hid (same_swp HW3.out.drew), HN⟩
          rw [HG.out, HG.out]
          exact holds_swp (d := dk) (by exact HK3.out) (by rw [hs]; exact J1.out) (by rw [hs]; exact J2.out)
        case measure => simp [RowKit.intOf]; exact meas_sift ZR.out
    have y2 : decide ((k : Int) + 1 < (hi : Int)) = true := by simp; omega
    have xk1 := i64w (first + k) ((first : Int) + (k : Int)) (by omega) (by omega)
    have xk2 := i64w (first + k + 1) ((first : Int) + (k : Int) + 1) (by omega) (by omega)
    have j1 : (0 : Int) ≤ (first : Int) + (k : Int) := by omega
    have j2 : (first : Int) + (k : Int) < d.size := by omega
    have j3 : (0 : Int) ≤ (first : Int) + (k : Int) + 1 := by omega
    have j4 : (first : Int) + (k : Int) + 1 < d.size := by omega
    have m1 : ((first : Int) + (k : Int)).toNat = first + k := by omega
    have m2 : ((first : Int) + (k : Int) + 1).toNat = first + k + 1 := by omega
    rcases hl : ltInt (G (first + k)) (G (first + k + 1)) with _ | _
    · have E1 := Lib.hid (sift_one (d := dk) (first := first) (show 2 * r + 1 < hi by omega) (fun h => by have h9 := h.2; rw [← HG.out, ← HG.out, ← hk, hl] at h9; cases h9))
      rw [← hk] at E1
      have J2 := Lib.hid (show first + k < d.size by omega)
      have ZK := Lib.hid (show k ≤ hi by omega)
      have ZR := Lib.hid (show r < k ∧ k ≤ hi by omega)
      clear hk
      rcases hm : ltInt (G (first + r)) (G (first + k)) with _ | _
      · have HF := Lib.hid (show dk = d0 by rw [← HQ.out, E1.out, if_neg (by rw [← HG.out, ← HG.out, hm]; decide)])
        go_wp2
        go_quiet (first | (go_at_call 55; refine Calls.quiet_of_same (lessU _ _ _)))
        obtain ⟨w2, hw2⟩ : ∃ x, x = wr.drewN nq := ⟨_, rfl⟩
        have HK2 := Lib.hid (show Holds encW w2 blk off dk by rw [hw2]; exact HK.out)
        have HW2 := Lib.hid (show SameU blk w w2 by rw [hw2]; exact HW.out.drewN _)
        obtain ⟨hcw, hfw⟩ := row_fact HK2.out HG.out hs
        rw [← hw2]
        clear hw2
        go_wp2
        go_quiet (first | (go_at_call 55; refine Calls.quiet_of_same (lessU _ _ _)))
        go_wp2
        refine bodyPost_ret (results_none rfl _ _ _) rfl ?_
        exact ⟨rfl, by rw [← HF.out]; exact HK2.out, HW2.out.drewN _⟩
      · have HN := Lib.hid (show Sort.siftDown ltInt hi first k (swp dk (first + r) (first + k)) = d0 by rw [← HQ.out, E1.out, if_pos (by rw [← HG.out, ← HG.out, hm])])
        go_wp2
        go_quiet (first | (go_at_call 55; refine Calls.quiet_of_same (lessU _ _ _)))
        obtain ⟨w2, hw2⟩ : ∃ x, x = wr.drewN nq := ⟨_, rfl⟩
        have HK2 := Lib.hid (show Holds encW w2 blk off dk by rw [hw2]; exact HK.out)
        have HW2 := Lib.hid (show SameU blk w w2 by rw [hw2]; exact HW.out.drewN _)
        obtain ⟨hcw, hfw⟩ := row_fact HK2.out HG.out hs
        rw [← hw2]
        clear hw2
        go_wp2
        go_quiet (first | (go_at_call 55; refine Calls.quiet_of_same (lessU _ _ _)))
        obtain ⟨w3, hw3⟩ : ∃ x, x = w2.drewN nq := ⟨_, rfl⟩
        have HK3 := Lib.hid (show Holds encW w3 blk off dk by rw [hw3]; exact HK2.out)
        have HW3 := Lib.hid (show SameU blk w w3 by rw [hw3]; exact HW2.out.drewN _)
        obtain ⟨hcw, hfw⟩ := row_fact HK3.out HG.out hs
        rw [← hw3]
        clear hw3
        go_wp2
        go_region
        all_goals go_wp2
        go_roundw
        case rel =>
          refine ⟨k, swp dk (first + r) (first + k), by go_num, ZK.out, by rw [size_swp]; exact hs, Lib.hid ?_, Lib.hid (same_swp HW3.out.drew), HN⟩
          rw [HG.out, HG.out]
          exact holds_swp (d := dk) (by exact HK3.out) (by rw [hs]; exact J1.out) (by rw [hs]; exact J2.out)
        case measure => simp [RowKit.intOf]; exact meas_sift ZR.out
    · obtain ⟨k1, hk1⟩ : ∃ k1, k1 = k + 1 := ⟨_, rfl⟩
      have E1 := Lib.hid (sift_two (d := dk) (first := first) (show 2 * r + 1 + 1 < hi by omega) (by rw [← HG.out, ← HG.out, ← hk]; exact hl))
      rw [show 2 * r + 2 = k1 by omega] at E1
      have e8 : (k : Int) + 1 = (k1 : Int) := by omega
      have xk := i64w (first + k1) ((first : Int) + (k1 : Int)) (by omega) (by omega)
      have i3 : (0 : Int) ≤ (first : Int) + (k1 : Int) := by omega
      have i4 : (first : Int) + (k1 : Int) < d.size := by omega
      have n2 : ((first : Int) + (k1 : Int)).toNat = first + k1 := by omega
      have J2 := Lib.hid (show first + k1 < d.size by omega)
      have ZK := Lib.hid (show k1 ≤ hi by omega)
      have ZR := Lib.hid (show r < k1 ∧ k1 ≤ hi by omega)
      have xw := i64w k1 (k1 : Int) rfl (by omega)
      have y3b : decide (k1 < hi) = true := by simp; omega
      have y3 : decide ((k1 : Int) < (hi : Int)) = true := by simp; omega
      clear hk hk1
      rcases hm : ltInt (G (first + r)) (G (first + k1)) with _ | _
      · have HF := Lib.hid (show dk = d0 by rw [← HQ.out, E1.out, if_neg (by rw [← HG.out, ← HG.out, hm]; decide)])
        go_wp2
        go_quiet (first | (go_at_call 55; refine Calls.quiet_of_same (lessU _ _ _)))
        obtain ⟨w2, hw2⟩ : ∃ x, x = wr.drewN nq := ⟨_, rfl⟩
        have HK2 := Lib.hid (show Holds encW w2 blk off dk by rw [hw2]; exact HK.out)
        have HW2 := Lib.hid (show SameU blk w w2 by rw [hw2]; exact HW.out.drewN _)
        obtain ⟨hcw, hfw⟩ := row_fact HK2.out HG.out hs
        rw [← hw2]
        clear hw2
        go_wp2
        go_quiet (first | (go_at_call 55; refine Calls.quiet_of_same (lessU _ _ _)))
        go_wp2
        refine bodyPost_ret (results_none rfl _ _ _) rfl ?_
        exact ⟨rfl, by rw [← HF.out]; exact HK2.out, HW2.out.drewN _⟩
      · have HN := Lib.hid (show Sort.siftDown ltInt hi first k1 (swp dk (first + r) (first + k1)) = d0 by rw [← HQ.out, E1.out, if_pos (by rw [← HG.out, ← HG.out, hm])])
        go_wp2
        go_quiet (first | (go_at_call 55; refine Calls.quiet_of_same (lessU _ _ _)))
        obtain ⟨w2, hw2⟩ : ∃ x, x = wr.drewN nq := ⟨_, rfl⟩
        have HK2 := Lib.hid (show Holds encW w2 blk off dk by rw [hw2]; exact HK.out)
        have HW2 := Lib.hid (show SameU blk w w2 by rw [hw2]; exact HW.out.drewN _)
        obtain ⟨hcw, hfw⟩ := row_fact HK2.out HG.out hs
        rw [← hw2]
        clear hw2
        go_wp2
        go_quiet (first | (go_at_call 55; refine Calls.quiet_of_same (lessU _ _ _)))
        obtain ⟨w3, hw3⟩ : ∃ x, x = w2.drewN nq := ⟨_, rfl⟩
        have HK3 := Lib.hid (show Holds encW w3 blk off dk by rw [hw3]; exact HK2.out)
        have HW3 := Lib.hid (show SameU blk w w3 by rw [hw3]; exact HW2.out.drewN _)
        obtain ⟨hcw, hfw⟩ := row_fact HK3.out HG.out hs
        rw [← hw3]
        clear hw3
        go_wp2
        go_region
        all_goals go_wp2
        go_roundw
        case rel =>
          refine ⟨k1, swp dk (first + r) (first + k1), by go_num, ZK.out, by rw [size_swp]; exact hs, Lib.hid ?_, Lib.hid (same_swp HW3.out.drew), HN⟩
          rw [HG.out, HG.out]
          exact holds_swp (d := dk) (by exact HK3.out) (by rw [hs]; exact J1.out) (by rw [hs]; exact J2.out)
        case measure => simp [RowKit.intOf]; exact meas_sift ZR.out
end Go.Proofs.Ytofbglgdmabafaa

