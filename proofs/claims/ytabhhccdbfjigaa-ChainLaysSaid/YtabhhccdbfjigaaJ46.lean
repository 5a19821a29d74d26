/-
  Texts that the main proof rests on, put together: ChLaw, SortP. No statement is proved here.
-/
import Derived.Test.YtabhhccdbfjigaaJ45
import Derived.Test.YtabhhccdbfjigaaJ26
import Derived.Test.YtabhhccdbfjigaaJ24
import Derived.Test.YtabhhccdbfjigaaJ44
import Derived.Test.YtabhhccdbfjigaaJ16
import Derived.Sort.LotD3
namespace Go.Proofs.Ytabhhccdbfjigaa
open Go.RowKit
open Go.Lib hiding intOf
set_option linter.unusedVariables false
set_option linter.unusedSimpArgs false
attribute [local go_sem ↓] Go.wp_at_zero Go.wp_at_succ

/-- The pages that a call makes, none where it refuses; its error. -/
def pgsL (o : Option (List Pg)) : List Pg := o.getD []
def pgsE (o : Option (List Pg)) : Int := if o.isSome then 0 else 2
theorem pgspost_any {o : Option (List Pg)} {w : World} {e : Ending} {w' : World} (h : PgsPost o w e w') : ∃ A n c, e = .returned (.tuple #[.slice A n c, .int .i64 (pgsE o)]) ∧ Reads w' w'.heap.size 6 A n (pgcs (pgsL o)) ∧ Below w.heap.size w w' := by
  cases o with
  | none => obtain ⟨rfl, hb⟩ := h; exact ⟨none, 0, 0, rfl, Reads.none_, hb⟩
  | some L => obtain ⟨A, n, c, rfl, hr, hb⟩ := h; exact ⟨A, n, c, rfl, hr, hb⟩
theorem listV_bad {size : Int} {s : ByteArray} {head : Nat} (h : goodSize size = false) : ldNs (listV size s head) = [] ∧ ldPs (listV size s head) = [] := by
  have ha : ∀ k, along size s 6 head k = ([], head) := fun k => by
    induction k with
    | zero => rfl
    | succ k ih => simp only [along, ih, goes_bad (readAt_bad h)]
  have hc : chainL size s 6 head = [] := by rw [chainL, ha]
  unfold listV
  rw [hc]
  split
  · exact ⟨rfl, rfl⟩
  · exact ⟨rfl, rfl⟩
theorem listpost_any {size : Int} {s : ByteArray} {head : Nat} {w : World} {e : Ending} {w' : World} (h : ListPost size (listV size s head) w e w') : ∃ A n c A2 n2 c2, e = .returned (.tuple #[.slice A n c, .slice A2 n2 c2, .int .i64 (ldErr size (listV size s head))]) ∧ Reads w' w'.heap.size 1 A n (ucells (ldNs (listV size s head))) ∧ Reads w' w'.heap.size 1 A2 n2 (ucells (ldPs (listV size s head))) ∧ Below w.heap.size w w' := by
  unfold ListPost at h
  rcases hg : goodSize size with _ | _
  · rw [hg, if_neg (by decide)] at h
    obtain ⟨rfl, hb⟩ := h
    obtain ⟨h1, h2⟩ := listV_bad (s := s) (head := head) hg
    rw [h1, h2]
    exact ⟨none, 0, 0, none, 0, 0, by rw [ldErr, hg] <;> rfl, Reads.none_, Reads.none_, hb⟩
  · rw [hg, if_pos rfl] at h
    exact h
theorem str_eqleq (a : ByteArray) (w : World) : (binOp .eql 9 (.string a) (.string a)).run Try.prog w = .ok (.bool true) w := by
  simp [go_sem]
/-- A page of a value, by its place. -/
theorem on_nth {z tx : Nat} {ps : List Nat} {v : ByteArray} {L : List Pg} (h : onL z tx ps v = some L) {i : Nat} (hi : i < ps.length) : ∃ bd, L[i]? = some ⟨5, (min (z - 24) (v.size - i * (z - 24)) : Nat), nthU ps i, nthU ps (i + 1), tx, bd⟩ := by
  obtain ⟨h1, h2, h3, h4, h5, h6, hL⟩ := onL_some h
  have hr : 0 < z - 24 := by obtain ⟨z', hz, hz1, _⟩ := good_nat h1; omega
  obtain ⟨g1, _⟩ := on_part h hi
  refine ⟨overBody z (piece (z - 24) v i), ?_⟩
  rw [hL, List.getElem?_map, List.getElem?_range hi, Option.map_some]
  unfold onPg
  rw [g1, piece_size hr (by rw [h4]; exact hi), nextL_is]
theorem on_len {z tx : Nat} {ps : List Nat} {v : ByteArray} {L : List Pg} (h : onL z tx ps v = some L) : L.length = ps.length := by
  obtain ⟨_, _, _, _, _, _, hL⟩ := onL_some h
  rw [hL]
  simp
set_option maxRecDepth 100000 in
set_option maxHeartbeats 6400000 in
theorem lives11_any (w : World) : Calls Try.prog 7 #[] w fun e w' => e = .returned (.bool true) ∧ Below w.heap.size w w' := by
  have hT := fun w => times_any ⟨#[118]⟩ 105 w (by decide) (by decide)
  obtain ⟨V, hV⟩ : ∃ V, V = reps ⟨#[118]⟩ 105 := ⟨_, rfl⟩
  have hVs : V.size = 105 := by rw [hV, reps_size]; rfl
  rw [← hV] at hT
  have hne : needN 128 (V.size : Int) = 2 := by rw [hVs]; rfl
  have hpl : (partsL 128 V).length = (runW 7 2).length := by rw [parts_need, hne]; rfl
  have ho : pagesL 128 3 7 V = some ((List.range 2).map (onPg 128 3 (runW 7 2) V)) := by
    unfold pagesL
    rw [hne]
    exact onL_yes (size := 128) rfl (by omega) (by omega) hpl (by decide) (by decide)
  have hP := fun w => hpages_any 128 3 7 V w (by decide) (by omega) (fun _ => by rw [hne]; decide)
  obtain ⟨L, hL⟩ : ∃ L, L = (List.range 2).map (onPg 128 3 (runW 7 2) V) := ⟨_, rfl⟩
  rw [← hL] at ho
  have ho2 : onL ((128 : Nat) : Int) 3 (runW 7 2) V = some L := by
    unfold pagesL at ho
    rw [hne] at ho
    exact ho
  obtain ⟨b0, h0⟩ := on_nth ho2 (i := 0) (by decide)
  obtain ⟨b1, h1⟩ := on_nth ho2 (i := 1) (by decide)
  have hlen : L.length = 2 := on_len ho2
  rw [hVs] at h0 h1
  rw [ho] at hP
  have H0 := Lib.hid (show L[0]? = some ⟨5, 104, 7, 8, 3, b0⟩ from h0)
  have H1 := Lib.hid (show L[1]? = some ⟨5, 1, 8, 0, 3, b1⟩ from h1)
  have HLn := Lib.hid hlen
  clear h0 h1 hlen ho ho2 hL hpl hne hVs hV
  have HB := Lib.hid (Below.refl w.heap.size w)
  go_enter Try.func7, Try.ntmps7
  go_wp2_with fail
  refine (hT _).mono ?_
  rintro e w1 ⟨rfl, rfl⟩
  clear hT
  go_wp2_with fail
  refine (hP _).mono ?_
  rintro e w2 ⟨A, n, c, rfl, hr, hb⟩
  have HR := Lib.hid hr
  have hn : n = 2 := by have := pgcs_len hr; rw [HLn.out] at this; omega
  subst hn
  replace HB := Lib.hid (HB.out.trans (hb.mono HB.out.size))
  clear hb hr hP
  obtain ⟨ad, x, rfl, _, hx, hc⟩ := page_at HR.out (show 0 < 2 by decide)
  rw [H0.out] at hx
  injection hx with hx
  subst hx
  obtain ⟨d0, d1, d2, d3, d4, d5⟩ := hc
  obtain ⟨e0, e1, e2, e3, e4, e5⟩ := pgcell HR.out (show 1 < 2 by decide) H1.out
  simp [Addr.add] at d1 d2 d3 e1 e2 e3
  clear d0 d4 d5 e0 e4 e5
  go_wp2_with fail
  go_ret
  exact ⟨rfl, HB.out⟩
end Go.Proofs.Ytabhhccdbfjigaa
namespace Go.Proofs.Ytabhhccdbfjigaa
open Go.RowKit Go.Sort
set_option linter.unusedVariables false
set_option linter.unusedSimpArgs false

/-- The world but for what stands in one block's cells, and what was made since. -/
def SameU (blk : Nat) (w w' : World) : Prop := w.grownBy w' (some blk) ∧ blk < w.heap.size ∧ ∀ cur t fr, w.heap[blk]? = some (.cells cur t fr) → ∃ cur', w'.heap[blk]? = some (.cells cur' t fr) ∧ cur'.size = cur.size
theorem SameU.refl {blk : Nat} {w : World} (h : blk < w.heap.size) : SameU blk w w := ⟨⟨rfl, rfl, rfl, Nat.le_refl _, fun _ _ _ => rfl⟩, h, fun cur t fr h => ⟨cur, h, rfl⟩⟩
theorem SameU.trans {blk : Nat} {a b c : World} (h : SameU blk a b) (g : SameU blk b c) : SameU blk a c :=
  ⟨grown_trans h.1 g.1, h.2.1, fun cur t fr e => by
    obtain ⟨x, hx, hs⟩ := h.2.2 cur t fr e
    obtain ⟨y, hy, hs2⟩ := g.2.2 x t fr hx
    exact ⟨y, hy, hs2.trans hs⟩⟩
theorem SameU.drewN {blk : Nat} {a b : World} (h : SameU blk a b) (n : Nat) : SameU blk a (b.drewN n) := ⟨⟨h.1.os, h.1.tape, h.1.output, h.1.size, h.1.block⟩, h.2⟩
theorem SameU.drew {blk : Nat} {a b : World} (h : SameU blk a b) : SameU blk a b.drew := ⟨⟨h.1.os, h.1.tape, h.1.output, h.1.size, h.1.block⟩, h.2⟩
theorem SameU.lt {blk : Nat} {a b : World} (h : SameU blk a b) : blk < b.heap.size := Nat.lt_of_lt_of_le h.2.1 h.1.size
theorem SameU.set {blk : Nat} {a b : World} (h : SameU blk a b) (i : Nat) (v : Value) : SameU blk a (b.setCell ⟨blk, i, none⟩ v) := by
  refine ⟨⟨h.1.os, h.1.tape, h.1.output, by simpa [World.setCell] using h.1.size, fun k hk hne => (Below.heap_setCell _ _ _ _ (fun e => hne (by rw [e]))).trans (h.1.block k hk hne)⟩, h.2.1, fun cur t fr e => ?_⟩
  obtain ⟨x, hx, hs⟩ := h.2.2 cur t fr e
  refine ⟨x.setIfInBounds i v, ?_, by rw [Array.size_setIfInBounds]; exact hs⟩
  rw [setCell_eq]
  unfold mapBlock
  rw [Array.getElem?_modify, if_pos rfl, hx]
  rfl
theorem SameU.setNew {blk : Nat} {a b : World} (h : SameU blk a b) {p : Addr} (hp : a.heap.size ≤ p.block) (v : Value) : SameU blk a (b.setCell p v) :=
  ⟨grown_cell h.1 hp v, h.2.1, fun cur t fr e => by
    obtain ⟨x, hx, hs⟩ := h.2.2 cur t fr e
    have hlt := h.2.1
    exact ⟨x, (Below.heap_setCell _ _ _ _ (by omega)).trans hx, hs⟩⟩
theorem SameU.alloc {blk : Nat} {a b : World} (h : SameU blk a b) (o : Obj) : SameU blk a (b.alloc o) := by
  have hl := h.lt
  have hb := h.1.size
  refine ⟨⟨h.1.os, h.1.tape, h.1.output, by simp; omega, fun k hk hne => (heap_alloc_old b o (Nat.lt_of_lt_of_le hk hb)).trans (h.1.block k hk hne)⟩, h.2.1, fun cur t fr e => ?_⟩
  obtain ⟨x, hx, hs⟩ := h.2.2 cur t fr e
  exact ⟨x, (heap_alloc_old b o hl).trans hx, hs⟩
theorem SameU.put {blk off : Nat} {a : World} {n : Nat} {d : Array Int} (h : blk < a.heap.size) : SameU blk a (putRow encW (Sort.ahead a n) blk off d) := by
  refine ⟨⟨rfl, rfl, rfl, by simp, fun k _ hk => ?_⟩, h, fun cur t fr e => ⟨putCells encW off d cur, ?_, by unfold putCells; simp⟩⟩
  · unfold putRow mapBlock
    rw [Array.getElem?_modify, if_neg (by intro e; exact hk (by rw [e]))]
    rfl
  · unfold putRow mapBlock
    rw [Array.getElem?_modify, if_pos rfl]
    show (a.heap[blk]?).map _ = _
    rw [e]
    rfl
theorem holds_alloc {w : World} {blk off : Nat} {d : Array Int} (h : Holds encW w blk off d) (o : Obj) (hb : blk < w.heap.size) : Holds encW (w.alloc o) blk off d := fun j hj => by
  have := h j hj
  refine ⟨?_, ?_⟩
  · rw [← this.1]
    simp only [World.cell?, heap_alloc_old w o hb]
  · rw [← this.2]
    simp only [World.frozen?, heap_alloc_old w o hb]
theorem holds_other {w : World} {blk off : Nat} {d : Array Int} (h : Holds encW w blk off d) {p : Addr} (hp : blk ≠ p.block) (v : Value) : Holds encW (w.setCell p v) blk off d := fun j hj => by
  have := h j hj
  have hh := Below.heap_setCell w p v blk hp
  refine ⟨?_, ?_⟩
  · rw [← this.1]
    simp only [World.cell?, hh]
  · rw [← this.2]
    simp only [World.frozen?, hh]
theorem holds_set {w : World} {blk off : Nat} {d : Array Int} (h : Holds encW w blk off d) {i : Nat} (hi : i < d.size) (x : Int) : Holds encW (w.setCell ⟨blk, off + i, none⟩ (.int .u32 x)) blk off (d.setIfInBounds i x) := by
  have e := putRow_set encW w blk off d i x hi
  rw [putRow_self _ _ _ _ _ h] at e
  rw [e]
  exact holds_putRow _ _ _ _ d _ h (by simp)
theorem holds_swp {w : World} {blk off : Nat} {d : Array Int} (h : Holds encW w blk off d) {i j : Nat} (hi : i < d.size) (hj : j < d.size) :
    Holds encW ((w.setCell ⟨blk, off + i, none⟩ (.int .u32 d[j]!)).setCell ⟨blk, off + j, none⟩ (.int .u32 d[i]!)) blk off (swp d i j) :=
  holds_set (holds_set h hi d[j]!) (by simpa using hj) d[i]!
theorem same_swp {a b : World} {blk off i j : Nat} {x y : Value} (h : SameU blk a b) : SameU blk a ((b.setCell ⟨blk, off + i, none⟩ x).setCell ⟨blk, off + j, none⟩ y) := (h.set _ _).set _ _
/-- The cells of a row, as the walk loads them, by a letter. -/
theorem row_fact {w : World} {blk off : Nat} {d : Array Int} (h : Holds encW w blk off d) {G : Nat → Int} (hG : ∀ t, G t = d[t]!) {n : Nat} (hn : d.size = n) : (∀ t, t < n → w.cell? ⟨blk, off + t, none⟩ = some (.int .u32 (G t))) ∧ ∀ t, t < n → w.frozen? ⟨blk, off + t, none⟩ = false :=
  ⟨fun t ht => by rw [hG]; exact (h t (by omega)).1, fun t ht => (h t (by omega)).2⟩
theorem i64w (k : Nat) (z : Int) (hz : z = (k : Int)) (h : k < 9223372036854775808) : IntKind.i64.wrap z = z := by subst hz; rw [IntKind.wrap_i64]; omega
theorem meas_sift {hi r k : Nat} (h : r < k ∧ k ≤ hi) : hi - k < hi - r := by omega
theorem sift_stop {hi first r : Nat} {d : Array Int} (h : hi ≤ 2 * r + 1) : Sort.siftDown ltInt hi first r d = d := by rw [Sort.siftDown, dif_pos h]
theorem sift_one {hi first r : Nat} {d : Array Int} (h : 2 * r + 1 < hi) (h2 : ¬ (2 * r + 1 + 1 < hi ∧ ltInt d[first + (2 * r + 1)]! d[first + (2 * r + 1) + 1]! = true)) :
    Sort.siftDown ltInt hi first r d = if ltInt d[first + r]! d[first + (2 * r + 1)]! = true then Sort.siftDown ltInt hi first (2 * r + 1) (swp d (first + r) (first + (2 * r + 1))) else d := by
  rw [Sort.siftDown, dif_neg (by omega), if_neg (by simpa [Bool.and_eq_true, decide_eq_true_eq] using h2)]
  rcases ltInt d[first + r]! d[first + (2 * r + 1)]! with _ | _ <;> simp
theorem sift_two {hi first r : Nat} {d : Array Int} (h : 2 * r + 1 + 1 < hi) (h2 : ltInt d[first + (2 * r + 1)]! d[first + (2 * r + 1) + 1]! = true) :
    Sort.siftDown ltInt hi first r d = if ltInt d[first + r]! d[first + (2 * r + 2)]! = true then Sort.siftDown ltInt hi first (2 * r + 2) (swp d (first + r) (first + (2 * r + 2))) else d := by
  rw [Sort.siftDown, dif_neg (by omega), if_pos (by simp [h, h2])]
  rcases ltInt d[first + r]! d[first + (2 * r + 2)]! with _ | _ <;> simp
  omega
set_option maxRecDepth 100000 in
set_option maxHeartbeats 6400000 in
theorem siftU (blk off cap lo hi first : Nat) (d : Array Int) (w : World) (hH : Holds encW w blk off d) (hl : lo ≤ hi) (hb : first + hi ≤ d.size) (hsz : d.size < 4611686018427387904) (hblk : blk < w.heap.size) :
    Calls Try.prog 122 #[.slice (some ⟨blk, off, none⟩) d.size cap, .int .i64 lo, .int .i64 hi, .int .i64 first] w fun e w' =>
      e = .returned (.tuple #[]) ∧ Holds encW w' blk off (Sort.siftDown ltInt hi first lo d) ∧ SameU blk w w' := by
  obtain ⟨d0, hd0⟩ : ∃ d0, d0 = Sort.siftDown ltInt hi first lo d := ⟨_, rfl⟩
  rw [← hd0]
  have HH := Lib.hid hH
  have HS := Lib.hid (SameU.refl hblk)
  have HD := Lib.hid hd0.symm
  clear hH hblk hd0
  go_enter Try.func122, Try.ntmps122
  go_wp2
  go_loopw [8] (fun v wr => ∃ (r : Nat) (dk : Array Int), v = .int .i64 r ∧ r ≤ hi ∧ dk.size = d.size ∧ Hid (Holds encW wr blk off dk) ∧ Hid (SameU blk w wr) ∧ Hid (Sort.siftDown ltInt hi first r dk = d0)) (fun v _ => hi - (RowKit.intOf v).toNat)
  case atStart => exact ⟨lo, d, rfl, hl, rfl, HH, HS, HD⟩
  case round =>
    obtain ⟨r, dk, rfl, hr, hs, HK, HW, HQ⟩ := hrel
    by_cases h1 : hi ≤ 2 * r + 1
    · have HF := Lib.hid (show dk = d0 by rw [← HQ.out, sift_stop h1])
      go_wp2
      go_end0
      exact ⟨rfl, by rw [← HF.out]; exact HK.out, HW.out⟩
    obtain ⟨G, hG⟩ : ∃ G : Nat → Int, ∀ t, G t = dk[t]! := ⟨fun t => dk[t]!, fun _ => rfl⟩
    obtain ⟨hcw, hfw⟩ := row_fact HK.out hG hs
    have HG := Lib.hid hG
    clear hG
    obtain ⟨k, hk⟩ : ∃ k, k = 2 * r + 1 := ⟨_, rfl⟩
    have e9 : 2 * (r : Int) + 1 = (k : Int) := by omega
    have z1 : k < hi := by omega
    have z1b : (k : Int) < (hi : Int) := by omega
    have y1 : decide ((hi : Int) ≤ (k : Int)) = false := by simp; omega
    have q0 : r < hi := by omega
    have q1 : hi ≤ d.size := by omega
    have xr := i64w (first + r) ((first : Int) + (r : Int)) (by omega) (by omega)
    have i1 : (0 : Int) ≤ (first : Int) + (r : Int) := by omega
    have i2 : (first : Int) + (r : Int) < d.size := by omega
    have n1 : ((first : Int) + (r : Int)).toNat = first + r := by omega
    have J1 := Lib.hid (show first + r < d.size by omega)
    clear h1
    by_cases h2 : k + 1 < hi
    rotate_left
    · have E1 := Lib.hid (sift_one (d := dk) (first := first) (show 2 * r + 1 < hi by omega) (fun h => h2 (by omega)))
      rw [← hk] at E1
      have y2 : decide ((k : Int) + 1 < (hi : Int)) = false := by simp; omega
      have xk := i64w (first + k) ((first : Int) + (k : Int)) (by omega) (by omega)
      have i3 : (0 : Int) ≤ (first : Int) + (k : Int) := by omega
      have i4 : (first : Int) + (k : Int) < d.size := by omega
      have n2 : ((first : Int) + (k : Int)).toNat = first + k := by omega
      have J2 := Lib.hid (show first + k < d.size by omega)
      have ZK := Lib.hid (show k ≤ hi by omega)
      have ZR := Lib.hid (show r < k ∧ k ≤ hi by omega)
      clear hk
      rcases hm : ltInt (G (first + r)) (G (first + k)) with _ | _
      · have HF := Lib.hid (show dk = d0 by rw [← HQ.out, E1.out, if_neg (by rw [← HG.out, ← HG.out, hm]; decide)])
        go_wp2
        go_quiet (first | (go_at_call 110; refine Calls.quiet_of_same (lessU _ _ _)))
        obtain ⟨w2, hw2⟩ : ∃ x, x = wr.drewN nq := ⟨_, rfl⟩
        have HK2 := Lib.hid (show Holds encW w2 blk off dk by rw [hw2]; exact HK.out)
        have HW2 := Lib.hid (show SameU blk w w2 by rw [hw2]; exact HW.out.drewN _)
        obtain ⟨hcw, hfw⟩ := row_fact HK2.out HG.out hs
        rw [← hw2]
        clear hw2
        go_wp2
        go_quiet (first | (go_at_call 110; refine Calls.quiet_of_same (lessU _ _ _)))
        go_wp2
        refine bodyPost_ret (results_none rfl _ _ _) rfl ?_
        exact ⟨rfl, by rw [← HF.out]; exact HK2.out, HW2.out.drewN _⟩
      · have HN := Lib.hid (show Sort.siftDown ltInt hi first k (swp dk (first + r) (first + k)) = d0 by rw [← HQ.out, E1.out, if_pos (by rw [← HG.out, ← HG.out, hm])])
        go_wp2
        go_quiet (first | (go_at_call 110; refine Calls.quiet_of_same (lessU _ _ _)))
        obtain ⟨w2, hw2⟩ : ∃ x, x = wr.drewN nq := ⟨_, rfl⟩
        have HK2 := Lib.hid (show Holds encW w2 blk off dk by rw [hw2]; exact HK.out)
        have HW2 := Lib.hid (show SameU blk w w2 by rw [hw2]; exact HW.out.drewN _)
        obtain ⟨hcw, hfw⟩ := row_fact HK2.out HG.out hs
        rw [← hw2]
        clear hw2
        go_wp2
        go_quiet (first | (go_at_call 110; refine Calls.quiet_of_same (lessU _ _ _)))
        obtain ⟨w3, hw3⟩ : ∃ x, x = w2.drewN nq := ⟨_, rfl⟩
        have HK3 := Lib.hid (show Holds encW w3 blk off dk by rw [hw3]; exact HK2.out)
        have HW3 := Lib.hid (show SameU blk w w3 by rw [hw3]; exact HW2.out.drewN _)
        obtain ⟨hcw, hfw⟩ := row_fact HK3.out HG.out hs
        rw [← hw3]
        clear hw3
        go_wp2
        go_region
        all_goals go_wp2
        go_roundw
        case rel =>
          refine ⟨k, swp dk (first + r) (first + k), by go_num, ZK.out, by rw [size_swp]; exact hs, Lib.hid ?_, Lib.hid (same_swp HW3.out.drew), HN⟩
          rw [HG.out, HG.out]
          exact holds_swp (d := dk) (by exact HK3.out) (by rw [hs]; exact J1.out) (by rw [hs]; exact J2.out)
        case measure => simp [RowKit.intOf]; exact meas_sift ZR.out
    have y2 : decide ((k : Int) + 1 < (hi : Int)) = true := by simp; omega
    have xk1 := i64w (first + k) ((first : Int) + (k : Int)) (by omega) (by omega)
    have xk2 := i64w (first + k + 1) ((first : Int) + (k : Int) + 1) (by omega) (by omega)
    have j1 : (0 : Int) ≤ (first : Int) + (k : Int) := by omega
    have j2 : (first : Int) + (k : Int) < d.size := by omega
    have j3 : (0 : Int) ≤ (first : Int) + (k : Int) + 1 := by omega
    have j4 : (first : Int) + (k : Int) + 1 < d.size := by omega
    have m1 : ((first : Int) + (k : Int)).toNat = first + k := by omega
    have m2 : ((first : Int) + (k : Int) + 1).toNat = first + k + 1 := by omega
    rcases hl : ltInt (G (first + k)) (G (first + k + 1)) with _ | _
    · have E1 := Lib.hid (sift_one (d := dk) (first := first) (show 2 * r + 1 < hi by omega) (fun h => by have h9 := h.2; rw [← HG.out, ← HG.out, ← hk, hl] at h9; cases h9))
      rw [← hk] at E1
      have J2 := Lib.hid (show first + k < d.size by omega)
      have ZK := Lib.hid (show k ≤ hi by omega)
      have ZR := Lib.hid (show r < k ∧ k ≤ hi by omega)
      clear hk
      rcases hm : ltInt (G (first + r)) (G (first + k)) with _ | _
      · have HF := Lib.hid (show dk = d0 by rw [← HQ.out, E1.out, if_neg (by rw [← HG.out, ← HG.out, hm]; decide)])
        go_wp2
        go_quiet (first | (go_at_call 110; refine Calls.quiet_of_same (lessU _ _ _)))
        obtain ⟨w2, hw2⟩ : ∃ x, x = wr.drewN nq := ⟨_, rfl⟩
        have HK2 := Lib.hid (show Holds encW w2 blk off dk by rw [hw2]; exact HK.out)
        have HW2 := Lib.hid (show SameU blk w w2 by rw [hw2]; exact HW.out.drewN _)
        obtain ⟨hcw, hfw⟩ := row_fact HK2.out HG.out hs
        rw [← hw2]
        clear hw2
        go_wp2
        go_quiet (first | (go_at_call 110; refine Calls.quiet_of_same (lessU _ _ _)))
        go_wp2
        refine bodyPost_ret (results_none rfl _ _ _) rfl ?_
        exact ⟨rfl, by rw [← HF.out]; exact HK2.out, HW2.out.drewN _⟩
      · have HN := Lib.hid (show Sort.siftDown ltInt hi first k (swp dk (first + r) (first + k)) = d0 by rw [← HQ.out, E1.out, if_pos (by rw [← HG.out, ← HG.out, hm])])
        go_wp2
        go_quiet (first | (go_at_call 110; refine Calls.quiet_of_same (lessU _ _ _)))
        obtain ⟨w2, hw2⟩ : ∃ x, x = wr.drewN nq := ⟨_, rfl⟩
        have HK2 := Lib.hid (show Holds encW w2 blk off dk by rw [hw2]; exact HK.out)
        have HW2 := Lib.hid (show SameU blk w w2 by rw [hw2]; exact HW.out.drewN _)
        obtain ⟨hcw, hfw⟩ := row_fact HK2.out HG.out hs
        rw [← hw2]
        clear hw2
        go_wp2
        go_quiet (first | (go_at_call 110; refine Calls.quiet_of_same (lessU _ _ _)))
        obtain ⟨w3, hw3⟩ : ∃ x, x = w2.drewN nq := ⟨_, rfl⟩
        have HK3 := Lib.hid (show Holds encW w3 blk off dk by rw [hw3]; exact HK2.out)
        have HW3 := Lib.hid (show SameU blk w w3 by rw [hw3]; exact HW2.out.drewN _)
        obtain ⟨hcw, hfw⟩ := row_fact HK3.out HG.out hs
        rw [← hw3]
        clear hw3
        go_wp2
        go_region
        all_goals go_wp2
        go_roundw
        case rel =>
          refine ⟨k, swp dk (first + r) (first + k), by go_num, ZK.out, by rw [size_swp]; exact hs, Lib.hid ?_, Lib.hid (same_swp HW3.out.drew), HN⟩
          rw [HG.out, HG.out]
          exact holds_swp (d := dk) (by exact HK3.out) (by rw [hs]; exact J1.out) (by rw [hs]; exact J2.out)
        case measure => simp [RowKit.intOf]; exact meas_sift ZR.out
    · obtain ⟨k1, hk1⟩ : ∃ k1, k1 = k + 1 := ⟨_, rfl⟩
      have E1 := Lib.hid (sift_two (d := dk) (first := first) (show 2 * r + 1 + 1 < hi by omega) (by rw [← HG.out, ← HG.out, ← hk]; exact hl))
      rw [show 2 * r + 2 = k1 by omega] at E1
      have e8 : (k : Int) + 1 = (k1 : Int) := by omega
      have xk := i64w (first + k1) ((first : Int) + (k1 : Int)) (by omega) (by omega)
      have i3 : (0 : Int) ≤ (first : Int) + (k1 : Int) := by omega
      have i4 : (first : Int) + (k1 : Int) < d.size := by omega
      have n2 : ((first : Int) + (k1 : Int)).toNat = first + k1 := by omega
      have J2 := Lib.hid (show first + k1 < d.size by omega)
      have ZK := Lib.hid (show k1 ≤ hi by omega)
      have ZR := Lib.hid (show r < k1 ∧ k1 ≤ hi by omega)
      have xw := i64w k1 (k1 : Int) rfl (by omega)
      have y3b : decide (k1 < hi) = true := by simp; omega
      have y3 : decide ((k1 : Int) < (hi : Int)) = true := by simp; omega
      clear hk hk1
      rcases hm : ltInt (G (first + r)) (G (first + k1)) with _ | _
      · have HF := Lib.hid (show dk = d0 by rw [← HQ.out, E1.out, if_neg (by rw [← HG.out, ← HG.out, hm]; decide)])
        go_wp2
        go_quiet (first | (go_at_call 110; refine Calls.quiet_of_same (lessU _ _ _)))
        obtain ⟨w2, hw2⟩ : ∃ x, x = wr.drewN nq := ⟨_, rfl⟩
        have HK2 := Lib.hid (show Holds encW w2 blk off dk by rw [hw2]; exact HK.out)
        have HW2 := Lib.hid (show SameU blk w w2 by rw [hw2]; exact HW.out.drewN _)
        obtain ⟨hcw, hfw⟩ := row_fact HK2.out HG.out hs
        rw [← hw2]
        clear hw2
        go_wp2
        go_quiet (first | (go_at_call 110; refine Calls.quiet_of_same (lessU _ _ _)))
        go_wp2
        refine bodyPost_ret (results_none rfl _ _ _) rfl ?_
        exact ⟨rfl, by rw [← HF.out]; exact HK2.out, HW2.out.drewN _⟩
      · have HN := Lib.hid (show Sort.siftDown ltInt hi first k1 (swp dk (first + r) (first + k1)) = d0 by rw [← HQ.out, E1.out, if_pos (by rw [← HG.out, ← HG.out, hm])])
        go_wp2
        go_quiet (first | (go_at_call 110; refine Calls.quiet_of_same (lessU _ _ _)))
        obtain ⟨w2, hw2⟩ : ∃ x, x = wr.drewN nq := ⟨_, rfl⟩
        have HK2 := Lib.hid (show Holds encW w2 blk off dk by rw [hw2]; exact HK.out)
        have HW2 := Lib.hid (show SameU blk w w2 by rw [hw2]; exact HW.out.drewN _)
        obtain ⟨hcw, hfw⟩ := row_fact HK2.out HG.out hs
        rw [← hw2]
        clear hw2
        go_wp2
        go_quiet (first | (go_at_call 110; refine Calls.quiet_of_same (lessU _ _ _)))
        obtain ⟨w3, hw3⟩ : ∃ x, x = w2.drewN nq := ⟨_, rfl⟩
        have HK3 := Lib.hid (show Holds encW w3 blk off dk by rw [hw3]; exact HK2.out)
        have HW3 := Lib.hid (show SameU blk w w3 by rw [hw3]; exact HW2.out.drewN _)
        obtain ⟨hcw, hfw⟩ := row_fact HK3.out HG.out hs
        rw [← hw3]
        clear hw3
        go_wp2
        go_region
        all_goals go_wp2
        go_roundw
        case rel =>
          refine ⟨k1, swp dk (first + r) (first + k1), by go_num, ZK.out, by rw [size_swp]; exact hs, Lib.hid ?_, Lib.hid (same_swp HW3.out.drew), HN⟩
          rw [HG.out, HG.out]
          exact holds_swp (d := dk) (by exact HK3.out) (by rw [hs]; exact J1.out) (by rw [hs]; exact J2.out)
        case measure => simp [RowKit.intOf]; exact meas_sift ZR.out
end Go.Proofs.Ytabhhccdbfjigaa
