/-
  The library's sort of numbers of 32 bits, third part: the choice of a pivot (where it lies; which one it is does not matter).
-/
import Derived.Test.YtofbglgdmabafaaJ26
namespace Go.Proofs.Ytofbglgdmabafaa
open Go.RowKit Go.Sort
set_option linter.unusedVariables false
set_option linter.unusedSimpArgs false

/-- The row as it was, and a number in a box that is newer than w0. -/
def Piv (blk off : Nat) (d : Array Int) (bs : Nat) (w0 w : World) : Prop := Holds encW w blk off d ∧ SameU blk w0 w ∧ w0.heap.size ≤ bs ∧ ∃ x : Int, Blk w bs 3 #[.int .i64 x]
theorem Piv.drewN {blk off : Nat} {d : Array Int} {bs : Nat} {w0 w : World} (h : Piv blk off d bs w0 w) (n : Nat) : Piv blk off d bs w0 (w.drewN n) := ⟨h.1, h.2.1.drewN n, h.2.2.1, h.2.2.2⟩
theorem Piv.set {blk off : Nat} {d : Array Int} {bs : Nat} {w0 w : World} (h : Piv blk off d bs w0 w) (y : Int) : Piv blk off d bs w0 (w.setCell ⟨bs, 0, none⟩ (.int .i64 y)) := by
  obtain ⟨h1, h2, h3, x, hx⟩ := h
  have hl := h2.2.1
  refine ⟨holds_other h1 (p := ⟨bs, 0, none⟩) (by show blk ≠ bs; omega) _, h2.setNew (p := ⟨bs, 0, none⟩) h3 _, h3, y, ?_⟩
  exact hx.set_ 0 (.int .i64 y)
set_option maxRecDepth 100000 in
set_option maxHeartbeats 6400000 in
theorem order2U (blk off cap bs a b : Nat) (d : Array Int) (w0 w : World) (hP : Piv blk off d bs w0 w) (ha : a < d.size) (hb : b < d.size) (hsz : d.size < 4611686018427387904) :
    Calls Try.prog 125 #[.slice (some ⟨blk, off, none⟩) d.size cap, .int .i64 a, .int .i64 b, .pointer (some ⟨bs, 0, none⟩)] w fun e w' =>
      ∃ p q : Nat, e = .returned (.tuple #[.int .i64 p, .int .i64 q]) ∧ ((p = a ∧ q = b) ∨ (p = b ∧ q = a)) ∧ Piv blk off d bs w0 w' := by
  obtain ⟨G, hG⟩ : ∃ G : Nat → Int, ∀ t, G t = d[t]! := ⟨fun t => d[t]!, fun _ => rfl⟩
  obtain ⟨hcw, hfw⟩ := row_fact hP.1 hG rfl
  have HP := Lib.hid hP
  clear hG hP
  rcases hl : ltInt (G b) (G a) with _ | _
  · go_enter Try.func125, Try.ntmps125
    go_wp2
    go_quiet (first | (go_at_call 55; refine Calls.quiet_of_same (lessU _ _ _)))
    simp only [hl]
    go_wp2
    go_ret2
    exact ⟨a, b, rfl, .inl ⟨rfl, rfl⟩, HP.out.drewN _⟩
  · go_enter Try.func125, Try.ntmps125
    go_wp2
    go_quiet (first | (go_at_call 55; refine Calls.quiet_of_same (lessU _ _ _)))
    simp only [hl]
    obtain ⟨w2, hw2⟩ : ∃ x, x = w.drewN nq := ⟨_, rfl⟩
    have HP2 := Lib.hid (show Piv blk off d bs w0 w2 by rw [hw2]; exact HP.out.drewN _)
    rw [← hw2]
    clear hw2 hcw hfw
    obtain ⟨x, hx⟩ := HP2.out.2.2.2
    have k0 := hx.cell 0
    have k1 := hx.frozen 0
    simp at k0
    obtain ⟨y, hy⟩ : ∃ y, y = IntKind.i64.wrap (x + 1) := ⟨_, rfl⟩
    have hy2 := hy.symm
    clear hx hy
    go_wp2
    go_ret2
    exact ⟨b, a, rfl, .inr ⟨rfl, rfl⟩, HP2.out.set y⟩
theorem in_two {a b p q n : Nat} (h : (p = a ∧ q = b) ∨ (p = b ∧ q = a)) (ha : a < n) (hb : b < n) : p < n ∧ q < n := by
  rcases h with ⟨rfl, rfl⟩ | ⟨rfl, rfl⟩ <;> exact ⟨by assumption, by assumption⟩
set_option maxRecDepth 100000 in
set_option maxHeartbeats 6400000 in
theorem medianU (blk off cap bs a b c : Nat) (d : Array Int) (w0 w : World) (hP : Piv blk off d bs w0 w) (ha : a < d.size) (hb : b < d.size) (hc : c < d.size) (hsz : d.size < 4611686018427387904) :
    Calls Try.prog 114 #[.slice (some ⟨blk, off, none⟩) d.size cap, .int .i64 a, .int .i64 b, .int .i64 c, .pointer (some ⟨bs, 0, none⟩)] w fun e w' =>
      ∃ p : Nat, e = .returned (.int .i64 p) ∧ (p = a ∨ p = b ∨ p = c) ∧ Piv blk off d bs w0 w' := by
  have HP := Lib.hid hP
  clear hP
  go_enter Try.func114, Try.ntmps114
  go_wp2_with fail
  refine (order2U blk off cap bs a b d w0 _ HP.out ha hb hsz).mono ?_
  rintro e w1 ⟨p1, q1, rfl, h1, hP1⟩
  have HP1 := Lib.hid hP1
  have H1 := Lib.hid h1
  obtain ⟨l1, l2⟩ := in_two h1 ha hb
  clear hP1 h1
  go_wp2_with fail
  refine (order2U blk off cap bs q1 c d w0 _ HP1.out l2 hc hsz).mono ?_
  rintro e w2 ⟨p2, q2, rfl, h2, hP2⟩
  have HP2 := Lib.hid hP2
  have H2 := Lib.hid h2
  obtain ⟨l3, l4⟩ := in_two h2 l2 hc
  clear hP2 h2
  go_wp2_with fail
  refine (order2U blk off cap bs p1 p2 d w0 _ HP2.out l1 l3 hsz).mono ?_
  rintro e w3 ⟨p3, q3, rfl, h3, hP3⟩
  have HP3 := Lib.hid hP3
  have H3 := Lib.hid h3
  clear hP3 h3
  go_wp2_with fail
  go_ret
  refine ⟨q3, rfl, ?_, HP3.out⟩
  have a1 := H1.out
  have a2 := H2.out
  have a3 := H3.out
  omega
set_option maxRecDepth 100000 in
set_option maxHeartbeats 6400000 in
theorem medAdjU (blk off cap bs a : Nat) (d : Array Int) (w0 w : World) (hP : Piv blk off d bs w0 w) (ha : 1 ≤ a) (hb : a + 1 < d.size) (hsz : d.size < 4611686018427387904) :
    Calls Try.prog 113 #[.slice (some ⟨blk, off, none⟩) d.size cap, .int .i64 a, .pointer (some ⟨bs, 0, none⟩)] w fun e w' =>
      ∃ p : Nat, e = .returned (.int .i64 p) ∧ (a - 1 ≤ p ∧ p ≤ a + 1) ∧ Piv blk off d bs w0 w' := by
  have HP := Lib.hid hP
  clear hP
  obtain ⟨m, hm⟩ : ∃ m, m = a - 1 := ⟨_, rfl⟩
  obtain ⟨q, hq⟩ : ∃ q, q = a + 1 := ⟨_, rfl⟩
  have e1 : (a : Int) - 1 = (m : Int) := by omega
  have e2 : (a : Int) + 1 = (q : Int) := by omega
  have x1 := i64w m (m : Int) rfl (by omega)
  have x2 := i64w q (q : Int) rfl (by omega)
  have HM := medianU blk off cap bs m a q d w0 w HP.out (by omega) (by omega) (by omega) hsz
  have HR := Lib.hid (show m = a - 1 ∧ q = a + 1 from ⟨hm, hq⟩)
  clear hm hq
  go_enter Try.func113, Try.ntmps113
  go_wp2_with fail
  refine HM.mono ?_
  rintro e w1 ⟨p, rfl, h1, hP1⟩
  have HP1 := Lib.hid hP1
  have H1 := Lib.hid h1
  clear hP1 h1
  go_wp2_with fail
  go_ret
  refine ⟨p, rfl, ?_, HP1.out⟩
  have a1 := H1.out
  have a2 := HR.out
  omega
set_option maxRecDepth 100000 in
set_option maxHeartbeats 12800000 in
theorem pivotU (blk off cap a b : Nat) (d : Array Int) (w : World) (hH : Holds encW w blk off d) (hab : a + 12 < b) (hb : b ≤ d.size) (hsz : d.size < 4611686018427387904) (hblk : blk < w.heap.size) :
    Calls Try.prog 89 #[.slice (some ⟨blk, off, none⟩) d.size cap, .int .i64 a, .int .i64 b] w fun e w' =>
      ∃ (p : Nat) (h : Int), e = .returned (.tuple #[.int .i64 p, .int .i64 h]) ∧ (a ≤ p ∧ p < b) ∧ Holds encW w' blk off d ∧ SameU blk w w' := by
  obtain ⟨l, hl⟩ : ∃ l, l = b - a := ⟨_, rfl⟩
  obtain ⟨t, ht⟩ : ∃ t, t = l / 4 := ⟨_, rfl⟩
  obtain ⟨t2, ht2⟩ : ∃ x, x = t * 2 := ⟨_, rfl⟩
  obtain ⟨t3, ht3⟩ : ∃ x, x = t * 3 := ⟨_, rfl⟩
  obtain ⟨i, hi⟩ : ∃ x, x = a + t := ⟨_, rfl⟩
  obtain ⟨j, hj⟩ : ∃ x, x = a + t2 := ⟨_, rfl⟩
  obtain ⟨k, hk⟩ : ∃ x, x = a + t3 := ⟨_, rfl⟩
  have hkb : k + 2 < b := by omega
  have htl : 3 ≤ t := by omega
  have e0 : (b : Int) - (a : Int) = (l : Int) := by omega
  have e4 : Int.tdiv (l : Int) 4 = (t : Int) := by rw [ht]; exact (Int.ofNat_tdiv _ _).symm
  have e6 : (t : Int) * 2 = (t2 : Int) := by omega
  have e7 : (t : Int) * 3 = (t3 : Int) := by omega
  have e1 : (a : Int) + (t : Int) = (i : Int) := by omega
  have e2 : (a : Int) + (t2 : Int) = (j : Int) := by omega
  have e3 : (a : Int) + (t3 : Int) = (k : Int) := by omega
  have w1 := i64w l (l : Int) rfl (by omega)
  have w2 := i64w t (t : Int) rfl (by omega)
  have w3 := i64w t2 (t2 : Int) rfl (by omega)
  have w4 := i64w t3 (t3 : Int) rfl (by omega)
  have w5 := i64w i (i : Int) rfl (by omega)
  have w6 := i64w j (j : Int) rfl (by omega)
  have w7 := i64w k (k : Int) rfl (by omega)
  have g8 : decide ((8 : Int) ≤ (l : Int)) = true := by simp; omega
  have g8b : decide (8 ≤ l) = true := by simp; omega
  have F1 := Lib.hid (show a + 3 ≤ i ∧ i + 3 ≤ j ∧ j + 3 ≤ k ∧ k + 2 < b ∧ b ≤ d.size by omega)
  have HP0 := Lib.hid (show Piv blk off d w.heap.size w (w.alloc (.cells #[.int .i64 0] 3)) from ⟨holds_alloc hH _ hblk, (SameU.refl hblk).alloc _, Nat.le_refl _, 0, Blk.new _ _ _⟩)
  clear hH hblk ht2 ht3 hi hj hk hkb htl ht
  obtain ⟨bs, hbs⟩ : ∃ x, x = w.heap.size := ⟨_, rfl⟩
  obtain ⟨wa, hwa⟩ : ∃ x, x = w.alloc (.cells #[.int .i64 0] 3) := ⟨_, rfl⟩
  rw [← hbs, ← hwa] at HP0
  by_cases hg : 50 ≤ l
  · have g50 : decide ((50 : Int) ≤ (l : Int)) = true := by simp; omega
    have g50b : decide (50 ≤ l) = true := by simp; omega
    clear hg hl
    go_enter Try.func89, Try.ntmps89
    go_wp2_with fail
    rw [← hwa, ← hbs]
    clear hwa hbs
    clear e0 e1 e2 e3 e4 e6 e7 w1 w2 w3 w4 w5 w6 w7 g8 g8b g50 g50b
    refine (medAdjU blk off cap bs i d w _ HP0.out (by have := F1.out; omega) (by have := F1.out; omega) hsz).mono ?_
    rintro e y1 ⟨p1, rfl, h1, hP1⟩
    have HP1 := Lib.hid hP1
    have R1 := Lib.hid h1
    clear hP1 h1
    go_wp2_with fail
    refine (medAdjU blk off cap bs j d w _ HP1.out (by have := F1.out; omega) (by have := F1.out; omega) hsz).mono ?_
    rintro e y2 ⟨p2, rfl, h2, hP2⟩
    have HP2 := Lib.hid hP2
    have R2 := Lib.hid h2
    clear hP2 h2
    go_wp2_with fail
    refine (medAdjU blk off cap bs k d w _ HP2.out (by have := F1.out; omega) (by have := F1.out; omega) hsz).mono ?_
    rintro e y3 ⟨p3, rfl, h3, hP3⟩
    have HP3 := Lib.hid hP3
    have R3 := Lib.hid h3
    clear hP3 h3
    go_wp2_with fail
    refine (medianU blk off cap bs p1 p2 p3 d w _ HP3.out (by have := F1.out; have := R1.out; omega) (by have := F1.out; have := R2.out; omega) (by have := F1.out; have := R3.out; omega) hsz).mono ?_
    rintro e y4 ⟨p, rfl, h4, hP4⟩
    have HP4 := Lib.hid hP4
    have R4 := Lib.hid (show a ≤ p ∧ p < b by have := F1.out; have := R1.out; have := R2.out; have := R3.out; omega)
    clear hP4 h4
    obtain ⟨x, hx⟩ := HP4.out.2.2.2
    have k0 := hx.cell 0
    have k1 := hx.frozen 0
    simp at k0
    clear hx
    by_cases x0 : x = 0
    · subst x0
      go_wp2_with fail
      go_ret2
      exact ⟨p, 1, rfl, R4.out, HP4.out.1, HP4.out.2.1⟩
    have x0b : (x == 0) = false := by simp [x0]
    by_cases x1 : x = 12
    · subst x1
      go_wp2_with fail
      go_ret2
      exact ⟨p, 2, rfl, R4.out, HP4.out.1, HP4.out.2.1⟩
    have x1b : (x == 12) = false := by simp [x1]
    go_wp2_with fail
    go_ret2
    exact ⟨p, 0, rfl, R4.out, HP4.out.1, HP4.out.2.1⟩
  · have g50 : decide ((50 : Int) ≤ (l : Int)) = false := by simp; omega
    have g50b : decide (50 ≤ l) = false := by simp; omega
    clear hg hl
    go_enter Try.func89, Try.ntmps89
    go_wp2_with fail
    rw [← hwa, ← hbs]
    clear hwa hbs
    clear e0 e1 e2 e3 e4 e6 e7 w1 w2 w3 w4 w5 w6 w7 g8 g8b g50 g50b
    refine (medianU blk off cap bs i j k d w _ HP0.out (by have := F1.out; omega) (by have := F1.out; omega) (by have := F1.out; omega) hsz).mono ?_
    rintro e y4 ⟨p, rfl, h4, hP4⟩
    have HP4 := Lib.hid hP4
    have R4 := Lib.hid (show a ≤ p ∧ p < b by have := F1.out; omega)
    clear hP4 h4
    obtain ⟨x, hx⟩ := HP4.out.2.2.2
    have k0 := hx.cell 0
    have k1 := hx.frozen 0
    simp at k0
    clear hx
    by_cases x0 : x = 0
    · subst x0
      go_wp2_with fail
      go_ret2
      exact ⟨p, 1, rfl, R4.out, HP4.out.1, HP4.out.2.1⟩
    have x0b : (x == 0) = false := by simp [x0]
    by_cases x1 : x = 12
    · subst x1
      go_wp2_with fail
      go_ret2
      exact ⟨p, 2, rfl, R4.out, HP4.out.1, HP4.out.2.1⟩
    have x1b : (x == 12) = false := by simp [x1]
    go_wp2_with fail
    go_ret2
    exact ⟨p, 0, rfl, R4.out, HP4.out.1, HP4.out.2.1⟩
end Go.Proofs.Ytofbglgdmabafaa

