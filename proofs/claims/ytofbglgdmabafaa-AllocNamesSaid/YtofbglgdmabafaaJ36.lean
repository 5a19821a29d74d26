/-
  The walk of AllocNames.
-/
import Derived.Test.YtofbglgdmabafaaJ35
namespace Go.Proofs.Ytofbglgdmabafaa
open Go.RowKit
open Go.Lib hiding intOf
set_option linter.unusedVariables false
set_option linter.unusedSimpArgs false
attribute [local go_sem ↓] Go.wp_at_zero Go.wp_at_succ

theorem RowPost.same {l m : List Nat} {w w' : World} {e : Ending} (h : RowPost l w e w') (hm : l = m) : ∃ A n c, e = .returned (.slice A n c) ∧ Reads w' w'.heap.size 1 A n (ucells m) ∧ Below w.heap.size w w' ∧ m.length = n := by
  obtain ⟨A, n, c, rfl, ho, hb⟩ := h
  subst hm
  exact ⟨A, n, c, rfl, Reads.of_own ho, hb, own_len ho⟩
set_option maxRecDepth 100000 in
set_option maxHeartbeats 6400000 in
theorem alnames_walk (w : World) : Calls Try.prog 3 #[] w fun e w' => e = .returned (.bool true) ∧ Below w.heap.size w w' := by
  go_enter Try.func3, Try.ntmps3
  go_wp2_with fail
  refine (lives14_any w).mono ?_
  rintro e w1 ⟨rfl, hb⟩
  have HB := Lib.hid hb
  clear hb
  go_wp2_with fail
  have hnw := fun c => anew_any c 6 7 (reads_lit w1 [5, 3] 2 rfl) (by decide)
  refine (hnw _).mono ?_
  rintro e w2 ⟨hb1, ⟨hf, _⟩ | ⟨_, rfl⟩⟩
  · exact absurd hf (by decide)
  replace HB := Lib.hid ((HB.out.alloc HB.out.size (.cells (ucells [5, 3]).toArray 27)).trans (hb1.mono ((HB.out.alloc HB.out.size (.cells (ucells [5, 3]).toArray 27)).size)))
  clear hb1 hnw
  go_wp2_with fail
  have hnw := fun c => anew_any c 6 7 (reads_lit w2 [6] 1 rfl) (by decide)
  refine (hnw _).mono ?_
  rintro e w3 ⟨hb1, ⟨hf, _⟩ | ⟨_, rfl⟩⟩
  · exact absurd hf (by decide)
  replace HB := Lib.hid ((HB.out.alloc HB.out.size (.cells (ucells [6]).toArray 27)).trans (hb1.mono ((HB.out.alloc HB.out.size (.cells (ucells [6]).toArray 27)).size)))
  clear hb1 hnw
  go_wp2_with fail
  refine (anew_any (l := []) 0 1 7 (Reads.none_ (w := w3)) (by decide)).mono ?_
  rintro e w4 ⟨hb1, ⟨hf, _⟩ | ⟨_, rfl⟩⟩
  · exact absurd hf (by decide)
  replace HB := Lib.hid (HB.out.trans (hb1.mono (HB.out.size)))
  clear hb1
  go_wp2_with fail
  refine (anew_any (l := []) 0 8 7 (Reads.none_ (w := w4)) (by decide)).mono ?_
  rintro e w5 ⟨hb1, ⟨hf, _⟩ | ⟨_, rfl⟩⟩
  · exact absurd hf (by decide)
  replace HB := Lib.hid (HB.out.trans (hb1.mono (HB.out.size)))
  clear hb1
  go_wp2_with fail
  refine (anew_any (l := []) 0 2 1048577 (Reads.none_ (w := w5)) (by decide)).mono ?_
  rintro e w6 ⟨hb1, ⟨hf, _⟩ | ⟨_, rfl⟩⟩
  · exact absurd hf (by decide)
  replace HB := Lib.hid (HB.out.trans (hb1.mono (HB.out.size)))
  clear hb1
  go_wp2_with fail
  have hnw := fun c => anew_any c 8 9 (reads_lit w6 [3, 5] 2 rfl) (by decide)
  refine (hnw _).mono ?_
  rintro e w7 ⟨hb1, ⟨_, g, rfl, ha⟩ | ⟨hf, _⟩⟩
  rotate_left
  · exact absurd hf (by decide)
  have H := Lib.hid (Held.made (HB.out.alloc HB.out.size _) hb1 ha)
  clear ha hb1 HB hnw
  go_wp2_with fail
  refine (htake stable_true H.out (T := ⟨[5], [3], [], 8, 9⟩) (n := 3) (z := 0) rfl).mono ?_
  rintro e w8 ⟨rfl, h⟩
  replace H := Lib.hid h
  clear h
  go_wp2_with fail
  refine (hgive stable_true H.out (T := ⟨[5], [3], [], 8, 9⟩) (n := 1) (z := 2) rfl).mono ?_
  rintro e w9 ⟨rfl, h⟩
  replace H := Lib.hid h
  clear h
  go_wp2_with fail
  refine (hgive stable_true H.out (T := ⟨[5], [3], [], 8, 9⟩) (n := 8) (z := 2) rfl).mono ?_
  rintro e w10 ⟨rfl, h⟩
  replace H := Lib.hid h
  clear h
  go_wp2_with fail
  refine (hgive stable_true H.out (T := ⟨[5], [3], [], 8, 9⟩) (n := 5) (z := 8) rfl).mono ?_
  rintro e w11 ⟨rfl, h⟩
  replace H := Lib.hid h
  clear h
  go_wp2_with fail
  refine (hgive stable_true H.out (T := ⟨[5], [3], [4], 8, 9⟩) (n := 4) (z := 0) rfl).mono ?_
  rintro e w12 ⟨rfl, h⟩
  replace H := Lib.hid h
  clear h
  go_wp2_with fail
  refine (hgive stable_true H.out (T := ⟨[5], [3], [4], 8, 9⟩) (n := 4) (z := 8) rfl).mono ?_
  rintro e w13 ⟨rfl, h⟩
  replace H := Lib.hid h
  clear h
  go_wp2_with fail
  refine (hgive stable_true H.out (T := ⟨[3, 5], [], [4], 8, 9⟩) (n := 3) (z := 0) rfl).mono ?_
  rintro e w14 ⟨rfl, h⟩
  replace H := Lib.hid h
  clear h
  go_wp2_with fail
  refine (hcopy stable_true H.out).mono ?_
  rintro e w15 ⟨g2, rfl, h⟩
  replace H := Lib.hid h
  clear h
  go_wp2_with fail
  refine (htake (stable_al _ _) H.out.swap (T := ⟨[5], [3], [4], 8, 9⟩) (n := 3) (z := 0) rfl).mono ?_
  rintro e w16 ⟨rfl, h⟩
  have H : Hid (Held w w16 g ⟨[3, 5], [], [4], 8, 9⟩ (fun w G => Al w G g2 ⟨[5], [3], [4], 8, 9⟩)) := Lib.hid h.swap
  clear h
  go_wp2_with fail
  refine (atake_nil (w := w16)).mono ?_
  rintro e w17 ⟨rfl, rfl⟩
  go_wp2_with fail
  refine (hmine (stable_al _ _) H.out.swap 3 (by decide)).mono ?_
  rintro e w18 ⟨rfl, h, _⟩
  replace H := Lib.hid h.swap
  clear h
  rw [show inU (AlS.took ⟨[5], [3], [4], 8, 9⟩) 3 = true from rfl]
  go_wp2_with fail
  refine (hmine (stable_al _ _) H.out 3 (by decide)).mono ?_
  rintro e w19 ⟨rfl, h, _⟩
  replace H := Lib.hid h
  clear h
  rw [show inU (AlS.took ⟨[3, 5], [], [4], 8, 9⟩) 3 = false from rfl]
  go_wp2_with fail
  refine (hleft (stable_al _ _) H.out).mono ?_
  rintro e w20 ⟨rfl, h, _⟩
  replace H := Lib.hid h
  clear h
  rw [show AlS.left ⟨[3, 5], [], [4], 8, 9⟩ = 3 from rfl]
  go_wp2_with fail
  refine (hleft (stable_al _ _) H.out.swap).mono ?_
  rintro e w21 ⟨rfl, h, _⟩
  replace H := Lib.hid h.swap
  clear h
  rw [show AlS.left ⟨[5], [3], [4], 8, 9⟩ = 2 from rfl]
  go_wp2_with fail
  refine (hfree (stable_al _ _) H.out (by decide)).mono ?_
  rintro e w22 ⟨hp, h⟩
  obtain ⟨Aw22, nw22, cw22, rfl, hr, _, hl⟩ := hp.same (show _ = ([3, 4, 5] : List Nat) from rfl)
  replace H := Lib.hid h
  clear h hp
  obtain rfl : 3 = nw22 := hl
  have hsm := fun c c2 => sameU_yes Aw22 3 c (some ⟨w22.heap.size, 0, none⟩) c2 [3, 4, 5] _ (hr.alloc (Nat.le_refl _) _) (reads_lit w22 [3, 4, 5] 3 rfl) (by decide)
  have hH2 := Lib.hid (H.out.alloc (stable_al _ _) (.cells (ucells [3, 4, 5]).toArray 27))
  clear hr H
  go_wp2_with fail
  refine (hsm _ _).mono ?_
  rintro e w23 ⟨rfl, qw23, rfl⟩
  have H := Lib.hid (hH2.out.new (stable_al _ _) (below_drewN (Below.refl _ _) qw23))
  clear hH2 hsm
  generalize World.drewN _ qw23 = w23 at *
  go_wp2_with fail
  refine (htaken (stable_al _ _) H.out.swap (by decide)).mono ?_
  rintro e w24 ⟨hp, h⟩
  obtain ⟨Aw24, nw24, cw24, rfl, hr, _, hl⟩ := hp.same (show _ = ([3] : List Nat) from rfl)
  replace H := Lib.hid h.swap
  clear h hp
  obtain rfl : 1 = nw24 := hl
  have hsm := fun c c2 => sameU_yes Aw24 1 c (some ⟨w24.heap.size, 0, none⟩) c2 [3] _ (hr.alloc (Nat.le_refl _) _) (reads_lit w24 [3] 1 rfl) (by decide)
  have hH2 := Lib.hid (H.out.alloc (stable_al _ _) (.cells (ucells [3]).toArray 27))
  clear hr H
  go_wp2_with fail
  refine (hsm _ _).mono ?_
  rintro e w25 ⟨rfl, qw25, rfl⟩
  have H := Lib.hid (hH2.out.new (stable_al _ _) (below_drewN (Below.refl _ _) qw25))
  clear hH2 hsm
  generalize World.drewN _ qw25 = w25 at *
  go_wp2_with fail
  refine (htaken (stable_al _ _) H.out (by decide)).mono ?_
  rintro e w26 ⟨hp, h⟩
  obtain ⟨Aw26, nw26, cw26, rfl, hr, _, hl⟩ := hp.same (show _ = ([] : List Nat) from rfl)
  replace H := Lib.hid h
  clear h hp
  obtain rfl : 0 = nw26 := hl
  clear hr
  go_wp2_with fail
  refine (hpages (stable_al _ _) H.out).mono ?_
  rintro e w27 ⟨rfl, rfl⟩
  go_wp2_with fail
  refine (agive_nil (w := w26) 3).mono ?_
  rintro e w28 ⟨rfl, rfl⟩
  go_wp2_with fail
  refine (aleft_nil (w := w26)).mono ?_
  rintro e w29 ⟨rfl, rfl⟩
  go_wp2_with fail
  refine (apages_nil (w := w26)).mono ?_
  rintro e w30 ⟨rfl, rfl⟩
  go_wp2_with fail
  refine (amine_nil (w := w26) 3).mono ?_
  rintro e w31 ⟨rfl, rfl⟩
  go_wp2_with fail
  refine (afree_nil (w := w26)).mono ?_
  rintro e w32 ⟨rfl, rfl⟩
  go_wp2_with fail
  refine (ataken_nil (w := w26)).mono ?_
  rintro e w33 ⟨rfl, rfl⟩
  go_wp2_with fail
  go_ret
  exact ⟨rfl, H.out.bel⟩
end Go.Proofs.Ytofbglgdmabafaa

