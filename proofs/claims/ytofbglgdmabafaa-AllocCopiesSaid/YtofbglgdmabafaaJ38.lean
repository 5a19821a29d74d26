/-
  The walk of AllocCopies.
-/
import Derived.Test.YtofbglgdmabafaaJ37
namespace Go.Proofs.Ytofbglgdmabafaa
open Go.RowKit
open Go.Lib hiding intOf
set_option linter.unusedVariables false
set_option linter.unusedSimpArgs false
attribute [local go_sem ↓] Go.wp_at_zero Go.wp_at_succ

set_option maxRecDepth 100000 in
set_option maxHeartbeats 6400000 in
theorem alcopies_walk (A0 : Option Addr) (n0 c0 : Nat) (l0 : List Bool) (A1 : Option Addr) (n1 c1 : Nat) (z1 : List Int) (A2 : Option Addr) (n2 c2 : Nat) (z2 : List Int) (w : World) (h0 : Bools w w.heap.size A0 n0 l0) (hm0 : n0 ≤ maxLen) (h1 : IsRow .i64 w A1 n1 c1 z1) (h2 : IsRow .i64 w A2 n2 c2 z2) :
    Calls Try.prog 6 #[.slice A0 n0 c0, .slice A1 n1 c1, .slice A2 n2 c2] w fun e w' => e = .returned (.bool true) ∧ Below w.heap.size w w' := by
  obtain ⟨i0, hi0, hz0, hz1, hz2⟩ := info_parts infoU32b
  have H0 := Lib.hid h0
  have H1 := Lib.hid h1.reads.1
  have H2 := Lib.hid h2.reads.1
  have hm1 : n1 ≤ maxLen := Nat.le_trans h1.reads.2.1 h1.reads.2.2.1
  have hm2 : n2 ≤ maxLen := Nat.le_trans h2.reads.2.1 h2.reads.2.2.1
  unfold maxLen at hm0 hm1 hm2
  clear h0 h1 h2
  by_cases g0 : 30 < n0
  · have gg : (30 : Int) < (n0 : Int) := by omega
    clear g0
    go_enter Try.func6, Try.ntmps6
    go_wp2_with fail
    refine (lives14_any w).mono ?_
    rintro e w1 ⟨rfl, hb⟩
    have HB := Lib.hid hb
    clear hb
    go_wp2_with fail
    go_ret
    exact ⟨rfl, HB.out⟩
  have gg0 : ¬ (30 : Int) < (n0 : Int) := by omega
  by_cases g1 : 60 < n1
  · have gg : (60 : Int) < (n1 : Int) := by omega
    clear g1
    go_enter Try.func6, Try.ntmps6
    go_wp2_with fail
    refine (lives14_any w).mono ?_
    rintro e w1 ⟨rfl, hb⟩
    have HB := Lib.hid hb
    clear hb
    go_wp2_with fail
    go_ret
    exact ⟨rfl, HB.out⟩
  have gg1 : ¬ (60 : Int) < (n1 : Int) := by omega
  by_cases g2 : 60 < n2
  · have gg : (60 : Int) < (n2 : Int) := by omega
    clear g2
    go_enter Try.func6, Try.ntmps6
    go_wp2_with fail
    refine (lives14_any w).mono ?_
    rintro e w1 ⟨rfl, hb⟩
    have HB := Lib.hid hb
    clear hb
    go_wp2_with fail
    go_ret
    exact ⟨rfl, HB.out⟩
  have gg2 : ¬ (60 : Int) < (n2 : Int) := by omega
  go_enter Try.func6, Try.ntmps6
  go_wp2_with fail
  refine (lives14_any w).mono ?_
  rintro e w1 ⟨rfl, hb⟩
  have HB := Lib.hid hb
  clear hb
  go_wp2_with fail
  go_loopw [7, 8] (fun s7 s8 wr => ∃ (k m : Nat) (A : Option Addr) (c : Nat), k ≤ n0 ∧ s8 = .int .i64 k ∧ s7 = .slice A m c ∧ Hid (wr.ownsRow w.heap.size 27 1 (.slice A m c) m (ucells (numsB l0 k))) ∧ Hid (Below w.heap.size w wr)) (fun _ s8 _ => n0 - (intOf s8).toNat)
  case atStart => exact ⟨0, 0, none, 0, Nat.zero_le _, rfl, rfl, Lib.hid (World.ownsRow_nil _ _ _ _), HB⟩
  case round =>
    obtain ⟨k, m, A, c, hk, rfl, rfl, HO, HW⟩ := hrel
    by_cases hlt : k < n0
    · obtain ⟨ad, hA, hab, hc⟩ := H0.out.at_ hlt
      have hc2 := cell_in hc HW.out hab
      subst hA
      have wk : IntKind.u32.wrap (k : Int) = (k : Int) := by rw [IntKind.wrap_u32]; omega
      have wk2 : IntKind.u32.wrap ((k : Int) + 2) = (k : Int) + 2 := by rw [IntKind.wrap_u32]; omega
      cases hbk : l0.getD k false
      · rw [hbk] at hc2
        have E : Hid (numsB l0 (k + 1) = numsB l0 k) := Lib.hid (by show (if l0.getD k false then _ else _) = _; rw [hbk]; rfl)
        clear hbk hc
        go_wp2_with fail
        go_roundw
        case rel => exact ⟨k + 1, m, A, c, by omega, by go_num, rfl, Lib.hid (by rw [E.out]; exact HO.out), HW⟩
        case measure => simp [intOf]; omega
      · rw [hbk] at hc2
        have E : Hid (numsB l0 (k + 1) = numsB l0 k ++ [k + 2]) := Lib.hid (by show (if l0.getD k false then _ else _) = _; rw [hbk]; rfl)
        have hml := own_len HO.out
        have hmk := numsB_len l0 k
        have HML := Lib.hid (And.intro hml hmk)
        clear hbk hc hml hmk
        go_wp2_with (at_builtin; refine wpList_append_any _ rfl (.tmp 41) (.tmp 45) _ rfl w.heap.size 27 i0 _ 1 4 Try.underlying28 hi0 hz0 hz1 hz2 rfl (by omega) _ m (ucells (numsB l0 k)) rfl (HO.out.alloc _) (wr.heap.size + 1) (some ⟨wr.heap.size, 0, none⟩) 1 1 [.int .u32 ((k : Int) + 2)] rfl (reads_own (n := 1) (Blk.new _ _ _) rfl) (by simp [Value.oneCell']) (by unfold maxLen; have := HML.out; omega) (by have := HML.out; omega) (by have := HW.out.size; simp; omega) ?_; intro v2 w2 hown2 hg2 hat2; have HO2 := Lib.hid hown2; have HG2 := Lib.hid hg2; obtain ⟨A2, c2, rfl, _⟩ := own_form hown2; clear hown2 hg2 hat2)
        go_roundw
        case rel =>
          have hl2 : ucells (numsB l0 k) ++ [Value.int .u32 ((k : Int) + 2)] = ucells (numsB l0 (k + 1)) := by rw [E.out, ucells_append]; simp [ucells]
          exact ⟨k + 1, m + 1, A2, c2, by omega, by go_num, rfl, Lib.hid (by have := HO2.out; rw [hl2] at this; exact this), Lib.hid ((HW.out.alloc HW.out.size _).grown HG2.out (by have := HW.out.size; simp; omega) (fun k e => (HO.out.lt k e).1))⟩
        case measure => simp [intOf]; omega
    · obtain rfl : k = n0 := by omega
      have wn : IntKind.u32.wrap (k : Int) = (k : Int) := by rw [IntKind.wrap_u32]; omega
      have wn2 : IntKind.u32.wrap ((k : Int) + 2) = ((k + 2 : Nat) : Int) := by rw [IntKind.wrap_u32]; omega
      have HNW := Lib.hid (anew_any c (k + 2) 60 (Reads.of_own HO.out) (by have := own_len HO.out; have := numsB_len l0 k; omega))
      have HMAY := Lib.hid (numsB_may (l := l0) (k := k) (m := 60) (by omega) (by omega))
      go_wp2_with fail
      refine HNW.out.mono ?_
      rintro e w2 ⟨hb1, ⟨_, g, rfl, ha⟩ | ⟨hf, _⟩⟩
      rotate_left
      · rw [HMAY.out] at hf; cases hf
      have H : Hid (Held w w2 g (alNew (numsB l0 k) (k + 2) 60) (fun _ _ => True)) := Lib.hid (Held.made HW.out hb1 ha)
      clear ha hb1 HNW HO HW HB wn wn2
      go_wp2_with fail
      refine (hcall stable_true H.out c1 H1.out (by omega)).mono ?_
      rintro e w3 ⟨rfl, h⟩
      have hms : ((alNew (numsB l0 k) (k + 2) 60).runs (z1.take n1)).most ≤ 1000 := by rw [AlS.runs_most]; show 60 ≤ 1000; omega
      obtain ⟨S, hS⟩ : ∃ S, S = (alNew (numsB l0 k) (k + 2) 60).runs (z1.take n1) := ⟨_, rfl⟩
      rw [← hS] at h hms
      replace H := Lib.hid h
      have HSM := Lib.hid (AlS.ok.sums h.ok hms)
      have HMS := Lib.hid hms
      clear h hS hms
      go_wp2_with fail
      refine (hcopy stable_true H.out).mono ?_
      rintro e w4 ⟨g2, rfl, h⟩
      have HT : Hid (Held w w4 g2 S (AlIn g S)) := Lib.hid (h.turn (fun w G ha => ⟨G, fun k hk => hk, ha⟩))
      clear h H
      have HFL := Lib.hid (show S.frees.length ≤ 1000000 by rw [AlS.frees_len HT.out.ok]; have := HSM.out; omega)
      go_wp2_with fail
      refine (rleft (rest_al g S) (fun w G h => h) HT.out).mono ?_
      rintro e w5 ⟨rfl, h, _⟩
      replace HT := Lib.hid h
      clear h
      go_wp2_with fail
      refine (rpages (fun w G h => h) HT.out).mono ?_
      rintro e w6 ⟨rfl, rfl⟩
      go_wp2_with fail
      refine (rfree (rest_al g S) (fun w G h => h) HT.out HSM.out.1).mono ?_
      rintro e w7 ⟨⟨X1, x1, y1, rfl, ho, hb⟩, _⟩
      have HX1 := Lib.hid (own_len ho)
      replace HT := Lib.hid (HT.out.addRow (rest_al g S) ho hb)
      clear ho hb
      go_wp2_with fail
      refine (rtaken (rest_and (rest_al g S) (rest_row X1 x1 S.frees)) (fun w G h => h.1) HT.out HSM.out.2).mono ?_
      rintro e w8 ⟨⟨X2, x2, y2, rfl, ho, hb⟩, _⟩
      have HX2 := Lib.hid (own_len ho)
      replace HT := Lib.hid (HT.out.addRow (rest_and (rest_al g S) (rest_row X1 x1 S.frees)) ho hb)
      clear ho hb
      go_wp2_with fail
      refine (hleft (rest_and (rest_and (rest_al g S) (rest_row X1 x1 S.frees)) (rest_row X2 x2 S.took)).st HT.out).mono ?_
      rintro e w9 ⟨rfl, h, _⟩
      replace HT := Lib.hid h
      clear h
      go_wp2_with fail
      refine (hpages (rest_and (rest_and (rest_al g S) (rest_row X1 x1 S.frees)) (rest_row X2 x2 S.took)).st HT.out).mono ?_
      rintro e w10 ⟨rfl, rfl⟩
      go_wp2_with fail
      refine (hfree (rest_and (rest_and (rest_al g S) (rest_row X1 x1 S.frees)) (rest_row X2 x2 S.took)).st HT.out HSM.out.1).mono ?_
      rintro e w11 ⟨⟨Y, ny, cy, rfl, ho, hb⟩, h⟩
      obtain rfl : x1 = ny := HX1.out.symm.trans (own_len ho)
      replace HT := Lib.hid h
      have hr := Reads.of_own ho
      have hk := HT.out.row (A := X1) (n := x1) (l := S.frees) (fun w G h => h.1.2)
      have HSA := Lib.hid (fun c c2 => sameU_yes Y x1 c X1 c2 S.frees _ hr hk (by have := HX1.out; have := HSM.out; have := HFL.out; unfold maxLen; omega))
      clear h ho hb hr hk
      go_wp2_with fail
      refine (HSA.out _ _).mono ?_
      rintro e w12 ⟨rfl, q, rfl⟩
      replace HT := Lib.hid (HT.out.new ((rest_and (rest_and (rest_al g S) (rest_row X1 x1 S.frees)) (rest_row X2 x2 S.took))).st (below_drewN (Below.refl _ _) q))
      clear HSA
      generalize World.drewN _ q = w12 at *
      go_wp2_with fail
      refine (htaken (rest_and (rest_and (rest_al g S) (rest_row X1 x1 S.frees)) (rest_row X2 x2 S.took)).st HT.out HSM.out.2).mono ?_
      rintro e w13 ⟨⟨Y, ny, cy, rfl, ho, hb⟩, h⟩
      obtain rfl : x2 = ny := HX2.out.symm.trans (own_len ho)
      replace HT := Lib.hid h
      have hr := Reads.of_own ho
      have hk := HT.out.row (A := X2) (n := x2) (l := S.took) (fun w G h => h.2)
      have HSA := Lib.hid (fun c c2 => sameU_yes Y x2 c X2 c2 S.took _ hr hk (by have := HX2.out; have := HSM.out; have := HFL.out; unfold maxLen; omega))
      clear h ho hb hr hk
      go_wp2_with fail
      refine (HSA.out _ _).mono ?_
      rintro e w14 ⟨rfl, q, rfl⟩
      replace HT := Lib.hid (HT.out.new ((rest_and (rest_and (rest_al g S) (rest_row X1 x1 S.frees)) (rest_row X2 x2 S.took))).st (below_drewN (Below.refl _ _) q))
      clear HSA
      generalize World.drewN _ q = w14 at *
      go_wp2_with fail
      refine (hcall (rest_and (rest_and (rest_al g S) (rest_row X1 x1 S.frees)) (rest_row X2 x2 S.took)).st HT.out c2 H2.out (by omega)).mono ?_
      rintro e w15 ⟨rfl, h⟩
      have hms : (S.runs (z2.take n2)).most ≤ 1000 := by rw [AlS.runs_most]; exact HMS.out
      obtain ⟨T, hT⟩ : ∃ T, T = S.runs (z2.take n2) := ⟨_, rfl⟩
      have HTE := Lib.hid hT
      rw [← hT] at h hms
      replace HT := Lib.hid h
      have HTM := Lib.hid (AlS.ok.sums h.ok hms)
      clear h hT hms
      go_wp2_with fail
      refine (rleft (rest_and (rest_and (rest_al g S) (rest_row X1 x1 S.frees)) (rest_row X2 x2 S.took)) (fun w G h => h.1.1) HT.out).mono ?_
      rintro e w16 ⟨rfl, h, _⟩
      replace HT := Lib.hid h
      clear h
      go_wp2_with fail
      refine (rpages (fun w G h => h.1.1) HT.out).mono ?_
      rintro e w17 ⟨rfl, rfl⟩
      go_wp2_with fail
      refine (rfree (rest_and (rest_and (rest_al g S) (rest_row X1 x1 S.frees)) (rest_row X2 x2 S.took)) (fun w G h => h.1.1) HT.out HSM.out.1).mono ?_
      rintro e w18 ⟨⟨Y, ny, cy, rfl, ho, hb⟩, h⟩
      obtain rfl : x1 = ny := HX1.out.symm.trans (own_len ho)
      replace HT := Lib.hid h
      have hr := Reads.of_own ho
      have hk := HT.out.row (A := X1) (n := x1) (l := S.frees) (fun w G h => h.1.2)
      have HSA := Lib.hid (fun c c2 => sameU_yes Y x1 c X1 c2 S.frees _ hr hk (by have := HX1.out; have := HSM.out; have := HFL.out; unfold maxLen; omega))
      clear h ho hb hr hk
      go_wp2_with fail
      refine (HSA.out _ _).mono ?_
      rintro e w19 ⟨rfl, q, rfl⟩
      replace HT := Lib.hid (HT.out.new ((rest_and (rest_and (rest_al g S) (rest_row X1 x1 S.frees)) (rest_row X2 x2 S.took))).st (below_drewN (Below.refl _ _) q))
      clear HSA
      generalize World.drewN _ q = w19 at *
      go_wp2_with fail
      refine (rtaken (rest_and (rest_and (rest_al g S) (rest_row X1 x1 S.frees)) (rest_row X2 x2 S.took)) (fun w G h => h.1.1) HT.out HSM.out.2).mono ?_
      rintro e w20 ⟨⟨Y, ny, cy, rfl, ho, hb⟩, h⟩
      obtain rfl : x2 = ny := HX2.out.symm.trans (own_len ho)
      replace HT := Lib.hid h
      have hr := Reads.of_own ho
      have hk := HT.out.row (A := X2) (n := x2) (l := S.took) (fun w G h => h.2)
      have HSA := Lib.hid (fun c c2 => sameU_yes Y x2 c X2 c2 S.took _ hr hk (by have := HX2.out; have := HSM.out; have := HFL.out; unfold maxLen; omega))
      clear h ho hb hr hk
      go_wp2_with fail
      refine (HSA.out _ _).mono ?_
      rintro e w21 ⟨rfl, q, rfl⟩
      replace HT := Lib.hid (HT.out.new ((rest_and (rest_and (rest_al g S) (rest_row X1 x1 S.frees)) (rest_row X2 x2 S.took))).st (below_drewN (Below.refl _ _) q))
      clear HSA
      generalize World.drewN _ q = w21 at *
      replace HT : Hid (Held w _ g S (AlIn g2 T)) := Lib.hid (HT.out.turn (fun w G h => h.1.1))
      go_wp2_with fail
      refine (hcall (rest_al g2 T).st HT.out c2 H2.out (by omega)).mono ?_
      rintro e w22 ⟨rfl, h⟩
      rw [← HTE.out] at h
      replace HT := Lib.hid h
      clear h
      go_wp2_with fail
      refine (hleft (rest_al g2 T).st HT.out).mono ?_
      rintro e w23 ⟨rfl, h, _⟩
      replace HT := Lib.hid h
      clear h
      go_wp2_with fail
      refine (rleft (rest_al g2 T) (fun w G h => h) HT.out).mono ?_
      rintro e w24 ⟨rfl, h, _⟩
      replace HT := Lib.hid h
      clear h
      go_wp2_with fail
      refine (hpages (rest_al g2 T).st HT.out).mono ?_
      rintro e w25 ⟨rfl, rfl⟩
      go_wp2_with fail
      refine (rpages (fun w G h => h) HT.out).mono ?_
      rintro e w26 ⟨rfl, rfl⟩
      have HFT := Lib.hid (show T.frees.length ≤ 1000000 by rw [AlS.frees_len HT.out.ok]; have := HTM.out; omega)
      go_wp2_with fail
      refine (hfree (rest_al g2 T).st HT.out HTM.out.1).mono ?_
      rintro e w27 ⟨⟨Y, ny, cy, rfl, ho, hb⟩, h⟩
      replace HT := Lib.hid h
      have HO1 := Lib.hid ho
      clear h ho hb
      go_wp2_with fail
      refine (rfree (rest_al g2 T) (fun w G h => h) HT.out HTM.out.1).mono ?_
      rintro e w28 ⟨⟨Z, nz, cz, rfl, ho, hb⟩, h⟩
      obtain rfl : ny = nz := (own_len HO1.out).symm.trans (own_len ho)
      replace HT := Lib.hid h
      have HSA := Lib.hid (fun c c2 => sameU_yes Y ny c Z c2 T.frees _ ((Reads.of_own HO1.out).below hb) (Reads.of_own ho) (by have := own_len ho; have := HFT.out; have := HTM.out; unfold maxLen; omega))
      clear h ho hb HO1
      go_wp2_with fail
      refine (HSA.out _ _).mono ?_
      rintro e w29 ⟨rfl, q, rfl⟩
      replace HT := Lib.hid (HT.out.new ((rest_al g2 T)).st (below_drewN (Below.refl _ _) q))
      clear HSA
      generalize World.drewN _ q = w29 at *
      go_wp2_with fail
      refine (htaken (rest_al g2 T).st HT.out HTM.out.2).mono ?_
      rintro e w30 ⟨⟨Y, ny, cy, rfl, ho, hb⟩, h⟩
      replace HT := Lib.hid h
      have HO1 := Lib.hid ho
      clear h ho hb
      go_wp2_with fail
      refine (rtaken (rest_al g2 T) (fun w G h => h) HT.out HTM.out.2).mono ?_
      rintro e w31 ⟨⟨Z, nz, cz, rfl, ho, hb⟩, h⟩
      obtain rfl : ny = nz := (own_len HO1.out).symm.trans (own_len ho)
      replace HT := Lib.hid h
      have HSA := Lib.hid (fun c c2 => sameU_yes Y ny c Z c2 T.took _ ((Reads.of_own HO1.out).below hb) (Reads.of_own ho) (by have := own_len ho; have := HFT.out; have := HTM.out; unfold maxLen; omega))
      clear h ho hb HO1
      go_wp2_with fail
      refine (HSA.out _ _).mono ?_
      rintro e w32 ⟨rfl, q, rfl⟩
      replace HT := Lib.hid (HT.out.new ((rest_al g2 T)).st (below_drewN (Below.refl _ _) q))
      clear HSA
      generalize World.drewN _ q = w32 at *
      go_wp2_with fail
      go_ret
      exact ⟨rfl, HT.out.bel⟩
end Go.Proofs.Ytofbglgdmabafaa

