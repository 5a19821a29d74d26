/-
  The walk of AllocOnce.
-/
import Derived.Test.YtofbglgdmabafaaJ38
import Derived.Test.YtofbglgdmabafaaJ39
namespace Go.Proofs.Ytofbglgdmabafaa
open Go.RowKit
open Go.Lib hiding intOf
set_option linter.unusedVariables false
set_option linter.unusedSimpArgs false
attribute [local go_sem ↓] Go.wp_at_zero Go.wp_at_succ

theorem infoInt60 : (Try.prog.info? 3).map (fun i => (i.zero, i.size, i.bytes)) = some (some (.int .i64 0), 1, 8) := by kernel_rfl
theorem make60 (w : World) : (Instr.makeSlice 47 (.int .i64 60) (.int .i64 60)).run Try.prog w = .ok (.slice (some ⟨w.heap.size, 0, none⟩) 60 60) (w.alloc (.cells (hasC (alNew [] 0 0)) 3)) := by
  obtain ⟨i0, hi0, hz0, hz1, hz2⟩ := info_parts infoInt60
  have h := run_makeSlice w 47 3 i0 _ Try.underlying47 hi0 hz0 .i64 .i64 60 60 (by decide) (by decide) (by rw [hz1]; decide) (by rw [hz2]; decide) (by decide)
  rw [hz1] at h
  rw [show hasC (alNew [] 0 0) = madeCells (Value.int .i64 0).cells ((60 : Int).toNat * 1) from by kernel_rfl]
  exact h
/-- The codes of the first k bools. -/
def boolS (l : List Bool) (k : Nat) : AlS := alNew (numsB l k) (k + 2) (k + 22)
theorem code_bool {l : List Bool} {k : Nat} (h : l.getD k false = true) : codeS (boolS l (k + 1)) (k + 2) = 1 ∧ ∀ j, j ≠ k + 2 → codeS (boolS l (k + 1)) j = codeS (boolS l k) j := by
  have e : numsB l (k + 1) = numsB l k ++ [k + 2] := by show (if l.getD k false then _ else _) = _; rw [h]; rfl
  refine ⟨code_one.2 ?_, fun j hj => ?_⟩
  · show k + 2 ∈ numsB l (k + 1)
    rw [e]; simp
  · have : inU (numsB l (k + 1)) j = inU (numsB l k) j := by rw [Bool.eq_iff_iff, inU_iff, inU_iff, e]; simp [hj]
    unfold codeS boolS alNew
    simp only [this]
theorem code_skip {l : List Bool} {k : Nat} (h : l.getD k false = false) : hasC (boolS l (k + 1)) = hasC (boolS l k) := by
  have e : numsB l (k + 1) = numsB l k := by show (if l.getD k false then _ else _) = _; rw [h]; rfl
  unfold hasC codeS boolS alNew
  rw [e]
set_option maxRecDepth 100000 in
set_option maxHeartbeats 6400000 in
theorem alonce_walk (A0 : Option Addr) (n0 c0 : Nat) (l0 : List Bool) (A1 : Option Addr) (n1 c1 : Nat) (z1 : List Int) (w : World) (h0 : Bools w w.heap.size A0 n0 l0) (hm0 : n0 ≤ maxLen) (h1 : IsRow .i64 w A1 n1 c1 z1) :
    Calls Try.prog 5 #[.slice A0 n0 c0, .slice A1 n1 c1] w fun e w' => e = .returned (.bool true) ∧ Below w.heap.size w w' := by
  obtain ⟨i0, hi0, hz0, hz1, hz2⟩ := info_parts infoU32b
  have H0 := Lib.hid h0
  have H1 := Lib.hid h1.reads.1
  have hm1 : n1 ≤ maxLen := Nat.le_trans h1.reads.2.1 h1.reads.2.2.1
  unfold maxLen at hm0 hm1
  clear h0 h1
  by_cases g0 : 30 < n0
  · have gg : (30 : Int) < (n0 : Int) := by omega
    clear g0
    go_enter Try.func5, Try.ntmps5
    go_wp2_with fail
    refine (lives14_any w).mono ?_
    rintro e w1 ⟨rfl, hb⟩
    have HB := Lib.hid hb
    clear hb
    go_wp2_with fail
    go_ret
    exact ⟨rfl, HB.out⟩
  have gg0 : ¬ (30 : Int) < (n0 : Int) := by omega
  by_cases g1 : 100 < n1
  · have gg : (100 : Int) < (n1 : Int) := by omega
    clear g1
    go_enter Try.func5, Try.ntmps5
    go_wp2_with fail
    refine (lives14_any w).mono ?_
    rintro e w1 ⟨rfl, hb⟩
    have HB := Lib.hid hb
    clear hb
    go_wp2_with fail
    go_ret
    exact ⟨rfl, HB.out⟩
  have gg1 : ¬ (100 : Int) < (n1 : Int) := by omega
  go_enter Try.func5, Try.ntmps5
  go_wp2_with fail
  refine (lives14_any w).mono ?_
  rintro e w1 ⟨rfl, hb⟩
  have HB := Lib.hid hb
  clear hb
  have hmk := fun w => make60 w
  go_wp2_with fail
  obtain ⟨hb, hhb⟩ : ∃ hb, hb = w1.heap.size := ⟨_, rfl⟩
  have HHB := Lib.hid hhb
  have HBL : Hid (w.heap.size ≤ hb) := Lib.hid (by rw [hhb]; exact HB.out.size)
  have HH0 : Hid (Blk (w1.alloc (.cells (hasC (alNew [] 0 0)) 3)) hb 3 (hasC (boolS l0 0))) := Lib.hid (by rw [hhb]; exact Blk.new _ _ _)
  have HB1 := Lib.hid (HB.out.alloc HB.out.size (.cells (hasC (alNew [] 0 0)) 3))
  rw [← hhb]
  generalize w1.alloc (.cells (hasC (alNew [] 0 0)) 3) = wA at *
  clear hhb HB hmk
  go_loopw [5, 7] (fun s5 s7 wr => ∃ (k m : Nat) (A : Option Addr) (c : Nat), k ≤ n0 ∧ s7 = .int .i64 k ∧ s5 = .slice A m c ∧ Hid (wr.ownsRow w.heap.size 27 1 (.slice A m c) m (ucells (numsB l0 k))) ∧ Hid (Blk wr hb 3 (hasC (boolS l0 k))) ∧ Hid (Below w.heap.size w wr)) (fun _ s7 _ => n0 - (intOf s7).toNat)
  case atStart => exact ⟨0, 0, none, 0, Nat.zero_le _, rfl, rfl, Lib.hid (World.ownsRow_nil _ _ _ _), HH0, HB1⟩
  case round =>
    obtain ⟨k, m, A, c, hk, rfl, rfl, HO, HH, HW⟩ := hrel
    by_cases hlt : k < n0
    · obtain ⟨ad, hA, hab, hc⟩ := H0.out.at_ hlt
      have hc2 := cell_in hc HW.out hab
      subst hA
      have wk : IntKind.u32.wrap (k : Int) = (k : Int) := by rw [IntKind.wrap_u32]; omega
      have wk2 : IntKind.u32.wrap ((k : Int) + 2) = (k : Int) + 2 := by rw [IntKind.wrap_u32]; omega
      cases hbk : l0.getD k false
      · rw [hbk] at hc2
        have E : Hid (numsB l0 (k + 1) = numsB l0 k) := Lib.hid (by show (if l0.getD k false then _ else _) = _; rw [hbk]; rfl)
        have E2 := Lib.hid (code_skip hbk)
        clear hbk hc
        go_wp2_with fail
        go_roundw
        case rel => exact ⟨k + 1, m, A, c, by omega, by go_num, rfl, Lib.hid (by rw [E.out]; exact HO.out), Lib.hid (by rw [E2.out]; exact HH.out), HW⟩
        case measure => simp [intOf]; omega
      · rw [hbk] at hc2
        have E : Hid (numsB l0 (k + 1) = numsB l0 k ++ [k + 2]) := Lib.hid (by show (if l0.getD k false then _ else _) = _; rw [hbk]; rfl)
        have E2 := Lib.hid (code_bool hbk)
        have hml := own_len HO.out
        have hmk := numsB_len l0 k
        have HML := Lib.hid (And.intro hml hmk)
        have HAP := Lib.hid (own_ne_blk HO.out HH.out (by decide))
        clear hbk hc hml hmk
        go_wp2_with (at_builtin; refine wpList_append_any _ rfl (.tmp 47) (.tmp 51) _ rfl w.heap.size 27 i0 _ 1 4 Try.underlying28 hi0 hz0 hz1 hz2 rfl (by omega) _ m (ucells (numsB l0 k)) rfl (HO.out.alloc _) (wr.heap.size + 1) (some ⟨wr.heap.size, 0, none⟩) 1 1 [.int .u32 ((k : Int) + 2)] rfl (reads_own (n := 1) (Blk.new _ _ _) rfl) (by simp [Value.oneCell']) (by unfold maxLen; have := HML.out; omega) (by have := HML.out; omega) (by have := HW.out.size; simp; omega) ?_; intro v2 w2 hown2 hg2 hat2; have HO2 := Lib.hid hown2; have HG2 := Lib.hid hg2; obtain ⟨A2, c2, rfl, _⟩ := own_form hown2; have hh2 := (HH.out.alloc _).grown HG2.out (fun e => HAP.out e.symm); have HH2 := Lib.hid hh2; have q1 := hh2.cell (k + 2); rw [hasC_at _ (by omega)] at q1; have q2 := hh2.frozen (k + 2); clear hown2 hg2 hat2 hh2)
        go_roundw
        case rel =>
          have hl2 : ucells (numsB l0 k) ++ [Value.int .u32 ((k : Int) + 2)] = ucells (numsB l0 (k + 1)) := by rw [E.out, ucells_append]; simp [ucells]
          have hbb : Below w.heap.size w w2 := (HW.out.alloc HW.out.size _).grown HG2.out (by have := HW.out.size; simp; omega) (fun k e => (HO.out.lt k e).1)
          refine ⟨k + 1, m + 1, A2, c2, by omega, by go_num, rfl, Lib.hid ?_, Lib.hid ?_, Lib.hid (hbb.setCell (by exact HBL.out) _)⟩
          · have h5 := HO2.out
            rw [hl2] at h5
            exact (Kept.setCell (F := fun k => k = hb) (Kept.refl _ _) (p := ⟨hb, k + 2, none⟩) (.inl rfl) _).own h5 fun q e hq => own_ne_blk h5 HH2.out (by decide) (by rw [e, hq])
          · have h6 := HH2.out.set_ (k + 2) (.int .i64 1)
            rw [show (.int .i64 1 : Value) = .int .i64 ((1 : Nat) : Int) from rfl, hasC_set (by omega) E2.out.1 E2.out.2] at h6
            exact h6
        case measure => simp [intOf]; omega
    · as_aux_lemma =>
      obtain rfl : k = n0 := by omega
      have wk0 : IntKind.u32.wrap (k : Int) = (k : Int) := by rw [IntKind.wrap_u32]; omega
      have hnw := anew_any c (k + 2) (k + 22) (Reads.of_own HO.out) (by have := own_len HO.out; have := numsB_len l0 k; omega)
      rw [show ((k + 2 : Nat) : Int) = (k : Int) + 2 by omega, show ((k + 22 : Nat) : Int) = (k : Int) + 22 by omega] at hnw
      have HNW := Lib.hid hnw
      have HMAY := Lib.hid (numsB_may (l := l0) (k := k) (m := k + 22) (by omega) (by omega))
      clear hnw
      go_wp2_with fail
      refine HNW.out.mono ?_
      rintro e w2 ⟨hb1, ⟨_, g, rfl, ha⟩ | ⟨hf, _⟩⟩
      rotate_left
      · rw [HMAY.out] at hf; cases hf
      have H : Hid (Held w w2 g (boolS l0 k) (HasIn hb (hasC (boolS l0 k)))) := Lib.hid (Held.madeHas HW.out HH.out HBL.out hb1 ha)
      have HS0 := Lib.hid (show (boolS l0 k).most = k + 22 from rfl)
      have HC0 := Lib.hid (show (k : Int) + 2 = ((boolS l0 k).count : Int) by show (k : Int) + 2 = ((k + 2 : Nat) : Int); omega)
      clear ha hb1 HNW HMAY HW HB1 HO HH HH0
      generalize hgen : boolS l0 k = S0 at H HS0 HC0
      clear hgen
      go_wp2_with fail
      go_loopw [8, 11] (fun s8 s11 wr => ∃ (i : Nat) (S : AlS), i ≤ n1 ∧ s11 = .int .i64 i ∧ s8 = .int .u32 (S.count : Int) ∧ S.count ≤ 52 ∧ Hid (S.most = k + 22) ∧ Hid (Held w wr g S (HasIn hb (hasC S)))) (fun _ s11 _ => n1 - (intOf s11).toNat)
      case atStart => exact ⟨0, S0, Nat.zero_le _, rfl, by rw [HC0.out], by have := H.out.ok.cm; have := HS0.out; omega, HS0, H⟩
      case round =>
        obtain ⟨i, S, hi, rfl, rfl, hc52, HS, HH⟩ := hrel
        by_cases hlt : i < n1
        · obtain ⟨ad, z, hA, hab, hz, hc⟩ := int_at (H1.out.below HH.out.bel) hlt
          subst hA
          have HOK := Lib.hid HH.out.ok
          clear hz
          by_cases hneg : z < 0
          · as_aux_lemma =>
            have hneg2 : ¬ (0 : Int) ≤ z := by omega
            have HBK := Lib.hid (HH.out.has (fun w G h => h))
            rcases hnow : S.now with _ | ⟨x, r⟩
            · by_cases hcm : S.count < S.most
              · -- one page more
                have ht : S.takes = (S.count, 0, { S with took := withU S.took S.count, count := S.count + 1 }) := by unfold AlS.takes; rw [hnow]; simp only; rw [if_neg (by omega)]
                have HT := Lib.hid ht
                have HCD := Lib.hid (code_more HOK.out hnow)
                have HNO := Lib.hid hnow
                have hcl : (S.count : Int) < (k : Int) + 22 := by have := HS.out; omega
                have w1c : IntKind.u32.wrap ((S.count : Int) + 1) = (S.count : Int) + 1 := by rw [IntKind.wrap_u32]; omega
                clear ht hnow hcm
                go_wp2_with fail
                refine (htake (rest_has _ _).st HH.out HT.out).mono ?_
                rintro e wt ⟨rfl, h⟩
                have HH2 := Lib.hid h
                have HB2 := Lib.hid (h.has (fun w G h => h))
                clear h
                go_wp2_with fail
                go_loop [17, 18] (fun s17 s18 => ∃ j : Nat, 2 ≤ j ∧ j ≤ S.count ∧ s18 = .int .u32 j ∧ s17 = .int .u32 0) (fun _ s18 => S.count - (intOf s18).toNat)
                case atStart => exact ⟨2, by omega, HOK.out.c2, rfl, rfl⟩
                case round =>
                  obtain ⟨j, hj2, hjc, rfl, rfl⟩ := hrel
                  by_cases hjl : j < S.count
                  · have hcj := HB2.out.cell j
                    rw [hasC_at S (by omega)] at hcj
                    have hne : ¬ ((codeS S j : Nat) : Int) = 1 := by
                      intro e
                      have e1 : codeS S j = 1 := by omega
                      have := code_one.1 e1
                      rw [HNO.out] at this
                      cases this
                    have wj : IntKind.u32.wrap ((j : Int) + 1) = (j : Int) + 1 := by rw [IntKind.wrap_u32]; omega
                    generalize codeS S j = v at hcj hne
                    go_wp2_with fail
                    go_round
                    case rel => exact ⟨j + 1, by omega, by omega, by go_num, rfl⟩
                    case measure => simp [intOf]; omega
                  · obtain rfl : j = S.count := by omega
                    have q1 := HB2.out.cell S.count
                    rw [hasC_at S (by omega)] at q1
                    have q2 := HB2.out.frozen S.count
                    go_wp2_with fail
                    go_roundw
                    case rel =>
                      refine ⟨i + 1, { S with took := withU S.took S.count, count := S.count + 1 }, by omega, by go_num, by go_num, by show S.count + 1 ≤ 52; omega, HS, Lib.hid ?_⟩
                      have h6 := HH2.out.stores S.count (.int .i64 2)
                      rw [show (.int .i64 2 : Value) = .int .i64 ((2 : Nat) : Int) from rfl, hasC_set (by omega) HCD.out.1 HCD.out.2] at h6
                      exact h6
                    case measure => simp [intOf]; omega
              · -- full
                have ht : S.takes = (0, 9, S) := by unfold AlS.takes; rw [hnow]; simp only; rw [if_pos (by omega)]
                have HT := Lib.hid ht
                have HNO := Lib.hid hnow
                have hcl : ¬ (S.count : Int) < (k : Int) + 22 := by have := HS.out; omega
                clear ht hnow hcm
                go_wp2_with fail
                refine (htake (rest_has _ _).st HH.out HT.out).mono ?_
                rintro e wt ⟨rfl, h⟩
                have HH2 := Lib.hid h
                have HB2 := Lib.hid (h.has (fun w G h => h))
                clear h
                go_wp2_with fail
                go_loop [17, 18] (fun s17 s18 => ∃ j : Nat, 2 ≤ j ∧ j ≤ S.count ∧ s18 = .int .u32 j ∧ s17 = .int .u32 0) (fun _ s18 => S.count - (intOf s18).toNat)
                case atStart => exact ⟨2, by omega, HOK.out.c2, rfl, rfl⟩
                case round =>
                  obtain ⟨j, hj2, hjc, rfl, rfl⟩ := hrel
                  by_cases hjl : j < S.count
                  · have hcj := HB2.out.cell j
                    rw [hasC_at S (by omega)] at hcj
                    have hne : ¬ ((codeS S j : Nat) : Int) = 1 := by
                      intro e
                      have e1 : codeS S j = 1 := by omega
                      have := code_one.1 e1
                      rw [HNO.out] at this
                      cases this
                    have wj : IntKind.u32.wrap ((j : Int) + 1) = (j : Int) + 1 := by rw [IntKind.wrap_u32]; omega
                    generalize codeS S j = v at hcj hne
                    go_wp2_with fail
                    go_round
                    case rel => exact ⟨j + 1, by omega, by omega, by go_num, rfl⟩
                    case measure => simp [intOf]; omega
                  · obtain rfl : j = S.count := by omega
                    go_wp2_with fail
                    go_roundw
                    case rel => exact ⟨i + 1, S, by omega, by go_num, rfl, hc52, HS, HH2⟩
                    case measure => simp [intOf]; omega
            · -- the least page
              have ht : S.takes = (x, 0, { S with now := r, took := withU S.took x }) := by unfold AlS.takes; rw [hnow]
              have hxi := HOK.out.i1 x (by rw [hnow]; simp)
              have HT := Lib.hid ht
              have HCD := Lib.hid (code_head HOK.out hnow)
              have HNO := Lib.hid hnow
              have HLE : Hid (∀ j, j < x → codeS S j ≠ 1) := Lib.hid (fun j hj e => by
                have hm := code_one.1 e
                have hr := HOK.out.r1
                rw [hnow] at hm hr
                rcases List.mem_cons.1 hm with h | h
                · omega
                · have := (List.pairwise_cons.1 hr).1 j h; omega)
              have hxc : codeS S x = 1 := code_one.2 (by rw [hnow]; simp)
              have HXC := Lib.hid hxc
              clear ht hnow hxc
              go_wp2_with fail
              refine (htake (rest_has _ _).st HH.out HT.out).mono ?_
              rintro e wt ⟨rfl, h⟩
              have HH2 := Lib.hid h
              have HB2 := Lib.hid (h.has (fun w G h => h))
              clear h
              go_wp2_with fail
              go_loop [17, 18] (fun s17 s18 => ∃ j : Nat, 2 ≤ j ∧ s18 = .int .u32 j ∧ ((j ≤ x ∧ s17 = .int .u32 0) ∨ (j = x + 1 ∧ s17 = .int .u32 x))) (fun _ s18 => S.count + 1 - (intOf s18).toNat)
              case atStart => exact ⟨2, by omega, rfl, .inl ⟨hxi.1, rfl⟩⟩
              case round =>
                obtain ⟨j, hj2, rfl, ⟨hjx, rfl⟩ | ⟨rfl, rfl⟩⟩ := hrel
                · have hcj := HB2.out.cell j
                  rw [hasC_at S (by omega)] at hcj
                  have hjl : (j : Int) < (S.count : Int) := by omega
                  have wj : IntKind.u32.wrap ((j : Int) + 1) = (j : Int) + 1 := by rw [IntKind.wrap_u32]; omega
                  rcases Nat.lt_or_ge j x with h1 | h1
                  · have hne : ¬ ((codeS S j : Nat) : Int) = 1 := by have := HLE.out j h1; omega
                    generalize codeS S j = v at hcj hne
                    go_wp2_with fail
                    go_round
                    case rel => exact ⟨j + 1, by omega, by go_num, .inl ⟨by omega, rfl⟩⟩
                    case measure => simp [intOf]; omega
                  · obtain rfl : j = x := by omega
                    rw [HXC.out] at hcj
                    go_wp2_with fail
                    go_round
                    case rel => exact ⟨j + 1, by omega, by go_num, .inr ⟨rfl, rfl⟩⟩
                    case measure => simp [intOf]; omega
                · have hx0 : ¬ ((x : Int) = 0) := by omega
                  have q1 := HB2.out.cell x
                  rw [hasC_at S (by omega)] at q1
                  have q2 := HB2.out.frozen x
                  by_cases hxl : ((x + 1 : Nat) : Int) < (S.count : Int)
                  all_goals
                    go_wp2_with fail
                    go_roundw
                    case rel =>
                      refine ⟨i + 1, { S with now := r, took := withU S.took x }, by omega, by go_num, rfl, hc52, HS, Lib.hid ?_⟩
                      have h6 := HH2.out.stores x (.int .i64 2)
                      rw [show (.int .i64 2 : Value) = .int .i64 ((2 : Nat) : Int) from rfl, hasC_set (by omega) HCD.out.1 HCD.out.2] at h6
                      exact h6
                    case measure => simp [intOf]; omega
          · as_aux_lemma =>
            have hneg2 : (0 : Int) ≤ z := by omega
            have hq0 : (0 : Int) ≤ z % 60 := Int.emod_nonneg _ (by decide)
            have hq1 : z % 60 < 60 := Int.emod_lt_of_pos _ (by decide)
            obtain ⟨q, hq⟩ : ∃ q : Nat, z % 60 = (q : Int) := ⟨(z % 60).toNat, by omega⟩
            have htm : Int.tmod z 60 = (q : Int) := by rw [Int.tmod_eq_emod_of_nonneg hneg2]; exact hq
            have hq60 : (q : Int) < 60 := by omega
            have hwq : IntKind.u32.wrap (q : Int) = (q : Int) := by rw [IntKind.wrap_u32]; omega
            have HBK := HH.out.has (fun w G h => h)
            have hqn : q < 60 := by omega
            clear hq hq0 hq1 hneg
            by_cases hrng : q < 2 ∨ S.count ≤ q
            · have HT : Hid (S.gives q = (2, S)) := Lib.hid (by unfold AlS.gives; rw [if_pos hrng])
              have HCD := Lib.hid (code_far HOK.out hrng)
              clear HBK hrng
              go_wp2_with fail
              refine (hgive (rest_has _ _).st HH.out HT.out).mono ?_
              rintro e wt ⟨rfl, h⟩
              have HH2 := Lib.hid h
              have q1 := (h.has (fun w G h => h)).cell q
              rw [hasC_at S hqn, HCD.out] at q1
              clear h
              go_wp2_with fail
              go_roundw
              case rel => exact ⟨i + 1, S, by omega, by go_num, rfl, hc52, HS, HH2⟩
              case measure => simp [intOf]; omega
            · have hlo : ¬ (q : Int) < 2 := by omega
              have hhi : ¬ (S.count : Int) ≤ (q : Int) := by omega
              by_cases hst : inU S.now q = true ∨ inU S.gave q = true
              · have HT : Hid (S.gives q = (8, S)) := Lib.hid (by unfold AlS.gives; rw [if_neg hrng, if_pos hst])
                have hcd : codeS S q = 1 ∨ codeS S q = 3 := by
                  rcases hst with h | h
                  · exact .inl (code_one.2 (inU_iff.1 h))
                  · exact .inr ((code_three HOK.out).2 (inU_iff.1 h))
                clear HBK hrng hst
                rcases hcd with hcd | hcd
                all_goals
                  have HCD := Lib.hid hcd
                  clear hcd
                  go_wp2_with fail
                  refine (hgive (rest_has _ _).st HH.out HT.out).mono ?_
                  rintro e wt ⟨rfl, h⟩
                  have HH2 := Lib.hid h
                  have q1 := (h.has (fun w G h => h)).cell q
                  rw [hasC_at S hqn, HCD.out] at q1
                  clear h
                  go_wp2_with fail
                  go_roundw
                  case rel => exact ⟨i + 1, S, by omega, by go_num, rfl, hc52, HS, HH2⟩
                  case measure => simp [intOf]; omega
              · cases htk : inU S.took q
                · have HT : Hid (S.gives q = (0, { S with gave := withU S.gave q })) := Lib.hid (by unfold AlS.gives; rw [if_neg hrng, if_neg hst, if_neg (by rw [htk]; simp)])
                  have hn1 : q ∉ S.now := fun h => hst (.inl (inU_iff.2 h))
                  have hn2 : q ∉ S.gave := fun h => hst (.inr (inU_iff.2 h))
                  have hn3 : q ∉ S.took := inU_no.1 htk
                  have HCD := Lib.hid (code_gave hn1 hn3)
                  have hz0 : codeS S q = 0 := by
                    have a := inU_no.2 hn1
                    have b := inU_no.2 hn2
                    unfold codeS
                    rw [a, b, htk]
                    rfl
                  have HZ0 := Lib.hid hz0
                  clear HBK hrng hst htk hn1 hn2 hn3 hz0
                  go_wp2_with fail
                  refine (hgive (rest_has _ _).st HH.out HT.out).mono ?_
                  rintro e wt ⟨rfl, h⟩
                  have HH2 := Lib.hid h
                  have q1 := (h.has (fun w G h => h)).cell q
                  have q2 := (h.has (fun w G h => h)).frozen q
                  rw [hasC_at S hqn, HZ0.out] at q1
                  clear h
                  go_wp2_with fail
                  go_roundw
                  case rel =>
                    refine ⟨i + 1, { S with gave := withU S.gave q }, by omega, by go_num, rfl, hc52, HS, Lib.hid ?_⟩
                    have h6 := HH2.out.stores q (.int .i64 3)
                    rw [show (.int .i64 3 : Value) = .int .i64 ((3 : Nat) : Int) from rfl, hasC_set hqn HCD.out.1 HCD.out.2] at h6
                    exact h6
                  case measure => simp [intOf]; omega
                · have HT : Hid (S.gives q = (0, { S with took := lessU1 S.took q, now := withU S.now q })) := Lib.hid (by unfold AlS.gives; rw [if_neg hrng, if_neg hst, if_pos htk])
                  have HCD := Lib.hid (code_back HOK.out (inU_iff.1 htk))
                  have HZ0 := Lib.hid ((code_two HOK.out).2 (inU_iff.1 htk))
                  clear HBK hrng hst htk
                  go_wp2_with fail
                  refine (hgive (rest_has _ _).st HH.out HT.out).mono ?_
                  rintro e wt ⟨rfl, h⟩
                  have HH2 := Lib.hid h
                  have q1 := (h.has (fun w G h => h)).cell q
                  have q2 := (h.has (fun w G h => h)).frozen q
                  rw [hasC_at S hqn, HZ0.out] at q1
                  clear h
                  go_wp2_with fail
                  go_roundw
                  case rel =>
                    refine ⟨i + 1, { S with took := lessU1 S.took q, now := withU S.now q }, by omega, by go_num, rfl, hc52, HS, Lib.hid ?_⟩
                    have h6 := HH2.out.stores q (.int .i64 1)
                    rw [show (.int .i64 1 : Value) = .int .i64 ((1 : Nat) : Int) from rfl, hasC_set hqn HCD.out.1 HCD.out.2] at h6
                    exact h6
                  case measure => simp [intOf]; omega
        · as_aux_lemma =>
          obtain rfl : i = n1 := by omega
          have HOK := Lib.hid HH.out.ok
          have hm1000 : S.most ≤ 1000 := by have := HS.out; omega
          have HSM := Lib.hid (AlS.ok.sums HH.out.ok hm1000)
          clear hm1000
          go_wp2_with fail
          refine (hfree (rest_has _ _).st HH.out HSM.out.1).mono ?_
          rintro e wf ⟨⟨X, x, xc, rfl, ho, hb1⟩, h⟩
          have HL1 := Lib.hid (own_len ho)
          have HR1 := Lib.hid (Reads.of_own ho)
          replace HH := Lib.hid h
          clear ho hb1 h
          go_wp2_with fail
          refine (htaken (rest_has _ _).st HH.out HSM.out.2).mono ?_
          rintro e wt ⟨⟨Y, y, yc, rfl, ho, hb1⟩, h⟩
          have HL2 := Lib.hid (own_len ho)
          have HR2 := Lib.hid (Reads.of_own ho)
          have HR1b := Lib.hid (HR1.out.below hb1)
          have HBK := Lib.hid (h.has (fun w G h => h))
          replace HH := Lib.hid h
          have HC1 := Lib.hid (fun j => count_one (AlS.frees_rise HOK.out) j)
          have HC2 := Lib.hid (fun j => count_one HOK.out.r2 j)
          have hxl : x ≤ 1000000 := by have h1 := HL1.out; rw [AlS.frees_len HOK.out] at h1; have := HSM.out; omega
          have hyl : y ≤ 1000000 := by have h1 := HL2.out; have := HSM.out; omega
          clear ho hb1 h HR1
          go_wp2_with fail
          go_loop [21] (fun s21 => ∃ j : Nat, j ≤ S.count ∧ s21 = .int .u32 j) (fun s21 => S.count - (intOf s21).toNat)
          case atStart => exact ⟨0, Nat.zero_le _, rfl⟩
          case round =>
            obtain ⟨j, hj, rfl⟩ := hrel
            by_cases hjl : j < S.count
            · go_wp2_with fail
              go_loop [22, 24] (fun s22 s24 => ∃ a : Nat, a ≤ x ∧ s24 = .int .i64 a ∧ s22 = .int .i64 (((S.frees.take a).count j : Nat) : Int)) (fun _ s24 => x - (intOf s24).toNat)
              case atStart => exact ⟨0, Nat.zero_le _, rfl, by simp⟩
              case round =>
                obtain ⟨a, ha, rfl, rfl⟩ := hrel
                have hcl : (S.frees.take a).count j ≤ a := Nat.le_trans (List.count_le_length) (List.length_take_le _ _)
                by_cases hal : a < x
                · obtain ⟨ad2, hA2, _, hc2⟩ := ureads_at HR1b.out hal
                  subst hA2
                  have HST := Lib.hid (count_step S.frees j a (by rw [HL1.out]; exact hal))
                  by_cases hv : nthU S.frees a = j
                  · rw [hv] at hc2
                    have HV := Lib.hid hv
                    clear hv
                    generalize hgc : (S.frees.take a).count j = cc at HST hcl ⊢
                    clear hgc
                    go_wp2_with fail
                    go_round
                    case rel => exact ⟨a + 1, by omega, by go_num, by rw [HST.out, if_pos HV.out]; go_num⟩
                    case measure => simp [intOf]; omega
                  · have hv2 : ¬ ((nthU S.frees a : Nat) : Int) = (j : Int) := by omega
                    have HV := Lib.hid hv
                    clear hv
                    generalize hgc : (S.frees.take a).count j = cc at HST hcl ⊢
                    generalize hgv : nthU S.frees a = vv at hc2 hv2
                    clear hgc hgv
                    go_wp2_with fail
                    go_round
                    case rel => exact ⟨a + 1, by omega, by go_num, by rw [HST.out, if_neg HV.out]; rfl⟩
                    case measure => simp [intOf]; omega
                · obtain rfl : a = x := by omega
                  rw [List.take_of_length_le (by rw [HL1.out]; exact Nat.le_refl _)] at hcl ⊢
                  obtain ⟨cv, hcv⟩ : ∃ cv, cv = S.frees.count j := ⟨_, rfl⟩
                  rw [← hcv]
                  have HCV := Lib.hid hcv
                  clear hcl hcv
                  go_wp2_with fail
                  go_loop [23, 25] (fun s23 s25 => ∃ b : Nat, b ≤ y ∧ s25 = .int .i64 b ∧ s23 = .int .i64 (((S.took.take b).count j : Nat) : Int)) (fun _ s25 => y - (intOf s25).toNat)
                  case atStart => exact ⟨0, Nat.zero_le _, rfl, by simp⟩
                  case round =>
                    obtain ⟨b, hb, rfl, rfl⟩ := hrel
                    have hcl : (S.took.take b).count j ≤ b := Nat.le_trans (List.count_le_length) (List.length_take_le _ _)
                    by_cases hbl : b < y
                    · obtain ⟨ad2, hA2, _, hc2⟩ := ureads_at HR2.out hbl
                      subst hA2
                      have HST := Lib.hid (count_step S.took j b (by rw [HL2.out]; exact hbl))
                      by_cases hv : nthU S.took b = j
                      · rw [hv] at hc2
                        have HV := Lib.hid hv
                        clear hv
                        generalize hgc : (S.took.take b).count j = cc at HST hcl ⊢
                        clear hgc
                        go_wp2_with fail
                        go_round
                        case rel => exact ⟨b + 1, by omega, by go_num, by rw [HST.out, if_pos HV.out]; go_num⟩
                        case measure => simp [intOf]; omega
                      · have hv2 : ¬ ((nthU S.took b : Nat) : Int) = (j : Int) := by omega
                        have HV := Lib.hid hv
                        clear hv
                        generalize hgc : (S.took.take b).count j = cc at HST hcl ⊢
                        generalize hgv : nthU S.took b = vv at hc2 hv2
                        clear hgc hgv
                        go_wp2_with fail
                        go_round
                        case rel => exact ⟨b + 1, by omega, by go_num, by rw [HST.out, if_neg HV.out]; rfl⟩
                        case measure => simp [intOf]; omega
                    · obtain rfl : b = y := by omega
                      rw [List.take_of_length_le (by rw [HL2.out]; exact Nat.le_refl _)] at hcl ⊢
                      have hcv := HCV.out
                      rw [HC1.out j] at hcv
                      subst hcv
                      rw [HC2.out j]
                      clear hcl
                      have q1 := HBK.out.cell j
                      rw [hasC_at S (by omega)] at q1
                      have e1 : inU S.frees j = (inU S.now j || inU S.gave j) := by rw [Bool.eq_iff_iff, Bool.or_eq_true, inU_iff, inU_iff, inU_iff]; exact AlS.frees_mem HOK.out j
                      have d1 := HOK.out.d12 j
                      have d2 := HOK.out.d13 j
                      have d3 := HOK.out.d23 j
                      rw [← inU_iff, ← inU_iff] at d1 d2 d3
                      have wj : IntKind.u32.wrap ((j : Int) + 1) = (j : Int) + 1 := by rw [IntKind.wrap_u32]; omega
                      rw [e1]
                      unfold codeS at q1
                      generalize inU S.now j = b1 at *
                      generalize inU S.took j = b2 at *
                      generalize inU S.gave j = b3 at *
                      have hfour : (b1 = false ∧ b2 = false ∧ b3 = false) ∨ (b1 = true ∧ b2 = false ∧ b3 = false) ∨ (b1 = false ∧ b2 = true ∧ b3 = false) ∨ (b1 = false ∧ b2 = false ∧ b3 = true) := by
                        cases b1 <;> cases b2 <;> cases b3 <;> simp_all
                      clear d1 d2 d3 e1
                      rcases hfour with ⟨rfl, rfl, rfl⟩ | ⟨rfl, rfl, rfl⟩ | ⟨rfl, rfl, rfl⟩ | ⟨rfl, rfl, rfl⟩
                      all_goals
                        simp only [Bool.false_eq_true, if_false, if_true, Bool.or_false, Bool.or_true, Bool.false_or, Bool.true_or] at q1 ⊢
                        go_wp2_with fail
                        go_round
                        case rel => exact ⟨j + 1, by omega, by go_num⟩
                        case measure => simp [intOf]; omega
            · obtain rfl : j = S.count := by omega
              go_wp2_with fail
              refine (hpages (rest_has _ _).st HH.out).mono ?_
              rintro e wz ⟨rfl, rfl⟩
              go_wp2_with fail
              go_ret
              exact ⟨by first | rfl | simp, HH.out.bel⟩
end Go.Proofs.Ytofbglgdmabafaa

