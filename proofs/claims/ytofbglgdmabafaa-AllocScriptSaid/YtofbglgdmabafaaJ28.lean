/-
  The library's sort of numbers of 32 bits, fourth part: the partitions.
-/
import Derived.Test.YtofbglgdmabafaaJ27
import Derived.Deep.CutRange
import Derived.Deep.CutBlock
namespace Go.Proofs.Ytofbglgdmabafaa
open Go.RowKit Go.Sort
set_option linter.unusedVariables false
set_option linter.unusedSimpArgs false

theorem up_go {p : Int → Bool} {d : Array Int} {j i : Nat} (h : i ≤ j) (hp : p d[i]! = true) : scanUp p d j i = scanUp p d j (i + 1) := by
  rw [scanUp, if_pos (by simp [h, hp])]
theorem up_stop {p : Int → Bool} {d : Array Int} {j i : Nat} (h : ¬ (i ≤ j ∧ p d[i]! = true)) : scanUp p d j i = i := by
  rw [scanUp, if_neg (by simpa using h)]
theorem dn_go {p : Int → Bool} {d : Array Int} {j i : Nat} (h : i ≤ j + 1) (hp : p d[j + 1]! = true) : scanDown p d i (j + 1) = scanDown p d i j := by
  rw [scanDown, if_pos (by simp [h, hp])]
theorem dn_stop {p : Int → Bool} {d : Array Int} {j i : Nat} (h : ¬ (i ≤ j ∧ p d[j]! = true)) : scanDown p d i j = j := by
  cases j with
  | zero => rfl
  | succ j => rw [scanDown, if_neg (by simpa using h)]
theorem meas_up {i j : Nat} (h : i ≤ j) : j + 1 - (i + 1) < j + 1 - i := by omega
theorem meas_up2 {i j : Nat} (h : i ≤ j) : j - i < j + 1 - i := by omega
theorem meas_part {ia K M ja : Nat} (h : ia ≤ K ∧ K ≤ M ∧ M ≤ ja) : (((M - 1 : Nat) : Int) + 1 - ((K : Int) + 1)).toNat < ja + 1 - ia := by omega
theorem dn_go1 {p : Int → Bool} {d : Array Int} {j i : Nat} (h : i ≤ j) (h1 : 1 ≤ i) (hp : p d[j]! = true) : scanDown p d i j = scanDown p d i (j - 1) := by
  obtain ⟨k, rfl⟩ : ∃ k, j = k + 1 := ⟨j - 1, by omega⟩
  exact dn_go h hp
set_option maxRecDepth 100000 in
set_option maxHeartbeats 6400000 in
theorem partU (blk off cap a b pv : Nat) (d : Array Int) (w : World) (hH : Holds encW w blk off d) (hap : a ≤ pv) (hpb : pv < b) (hb : b ≤ d.size) (hsz : d.size < 4611686018427387904) (hblk : blk < w.heap.size) :
    Calls Try.prog 93 #[.slice (some ⟨blk, off, none⟩) d.size cap, .int .i64 a, .int .i64 b, .int .i64 pv] w fun e w' =>
      e = .returned (.tuple #[.int .i64 (Sort.partition ltInt d a b pv).1, .bool (Sort.partition ltInt d a b pv).2.1]) ∧ Holds encW w' blk off (Sort.partition ltInt d a b pv).2.2 ∧ SameU blk w w' := by
  obtain ⟨T, hT⟩ : ∃ T, T = Sort.partition ltInt d a b pv := ⟨_, rfl⟩
  rw [← hT]
  obtain ⟨dk, hdk⟩ : ∃ x, x = swp d a pv := ⟨_, rfl⟩
  obtain ⟨J0, hJ0⟩ : ∃ x, x = b - 1 := ⟨_, rfl⟩
  obtain ⟨I0, hI0⟩ : ∃ x, x = a + 1 := ⟨_, rfl⟩
  have hs : dk.size = d.size := by rw [hdk, size_swp]
  obtain ⟨I2, hI2⟩ : ∃ x, x = scanUp (fun x => ltInt x dk[a]!) dk J0 I0 := ⟨_, rfl⟩
  obtain ⟨J2, hJ2⟩ : ∃ x, x = scanDown (fun x => !ltInt x dk[a]!) dk I2 J0 := ⟨_, rfl⟩
  have HT := Lib.hid (show T = if I2 > J2 then (J2, true, swp dk J2 a) else ((partLoop ltInt a (I2 + 1) (J2 - 1) (swp dk I2 J2)).1, false, swp (partLoop ltInt a (I2 + 1) (J2 - 1) (swp dk I2 J2)).2 (partLoop ltInt a (I2 + 1) (J2 - 1) (swp dk I2 J2)).1 a) by rw [hT, Sort.partition, hJ2, hI2, hJ0, hI0, hdk])
  obtain ⟨G0, hG0⟩ : ∃ G : Nat → Int, ∀ t, G t = d[t]! := ⟨fun t => d[t]!, fun _ => rfl⟩
  obtain ⟨hcw, hfw⟩ := row_fact hH hG0 rfl
  have HG0 := Lib.hid hG0
  have e1 : (a : Int) + 1 = (I0 : Int) := by omega
  have e2 : (b : Int) - 1 = (J0 : Int) := by omega
  have q0 : a < d.size := by omega
  have q1 : pv < d.size := by omega
  have HH := Lib.hid hH
  have HS := Lib.hid (SameU.refl hblk)
  have HU := Lib.hid hI2.symm
  have HDn := Lib.hid hJ2.symm
  have hq := set_far hH q0 q1 (G0 pv) (y := G0 pv) (by rw [hG0]; split <;> rfl)
  have HDk := Lib.hid hdk
  have R := Lib.hid (show I0 = a + 1 ∧ J0 + 1 = b from ⟨hI0, by omega⟩)
  clear hH hblk hT hdk hI2 hJ2 hG0 hJ0 hI0
  go_enter Try.func93, Try.ntmps93
  go_upto_region 1 with fail
  go_region
  all_goals (go_upto_region 2 with fail)
  have HK := Lib.hid (show Holds encW ((w.setCell ⟨blk, off + a, none⟩ (.int .u32 (G0 pv))).setCell ⟨blk, off + pv, none⟩ (.int .u32 (G0 a))).drew blk off dk by
    rw [HDk.out, HG0.out, HG0.out]
    exact holds_swp HH.out q0 q1)
  have HW := Lib.hid (show SameU blk w ((w.setCell ⟨blk, off + a, none⟩ (.int .u32 (G0 pv))).setCell ⟨blk, off + pv, none⟩ (.int .u32 (G0 a))).drew from (same_swp HS.out).drew)
  generalize ((w.setCell ⟨blk, off + a, none⟩ (.int .u32 (G0 pv))).setCell ⟨blk, off + pv, none⟩ (.int .u32 (G0 a))).drew = w1 at *
  clear hcw hfw hq
  obtain ⟨G, hG⟩ : ∃ G : Nat → Int, ∀ t, G t = dk[t]! := ⟨fun t => dk[t]!, fun _ => rfl⟩
  have HG := Lib.hid hG
  clear hG
  go_upto_block 0 with fail
  have hIJ : I0 ≤ J0 + 1 := by have := R.out; omega
  have hJd : J0 < d.size := by have := R.out; omega
  go_cut [10] from 30 to 45 (fun s wx => s = .int .i64 I2 ∧ Hid (Holds encW wx blk off dk) ∧ Hid (SameU blk w wx))
  case first =>
    go_wp2
    go_loopw [10] (fun v wr => ∃ (i : Nat), v = .int .i64 i ∧ I0 ≤ i ∧ i ≤ J0 + 2 ∧ Hid (Holds encW wr blk off dk) ∧ Hid (SameU blk w wr) ∧ Hid (scanUp (fun x => ltInt x dk[a]!) dk J0 i = I2)) (fun v _ => J0 + 1 - (RowKit.intOf v).toNat)
    case atStart => exact ⟨I0, by go_num, Nat.le_refl _, by omega, HK, HW, HU⟩
    case round =>
      obtain ⟨i, rfl, hi0, hij, HK1, HW1, HU1⟩ := hrel
      obtain ⟨hcw, hfw⟩ := row_fact HK1.out HG.out hs
      have q1 : (0 : Int) ≤ i := by omega
      by_cases h1 : i ≤ J0
      rotate_left
      · have HF := Lib.hid (show i = I2 by rw [← HU1.out, up_stop (fun h => h1 h.1)])
        have y1 : decide ((i : Int) ≤ (J0 : Int)) = false := by simp; omega
        have y1b : decide (i ≤ J0) = false := by simp; omega
        go_wp2
        go_quiet (first | (go_at_call 55; refine Calls.quiet_of_same (lessU _ _ _)))
        go_wp2
        go_meet
        exact ⟨by rw [HF.out], HK1, Lib.hid (HW1.out.drewN _)⟩
      have y1 : decide ((i : Int) ≤ (J0 : Int)) = true := by simp; omega
      have y1b : decide (i ≤ J0) = true := by simp; omega
      have y2 : i < d.size := by omega
      have y3 : (i : Int) < d.size := by omega
      rcases hm : ltInt (G i) (G a) with _ | _
      · have HF := Lib.hid (show i = I2 by rw [← HU1.out, up_stop (fun h => by have h9 := h.2; simp only [← HG.out, hm] at h9; cases h9)])
        go_wp2
        go_quiet (first | (go_at_call 55; refine Calls.quiet_of_same (lessU _ _ _)))
        go_wp2
        go_meet
        exact ⟨by rw [HF.out], HK1, Lib.hid (HW1.out.drewN _)⟩
      · have HN := Lib.hid (show scanUp (fun x => ltInt x dk[a]!) dk J0 (i + 1) = I2 by rw [← HU1.out, up_go h1 (by simp only [← HG.out, hm])])
        go_wp2
        go_quiet (first | (go_at_call 55; refine Calls.quiet_of_same (lessU _ _ _)))
        go_wp2
        go_roundw
        case rel => exact ⟨i + 1, by go_num, by omega, by omega, HK1, Lib.hid (HW1.out.drewN _), HN⟩
        case measure => simp [RowKit.intOf]; first | exact meas_up h1 | exact meas_up2 h1
  case rest =>
  obtain ⟨rfl, HK, HW⟩ := hcut
  have hI1 : 1 ≤ I2 := by have h9 := scanUp_ge (fun x => ltInt x dk[a]!) dk J0 I0; rw [HU.out] at h9; have := R.out; omega
  go_upto_block 2 with fail
  go_cut [11] from 46 to 62 (fun s wx => s = .int .i64 J2 ∧ Hid (Holds encW wx blk off dk) ∧ Hid (SameU blk w wx))
  case first =>
    go_wp2
    go_loopw [11] (fun v wr => ∃ (j : Nat), v = .int .i64 j ∧ j ≤ J0 ∧ Hid (Holds encW wr blk off dk) ∧ Hid (SameU blk w wr) ∧ Hid (scanDown (fun x => !ltInt x dk[a]!) dk I2 j = J2)) (fun v _ => (RowKit.intOf v).toNat)
    case atStart => exact ⟨J0, by go_num, Nat.le_refl _, HK, HW, HDn⟩
    case round =>
      obtain ⟨j, rfl, hj0, HK1, HW1, HU1⟩ := hrel
      obtain ⟨hcw, hfw⟩ := row_fact HK1.out HG.out hs
      have q1 : (0 : Int) ≤ j := by omega
      by_cases h1 : I2 ≤ j
      rotate_left
      · have HF := Lib.hid (show j = J2 by rw [← HU1.out, dn_stop (fun h => h1 h.1)])
        have y1 : decide ((I2 : Int) ≤ (j : Int)) = false := by simp; omega
        have y1b : decide (I2 ≤ j) = false := by simp; omega
        go_wp2
        go_quiet (first | (go_at_call 55; refine Calls.quiet_of_same (lessU _ _ _)))
        go_wp2
        go_meet
        exact ⟨by rw [HF.out], HK1, Lib.hid (HW1.out.drewN _)⟩
      have y1 : decide ((I2 : Int) ≤ (j : Int)) = true := by simp; omega
      have y1b : decide (I2 ≤ j) = true := by simp; omega
      have y2 : j < d.size := by omega
      have y3 : (j : Int) < d.size := by omega
      rcases hm : ltInt (G j) (G a) with _ | _
      · have HN := Lib.hid (show scanDown (fun x => !ltInt x dk[a]!) dk I2 (j - 1) = J2 by rw [← HU1.out, dn_go1 h1 (by omega) (by simp only [← HG.out, hm]; rfl)])
        go_wp2
        go_quiet (first | (go_at_call 55; refine Calls.quiet_of_same (lessU _ _ _)))
        go_wp2
        have e9 : (j : Int) - 1 = ((j - 1 : Nat) : Int) := by omega
        go_roundw
        case rel => exact ⟨j - 1, by congr 1 <;> omega, by omega, HK1, Lib.hid (HW1.out.drewN _), HN⟩
        case measure => simp [RowKit.intOf] <;> omega
      · have HF := Lib.hid (show j = J2 by rw [← HU1.out, dn_stop (fun h => by have h9 := h.2; simp only [← HG.out, hm] at h9; cases h9)])
        go_wp2
        go_quiet (first | (go_at_call 55; refine Calls.quiet_of_same (lessU _ _ _)))
        go_wp2
        go_meet
        exact ⟨by rw [HF.out], HK1, Lib.hid (HW1.out.drewN _)⟩
  case rest =>
  obtain ⟨rfl, HK, HW⟩ := hcut
  have hIa : a < I2 := by have h9 := scanUp_ge (fun x => ltInt x dk[a]!) dk J0 I0; rw [HU.out] at h9; have := R.out; omega
  have hJle : J2 ≤ J0 := by have h9 := scanDown_le (fun x => !ltInt x dk[a]!) dk I2 J0; rw [HDn.out] at h9; exact h9
  have j1 : J2 < d.size := by omega
  have j1b : (J2 : Int) < d.size := by omega
  obtain ⟨hcw, hfw⟩ := row_fact HK.out HG.out hs
  by_cases hgt : J2 < I2
  · have y1 : decide ((J2 : Int) < (I2 : Int)) = true := by simp; omega
    have y1b : decide (J2 < I2) = true := by simp; omega
    have HT1 := Lib.hid (show T = (J2, true, swp dk J2 a) by rw [HT.out, if_pos hgt])
    have hq := set_far HK.out (i := J2) (j := a) (by rw [hs]; exact j1) (by rw [hs]; exact q0) (G a) (y := G a) (by rw [← HG.out]; split <;> rfl)
    go_wp2
    go_region
    all_goals go_wp2
    go_ret2
    rw [HT1.out]
    refine ⟨rfl, ?_, (same_swp HW.out).drew⟩
    rw [HG.out, HG.out]
    exact holds_swp HK.out (by rw [hs]; exact j1) (by rw [hs]; exact q0)
  · have y1 : decide ((J2 : Int) < (I2 : Int)) = false := by simp; omega
    have y1b : decide (J2 < I2) = false := by simp; omega
    have i1 : I2 < d.size := by omega
    have i1b : (I2 : Int) < d.size := by omega
    obtain ⟨I3, hI3⟩ : ∃ x, x = I2 + 1 := ⟨_, rfl⟩
    obtain ⟨J3, hJ3⟩ : ∃ x, x = J2 - 1 := ⟨_, rfl⟩
    have e3 : (I2 : Int) + 1 = (I3 : Int) := by omega
    have e4 : (J2 : Int) - 1 = (J3 : Int) := by omega
    have w3 := i64w I3 (I3 : Int) rfl (by omega)
    have w4 := i64w J3 (J3 : Int) rfl (by omega)
    obtain ⟨PL, hPL⟩ : ∃ x, x = partLoop ltInt a I3 J3 (swp dk I2 J2) := ⟨_, rfl⟩
    have HT1 := Lib.hid (show T = (PL.1, false, swp PL.2 PL.1 a) by rw [HT.out, if_neg hgt, hPL, hI3, hJ3])
    have HPL := Lib.hid hPL.symm
    have hq := set_far HK.out (i := I2) (j := J2) (by rw [hs]; exact i1) (by rw [hs]; exact j1) (G J2) (y := G J2) (by rw [← HG.out]; split <;> rfl)
    have B := Lib.hid (show a < I3 ∧ a ≤ J3 ∧ J3 < d.size ∧ I3 ≤ J3 + 2 by omega)
    clear hPL hI3 hJ3 hgt
    go_upto_region 10 with fail
    go_region
    all_goals (go_upto_region 11 with fail)
    have HKb := Lib.hid (show Holds encW ((wc.setCell ⟨blk, off + I2, none⟩ (.int .u32 (G J2))).setCell ⟨blk, off + J2, none⟩ (.int .u32 (G I2))).drew blk off (swp dk I2 J2) by
      rw [HG.out, HG.out]
      exact holds_swp HK.out (by rw [hs]; exact i1) (by rw [hs]; exact j1))
    have HWb := Lib.hid (show SameU blk w ((wc.setCell ⟨blk, off + I2, none⟩ (.int .u32 (G J2))).setCell ⟨blk, off + J2, none⟩ (.int .u32 (G I2))).drew from (same_swp HW.out).drew)
    have hsb : (swp dk I2 J2).size = d.size := by rw [size_swp]; exact hs
    generalize ((wc.setCell ⟨blk, off + I2, none⟩ (.int .u32 (G J2))).setCell ⟨blk, off + J2, none⟩ (.int .u32 (G I2))).drew = w5 at *
    generalize swp dk I2 J2 = d5 at *
    clear hcw hfw hq y1 y1b
    go_upto_block 4 with fail
    clear e1 e2 e3 e4 w3 w4 hIJ hJd hI1 hIa hJle j1 j1b i1 i1b HK HW HG HU HDn hs HT HDk
    go_cut [10, 11] from 99 to 152 (fun s u wx => u = .int .i64 PL.1 ∧ PL.1 < d.size ∧ PL.2.size = d.size ∧ Hid (Holds encW wx blk off PL.2) ∧ Hid (SameU blk w wx))
    case first =>
      go_wp2
      go_loopw [10, 11] (fun v u wr => ∃ (ia ja : Nat) (dk : Array Int), v = .int .i64 ia ∧ u = .int .i64 ja ∧ a < ia ∧ a ≤ ja ∧ ja < d.size ∧ ia ≤ ja + 2 ∧ dk.size = d.size ∧ Hid (Holds encW wr blk off dk) ∧ Hid (SameU blk w wr) ∧ Hid (partLoop ltInt a ia ja dk = PL)) (fun v u _ => (RowKit.intOf u + 1 - RowKit.intOf v).toNat)
      case atStart => exact ⟨I3, J3, d5, by go_num, by go_num, B.out.1, B.out.2.1, B.out.2.2.1, B.out.2.2.2, hsb, HKb, HWb, HPL⟩
      case round =>
        clear hsb HKb HWb HPL B
        obtain ⟨ia, ja, dk, rfl, rfl, hai, haj, hjd, hij, hs, HK, HW, HQ⟩ := hrel
        obtain ⟨K2, hK2⟩ : ∃ x, x = scanUp (fun x => ltInt x dk[a]!) dk ja ia := ⟨_, rfl⟩
        obtain ⟨M2, hM2⟩ : ∃ x, x = scanDown (fun x => !ltInt x dk[a]!) dk K2 ja := ⟨_, rfl⟩
        have HE := Lib.hid (show PL = if K2 > M2 then (M2, dk) else partLoop ltInt a (K2 + 1) (M2 - 1) (swp dk K2 M2) by rw [← HQ.out, partLoop_eq, hM2, hK2])
        obtain ⟨G, hG⟩ : ∃ G : Nat → Int, ∀ t, G t = dk[t]! := ⟨fun t => dk[t]!, fun _ => rfl⟩
        have HG := Lib.hid hG
        have HU := Lib.hid hK2.symm
        have HDn := Lib.hid hM2.symm
        clear hG hK2 hM2
        go_upto_block 6 with fail
        go_cut [10] from 99 to 152 (fun s wx => s = .int .i64 K2 ∧ Hid (Holds encW wx blk off dk) ∧ Hid (SameU blk w wx))
        case first =>
          go_wp2
          go_loopw [10] (fun v wr => ∃ (i : Nat), v = .int .i64 i ∧ ia ≤ i ∧ i ≤ ja + 2 ∧ Hid (Holds encW wr blk off dk) ∧ Hid (SameU blk w wr) ∧ Hid (scanUp (fun x => ltInt x dk[a]!) dk ja i = K2)) (fun v _ => ja + 1 - (RowKit.intOf v).toNat)
          case atStart => exact ⟨ia, by go_num, Nat.le_refl _, by omega, HK, HW, HU⟩
          case round =>
            obtain ⟨i, rfl, hi0, hij, HK1, HW1, HU1⟩ := hrel
            obtain ⟨hcw, hfw⟩ := row_fact HK1.out HG.out hs
            have q1 : (0 : Int) ≤ i := by omega
            by_cases h1 : i ≤ ja
            rotate_left
            · have HF := Lib.hid (show i = K2 by rw [← HU1.out, up_stop (fun h => h1 h.1)])
              have y1 : decide ((i : Int) ≤ (ja : Int)) = false := by simp; omega
              have y1b : decide (i ≤ ja) = false := by simp; omega
              go_wp2
              go_quiet (first | (go_at_call 55; refine Calls.quiet_of_same (lessU _ _ _)))
              go_wp2
              go_meet
              exact ⟨by rw [HF.out], HK1, Lib.hid (HW1.out.drewN _)⟩
            have y1 : decide ((i : Int) ≤ (ja : Int)) = true := by simp; omega
            have y1b : decide (i ≤ ja) = true := by simp; omega
            have y2 : i < d.size := by omega
            have y3 : (i : Int) < d.size := by omega
            rcases hm : ltInt (G i) (G a) with _ | _
            · have HF := Lib.hid (show i = K2 by rw [← HU1.out, up_stop (fun h => by have h9 := h.2; simp only [← HG.out, hm] at h9; cases h9)])
              go_wp2
              go_quiet (first | (go_at_call 55; refine Calls.quiet_of_same (lessU _ _ _)))
              go_wp2
              go_meet
              exact ⟨by rw [HF.out], HK1, Lib.hid (HW1.out.drewN _)⟩
            · have HN := Lib.hid (show scanUp (fun x => ltInt x dk[a]!) dk ja (i + 1) = K2 by rw [← HU1.out, up_go h1 (by simp only [← HG.out, hm])])
              go_wp2
              go_quiet (first | (go_at_call 55; refine Calls.quiet_of_same (lessU _ _ _)))
              go_wp2
              go_roundw
              case rel => exact ⟨i + 1, by go_num, by omega, by omega, HK1, Lib.hid (HW1.out.drewN _), HN⟩
              case measure => simp [RowKit.intOf]; first | exact meas_up h1 | exact meas_up2 h1
        case rest =>
        obtain ⟨rfl, HK, HW⟩ := hcut
        have hKa : ia ≤ K2 := by have h9 := scanUp_ge (fun x => ltInt x dk[a]!) dk ja ia; rw [HU.out] at h9; exact h9
        have hK1 : 1 ≤ K2 := by omega
        go_upto_block 8 with fail
        go_cut [11] from 99 to 152 (fun s wx => s = .int .i64 M2 ∧ Hid (Holds encW wx blk off dk) ∧ Hid (SameU blk w wx))
        case first =>
          go_wp2
          go_loopw [11] (fun v wr => ∃ (j : Nat), v = .int .i64 j ∧ j ≤ ja ∧ Hid (Holds encW wr blk off dk) ∧ Hid (SameU blk w wr) ∧ Hid (scanDown (fun x => !ltInt x dk[a]!) dk K2 j = M2)) (fun v _ => (RowKit.intOf v).toNat)
          case atStart => exact ⟨ja, by go_num, Nat.le_refl _, HK, HW, HDn⟩
          case round =>
            obtain ⟨j, rfl, hj0, HK1, HW1, HU1⟩ := hrel
            obtain ⟨hcw, hfw⟩ := row_fact HK1.out HG.out hs
            have q1 : (0 : Int) ≤ j := by omega
            by_cases h1 : K2 ≤ j
            rotate_left
            · have HF := Lib.hid (show j = M2 by rw [← HU1.out, dn_stop (fun h => h1 h.1)])
              have y1 : decide ((K2 : Int) ≤ (j : Int)) = false := by simp; omega
              have y1b : decide (K2 ≤ j) = false := by simp; omega
              go_wp2
              go_quiet (first | (go_at_call 55; refine Calls.quiet_of_same (lessU _ _ _)))
              go_wp2
              go_meet
              exact ⟨by rw [HF.out], HK1, Lib.hid (HW1.out.drewN _)⟩
            have y1 : decide ((K2 : Int) ≤ (j : Int)) = true := by simp; omega
            have y1b : decide (K2 ≤ j) = true := by simp; omega
            have y2 : j < d.size := by omega
            have y3 : (j : Int) < d.size := by omega
            rcases hm : ltInt (G j) (G a) with _ | _
            · have HN := Lib.hid (show scanDown (fun x => !ltInt x dk[a]!) dk K2 (j - 1) = M2 by rw [← HU1.out, dn_go1 h1 (by omega) (by simp only [← HG.out, hm]; rfl)])
              go_wp2
              go_quiet (first | (go_at_call 55; refine Calls.quiet_of_same (lessU _ _ _)))
              go_wp2
              have e9 : (j : Int) - 1 = ((j - 1 : Nat) : Int) := by omega
              go_roundw
              case rel => exact ⟨j - 1, by congr 1 <;> omega, by omega, HK1, Lib.hid (HW1.out.drewN _), HN⟩
              case measure => simp [RowKit.intOf] <;> omega
            · have HF := Lib.hid (show j = M2 by rw [← HU1.out, dn_stop (fun h => by have h9 := h.2; simp only [← HG.out, hm] at h9; cases h9)])
              go_wp2
              go_quiet (first | (go_at_call 55; refine Calls.quiet_of_same (lessU _ _ _)))
              go_wp2
              go_meet
              exact ⟨by rw [HF.out], HK1, Lib.hid (HW1.out.drewN _)⟩
        case rest =>
        obtain ⟨rfl, HK, HW⟩ := hcut
        have hMle : M2 ≤ ja := by have h9 := scanDown_le (fun x => !ltInt x dk[a]!) dk K2 ja; rw [HDn.out] at h9; exact h9
        have m1 : M2 < d.size := by omega
        have m1b : (M2 : Int) < d.size := by omega
        obtain ⟨hcw, hfw⟩ := row_fact HK.out HG.out hs
        by_cases hgt : M2 < K2
        · have y1 : decide ((M2 : Int) < (K2 : Int)) = true := by simp; omega
          have y1b : decide (M2 < K2) = true := by simp; omega
          have HP := Lib.hid (show PL = (M2, dk) by rw [HE.out, if_pos hgt])
          go_wp2
          go_meet
          rw [HP.out]
          exact ⟨rfl, m1, hs, HK, HW⟩
        · have y1 : decide ((M2 : Int) < (K2 : Int)) = false := by simp; omega
          have y1b : decide (M2 < K2) = false := by simp; omega
          have i1 : K2 < d.size := by omega
          have i1b : (K2 : Int) < d.size := by omega
          have HN := Lib.hid (show partLoop ltInt a (K2 + 1) (M2 - 1) (swp dk K2 M2) = PL by rw [HE.out, if_neg hgt])
          have hq := set_far HK.out (i := K2) (j := M2) (by rw [hs]; exact i1) (by rw [hs]; exact m1) (G M2) (y := G M2) (by rw [← HG.out]; split <;> rfl)
          have e9 : (M2 : Int) - 1 = ((M2 - 1 : Nat) : Int) := by omega
          have F := Lib.hid (show a < K2 + 1 ∧ a ≤ M2 - 1 ∧ M2 - 1 < d.size ∧ K2 + 1 ≤ M2 - 1 + 2 by omega)
          have FM := Lib.hid (show ia ≤ K2 ∧ K2 ≤ M2 ∧ M2 ≤ ja by omega)
          go_wp2
          go_region
          all_goals go_wp2
          go_roundw
          case rel =>
            refine ⟨K2 + 1, M2 - 1, swp dk K2 M2, by go_num, by congr 1 <;> omega, F.out.1, F.out.2.1, F.out.2.2.1, F.out.2.2.2, by rw [size_swp]; exact hs, Lib.hid ?_, Lib.hid (same_swp HW.out).drew, HN⟩
            rw [HG.out, HG.out]
            exact holds_swp HK.out (by rw [hs]; exact i1) (by rw [hs]; exact m1)
          case measure => simp [RowKit.intOf]; exact meas_part FM.out
    case rest =>
    clear hsb HKb HWb HPL B
    obtain ⟨rfl, p1, hs2, HK, HW⟩ := hcut
    obtain ⟨P1, P2⟩ := PL
    simp only at p1 hs2 HK
    have p1b : (P1 : Int) < d.size := by omega
    obtain ⟨G, hG⟩ : ∃ G : Nat → Int, ∀ t, G t = P2[t]! := ⟨fun t => P2[t]!, fun _ => rfl⟩
    obtain ⟨hcw, hfw⟩ := row_fact HK.out hG hs2
    have hq := set_far HK.out (i := P1) (j := a) (by rw [hs2]; exact p1) (by rw [hs2]; exact q0) (G a) (y := G a) (by rw [← hG]; split <;> rfl)
    have HG := Lib.hid hG
    clear hG
    go_wp2
    go_region
    all_goals go_wp2
    go_ret2
    rw [HT1.out]
    refine ⟨rfl, ?_, (same_swp HW.out).drew⟩
    rw [HG.out, HG.out]
    exact holds_swp HK.out (by rw [hs2]; exact p1) (by rw [hs2]; exact q0)
set_option maxRecDepth 100000 in
set_option maxHeartbeats 6400000 in
theorem partEqU (blk off cap a b pv : Nat) (d : Array Int) (w : World) (hH : Holds encW w blk off d) (hap : a ≤ pv) (hpb : pv < b) (hb : b ≤ d.size) (hsz : d.size < 4611686018427387904) (hblk : blk < w.heap.size) :
    Calls Try.prog 92 #[.slice (some ⟨blk, off, none⟩) d.size cap, .int .i64 a, .int .i64 b, .int .i64 pv] w fun e w' =>
      e = .returned (.int .i64 (Sort.partitionEqual ltInt d a b pv).1) ∧ Holds encW w' blk off (Sort.partitionEqual ltInt d a b pv).2 ∧ SameU blk w w' := by
  obtain ⟨PL, hPL⟩ : ∃ T, T = Sort.partitionEqual ltInt d a b pv := ⟨_, rfl⟩
  rw [← hPL]
  obtain ⟨d5, hd5⟩ : ∃ x, x = swp d a pv := ⟨_, rfl⟩
  obtain ⟨J0, hJ0⟩ : ∃ x, x = b - 1 := ⟨_, rfl⟩
  obtain ⟨I0, hI0⟩ : ∃ x, x = a + 1 := ⟨_, rfl⟩
  have hsb : d5.size = d.size := by rw [hd5, size_swp]
  have HPL := Lib.hid (show partEqLoop ltInt a I0 J0 d5 = PL by rw [hPL, Sort.partitionEqual, hJ0, hI0, hd5])
  obtain ⟨G0, hG0⟩ : ∃ G : Nat → Int, ∀ t, G t = d[t]! := ⟨fun t => d[t]!, fun _ => rfl⟩
  obtain ⟨hcw, hfw⟩ := row_fact hH hG0 rfl
  have HG0 := Lib.hid hG0
  have e1 : (a : Int) + 1 = (I0 : Int) := by omega
  have e2 : (b : Int) - 1 = (J0 : Int) := by omega
  have q0 : a < d.size := by omega
  have q1 : pv < d.size := by omega
  have HH := Lib.hid hH
  have HS := Lib.hid (SameU.refl hblk)
  have hq := set_far hH q0 q1 (G0 pv) (y := G0 pv) (by rw [hG0]; split <;> rfl)
  have HDk := Lib.hid hd5
  have B := Lib.hid (show a < I0 ∧ a ≤ J0 ∧ J0 < d.size ∧ I0 ≤ J0 + 2 by omega)
  clear hH hblk hPL hd5 hG0 hJ0 hI0
  go_enter Try.func92, Try.ntmps92
  go_upto_region 1 with fail
  go_region
  all_goals (go_upto_region 2 with fail)
  have HKb := Lib.hid (show Holds encW ((w.setCell ⟨blk, off + a, none⟩ (.int .u32 (G0 pv))).setCell ⟨blk, off + pv, none⟩ (.int .u32 (G0 a))).drew blk off d5 by
    rw [HDk.out, HG0.out, HG0.out]
    exact holds_swp HH.out q0 q1)
  have HWb := Lib.hid (show SameU blk w ((w.setCell ⟨blk, off + a, none⟩ (.int .u32 (G0 pv))).setCell ⟨blk, off + pv, none⟩ (.int .u32 (G0 a))).drew from (same_swp HS.out).drew)
  generalize ((w.setCell ⟨blk, off + a, none⟩ (.int .u32 (G0 pv))).setCell ⟨blk, off + pv, none⟩ (.int .u32 (G0 a))).drew = w5 at *
  clear hcw hfw hq
  go_upto_block 0 with fail
  clear e1 e2 HH HS HDk
  go_cut [9, 10] from 29 to 82 (fun s u wx => s = .int .i64 PL.1 ∧ Hid (Holds encW wx blk off PL.2) ∧ Hid (SameU blk w wx))
  case first =>
    go_wp2
    go_loopw [9, 10] (fun v u wr => ∃ (ia ja : Nat) (dk : Array Int), v = .int .i64 ia ∧ u = .int .i64 ja ∧ a < ia ∧ a ≤ ja ∧ ja < d.size ∧ ia ≤ ja + 2 ∧ dk.size = d.size ∧ Hid (Holds encW wr blk off dk) ∧ Hid (SameU blk w wr) ∧ Hid (partEqLoop ltInt a ia ja dk = PL)) (fun v u _ => (RowKit.intOf u + 1 - RowKit.intOf v).toNat)
    case atStart => exact ⟨I0, J0, d5, by go_num, by go_num, B.out.1, B.out.2.1, B.out.2.2.1, B.out.2.2.2, hsb, HKb, HWb, HPL⟩
    case round =>
      clear hsb HKb HWb HPL B
      obtain ⟨ia, ja, dk, rfl, rfl, hai, haj, hjd, hij, hs, HK, HW, HQ⟩ := hrel
      obtain ⟨K2, hK2⟩ : ∃ x, x = scanUp (fun x => !ltInt dk[a]! x) dk ja ia := ⟨_, rfl⟩
      obtain ⟨M2, hM2⟩ : ∃ x, x = scanDown (fun x => ltInt dk[a]! x) dk K2 ja := ⟨_, rfl⟩
      have HE := Lib.hid (show PL = if K2 > M2 then (K2, dk) else partEqLoop ltInt a (K2 + 1) (M2 - 1) (swp dk K2 M2) by rw [← HQ.out, partEqLoop_eq, hM2, hK2])
      obtain ⟨G, hG⟩ : ∃ G : Nat → Int, ∀ t, G t = dk[t]! := ⟨fun t => dk[t]!, fun _ => rfl⟩
      have HG := Lib.hid hG
      have HU := Lib.hid hK2.symm
      have HDn := Lib.hid hM2.symm
      clear hG hK2 hM2
      go_upto_block 2 with fail
      go_cut [9] from 29 to 82 (fun s wx => s = .int .i64 K2 ∧ Hid (Holds encW wx blk off dk) ∧ Hid (SameU blk w wx))
      case first =>
        go_wp2
        go_loopw [9] (fun v wr => ∃ (i : Nat), v = .int .i64 i ∧ ia ≤ i ∧ i ≤ ja + 2 ∧ Hid (Holds encW wr blk off dk) ∧ Hid (SameU blk w wr) ∧ Hid (scanUp (fun x => !ltInt dk[a]! x) dk ja i = K2)) (fun v _ => ja + 1 - (RowKit.intOf v).toNat)
        case atStart => exact ⟨ia, by go_num, Nat.le_refl _, by omega, HK, HW, HU⟩
        case round =>
          obtain ⟨i, rfl, hi0, hij, HK1, HW1, HU1⟩ := hrel
          obtain ⟨hcw, hfw⟩ := row_fact HK1.out HG.out hs
          have q1 : (0 : Int) ≤ i := by omega
          by_cases h1 : i ≤ ja
          rotate_left
          · have HF := Lib.hid (show i = K2 by rw [← HU1.out, up_stop (fun h => h1 h.1)])
            have y1 : decide ((i : Int) ≤ (ja : Int)) = false := by simp; omega
            have y1b : decide (i ≤ ja) = false := by simp; omega
            go_wp2
            go_quiet (first | (go_at_call 55; refine Calls.quiet_of_same (lessU _ _ _)))
            go_wp2
            go_meet
            exact ⟨by rw [HF.out], HK1, Lib.hid (HW1.out.drewN _)⟩
          have y1 : decide ((i : Int) ≤ (ja : Int)) = true := by simp; omega
          have y1b : decide (i ≤ ja) = true := by simp; omega
          have y2 : i < d.size := by omega
          have y3 : (i : Int) < d.size := by omega
          rcases hm : ltInt (G a) (G i) with _ | _
          · have HN := Lib.hid (show scanUp (fun x => !ltInt dk[a]! x) dk ja (i + 1) = K2 by rw [← HU1.out, up_go h1 (by simp only [← HG.out, hm]; rfl)])
            go_wp2
            go_quiet (first | (go_at_call 55; refine Calls.quiet_of_same (lessU _ _ _)))
            go_wp2
            go_roundw
            case rel => exact ⟨i + 1, by go_num, by omega, by omega, HK1, Lib.hid (HW1.out.drewN _), HN⟩
            case measure => simp [RowKit.intOf]; first | exact meas_up h1 | exact meas_up2 h1
          · have HF := Lib.hid (show i = K2 by rw [← HU1.out, up_stop (fun h => by have h9 := h.2; simp only [← HG.out, hm] at h9; cases h9)])
            go_wp2
            go_quiet (first | (go_at_call 55; refine Calls.quiet_of_same (lessU _ _ _)))
            go_wp2
            go_meet
            exact ⟨by rw [HF.out], HK1, Lib.hid (HW1.out.drewN _)⟩
      case rest =>
      obtain ⟨rfl, HK, HW⟩ := hcut
      have hKa : ia ≤ K2 := by have h9 := scanUp_ge (fun x => !ltInt dk[a]! x) dk ja ia; rw [HU.out] at h9; exact h9
      have hK1 : 1 ≤ K2 := by omega
      go_upto_block 4 with fail
      go_cut [10] from 29 to 82 (fun s wx => s = .int .i64 M2 ∧ Hid (Holds encW wx blk off dk) ∧ Hid (SameU blk w wx))
      case first =>
        go_wp2
        go_loopw [10] (fun v wr => ∃ (j : Nat), v = .int .i64 j ∧ j ≤ ja ∧ Hid (Holds encW wr blk off dk) ∧ Hid (SameU blk w wr) ∧ Hid (scanDown (fun x => ltInt dk[a]! x) dk K2 j = M2)) (fun v _ => (RowKit.intOf v).toNat)
        case atStart => exact ⟨ja, by go_num, Nat.le_refl _, HK, HW, HDn⟩
        case round =>
          obtain ⟨j, rfl, hj0, HK1, HW1, HU1⟩ := hrel
          obtain ⟨hcw, hfw⟩ := row_fact HK1.out HG.out hs
          have q1 : (0 : Int) ≤ j := by omega
          by_cases h1 : K2 ≤ j
          rotate_left
          · have HF := Lib.hid (show j = M2 by rw [← HU1.out, dn_stop (fun h => h1 h.1)])
            have y1 : decide ((K2 : Int) ≤ (j : Int)) = false := by simp; omega
            have y1b : decide (K2 ≤ j) = false := by simp; omega
            go_wp2
            go_quiet (first | (go_at_call 55; refine Calls.quiet_of_same (lessU _ _ _)))
            go_wp2
            go_meet
            exact ⟨by rw [HF.out], HK1, Lib.hid (HW1.out.drewN _)⟩
          have y1 : decide ((K2 : Int) ≤ (j : Int)) = true := by simp; omega
          have y1b : decide (K2 ≤ j) = true := by simp; omega
          have y2 : j < d.size := by omega
          have y3 : (j : Int) < d.size := by omega
          rcases hm : ltInt (G a) (G j) with _ | _
          · have HF := Lib.hid (show j = M2 by rw [← HU1.out, dn_stop (fun h => by have h9 := h.2; simp only [← HG.out, hm] at h9; cases h9)])
            go_wp2
            go_quiet (first | (go_at_call 55; refine Calls.quiet_of_same (lessU _ _ _)))
            go_wp2
            go_meet
            exact ⟨by rw [HF.out], HK1, Lib.hid (HW1.out.drewN _)⟩
          · have HN := Lib.hid (show scanDown (fun x => ltInt dk[a]! x) dk K2 (j - 1) = M2 by rw [← HU1.out, dn_go1 h1 (by omega) (by simp only [← HG.out, hm])])
            go_wp2
            go_quiet (first | (go_at_call 55; refine Calls.quiet_of_same (lessU _ _ _)))
            go_wp2
            have e9 : (j : Int) - 1 = ((j - 1 : Nat) : Int) := by omega
            go_roundw
            case rel => exact ⟨j - 1, by congr 1 <;> omega, by omega, HK1, Lib.hid (HW1.out.drewN _), HN⟩
            case measure => simp [RowKit.intOf] <;> omega
      case rest =>
      obtain ⟨rfl, HK, HW⟩ := hcut
      have hMle : M2 ≤ ja := by have h9 := scanDown_le (fun x => ltInt dk[a]! x) dk K2 ja; rw [HDn.out] at h9; exact h9
      have m1 : M2 < d.size := by omega
      have m1b : (M2 : Int) < d.size := by omega
      obtain ⟨hcw, hfw⟩ := row_fact HK.out HG.out hs
      by_cases hgt : M2 < K2
      · have y1 : decide ((M2 : Int) < (K2 : Int)) = true := by simp; omega
        have y1b : decide (M2 < K2) = true := by simp; omega
        have HP := Lib.hid (show PL = (K2, dk) by rw [HE.out, if_pos hgt])
        go_wp2
        go_meet
        rw [HP.out]
        exact ⟨rfl, HK, HW⟩
      · have y1 : decide ((M2 : Int) < (K2 : Int)) = false := by simp; omega
        have y1b : decide (M2 < K2) = false := by simp; omega
        have i1 : K2 < d.size := by omega
        have i1b : (K2 : Int) < d.size := by omega
        have HN := Lib.hid (show partEqLoop ltInt a (K2 + 1) (M2 - 1) (swp dk K2 M2) = PL by rw [HE.out, if_neg hgt])
        have hq := set_far HK.out (i := K2) (j := M2) (by rw [hs]; exact i1) (by rw [hs]; exact m1) (G M2) (y := G M2) (by rw [← HG.out]; split <;> rfl)
        have e9 : (M2 : Int) - 1 = ((M2 - 1 : Nat) : Int) := by omega
        have F := Lib.hid (show a < K2 + 1 ∧ a ≤ M2 - 1 ∧ M2 - 1 < d.size ∧ K2 + 1 ≤ M2 - 1 + 2 by omega)
        have FM := Lib.hid (show ia ≤ K2 ∧ K2 ≤ M2 ∧ M2 ≤ ja by omega)
        go_wp2
        go_region
        all_goals go_wp2
        go_roundw
        case rel =>
          refine ⟨K2 + 1, M2 - 1, swp dk K2 M2, by go_num, by congr 1 <;> omega, F.out.1, F.out.2.1, F.out.2.2.1, F.out.2.2.2, by rw [size_swp]; exact hs, Lib.hid ?_, Lib.hid (same_swp HW.out).drew, HN⟩
          rw [HG.out, HG.out]
          exact holds_swp HK.out (by rw [hs]; exact i1) (by rw [hs]; exact m1)
        case measure => simp [RowKit.intOf]; exact meas_part FM.out
  case rest =>
  clear hsb HKb HWb HPL B
  obtain ⟨rfl, HK, HW⟩ := hcut
  go_wp2
  go_ret
  exact ⟨rfl, HK.out, HW.out⟩
end Go.Proofs.Ytofbglgdmabafaa

