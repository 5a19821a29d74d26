/-
  The library's sort of numbers of 32 bits, second part: heapSort, reverseRange.
-/
import Derived.Test.YtofbglgdmabafaaJ25
namespace Go.Proofs.Ytofbglgdmabafaa
open Go.RowKit Go.Sort
set_option linter.unusedVariables false
set_option linter.unusedSimpArgs false

theorem size_sift : ∀ (n hi first r : Nat) (d : Array Int), hi - r ≤ n → (Sort.siftDown ltInt hi first r d).size = d.size := by
  intro n
  induction n with
  | zero =>
    intro hi first r d h
    rw [sift_stop (by omega)]
  | succ n ih =>
    intro hi first r d h
    by_cases h1 : hi ≤ 2 * r + 1
    · rw [sift_stop h1]
    by_cases h2 : 2 * r + 1 + 1 < hi ∧ ltInt d[first + (2 * r + 1)]! d[first + (2 * r + 1) + 1]! = true
    · rw [sift_two h2.1 h2.2]
      split
      · rw [ih _ _ _ _ (by omega), size_swp]
      · rfl
    · rw [sift_one (by omega) h2]
      split
      · rw [ih _ _ _ _ (by omega), size_swp]
      · rfl
theorem i64w' (z : Int) (h : -9223372036854775808 ≤ z) (h2 : z < 9223372036854775808) : IntKind.i64.wrap z = z := by rw [IntKind.wrap_i64]; omega
set_option maxRecDepth 100000 in
set_option maxHeartbeats 6400000 in
theorem heapU (blk off cap a b : Nat) (d : Array Int) (w : World) (hH : Holds encW w blk off d) (hab : a ≤ b) (hb : b ≤ d.size) (hsz : d.size < 4611686018427387904) (hblk : blk < w.heap.size) :
    Calls Try.prog 87 #[.slice (some ⟨blk, off, none⟩) d.size cap, .int .i64 a, .int .i64 b] w fun e w' =>
      e = .returned (.tuple #[]) ∧ Holds encW w' blk off (Sort.heapSort ltInt d a b) ∧ SameU blk w w' := by
  obtain ⟨d0, hd0⟩ : ∃ d0, d0 = Sort.heapSort ltInt d a b := ⟨_, rfl⟩
  rw [← hd0]
  obtain ⟨h, hh⟩ : ∃ h, h = b - a := ⟨_, rfl⟩
  have e1 : (b : Int) - (a : Int) = (h : Int) := by omega
  have hsum : a + h ≤ d.size := by omega
  obtain ⟨m, hm⟩ : ∃ m, m = (h - 1) / 2 := ⟨_, rfl⟩
  have e2 : Int.tdiv ((h : Int) - 1) 2 = (m : Int) := by
    rcases Nat.eq_zero_or_pos h with h0 | h0
    · rw [hm, h0]; rfl
    · rw [show (h : Int) - 1 = ((h - 1 : Nat) : Int) by omega, hm]; exact (Int.ofNat_tdiv _ _).symm
  have hmh : m ≤ h := by omega
  have HD := Lib.hid (show heapPop ltInt a h (heapBuild ltInt h a (m + 1) d) = d0 by rw [hd0, hm, hh]; rfl)
  have HH := Lib.hid hH
  have HS := Lib.hid (SameU.refl hblk)
  have HSi := Lib.hid (fun (lo hi : Nat) (dk : Array Int) (hs : dk.size = d.size) (w1 : World) (hK : Holds encW w1 blk off dk) (hl : lo ≤ hi) (hi2 : hi ≤ h) (hb1 : blk < w1.heap.size) => show Calls Try.prog 110 #[.slice (some ⟨blk, off, none⟩) d.size cap, .int .i64 lo, .int .i64 hi, .int .i64 a] w1 fun e w' => e = .returned (.tuple #[]) ∧ Holds encW w' blk off (Sort.siftDown ltInt hi a lo dk) ∧ SameU blk w1 w' from by
    have h9 := siftU blk off cap lo hi a dk w1 hK hl (by omega) (by omega) hb1
    rw [hs] at h9
    exact h9)
  clear hH hblk hd0 hh hm
  go_enter Try.func87, Try.ntmps87
  go_wp2
  go_loopw [9] (fun v wr => ∃ (z : Int) (k : Nat) (dk : Array Int), v = .int .i64 z ∧ z + 1 = k ∧ k ≤ m + 1 ∧ dk.size = d.size ∧ Hid (Holds encW wr blk off dk) ∧ Hid (SameU blk w wr) ∧ Hid (heapPop ltInt a h (heapBuild ltInt h a k dk) = d0)) (fun v _ => (RowKit.intOf v + 1).toNat)
  case atStart => exact ⟨m, m + 1, d, by go_num, by omega, Nat.le_refl _, rfl, HH, HS, HD⟩
  case round =>
    obtain ⟨z, k, dk, rfl, hz, hk, hs, HK, HW, HQ⟩ := hrel
    rcases k with _ | j
    · obtain rfl : z = -1 := by omega
      have HQ2 := Lib.hid (show heapPop ltInt a h dk = d0 from HQ.out)
      clear hz hk HQ e2 hmh
      go_wp2
      go_loopw [10] (fun v wr => ∃ (z : Int) (k : Nat) (dk : Array Int), v = .int .i64 z ∧ z + 1 = k ∧ k ≤ h ∧ dk.size = d.size ∧ Hid (Holds encW wr blk off dk) ∧ Hid (SameU blk w wr) ∧ Hid (heapPop ltInt a k dk = d0)) (fun v _ => (RowKit.intOf v + 1).toNat)
      case atStart => exact ⟨(h : Int) - 1, h, dk, by go_num, by omega, Nat.le_refl _, hs, HK, HW, HQ2⟩
      case round =>
        clear hs HK HW HQ2 dk
        obtain ⟨z, k, dk, rfl, hz, hk, hs, HK, HW, HQ⟩ := hrel
        rcases k with _ | j
        · obtain rfl : z = -1 := by omega
          have HF := Lib.hid (show dk = d0 from HQ.out)
          clear hz hk
          go_wp2
          go_end0
          exact ⟨rfl, by rw [← HF.out]; exact HK.out, HW.out⟩
        · obtain rfl : z = (j : Int) := by omega
          have q1 : (0 : Int) ≤ j := by omega
          clear hz
          obtain ⟨G, hG⟩ : ∃ G : Nat → Int, ∀ t, G t = dk[t]! := ⟨fun t => dk[t]!, fun _ => rfl⟩
          obtain ⟨hcw, hfw⟩ := row_fact HK.out hG hs
          have HG := Lib.hid hG
          have J1 := Lib.hid (show a < dk.size ∧ a + j < dk.size by omega)
          have xk := i64w (a + j) ((a : Int) + (j : Int)) (by omega) (by omega)
          have i1 : (0 : Int) ≤ a := by omega
          have i2 : (a : Int) < d.size := by omega
          have i2b : a < d.size := by omega
          have i3 : (0 : Int) ≤ (a : Int) + (j : Int) := by omega
          have i4 : (a : Int) + (j : Int) < d.size := by omega
          have n2 : ((a : Int) + (j : Int)).toNat = a + j := by omega
          have JL := Lib.hid (show j ≤ h by omega)
          have hq : (wr.setCell ⟨blk, off + a, none⟩ (.int .u32 (G (a + j)))).cell? ⟨blk, off + (a + j), none⟩ = some (.int .u32 (G (a + j))) := by
            rw [((holds_set HK.out J1.out.1 (G (a + j))) (a + j) (by simpa using J1.out.2)).1]
            rcases Nat.eq_zero_or_pos j with h0 | h0
            · subst h0
              rw [Nat.add_zero, getElem!_set_same _ _ _ J1.out.1]
            · rw [getElem!_set_other _ _ _ _ (by omega), hG]
          clear hG
          go_wp2
          go_region
          all_goals (go_wp2_with fail)
          obtain ⟨w3, hw3⟩ : ∃ x, x = ((wr.setCell ⟨blk, off + a, none⟩ (.int .u32 (G (a + j)))).setCell ⟨blk, off + (a + j), none⟩ (.int .u32 (G a))).drew := ⟨_, rfl⟩
          have HK3 := Lib.hid (show Holds encW w3 blk off (swp dk a (a + j)) by
            rw [hw3, HG.out, HG.out]
            exact holds_swp HK.out J1.out.1 J1.out.2)
          have HW3 := Lib.hid (show SameU blk w w3 by rw [hw3]; exact (same_swp HW.out).drew)
          rw [← hw3]
          clear hw3
          refine (HSi.out 0 j (swp dk a (a + j)) (by rw [size_swp]; exact hs) _ HK3.out (Nat.zero_le _) JL.out HW3.out.lt).mono ?_
          rintro e w2 ⟨rfl, hK2, hS2⟩
          have HK2 := Lib.hid hK2
          have HW2 := Lib.hid (HW3.out.trans hS2)
          clear hK2 hS2
          go_wp2
          go_roundw
          case rel => exact ⟨(j : Int) - 1, j, _, by go_num, by omega, by omega, (size_sift _ _ _ _ _ (Nat.le_refl _)).trans ((size_swp _ _ _).trans hs), HK2, HW2, HQ⟩
          case measure => simp [RowKit.intOf]
    · obtain rfl : z = (j : Int) := by omega
      have q1 : (0 : Int) ≤ j := by omega
      clear hz
      go_wp2_with (go_at_call 110; refine (HSi.out j h dk hs _ HK.out (by omega) (Nat.le_refl _) HW.out.lt).mono ?_; rintro e w2 ⟨rfl, hK2, hS2⟩)
      have HK2 := Lib.hid hK2
      have HW2 := Lib.hid (HW.out.trans hS2)
      clear hK2 hS2
      go_roundw
      case rel => exact ⟨(j : Int) - 1, j, _, by go_num, by omega, by omega, (size_sift _ _ _ _ _ (Nat.le_refl _)).trans hs, HK2, HW2, HQ⟩
      case measure => simp [RowKit.intOf]
theorem set_far {w : World} {blk off : Nat} {d : Array Int} (h : Holds encW w blk off d) {i j : Nat} (hi : i < d.size) (hj : j < d.size) (x : Int) {y : Int} (hy : y = if j = i then x else d[j]!) :
    (w.setCell ⟨blk, off + i, none⟩ (.int .u32 x)).cell? ⟨blk, off + j, none⟩ = some (.int .u32 y) := by
  rw [((holds_set h hi x) j (by simpa using hj)).1, hy]
  by_cases e : j = i
  · subst e
    rw [if_pos rfl, getElem!_set_same _ _ _ hi]
  · rw [if_neg e, getElem!_set_other _ _ _ _ e]
theorem meas_rev {i j : Nat} (h : i < j) : ((j : Int) - ((i : Int) + 1)).toNat < j + 1 - i := by omega
set_option maxRecDepth 100000 in
set_option maxHeartbeats 6400000 in
theorem revU (blk off cap a b : Nat) (d : Array Int) (w : World) (hH : Holds encW w blk off d) (hab : a ≤ b) (hb : b ≤ d.size) (hsz : d.size < 4611686018427387904) (hblk : blk < w.heap.size) :
    Calls Try.prog 90 #[.slice (some ⟨blk, off, none⟩) d.size cap, .int .i64 a, .int .i64 b] w fun e w' =>
      e = .returned (.tuple #[]) ∧ ∃ d', PermIn a b d d' ∧ Holds encW w' blk off d' ∧ SameU blk w w' := by
  have HH := Lib.hid hH
  have HS := Lib.hid (SameU.refl hblk)
  have HP := Lib.hid (permIn_refl d a b)
  have HBd := Lib.hid hb
  have ew := i64w' ((b : Int) - 1) (by omega) (by omega)
  clear hH hblk
  go_enter Try.func90, Try.ntmps90
  go_wp2
  go_loopw [6, 7] (fun v u wr => ∃ (i : Nat) (z : Int) (dk : Array Int), v = .int .i64 i ∧ u = .int .i64 z ∧ a ≤ i ∧ i ≤ b ∧ z < b ∧ -1 ≤ z ∧ dk.size = d.size ∧ Hid (Holds encW wr blk off dk) ∧ Hid (SameU blk w wr) ∧ Hid (PermIn a b d dk)) (fun v u _ => (RowKit.intOf u + 1 - RowKit.intOf v).toNat)
  case atStart => exact ⟨a, (b : Int) - 1, d, by go_num, by go_num, Nat.le_refl _, hab, by omega, by omega, rfl, HH, HS, HP⟩
  case round =>
    obtain ⟨i, z, dk, rfl, rfl, hai, hib, hzb, hz1, hs, HK, HW, HQ⟩ := hrel
    by_cases hlt : (i : Int) < z
    rotate_left
    · have hdc : decide ((i : Int) < z) = false := by simp; omega
      go_wp2
      go_end0
      exact ⟨rfl, dk, HQ.out, HK.out, HW.out⟩
    · obtain ⟨j, rfl⟩ := Int.eq_ofNat_of_zero_le (show 0 ≤ z by omega)
      obtain ⟨G, hG⟩ : ∃ G : Nat → Int, ∀ t, G t = dk[t]! := ⟨fun t => dk[t]!, fun _ => rfl⟩
      obtain ⟨hcw, hfw⟩ := row_fact HK.out hG hs
      have HG := Lib.hid hG
      have J1 := Lib.hid (show i < dk.size ∧ j < dk.size by omega)
      have hij : i < j := by omega
      have hjs : j < d.size := by omega
      have hjb : j < b := by omega
      have hq := set_far HK.out J1.out.1 J1.out.2 (G j) (y := G j) (by rw [if_neg (by omega), hG])
      have HN := Lib.hid (permIn_trans _ _ _ a b HQ.out (swp_permIn dk a b i j hai (by omega) (by omega) hjb (by rw [hs]; exact HBd.out)))
      clear hG
      go_wp2
      go_region
      all_goals go_wp2
      go_roundw
      case rel =>
        refine ⟨i + 1, (j : Int) - 1, swp dk i j, by go_num, by go_num, by omega, by omega, by omega, by omega, by rw [size_swp]; exact hs, Lib.hid ?_, Lib.hid (same_swp HW.out).drew, HN⟩
        rw [HG.out, HG.out]
        exact holds_swp HK.out J1.out.1 J1.out.2
      case measure => simp [RowKit.intOf]; exact meas_rev hij
end Go.Proofs.Ytofbglgdmabafaa

