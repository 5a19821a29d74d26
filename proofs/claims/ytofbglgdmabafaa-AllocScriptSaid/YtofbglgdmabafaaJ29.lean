/-
  The library's sort of numbers of 32 bits, fifth part: partialInsertionSort.
-/
import Derived.Test.YtofbglgdmabafaaJ28
import Derived.Deep.CutRange
import Derived.Deep.CutBlock
namespace Go.Proofs.Ytofbglgdmabafaa
open Go.RowKit Go.Sort
set_option linter.unusedVariables false
set_option linter.unusedSimpArgs false

theorem ss_go {d : Array Int} {b i : Nat} (h : i < b) (hp : ltInt d[i]! d[i - 1]! = false) : scanSorted ltInt d b i = scanSorted ltInt d b (i + 1) := by
  rw [scanSorted, if_pos (by simp [h, hp])]
theorem ss_stop {d : Array Int} {b i : Nat} (h : ¬ (i < b ∧ ltInt d[i]! d[i - 1]! = false)) : scanSorted ltInt d b i = i := by
  rw [scanSorted, if_neg (by simpa using h)]
theorem sd_stop {d : Array Int} {j : Nat} (h : j = 0 ∨ ltInt d[j]! d[j - 1]! = false) : shiftDown ltInt j d = d := by
  cases j with
  | zero => rfl
  | succ j =>
    rcases h with h | h
    · omega
    · simp only [Nat.add_sub_cancel] at h
      rw [shiftDown, h]; rfl
theorem sd_go {d : Array Int} {j : Nat} (h1 : 1 ≤ j) (h : ltInt d[j]! d[j - 1]! = true) : shiftDown ltInt j d = shiftDown ltInt (j - 1) (swp d j (j - 1)) := by
  obtain ⟨k, rfl⟩ : ∃ k, j = k + 1 := ⟨j - 1, by omega⟩
  simp only [Nat.add_sub_cancel] at h ⊢
  rw [shiftDown, h]; rfl
theorem sd_size : ∀ (j : Nat) (d : Array Int), (shiftDown ltInt j d).size = d.size
  | 0, d => rfl
  | j + 1, d => by
    rw [shiftDown]
    split
    · rfl
    · rw [sd_size j, size_swp]
theorem su_stop {d : Array Int} {b j : Nat} (h : b ≤ j ∨ ltInt d[j]! d[j - 1]! = false) : shiftUp ltInt b j d = d := by
  rw [shiftUp]
  by_cases h1 : j < b
  · rcases h with h | h
    · omega
    · rw [if_pos h1, h]; rfl
  · rw [if_neg h1]
theorem su_go {d : Array Int} {b j : Nat} (h1 : j < b) (h : ltInt d[j]! d[j - 1]! = true) : shiftUp ltInt b j d = shiftUp ltInt b (j + 1) (swp d j (j - 1)) := by
  rw [shiftUp, if_pos h1, h]; rfl
theorem su_size : ∀ (n b j : Nat) (d : Array Int), b - j ≤ n → (shiftUp ltInt b j d).size = d.size := by
  intro n
  induction n with
  | zero => intro b j d h; rw [su_stop (.inl (by omega))]
  | succ n ih =>
    intro b j d h
    by_cases h1 : j < b
    · rcases hl : ltInt d[j]! d[j - 1]! with _ | _
      · rw [su_stop (.inr hl)]
      · rw [su_go h1 hl, ih _ _ _ (by omega), size_swp]
    · rw [su_stop (.inl (by omega))]
theorem ss_le {d : Array Int} {b : Nat} : ∀ (n i : Nat), b - i ≤ n → i ≤ b → i ≤ scanSorted ltInt d b i ∧ scanSorted ltInt d b i ≤ b := by
  intro n
  induction n with
  | zero => intro i h hi; rw [ss_stop (by omega)]; omega
  | succ n ih =>
    intro i h hi
    by_cases h1 : i < b ∧ ltInt d[i]! d[i - 1]! = false
    · rw [ss_go h1.1 h1.2]
      have := ih (i + 1) (by omega) (by omega)
      omega
    · rw [ss_stop h1]; omega
theorem meas_ss {b i : Nat} (h : i < b) : b - (i + 1) < b - i := by omega
set_option maxRecDepth 100000 in
set_option maxHeartbeats 6400000 in
theorem parU (blk off cap a b : Nat) (d : Array Int) (w : World) (hH : Holds encW w blk off d) (hab : a < b) (hb : b ≤ d.size) (hsz : d.size < 4611686018427387904) (hblk : blk < w.heap.size) :
    Calls Try.prog 91 #[.slice (some ⟨blk, off, none⟩) d.size cap, .int .i64 a, .int .i64 b] w fun e w' =>
      e = .returned (.bool (Sort.partialInsertionSort ltInt d a b).2) ∧ Holds encW w' blk off (Sort.partialInsertionSort ltInt d a b).1 ∧ SameU blk w w' := by
  obtain ⟨R, hR⟩ : ∃ T, T = Sort.partialInsertionSort ltInt d a b := ⟨_, rfl⟩
  rw [← hR]
  have HR := Lib.hid (show partialIns ltInt a b (5 - 0) (a + 1) d = R from hR.symm)
  have HH := Lib.hid hH
  have HS := Lib.hid (SameU.refl hblk)
  clear hH hblk hR
  go_enter Try.func91, Try.ntmps91
  go_wp2
  go_loopw [7, 8] (fun v u wr => ∃ (i0 s : Nat) (dk : Array Int), v = .int .i64 i0 ∧ u = .int .i64 s ∧ s ≤ 5 ∧ a < i0 ∧ i0 ≤ b ∧ dk.size = d.size ∧ Hid (Holds encW wr blk off dk) ∧ Hid (SameU blk w wr) ∧ Hid (partialIns ltInt a b (5 - s) i0 dk = R)) (fun _ u _ => 5 - (RowKit.intOf u).toNat)
  case atStart => exact ⟨a + 1, 0, d, by go_num, by go_num, by omega, by omega, by omega, rfl, HH, HS, HR⟩
  case round =>
    clear HR HH HS
    obtain ⟨i0, s, dk, rfl, rfl, hs5, hai, hib, hs, HK, HW, HQ⟩ := hrel
    by_cases h5 : s = 5
    · have HF := Lib.hid (show R = (dk, false) by rw [← HQ.out, h5]; rfl)
      subst h5
      go_wp2
      go_ret
      rw [HF.out]
      exact ⟨rfl, HK.out, HW.out⟩
    have s0 : (s : Int) < 5 := by omega
    obtain ⟨k, hk⟩ : ∃ x, x = scanSorted ltInt dk b i0 := ⟨_, rfl⟩
    have hkk := ss_le (d := dk) (b - i0) i0 (Nat.le_refl _) hib
    rw [← hk] at hkk
    have HQ2 := Lib.hid (show R = if k = b then (dk, true) else if b - a < 50 then (dk, false) else partialIns ltInt a b (4 - s) k (fixUp ltInt b k (fixDown ltInt a k (swp dk k (k - 1)))) by
      rw [← HQ.out, show 5 - s = (4 - s) + 1 by omega, partialIns_succ, hk])
    have HU := Lib.hid hk.symm
    obtain ⟨G, hG⟩ : ∃ G : Nat → Int, ∀ t, G t = dk[t]! := ⟨fun t => dk[t]!, fun _ => rfl⟩
    have HG := Lib.hid hG
    clear hG hk HQ
    go_upto_block 2 with fail
    go_cut [7] from 13 to 132 (fun v wx => v = .int .i64 k ∧ Hid (Holds encW wx blk off dk) ∧ Hid (SameU blk w wx))
    case first =>
      go_wp2
      go_loopw [7] (fun v wr => ∃ (i : Nat), v = .int .i64 i ∧ i0 ≤ i ∧ i ≤ b ∧ Hid (Holds encW wr blk off dk) ∧ Hid (SameU blk w wr) ∧ Hid (scanSorted ltInt dk b i = k)) (fun v _ => b - (RowKit.intOf v).toNat)
      case atStart => exact ⟨i0, by go_num, Nat.le_refl _, hib, HK, HW, HU⟩
      case round =>
        obtain ⟨i, rfl, hi0, hij, HK1, HW1, HU1⟩ := hrel
        obtain ⟨hcw, hfw⟩ := row_fact HK1.out HG.out hs
        by_cases h1 : i < b
        rotate_left
        · have HF := Lib.hid (show i = k by rw [← HU1.out, ss_stop (fun h => h1 h.1)])
          have y1 : decide ((i : Int) < (b : Int)) = false := by simp; omega
          have y1b : decide (i < b) = false := by simp; omega
          go_wp2
          go_quiet (first | (go_at_call 55; refine Calls.quiet_of_same (lessU _ _ _)))
          go_wp2
          go_meet
          exact ⟨by rw [HF.out], HK1, Lib.hid (HW1.out.drewN _)⟩
        obtain ⟨im, him⟩ : ∃ x, x = i - 1 := ⟨_, rfl⟩
        have e7 : (i : Int) - 1 = (im : Int) := by omega
        have w7 := i64w im (im : Int) rfl (by omega)
        have y1 : decide ((i : Int) < (b : Int)) = true := by simp; omega
        have y1b : decide (i < b) = true := by simp; omega
        have y2 : i < d.size := by omega
        have y3 : (i : Int) < d.size := by omega
        have y4 : im < d.size := by omega
        have y5 : (im : Int) < d.size := by omega
        rcases hm : ltInt (G i) (G im) with _ | _
        · have HN := Lib.hid (show scanSorted ltInt dk b (i + 1) = k by rw [← HU1.out, ss_go h1 (by rw [← him, ← HG.out, ← HG.out]; exact hm)])
          clear him
          go_wp2
          go_quiet (first | (go_at_call 55; refine Calls.quiet_of_same (lessU _ _ _)))
          go_wp2
          go_roundw
          case rel => exact ⟨i + 1, by go_num, by omega, by omega, HK1, Lib.hid (HW1.out.drewN _), HN⟩
          case measure => simp [RowKit.intOf] <;> first | exact meas_ss h1 | omega
        · have HF := Lib.hid (show i = k by rw [← HU1.out, ss_stop (fun h => by have h9 := h.2; rw [← him, ← HG.out, ← HG.out, hm] at h9; cases h9)])
          clear him
          go_wp2
          go_quiet (first | (go_at_call 55; refine Calls.quiet_of_same (lessU _ _ _)))
          go_wp2
          go_meet
          exact ⟨by rw [HF.out], HK1, Lib.hid (HW1.out.drewN _)⟩
    case rest =>
    obtain ⟨rfl, HK, HW⟩ := hcut
    by_cases hkb : k = b
    · have HF := Lib.hid (show R = (dk, true) by rw [HQ2.out, if_pos hkb])
      subst hkb
      go_wp2
      go_ret
      rw [HF.out]
      exact ⟨rfl, HK.out, HW.out⟩
    have y1 : ((k : Int) == (b : Int)) = false := by simp; omega
    have y1b : (k == b) = false := by simp; omega
    obtain ⟨l, hl⟩ : ∃ x, x = b - a := ⟨_, rfl⟩
    have e8 : (b : Int) - (a : Int) = (l : Int) := by omega
    have w8 := i64w l (l : Int) rfl (by omega)
    by_cases h50 : l < 50
    · have HF := Lib.hid (show R = (dk, false) by rw [HQ2.out, if_neg hkb, if_pos (by omega)])
      have y2 : decide ((l : Int) < 50) = true := by simp; omega
      have y2b : decide (l < 50) = true := by simp; omega
      clear hl
      go_wp2
      go_ret
      rw [HF.out]
      exact ⟨rfl, HK.out, HW.out⟩
    have y2 : decide ((l : Int) < 50) = false := by simp; omega
    have y2b : decide (l < 50) = false := by simp; omega
    have HQ3 := Lib.hid (show R = partialIns ltInt a b (4 - s) k (fixUp ltInt b k (fixDown ltInt a k (swp dk k (k - 1)))) by rw [HQ2.out, if_neg hkb, if_neg (by omega)])
    obtain ⟨km, hkm⟩ : ∃ x, x = k - 1 := ⟨_, rfl⟩
    rw [← hkm] at HQ3
    have e7 : (k : Int) - 1 = (km : Int) := by omega
    have w7 := i64w km (km : Int) rfl (by omega)
    have y3 : k < d.size := by omega
    have y4 : (k : Int) < d.size := by omega
    have y5 : km < d.size := by omega
    have y6 : (km : Int) < d.size := by omega
    have hq := set_far HK.out (i := k) (j := km) (by rw [hs]; exact y3) (by rw [hs]; exact y5) (G km) (y := G km) (by rw [← HG.out]; split <;> rfl)
    obtain ⟨hcw, hfw⟩ := row_fact HK.out HG.out hs
    obtain ⟨D1, hD1⟩ : ∃ x, x = swp dk k km := ⟨_, rfl⟩
    have HD1 := Lib.hid hD1
    have hs1 : D1.size = d.size := by rw [hD1, size_swp]; exact hs
    rw [← hD1] at HQ3
    obtain ⟨D2, hD2⟩ : ∃ x, x = fixDown ltInt a k D1 := ⟨_, rfl⟩
    rw [← hD2] at HQ3
    have hs2 : D2.size = d.size := by rw [hD2]; unfold fixDown; split <;> simp only [sd_size, hs1]
    have HKm := Lib.hid hkm
    have HDd := Lib.hid hD2
    clear hD1 hl hkm hD2
    go_upto_region 11 with fail
    go_region
    all_goals (go_upto_region 12 with fail)
    have HK1 := Lib.hid (show Holds encW ((wc.setCell ⟨blk, off + k, none⟩ (.int .u32 (G km))).setCell ⟨blk, off + km, none⟩ (.int .u32 (G k))).drew blk off D1 by
      rw [HD1.out, HG.out, HG.out]
      exact holds_swp HK.out (by rw [hs]; exact y3) (by rw [hs]; exact y5))
    have HW1 := Lib.hid (show SameU blk w ((wc.setCell ⟨blk, off + k, none⟩ (.int .u32 (G km))).setCell ⟨blk, off + km, none⟩ (.int .u32 (G k))).drew from (same_swp HW.out).drew)
    generalize ((wc.setCell ⟨blk, off + k, none⟩ (.int .u32 (G km))).setCell ⟨blk, off + km, none⟩ (.int .u32 (G k))).drew = w5 at *
    clear HK HW hcw hfw hq HU HQ2 HD1 y1 y1b y2 y2b e8 w8
    have HK := HK1
    have HW := HW1
    clear HK1 HW1
    obtain ⟨m, hm⟩ : ∃ x, x = k - a := ⟨_, rfl⟩
    have e9 : (k : Int) - (a : Int) = (m : Int) := by omega
    have w9 := i64w m (m : Int) rfl (by omega)
    go_upto_if 61 with fail
    go_cut [9] from 13 to 132 (fun _ wx => Hid (Holds encW wx blk off D2) ∧ Hid (SameU blk w wx))
    case first =>
      by_cases h2 : 2 ≤ m
      rotate_left
      · have z1 : decide ((2 : Int) ≤ (m : Int)) = false := by simp; omega
        have z1b : decide (2 ≤ m) = false := by simp; omega
        have HF := Lib.hid (show D1 = D2 by rw [HDd.out]; unfold fixDown; rw [if_neg (by omega)])
        clear hm
        go_wp2
        go_meet
        rw [← HF.out]
        exact ⟨HK, HW⟩
      · have z1 : decide ((2 : Int) ≤ (m : Int)) = true := by simp; omega
        have z1b : decide (2 ≤ m) = true := by simp; omega
        have HD2 := Lib.hid (show shiftDown ltInt km D1 = D2 by rw [HDd.out]; unfold fixDown; rw [if_pos (by omega), HKm.out])
        clear hm
        go_wp2
        go_loopw [9] (fun v wr => ∃ (j : Nat) (dj : Array Int), v = .int .i64 j ∧ (j ≤ km) ∧ dj.size = d.size ∧ Hid (Holds encW wr blk off dj) ∧ Hid (SameU blk w wr) ∧ Hid (shiftDown ltInt j dj = D2)) (fun v _ => (RowKit.intOf v).toNat)
        case atStart => exact ⟨km, D1, by go_num, by omega, hs1, HK, HW, HD2⟩
        case round =>
          clear HK HW HD2
          obtain ⟨j, dj, rfl, hjb, hsj, HK1, HW1, HU1⟩ := hrel
          obtain ⟨G, hG⟩ : ∃ G : Nat → Int, ∀ t, G t = dj[t]! := ⟨fun t => dj[t]!, fun _ => rfl⟩
          obtain ⟨hcw, hfw⟩ := row_fact HK1.out hG hsj
          by_cases h1 : 1 ≤ j
          rotate_left
          · have HF := Lib.hid (show dj = D2 by rw [← HU1.out, sd_stop (.inl (by omega))])
            have y1 : decide ((1 : Int) ≤ (j : Int)) = false := by simp; omega
            have y1b : decide (1 ≤ j) = false := by simp; omega
            clear hG
            go_wp2
            go_meet
            rw [← HF.out]
            exact ⟨HK1, HW1⟩
          obtain ⟨jm, hjm⟩ : ∃ x, x = j - 1 := ⟨_, rfl⟩
          obtain ⟨jp, hjp⟩ : ∃ x, x = j + 1 := ⟨_, rfl⟩
          have e7 : (j : Int) - 1 = (jm : Int) := by omega
          have e7b : (j : Int) + 1 = (jp : Int) := by omega
          have w7 := i64w jm (jm : Int) rfl (by omega)
          have w7b := i64w jp (jp : Int) rfl (by omega)
          have y1 : decide ((1 : Int) ≤ (j : Int)) = true := by simp; omega
          have y1b : decide (1 ≤ j) = true := by simp; omega
          have y2 : j < d.size := by omega
          have y3 : (j : Int) < d.size := by omega
          have y4 : jm < d.size := by omega
          have y5 : (jm : Int) < d.size := by omega
          rcases hm : ltInt (G j) (G jm) with _ | _
          · have HF := Lib.hid (show dj = D2 by rw [← HU1.out, sd_stop (.inr (by rw [← hjm, ← hG, ← hG]; exact hm))])
            clear hG hjm hjp
            go_wp2
            go_quiet (first | (go_at_call 55; refine Calls.quiet_of_same (lessU _ _ _)))
            go_wp2
            go_meet
            rw [← HF.out]
            exact ⟨HK1, Lib.hid (HW1.out.drewN _)⟩
          · have HN := Lib.hid (show shiftDown ltInt jm (swp dj j jm) = D2 by have h9 := (sd_go (by omega) (by rw [← hjm, ← hG, ← hG]; exact hm)).symm.trans HU1.out; rw [← hjm] at h9; exact h9)
            have J1 := Lib.hid (show j < dj.size ∧ jm < dj.size by omega)
            have JB := Lib.hid (show jm ≤ km ∧ jm < j by omega)
            have HG := Lib.hid hG
            clear hG hjm hjp
            go_wp2
            go_quiet (first | (go_at_call 55; refine Calls.quiet_of_same (lessU _ _ _)))
            obtain ⟨w2, hw2⟩ : ∃ x, x = wr.drewN nq := ⟨_, rfl⟩
            have HK2 := Lib.hid (show Holds encW w2 blk off dj by rw [hw2]; exact HK1.out)
            have HW2 := Lib.hid (show SameU blk w w2 by rw [hw2]; exact HW1.out.drewN _)
            obtain ⟨hcw, hfw⟩ := row_fact HK2.out HG.out hsj
            have hq := set_far HK2.out J1.out.1 J1.out.2 (G jm) (y := G jm) (by rw [← HG.out]; split <;> rfl)
            rw [← hw2]
            clear hw2
            go_wp2
            go_region
            all_goals go_wp2
            go_roundw
            case rel =>
              refine ⟨jm, swp dj j jm, by go_num, JB.out.1, by rw [size_swp]; exact hsj, Lib.hid ?_, Lib.hid (same_swp HW2.out).drew, HN⟩
              rw [HG.out, HG.out]
              exact holds_swp HK2.out J1.out.1 J1.out.2
            case measure => simp [RowKit.intOf]; exact JB.out.2
    case rest =>
    obtain ⟨HK, HW⟩ := hcut
    obtain ⟨D3, hD3⟩ : ∃ x, x = fixUp ltInt b k D2 := ⟨_, rfl⟩
    rw [← hD3] at HQ3
    have hs3 : D3.size = d.size := by rw [hD3]; unfold fixUp; split <;> simp only [su_size _ _ _ _ (Nat.le_refl _), hs2]
    have HDd3 := Lib.hid hD3
    have Z := Lib.hid (show a < k ∧ k ≤ b ∧ s + 1 ≤ 5 by omega)
    clear hm hD3 e9 w9
    obtain ⟨m2, hm2⟩ : ∃ x, x = b - k := ⟨_, rfl⟩
    have e9 : (b : Int) - (k : Int) = (m2 : Int) := by omega
    have w9 := i64w m2 (m2 : Int) rfl (by omega)
    have HN := Lib.hid (show partialIns ltInt a b (5 - (s + 1)) k D3 = R by rw [HQ3.out, show 5 - (s + 1) = 4 - s by omega])
    by_cases h2 : 2 ≤ m2
    rotate_left
    · have z1 : decide ((2 : Int) ≤ (m2 : Int)) = false := by simp; omega
      have z1b : decide (2 ≤ m2) = false := by simp; omega
      have HF := Lib.hid (show D2 = D3 by rw [HDd3.out]; unfold fixUp; rw [if_neg (by omega)])
      clear hm2
      go_wp2
      go_roundw
      case rel => exact ⟨k, s + 1, D3, by go_num, by go_num, Z.out.2.2, Z.out.1, Z.out.2.1, hs3, by rw [← HF.out]; exact HK, HW, HN⟩
      case measure => simp [RowKit.intOf]; omega
    · have z1 : decide ((2 : Int) ≤ (m2 : Int)) = true := by simp; omega
      have z1b : decide (2 ≤ m2) = true := by simp; omega
      obtain ⟨kp, hkp⟩ : ∃ x, x = k + 1 := ⟨_, rfl⟩
      have e10 : (k : Int) + 1 = (kp : Int) := by omega
      have w10 := i64w kp (kp : Int) rfl (by omega)
      have HD2 := Lib.hid (show shiftUp ltInt b kp D2 = D3 by rw [HDd3.out, hkp]; unfold fixUp; rw [if_pos (by omega)])
      have hkpb : k + 1 ≤ kp ∧ kp ≤ b := by omega
      have HNo := HN
      clear hm2 hkp HN
      go_wp2
      go_loopw [10] (fun v wr => ∃ (j : Nat) (dj : Array Int), v = .int .i64 j ∧ (k + 1 ≤ j ∧ j ≤ b) ∧ dj.size = d.size ∧ Hid (Holds encW wr blk off dj) ∧ Hid (SameU blk w wr) ∧ Hid (shiftUp ltInt b j dj = D3)) (fun v _ => b - (RowKit.intOf v).toNat)
      case atStart => exact ⟨kp, D2, by go_num, by omega, hs2, HK, HW, HD2⟩
      case round =>
        clear HK HW HD2
        obtain ⟨j, dj, rfl, hjb, hsj, HK1, HW1, HU1⟩ := hrel
        obtain ⟨G, hG⟩ : ∃ G : Nat → Int, ∀ t, G t = dj[t]! := ⟨fun t => dj[t]!, fun _ => rfl⟩
        obtain ⟨hcw, hfw⟩ := row_fact HK1.out hG hsj
        by_cases h1 : j < b
        rotate_left
        · have HF := Lib.hid (show dj = D3 by rw [← HU1.out, su_stop (.inl (by omega))])
          have y1 : decide ((j : Int) < (b : Int)) = false := by simp; omega
          have y1b : decide (j < b) = false := by simp; omega
          clear hG
          go_wp2
          go_roundw
          case rel => exact ⟨k, s + 1, D3, by go_num, by go_num, Z.out.2.2, Z.out.1, Z.out.2.1, hs3, by rw [← HF.out]; exact HK1, HW1, HNo⟩
          case measure => simp [RowKit.intOf]; omega
        obtain ⟨jm, hjm⟩ : ∃ x, x = j - 1 := ⟨_, rfl⟩
        obtain ⟨jp, hjp⟩ : ∃ x, x = j + 1 := ⟨_, rfl⟩
        have e7 : (j : Int) - 1 = (jm : Int) := by omega
        have e7b : (j : Int) + 1 = (jp : Int) := by omega
        have w7 := i64w jm (jm : Int) rfl (by omega)
        have w7b := i64w jp (jp : Int) rfl (by omega)
        have y1 : decide ((j : Int) < (b : Int)) = true := by simp; omega
        have y1b : decide (j < b) = true := by simp; omega
        have y2 : j < d.size := by omega
        have y3 : (j : Int) < d.size := by omega
        have y4 : jm < d.size := by omega
        have y5 : (jm : Int) < d.size := by omega
        rcases hm : ltInt (G j) (G jm) with _ | _
        · have HF := Lib.hid (show dj = D3 by rw [← HU1.out, su_stop (.inr (by rw [← hjm, ← hG, ← hG]; exact hm))])
          clear hG hjm hjp
          go_wp2
          go_quiet (first | (go_at_call 55; refine Calls.quiet_of_same (lessU _ _ _)))
          go_wp2
          go_roundw
          case rel => exact ⟨k, s + 1, D3, by go_num, by go_num, Z.out.2.2, Z.out.1, Z.out.2.1, hs3, by rw [← HF.out]; exact HK1, Lib.hid (HW1.out.drewN _), HNo⟩
          case measure => simp [RowKit.intOf]; omega
        · have HN := Lib.hid (show shiftUp ltInt b jp (swp dj j jm) = D3 by have h9 := (su_go (by omega) (by rw [← hjm, ← hG, ← hG]; exact hm)).symm.trans HU1.out; rw [← hjm] at h9; rw [hjp]; exact h9)
          have J1 := Lib.hid (show j < dj.size ∧ jm < dj.size by omega)
          have JB := Lib.hid (show (k + 1 ≤ jp ∧ jp ≤ b) ∧ b - jp < b - j by omega)
          have HG := Lib.hid hG
          clear hG hjm hjp
          go_wp2
          go_quiet (first | (go_at_call 55; refine Calls.quiet_of_same (lessU _ _ _)))
          obtain ⟨w2, hw2⟩ : ∃ x, x = wr.drewN nq := ⟨_, rfl⟩
          have HK2 := Lib.hid (show Holds encW w2 blk off dj by rw [hw2]; exact HK1.out)
          have HW2 := Lib.hid (show SameU blk w w2 by rw [hw2]; exact HW1.out.drewN _)
          obtain ⟨hcw, hfw⟩ := row_fact HK2.out HG.out hsj
          have hq := set_far HK2.out J1.out.1 J1.out.2 (G jm) (y := G jm) (by rw [← HG.out]; split <;> rfl)
          rw [← hw2]
          clear hw2
          go_wp2
          go_region
          all_goals go_wp2
          go_roundw
          case rel =>
            refine ⟨jp, swp dj j jm, by go_num, JB.out.1, by rw [size_swp]; exact hsj, Lib.hid ?_, Lib.hid (same_swp HW2.out).drew, HN⟩
            rw [HG.out, HG.out]
            exact holds_swp HK2.out J1.out.1 J1.out.2
          case measure => simp [RowKit.intOf]; exact JB.out.2
end Go.Proofs.Ytofbglgdmabafaa

