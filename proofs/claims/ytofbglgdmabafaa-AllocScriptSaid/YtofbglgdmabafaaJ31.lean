/-
  The library's sort of numbers of 32 bits, last part: pdqsort sorts, whatever the numbers.
-/
import Derived.Test.YtofbglgdmabafaaJ28
import Derived.Test.YtofbglgdmabafaaJ29
import Derived.Test.YtofbglgdmabafaaJ30
import Derived.Deep.CutRange
import Derived.Deep.CutBlock
namespace Go.Proofs.Ytofbglgdmabafaa
open Go.RowKit Go.Sort
set_option linter.unusedVariables false
set_option linter.unusedSimpArgs false

theorem ins2 (blk off cap a b : Nat) (d : Array Int) (w : World) (hH : Holds encW w blk off d) (hab : a ≤ b) (hb : b ≤ d.size) (hsz : d.size < 4611686018427387904) (hblk : blk < w.heap.size) :
    Calls Try.prog 86 #[.slice (some ⟨blk, off, none⟩) d.size cap, .int .i64 a, .int .i64 b] w fun e w' =>
      e = .returned (.tuple #[]) ∧ ∃ d', (PermIn a b d d' ∧ SortedIn ltInt a b d') ∧ Holds encW w' blk off d' ∧ SameU blk w w' :=
  (insU blk off cap a b d w hH hab hb hsz).mono (by
    rintro e w' ⟨rfl, n, rfl⟩
    have h := insertionSort_holds (lt := ltInt) swo_ltInt d a b hab hb
    exact ⟨rfl, _, h, holds_putRow _ _ _ _ d _ (holds_ahead _ _ n _ _ _ hH) h.1.1, SameU.put hblk⟩)
set_option maxRecDepth 100000 in
set_option maxHeartbeats 12800000 in
theorem pdqU (blk off cap N : Nat) (hN : N < 4611686018427387904) : ∀ (n a b L : Nat) (d : Array Int) (w : World), b - a ≤ n → d.size = N → a ≤ b → b ≤ N → L < 4611686018427387904 → Go.Sort.Below ltInt a b d → Holds encW w blk off d → blk < w.heap.size →
    Calls Try.prog 61 #[.slice (some ⟨blk, off, none⟩) N cap, .int .i64 a, .int .i64 b, .int .i64 L] w fun e w' =>
      e = .returned (.tuple #[]) ∧ ∃ d', (PermIn a b d d' ∧ SortedIn ltInt a b d') ∧ Holds encW w' blk off d' ∧ SameU blk w w' := by
  intro n
  induction n using Nat.strongRecOn with
  | ind n ih =>
  intro a b L d w hn hdN hab hb hL hBl hH hblk
  have IH := Lib.hid ih
  have HH := Lib.hid hH
  have HS := Lib.hid (SameU.refl hblk)
  have HBl := Lib.hid hBl
  have HG := Lib.hid (fun R (h1 : PermIn a b d R) (h2 : SortedIn ltInt a b R) => And.intro h1 h2)
  clear ih hH hblk hBl
  go_enter Try.func61, Try.ntmps61
  go_wp2
  go_loopw [1, 2, 3, 8, 9] (fun va vb vl vx vy wr => ∃ (a1 b1 L1 : Nat) (wb wp : Bool) (dk : Array Int), va = .int .i64 a1 ∧ vb = .int .i64 b1 ∧ vl = .int .i64 L1 ∧ vx = .bool wb ∧ vy = .bool wp ∧ a1 ≤ b1 ∧ b1 ≤ N ∧ b1 - a1 ≤ n ∧ L1 < 4611686018427387904 ∧ dk.size = N ∧ Hid (Go.Sort.Below ltInt a1 b1 dk) ∧ Hid (Holds encW wr blk off dk) ∧ Hid (SameU blk w wr) ∧ Hid (∀ R, PermIn a1 b1 dk R → SortedIn ltInt a1 b1 R → PermIn a b d R ∧ SortedIn ltInt a b R)) (fun va vb _ _ _ _ => (RowKit.intOf vb - RowKit.intOf va).toNat)
  case atStart => exact ⟨a, b, L, true, true, d, by go_num, by go_num, by go_num, rfl, rfl, hab, hb, hn, hL, hdN, HBl, HH, HS, HG⟩
  case round =>
    clear HBl HH HS HG
    obtain ⟨a1, b1, L1, wb, wp, dk, rfl, rfl, rfl, rfl, rfl, hab1, hb1, hn1, hL1, hs, HBl, HK, HW, HGo⟩ := hrel
    obtain ⟨l, hl⟩ : ∃ l, l = b1 - a1 := ⟨_, rfl⟩
    have e0 : (b1 : Int) - (a1 : Int) = (l : Int) := by omega
    have w0 := i64w l (l : Int) rfl (by omega)
    by_cases h12 : l ≤ 12
    · have y1 : decide ((l : Int) ≤ 12) = true := by simp; omega
      have y1b : decide (l ≤ 12) = true := by simp; omega
      have HI := ins2 blk off cap a1 b1 dk wr HK.out hab1 (by omega) (by omega) HW.out.lt
      rw [hs] at HI
      clear hl
      go_wp2_with fail
      refine HI.mono ?_
      rintro e w2 ⟨rfl, d2, hd2, hk2, hs2⟩
      go_wp2_with fail
      refine bodyPost_ret (results_none rfl _ _ _) rfl ?_
      exact ⟨rfl, d2, HGo.out d2 hd2.1 hd2.2, hk2, HW.out.trans hs2⟩
    have y1 : decide ((l : Int) ≤ 12) = false := by simp; omega
    have y1b : decide (l ≤ 12) = false := by simp; omega
    by_cases hL0 : L1 = 0
    · have HI := heapU blk off cap a1 b1 dk wr HK.out hab1 (by omega) (by omega) HW.out.lt
      rw [hs] at HI
      have HP := Lib.hid (heapSort_holds (lt := ltInt) swo_ltInt dk a1 b1 hab1 (by omega))
      subst hL0
      clear hl
      go_wp2_with fail
      refine HI.mono ?_
      rintro e w2 ⟨rfl, hk2, hs2⟩
      go_wp2_with fail
      refine bodyPost_ret (results_none rfl _ _ _) rfl ?_
      exact ⟨rfl, _, HGo.out _ HP.out.1 HP.out.2, hk2, HW.out.trans hs2⟩
    have y2 : ((L1 : Int) == 0) = false := by simp; omega
    have y2b : (L1 == 0) = false := by simp; omega
    have hlt : a1 + 12 < b1 := by omega
    obtain ⟨Lm, hLm⟩ : ∃ x, x = L1 - 1 := ⟨_, rfl⟩
    have e1 : (L1 : Int) - 1 = (Lm : Int) := by omega
    have w1 := i64w Lm (Lm : Int) rfl (by omega)
    have hLm2 : Lm < 4611686018427387904 := by omega
    clear hLm
    go_upto_if 35 with fail
    go_cut [3] from 19 to 133 (fun v wx => ∃ (L2 : Nat) (d1 : Array Int), v = .int .i64 L2 ∧ L2 < 4611686018427387904 ∧ d1.size = N ∧ Hid (PermIn a1 b1 dk d1) ∧ Hid (Holds encW wx blk off d1) ∧ Hid (SameU blk w wx))
    case first =>
      rcases wb with _ | _
      · have HI := breakU blk off cap a1 b1 dk wr HK.out hlt (by omega) (by omega) HW.out.lt
        rw [hs] at HI
        clear hl
        go_wp2_with fail
        refine HI.mono ?_
        rintro e w2 ⟨rfl, d2, hd2, hk2, hs2⟩
        go_wp2_with fail
        go_meet
        exact ⟨Lm, d2, by go_num, hLm2, by rw [hd2.1]; exact hs, Lib.hid hd2, Lib.hid hk2, Lib.hid (HW.out.trans hs2)⟩
      · clear hl
        go_wp2
        go_meet
        exact ⟨L1, dk, by go_num, hL1, hs, Lib.hid (permIn_refl _ _ _), HK, HW⟩
    case rest =>
    obtain ⟨L2, d1, rfl, hL2, hs1, HP1, HK1, HW1⟩ := hcut
    clear hLm2 e1 w1 y1 y1b y2 y2b hL0 h12
    have HI := pivotU blk off cap a1 b1 d1 wc HK1.out hlt (by omega) (by omega) HW1.out.lt
    rw [hs1] at HI
    go_upto_if 50 with (go_at_call 89; refine HI.mono ?_; rintro e w2 ⟨p, h, rfl, hp, hk2, hs2⟩)
    have HK2 := Lib.hid hk2
    have HW2 := Lib.hid (HW1.out.trans hs2)
    clear hk2 hs2 HI
    go_cut [11, 12] from 19 to 133 (fun v u wx => ∃ (p2 : Nat) (h2 : Int) (d2 : Array Int), v = .int .i64 p2 ∧ u = .int .i64 h2 ∧ (a1 ≤ p2 ∧ p2 < b1) ∧ d2.size = N ∧ Hid (PermIn a1 b1 dk d2) ∧ Hid (Holds encW wx blk off d2) ∧ Hid (SameU blk w wx))
    case first =>
      by_cases hh : h = 2
      · subst hh
        have HI := revU blk off cap a1 b1 d1 w2 HK2.out hab1 (by omega) (by omega) HW2.out.lt
        rw [hs1] at HI
        obtain ⟨bm, hbm⟩ : ∃ x, x = b1 - 1 := ⟨_, rfl⟩
        obtain ⟨pa, hpa⟩ : ∃ x, x = p - a1 := ⟨_, rfl⟩
        obtain ⟨p2, hp2⟩ : ∃ x, x = bm - pa := ⟨_, rfl⟩
        have f1 : (b1 : Int) - 1 = (bm : Int) := by omega
        have f2 : (p : Int) - (a1 : Int) = (pa : Int) := by omega
        have f3 : (bm : Int) - (pa : Int) = (p2 : Int) := by omega
        have v1 := i64w bm (bm : Int) rfl (by omega)
        have v2 := i64w pa (pa : Int) rfl (by omega)
        have v3 := i64w p2 (p2 : Int) rfl (by omega)
        have hpp : a1 ≤ p2 ∧ p2 < b1 := by omega
        clear hl hbm hpa hp2
        go_wp2_with fail
        refine HI.mono ?_
        rintro e w3 ⟨rfl, d2, hd2, hk3, hs3⟩
        go_wp2_with fail
        go_meet
        exact ⟨p2, 1, d2, by go_num, rfl, hpp, by rw [hd2.1]; exact hs1, Lib.hid (permIn_trans _ _ _ _ _ HP1.out hd2), Lib.hid hk3, Lib.hid (HW2.out.trans hs3)⟩
      · have y3 : (h == 2) = false := by simp [hh]
        clear hl
        go_wp2
        go_meet
        exact ⟨p, h, d1, rfl, rfl, hp, hs1, HP1, HK2, HW2⟩
    case rest =>
    obtain ⟨p2, h2, d2, rfl, rfl, hp2, hs2, HP2, HK3, HW3⟩ := hcut
    clear hp HK2 HW2 HP1 HK1 HW1 hs1
    go_upto_region 15 with fail
    go_cut [68] from 19 to 133 (fun s wx => (∃ c, s = .bool c) ∧ wx = wc)
    case first =>
      clear hl
      by_cases hh : h2 = 1
      · subst hh
        rcases wb with _ | _ <;> rcases wp with _ | _ <;> (go_wp2; go_meet; exact ⟨⟨_, rfl⟩, rfl⟩)
      · have y3 : (h2 == 1) = false := by simp [hh]
        rcases wb with _ | _ <;> rcases wp with _ | _ <;> (go_wp2; go_meet; exact ⟨⟨_, rfl⟩, rfl⟩)
    case rest =>
    obtain ⟨⟨c, rfl⟩, rfl⟩ := hcut
    have HB2 := Lib.hid (HBl.out.perm (by omega) HP2.out)
    go_upto_if 68 with fail
    go_cut [] from 19 to 133 (fun wx => ∃ (d3 : Array Int), d3.size = N ∧ Hid (PermIn a1 b1 dk d3) ∧ Hid (Holds encW wx blk off d3) ∧ Hid (SameU blk w wx))
    case first =>
      rcases c with _ | _
      · clear hl
        go_wp2
        go_meet
        exact ⟨d2, hs2, HP2, HK3, HW3⟩
      · have HI := parU blk off cap a1 b1 d2 wc HK3.out (by omega) (by omega) (by omega) HW3.out.lt
        rw [hs2] at HI
        have HPI := partialInsertionSort_holds (lt := ltInt) swo_ltInt d2 a1 b1 (by omega) (by omega) HB2.out
        obtain ⟨R, hR⟩ : ∃ x, x = Sort.partialInsertionSort ltInt d2 a1 b1 := ⟨_, rfl⟩
        rw [← hR] at HI HPI
        obtain ⟨R1, R2⟩ := R
        simp only at HI HPI
        have HPI2 := Lib.hid HPI
        clear hl hR HPI
        rcases R2 with _ | _
        · go_wp2_with fail
          refine HI.mono ?_
          rintro e w3 ⟨rfl, hk3, hs3⟩
          go_wp2_with fail
          go_meet
          exact ⟨R1, by rw [HPI2.out.1.1]; exact hs2, Lib.hid (permIn_trans _ _ _ _ _ HP2.out HPI2.out.1), Lib.hid hk3, Lib.hid (HW3.out.trans hs3)⟩
        · go_wp2_with fail
          refine HI.mono ?_
          rintro e w3 ⟨rfl, hk3, hs3⟩
          go_wp2_with fail
          refine bodyPost_ret (results_none rfl _ _ _) rfl ?_
          exact ⟨rfl, R1, HGo.out R1 (permIn_trans _ _ _ _ _ HP2.out HPI2.out.1) (HPI2.out.2 trivial), hk3, HW3.out.trans hs3⟩
    case rest =>
    obtain ⟨d3, hs3, HP3, HK4, HW4⟩ := hcut
    clear HB2 HP2 HK3 HW3 hs2 c
    have HB3 := Lib.hid (HBl.out.perm (by omega) HP3.out)
    go_upto_region 17 with fail
    go_cut [87] from 19 to 133 (fun s wx => ∃ c, s = .bool c ∧ Hid (c = true → 0 < a1 ∧ ltInt d3[a1 - 1]! d3[p2]! = false) ∧ Hid (Holds encW wx blk off d3) ∧ Hid (SameU blk w wx))
    case first =>
      obtain ⟨G, hG⟩ : ∃ G : Nat → Int, ∀ t, G t = d3[t]! := ⟨fun t => d3[t]!, fun _ => rfl⟩
      obtain ⟨hcw, hfw⟩ := row_fact HK4.out hG hs3
      by_cases ha0 : 0 < a1
      rotate_left
      · have y3 : decide ((0 : Int) < (a1 : Int)) = false := by simp; omega
        have y3b : decide (0 < a1) = false := by simp; omega
        clear hl hG
        go_wp2
        go_quiet (first | (go_at_call 55; refine Calls.quiet_of_same (lessU _ _ _)))
        go_wp2
        go_meet
        exact ⟨false, rfl, Lib.hid (fun h => by cases h), HK4, Lib.hid (HW4.out.drewN _)⟩
      have y3 : decide ((0 : Int) < (a1 : Int)) = true := by simp; omega
      have y3b : decide (0 < a1) = true := by simp; omega
      obtain ⟨am, ham⟩ : ∃ x, x = a1 - 1 := ⟨_, rfl⟩
      have f1 : (a1 : Int) - 1 = (am : Int) := by omega
      have v1 := i64w am (am : Int) rfl (by omega)
      have y4 : am < N := by omega
      have y4b : (am : Int) < N := by omega
      have y5 : p2 < N := by omega
      have y5b : (p2 : Int) < N := by omega
      rcases hm : ltInt (G am) (G p2) with _ | _
      · have HF := Lib.hid (show 0 < a1 ∧ ltInt d3[a1 - 1]! d3[p2]! = false from ⟨ha0, by rw [← ham, ← hG, ← hG]; exact hm⟩)
        clear hl hG ham
        go_wp2
        go_quiet (first | (go_at_call 55; refine Calls.quiet_of_same (lessU _ _ _)))
        go_wp2
        go_meet
        exact ⟨true, rfl, Lib.hid (fun _ => HF.out), HK4, Lib.hid (HW4.out.drewN _)⟩
      · clear hl hG ham
        go_wp2
        go_quiet (first | (go_at_call 55; refine Calls.quiet_of_same (lessU _ _ _)))
        go_wp2
        go_meet
        exact ⟨false, rfl, Lib.hid (fun h => by cases h), HK4, Lib.hid (HW4.out.drewN _)⟩
    case rest =>
    clear HK4 HW4
    obtain ⟨c, rfl, HC, HK4, HW4⟩ := hcut
    rcases c with _ | _
    rotate_left
    · obtain ⟨ha0, hnl⟩ := HC.out rfl
      have HI := partEqU blk off cap a1 b1 p2 d3 wc HK4.out hp2.1 hp2.2 (by omega) (by omega) HW4.out.lt
      rw [hs3] at HI
      obtain ⟨M, hM⟩ : ∃ x, x = Sort.partitionEqual ltInt d3 a1 b1 p2 := ⟨_, rfl⟩
      rw [← hM] at HI
      obtain ⟨mid, d4⟩ := M
      simp only at HI
      obtain ⟨r1, r2, r3, r4, r5⟩ := round_eq swo_ltInt (partitionEqual_holds ltInt) ha0 hp2.1 hp2.2 (by omega) HB3.out hnl hM.symm
      have R4 := Lib.hid r4
      have R5 := Lib.hid r5
      have hs4 : d4.size = N := by rw [r3]; exact hs3
      have HN := Lib.hid (fun R (x1 : PermIn mid b1 d4 R) (x2 : SortedIn ltInt mid b1 R) => HGo.out R (permIn_trans _ _ _ _ _ HP3.out (r5 R x1 x2).1) (r5 R x1 x2).2)
      clear hl hM r3 r4 r5 hnl
      go_wp2_with fail
      refine HI.mono ?_
      rintro e w3 ⟨rfl, hk5, hs5⟩
      have HK5 := Lib.hid hk5
      have HW5 := Lib.hid (HW4.out.trans hs5)
      clear hk5 hs5 HI
      go_wp2
      go_roundw
      case rel => exact ⟨mid, b1, L2, wb, wp, d4, by go_num, by go_num, by go_num, rfl, rfl, r2, hb1, by omega, hL2, hs4, R4, HK5, HW5, HN⟩
      case measure => simp [RowKit.intOf]; omega
    · have HI := partU blk off cap a1 b1 p2 d3 wc HK4.out hp2.1 hp2.2 (by omega) (by omega) HW4.out.lt
      rw [hs3] at HI
      obtain ⟨M, hM⟩ : ∃ x, x = Sort.partition ltInt d3 a1 b1 p2 := ⟨_, rfl⟩
      rw [← hM] at HI
      obtain ⟨mid, ap, d4⟩ := M
      simp only at HI
      obtain ⟨r1, r2, r3, r4, r5, r6, r7⟩ := round_part swo_ltInt (partition_holds ltInt) hp2.1 hp2.2 (by omega) HB3.out hM.symm
      have R4 := Lib.hid r4
      have R5 := Lib.hid r5
      have R6 := Lib.hid r6
      have R7 := Lib.hid r7
      have hs4 : d4.size = N := by rw [r3]; exact hs3
      obtain ⟨lf, hlf⟩ : ∃ x, x = mid - a1 := ⟨_, rfl⟩
      obtain ⟨rt, hrt⟩ : ∃ x, x = b1 - mid := ⟨_, rfl⟩
      obtain ⟨th, hth⟩ : ∃ x, x = l / 8 := ⟨_, rfl⟩
      obtain ⟨mp, hmp⟩ : ∃ x, x = mid + 1 := ⟨_, rfl⟩
      have f1 : (mid : Int) - (a1 : Int) = (lf : Int) := by omega
      have f2 : (b1 : Int) - (mid : Int) = (rt : Int) := by omega
      have f3 : Int.tdiv (l : Int) 8 = (th : Int) := by rw [hth]; exact (Int.ofNat_tdiv _ _).symm
      have f4 : (mid : Int) + 1 = (mp : Int) := by omega
      have v1 := i64w lf (lf : Int) rfl (by omega)
      have v2 := i64w rt (rt : Int) rfl (by omega)
      have v3 := i64w th (th : Int) rfl (by omega)
      have v4 := i64w mp (mp : Int) rfl (by omega)
      rw [← hmp] at R5 R6 R7
      have Z := Lib.hid (show mid - a1 < n ∧ b1 - mp < n ∧ mp ≤ b1 ∧ mid ≤ N ∧ b1 - mp ≤ n ∧ mid - a1 ≤ n ∧ b1 - mp < b1 - a1 ∧ mid - a1 < b1 - a1 by omega)
      by_cases hlr : lf < rt
      · have y3 : decide ((lf : Int) < (rt : Int)) = true := by simp; omega
        have y3b : decide (lf < rt) = true := by simp; omega
        clear hl hM r3 r4 r5 r6 r7 hlf hrt hth hmp hlr
        go_wp2_with fail
        refine HI.mono ?_
        rintro e w3 ⟨rfl, hk5, hs5⟩
        have HK5 := Lib.hid hk5
        have HW5 := Lib.hid (HW4.out.trans hs5)
        clear hk5 hs5 HI
        go_wp2_with fail
        refine (IH.out (mid - a1) Z.out.1 a1 mid L2 d4 _ (Nat.le_refl _) hs4 r1 Z.out.2.2.2.1 hL2 R4.out HK5.out HW5.out.lt).mono ?_
        rintro e w4 ⟨rfl, d5, hd5, hk6, hs6⟩
        have HK6 := Lib.hid hk6
        have HW6 := Lib.hid (HW5.out.trans hs6)
        obtain ⟨q1, q2⟩ := R6.out d5 hd5.1 hd5.2
        have Q1 := Lib.hid q1
        have hs7 : d5.size = N := by rw [hd5.1.1]; exact hs4
        have HN := Lib.hid (fun R (x1 : PermIn mp b1 d5 R) (x2 : SortedIn ltInt mp b1 R) => HGo.out R (permIn_trans _ _ _ _ _ HP3.out (q2 R x1 x2).1) (q2 R x1 x2).2)
        clear hk6 hs6 q1 q2 hd5
        go_wp2
        go_roundw
        case rel => exact ⟨mp, b1, L2, _, ap, d5, by go_num, by go_num, by go_num, rfl, rfl, Z.out.2.2.1, hb1, Z.out.2.2.2.2.1, hL2, hs7, Q1, HK6, HW6, HN⟩
        case measure => simp [RowKit.intOf]; have := Z.out; omega
      · have y3 : decide ((lf : Int) < (rt : Int)) = false := by simp; omega
        have y3b : decide (lf < rt) = false := by simp; omega
        clear hl hM r3 r4 r5 r6 r7 hlf hrt hth hmp hlr
        go_wp2_with fail
        refine HI.mono ?_
        rintro e w3 ⟨rfl, hk5, hs5⟩
        have HK5 := Lib.hid hk5
        have HW5 := Lib.hid (HW4.out.trans hs5)
        clear hk5 hs5 HI
        go_wp2_with fail
        refine (IH.out (b1 - mp) Z.out.2.1 mp b1 L2 d4 _ (Nat.le_refl _) hs4 Z.out.2.2.1 hb1 hL2 R5.out HK5.out HW5.out.lt).mono ?_
        rintro e w4 ⟨rfl, d5, hd5, hk6, hs6⟩
        have HK6 := Lib.hid hk6
        have HW6 := Lib.hid (HW5.out.trans hs6)
        obtain ⟨q1, q2⟩ := R7.out d5 hd5.1 hd5.2
        have Q1 := Lib.hid q1
        have hs7 : d5.size = N := by rw [hd5.1.1]; exact hs4
        have HN := Lib.hid (fun R (x1 : PermIn a1 mid d5 R) (x2 : SortedIn ltInt a1 mid R) => HGo.out R (permIn_trans _ _ _ _ _ HP3.out (q2 R x1 x2).1) (q2 R x1 x2).2)
        clear hk6 hs6 q1 q2 hd5
        go_wp2
        go_roundw
        case rel => exact ⟨a1, mid, L2, _, ap, d5, by go_num, by go_num, by go_num, rfl, rfl, r1, Z.out.2.2.2.1, Z.out.2.2.2.2.2.1, hL2, hs7, Q1, HK6, HW6, HN⟩
        case measure => simp [RowKit.intOf]; have := Z.out; omega
end Go.Proofs.Ytofbglgdmabafaa

