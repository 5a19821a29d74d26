/-
  The walk of AllocLeft.
-/
import Derived.Test.YtofbglgdmabafaaJ39
import Derived.Test.YtofbglgdmabafaaJ40
namespace Go.Proofs.Ytofbglgdmabafaa
open Go.RowKit
open Go.Lib hiding intOf
set_option linter.unusedVariables false
set_option linter.unusedSimpArgs false
attribute [local go_sem ↓] Go.wp_at_zero Go.wp_at_succ

set_option maxRecDepth 100000 in
set_option maxHeartbeats 6400000 in
theorem alleft_walk (A0 : Option Addr) (n0 c0 : Nat) (l0 : List Bool) (x : Int) (w : World) (h0 : Bools w w.heap.size A0 n0 l0) (hm0 : n0 ≤ maxLen) (hx : (Lit.int .u8 x).wf = true) :
    Calls Try.prog 7 #[.slice A0 n0 c0, .int .u8 x] w fun e w' => e = .returned (.bool true) ∧ Below w.heap.size w w' := by
  obtain ⟨i0, hi0, hz0, hz1, hz2⟩ := info_parts infoU32b
  have H0 := Lib.hid h0
  unfold maxLen at hm0
  have hxb : 0 ≤ x ∧ x ≤ 255 := by simpa [Lit.wf, IntKind.min, IntKind.max, IntKind.signed, IntKind.bits] using hx
  obtain ⟨d, hd⟩ : ∃ d : Nat, x % 20 = (d : Int) := ⟨(x % 20).toNat, by omega⟩
  have hdl : d < 20 := by omega
  have htm : Int.tmod x 20 = (d : Int) := by rw [Int.tmod_eq_emod_of_nonneg (by omega)]; exact hd
  clear h0 hx hd
  by_cases g0 : 30 < n0
  · have gg : (30 : Int) < (n0 : Int) := by omega
    clear g0
    go_enter Try.func7, Try.ntmps7
    go_wp2_with fail
    refine (lives14_any w).mono ?_
    rintro e w1 ⟨rfl, hb⟩
    have HB := Lib.hid hb
    clear hb
    go_wp2_with fail
    go_ret
    exact ⟨rfl, HB.out⟩
  have gg0 : ¬ (30 : Int) < (n0 : Int) := by omega
  go_enter Try.func7, Try.ntmps7
  go_wp2_with fail
  refine (lives14_any w).mono ?_
  rintro e w1 ⟨rfl, hb⟩
  have HB := Lib.hid hb
  clear hb
  go_wp2_with fail
  go_loopw [5, 6] (fun s7 s8 wr => ∃ (k m : Nat) (A : Option Addr) (c : Nat), k ≤ n0 ∧ s8 = .int .i64 k ∧ s7 = .slice A m c ∧ Hid (wr.ownsRow w.heap.size 27 1 (.slice A m c) m (ucells (numsB l0 k))) ∧ Hid (Below w.heap.size w wr)) (fun _ s8 _ => n0 - (intOf s8).toNat)
  case atStart => exact ⟨0, 0, none, 0, Nat.zero_le _, rfl, rfl, Lib.hid (World.ownsRow_nil _ _ _ _), HB⟩
  case round =>
    obtain ⟨k, m, A, c, hk, rfl, rfl, HO, HW⟩ := hrel
    by_cases hlt : k < n0
    · obtain ⟨ad, hA, hab, hc⟩ := H0.out.at_ hlt
      have hc2 := cell_in hc HW.out hab
      subst hA
      have wk : IntKind.u32.wrap (k : Int) = (k : Int) := by rw [IntKind.wrap_u32]; omega
      have wk2 : IntKind.u32.wrap ((k : Int) + 2) = (k : Int) + 2 := by rw [IntKind.wrap_u32]; omega
      cases hbk : l0.getD k false
      · rw [hbk] at hc2
        have E : Hid (numsB l0 (k + 1) = numsB l0 k) := Lib.hid (by show (if l0.getD k false then _ else _) = _; rw [hbk]; rfl)
        clear hbk hc
        go_wp2_with fail
        go_roundw
        case rel => exact ⟨k + 1, m, A, c, by omega, by go_num, rfl, Lib.hid (by rw [E.out]; exact HO.out), HW⟩
        case measure => simp [intOf]; omega
      · rw [hbk] at hc2
        have E : Hid (numsB l0 (k + 1) = numsB l0 k ++ [k + 2]) := Lib.hid (by show (if l0.getD k false then _ else _) = _; rw [hbk]; rfl)
        have hml := own_len HO.out
        have hmk := numsB_len l0 k
        have HML := Lib.hid (And.intro hml hmk)
        clear hbk hc hml hmk
        go_wp2_with (at_builtin; refine wpList_append_any _ rfl (.tmp 33) (.tmp 37) _ rfl w.heap.size 27 i0 _ 1 4 Try.underlying28 hi0 hz0 hz1 hz2 rfl (by omega) _ m (ucells (numsB l0 k)) rfl (HO.out.alloc _) (wr.heap.size + 1) (some ⟨wr.heap.size, 0, none⟩) 1 1 [.int .u32 ((k : Int) + 2)] rfl (reads_own (n := 1) (Blk.new _ _ _) rfl) (by simp [Value.oneCell']) (by unfold maxLen; have := HML.out; omega) (by have := HML.out; omega) (by have := HW.out.size; simp; omega) ?_; intro v2 w2 hown2 hg2 hat2; have HO2 := Lib.hid hown2; have HG2 := Lib.hid hg2; obtain ⟨A2, c2, rfl, _⟩ := own_form hown2; clear hown2 hg2 hat2)
        go_roundw
        case rel =>
          have hl2 : ucells (numsB l0 k) ++ [Value.int .u32 ((k : Int) + 2)] = ucells (numsB l0 (k + 1)) := by rw [E.out, ucells_append]; simp [ucells]
          exact ⟨k + 1, m + 1, A2, c2, by omega, by go_num, rfl, Lib.hid (by have := HO2.out; rw [hl2] at this; exact this), Lib.hid ((HW.out.alloc HW.out.size _).grown HG2.out (by have := HW.out.size; simp; omega) (fun k e => (HO.out.lt k e).1))⟩
        case measure => simp [intOf]; omega
    · obtain rfl : k = n0 := by omega
      obtain ⟨N, hN⟩ : ∃ N, N = numsB l0 k := ⟨_, rfl⟩
      have hNr := numsB_rise l0 k
      have hNl := fun n hn => numsB_lt l0 k n hn
      have hNk := numsB_len l0 k
      have hNm := own_len HO.out
      have hmay := numsB_may (l := l0) (k := k) (m := k + 2 + d) (by omega) (by omega)
      rw [← hN] at HO hNr hNl hNk hNm hmay
      clear hN
      have hnw := anew_any c (k + 2) (k + 2 + d) (Reads.of_own HO.out) (by omega)
      rw [show ((k + 2 : Nat) : Int) = (k : Int) + 2 by omega, show ((k + 2 + d : Nat) : Int) = (k : Int) + 2 + (d : Int) by omega] at hnw
      have HNW := Lib.hid hnw
      have HMAY := Lib.hid hmay
      have HNR := Lib.hid hNr
      have HNC := Lib.hid hNl
      have HN1 := Lib.hid (show ∀ n ∈ N, n < k + 2 from fun n hn => (hNl n hn).2)
      obtain rfl : N.length = m := hNm
      have hNle : N.length ≤ 30 := by omega
      have wk0 : IntKind.u32.wrap (k : Int) = (k : Int) := by rw [IntKind.wrap_u32]; omega
      have wd0 : IntKind.u32.wrap (d : Int) = (d : Int) := by rw [IntKind.wrap_u32]; omega
      clear hNr hNl hNk hnw hmay
      go_wp2_with fail
      refine HNW.out.mono ?_
      rintro e w2 ⟨hb1, ⟨_, g, rfl, ha⟩ | ⟨hf, _⟩⟩
      rotate_left
      · rw [HMAY.out] at hf; cases hf
      have H : Hid (Held w w2 g (takeSt N (k + 2) d 0) (OwnIn w.heap.size A N.length c N)) := Lib.hid (by
        have h5 := Held.madeRow HW.out HO.out hb1 ha
        have e5 : alNew N (k + 2) (k + 2 + d) = takeSt N (k + 2) d 0 := by unfold alNew takeSt; simp [gotL]
        rw [e5] at h5
        exact h5)
      have HOB := Lib.hid HO.out
      clear ha hb1 HNW HMAY HW HB HO
      have HLF : ∀ i, i ≤ N.length + d → Hid (((takeSt N (k + 2) d i).left : Nat) = N.length + d - i) := fun i hi => Lib.hid (takeSt_left N (k + 2) d i hi)
      have hl0 : (((takeSt N (k + 2) d 0).left : Nat) : Int) = (N.length : Int) + (d : Int) := by rw [(HLF 0 (by omega)).out]; omega
      have HL0 := Lib.hid hl0
      clear hl0
      obtain ⟨pn, hpn⟩ : ∃ pn, pn = N.length := ⟨_, rfl⟩
      have HPN := Lib.hid hpn
      rw [← hpn] at H HOB HLF HL0 hNle ⊢
      clear hpn
      have wd1 : IntKind.i64.wrap (d : Int) = (d : Int) := by rw [IntKind.wrap_i64]; omega
      go_wp2_with fail
      refine (hleft (rest_own _ _ _ _ _).st H.out).mono ?_
      rintro e w3 ⟨rfl, h, _⟩
      rw [HL0.out]
      replace H := Lib.hid h
      clear h
      go_wp2_with fail
      refine (hleft (rest_own _ _ _ _ _).st H.out).mono ?_
      rintro e w4 ⟨rfl, h, _⟩
      rw [HL0.out]
      replace H := Lib.hid h
      clear h
      go_wp2_with fail
      have HB0 : Hid (Held w w4 g (takeSt N (k + 2) d 0) (fun w' G => OwnIn w.heap.size A pn c N w' G ∧ OwnIn w.heap.size none 0 0 [] w' G)) := Lib.hid (H.out.weak fun G h => ⟨h, World.ownsRow_nil _ _ _ _, fun k e => by simp [Value.ownBlock] at e⟩)
      have HAP0 : Hid (Apart (.slice none 0 0) (.slice A pn c)) := Lib.hid (Apart.nil _)
      clear H
      go_loopw [11, 12] (fun s11 s12 wr => ∃ (i : Nat) (Y : Option Addr) (y : Nat), i ≤ pn + d ∧ s12 = .int .i64 i ∧ s11 = .slice Y i y ∧ Hid (Apart (.slice Y i y) (.slice A pn c)) ∧ Hid (Held w wr g (takeSt N (k + 2) d i) (fun w' G => OwnIn w.heap.size A pn c N w' G ∧ OwnIn w.heap.size Y i y (gotL N (k + 2) i) w' G))) (fun _ s12 _ => pn + d - (intOf s12).toNat)
      case atStart => exact ⟨0, none, 0, by omega, rfl, rfl, HAP0, HB0⟩
      case round =>
        obtain ⟨i, Y, y, hi, rfl, rfl, HAP, HH⟩ := hrel
        by_cases hlt : i < pn + d
        · have hltI : (i : Int) < (pn : Int) + (d : Int) := by omega
          have HT := Lib.hid (takeSt_take (N := N) (C := k + 2) (m := d) (i := i) HNR.out HN1.out (by have := HPN.out; omega))
          obtain ⟨ga, hga⟩ : ∃ ga, ga = gotAt N (k + 2) i := ⟨_, rfl⟩
          have HGA := Lib.hid hga
          rw [← hga] at HT
          clear hga
          have HR2 : Hid (Rest (fun w' G => OwnIn w.heap.size A pn c N w' G ∧ OwnIn w.heap.size Y i y (gotL N (k + 2) i) w' G)) := Lib.hid (rest_and (rest_own _ _ _ _ _) (rest_own _ _ _ _ _))
          have hl1 : (((takeSt N (k + 2) d (i + 1)).left : Nat) : Int) = (pn : Int) + (d : Int) - (i : Int) - 1 := by rw [(HLF (i + 1) (by omega)).out]; omega
          have HL1 := Lib.hid hl1
          clear hl1
          go_wp2_with fail
          refine (htake HR2.out.st HH.out HT.out).mono ?_
          rintro e w5 ⟨rfl, h⟩
          have HH2 := Lib.hid h
          clear h
          by_cases hip : i < pn
          · have hg2 : ga = nthU N i := by rw [HGA.out]; unfold gotAt; rw [if_pos (by rw [← HPN.out]; exact hip)]
            obtain ⟨G5, hG5⟩ := HH2.out.rest
            obtain ⟨ad, hA, _, hcA⟩ := ureads_at (Reads.of_own hG5.1.1) (k := i) hip
            subst hA
            rw [← hg2] at hcA
            clear hg2 hG5
            go_wp2_with fail
            refine (hleft HR2.out.st HH2.out).mono ?_
            rintro e w6 ⟨rfl, h, _⟩
            rw [HL1.out]
            have HH3 := Lib.hid h
            obtain ⟨G6, hG6⟩ := h.rest
            have HO6 := Lib.hid hG6.2.1
            have HOG := Lib.hid hG6.1.1
            clear h hG6
            go_wp2_with (at_builtin; refine wpList_append_any _ rfl (.tmp 104) (.tmp 106) _ rfl w.heap.size 27 i0 _ 1 4 Try.underlying28 hi0 hz0 hz1 hz2 rfl (by omega) _ i (ucells (gotL N (k + 2) i)) rfl (HO6.out.alloc _) (w6.heap.size + 1) (some ⟨w6.heap.size, 0, none⟩) 1 1 [.int .u32 ga] rfl (reads_own (n := 1) (Blk.new _ _ _) rfl) (by simp [Value.oneCell']) (by unfold maxLen; omega) (by omega) (by have := HH3.out.size; simp; omega) ?_; intro v2 w7 hown2 hg2 hat2; have HO2 := Lib.hid hown2; have HG2 := Lib.hid hg2; have HAT := Lib.hid hat2; obtain ⟨Y2, y2, rfl, _⟩ := own_form hown2; clear hown2 hg2 hat2)
            go_roundw
            case rel =>
              have hl2 : ucells (gotL N (k + 2) i) ++ [Value.int .u32 (ga : Int)] = ucells (gotL N (k + 2) (i + 1)) := by rw [show gotL N (k + 2) (i + 1) = gotL N (k + 2) i ++ [ga] by rw [HGA.out]; rfl, ucells_append]; rfl
              have ho2 := HO2.out
              rw [hl2] at ho2
              refine ⟨i + 1, Y2, y2, by omega, by go_num, rfl, Lib.hid (HAP.out.grow (HOG.out.alloc _) HAT.out), Lib.hid (HH3.out.grows (fun G1 G2 wa wb h1 h2 h3 => ⟨h2.own h1.1 fun k e1 e2 => HAP.out k e2 e1, fun k e => h3 k (h1.2 k e)⟩) ((Below.refl _ _).alloc (Nat.le_refl _) _) HG2.out ho2 HAT.out)⟩
            case measure => simp [intOf]; omega
          · have hipI : ¬ (i : Int) < (pn : Int) := by omega
            go_wp2_with fail
            refine (hleft HR2.out.st HH2.out).mono ?_
            rintro e w6 ⟨rfl, h, _⟩
            rw [HL1.out]
            have HH3 := Lib.hid h
            obtain ⟨G6, hG6⟩ := h.rest
            have HO6 := Lib.hid hG6.2.1
            have HOG := Lib.hid hG6.1.1
            clear h hG6
            go_wp2_with (at_builtin; refine wpList_append_any _ rfl (.tmp 104) (.tmp 106) _ rfl w.heap.size 27 i0 _ 1 4 Try.underlying28 hi0 hz0 hz1 hz2 rfl (by omega) _ i (ucells (gotL N (k + 2) i)) rfl (HO6.out.alloc _) (w6.heap.size + 1) (some ⟨w6.heap.size, 0, none⟩) 1 1 [.int .u32 ga] rfl (reads_own (n := 1) (Blk.new _ _ _) rfl) (by simp [Value.oneCell']) (by unfold maxLen; omega) (by omega) (by have := HH3.out.size; simp; omega) ?_; intro v2 w7 hown2 hg2 hat2; have HO2 := Lib.hid hown2; have HG2 := Lib.hid hg2; have HAT := Lib.hid hat2; obtain ⟨Y2, y2, rfl, _⟩ := own_form hown2; clear hown2 hg2 hat2)
            go_roundw
            case rel =>
              have hl2 : ucells (gotL N (k + 2) i) ++ [Value.int .u32 (ga : Int)] = ucells (gotL N (k + 2) (i + 1)) := by rw [show gotL N (k + 2) (i + 1) = gotL N (k + 2) i ++ [ga] by rw [HGA.out]; rfl, ucells_append]; rfl
              have ho2 := HO2.out
              rw [hl2] at ho2
              refine ⟨i + 1, Y2, y2, by omega, by go_num, rfl, Lib.hid (HAP.out.grow (HOG.out.alloc _) HAT.out), Lib.hid (HH3.out.grows (fun G1 G2 wa wb h1 h2 h3 => ⟨h2.own h1.1 fun k e1 e2 => HAP.out k e2 e1, fun k e => h3 k (h1.2 k e)⟩) ((Below.refl _ _).alloc (Nat.le_refl _) _) HG2.out ho2 HAT.out)⟩
            case measure => simp [intOf]; omega
        · obtain rfl : i = pn + d := by omega
          have HPNO := HPN.out
          have hfull : (takeSt N (k + 2) d (pn + d)).takes = (0, 9, takeSt N (k + 2) d (pn + d)) := by have := takeSt_full (N := N) (C := k + 2) (m := d); rw [← HPNO] at this; exact this
          have HFU := Lib.hid hfull
          have hz0 : giveSt N (k + 2) d 0 = takeSt N (k + 2) d (pn + d) := by have := giveSt_zero N (k + 2) d; rw [← HPNO] at this; exact this
          have HZ0 := Lib.hid hz0
          have hcnt : (((takeSt N (k + 2) d (pn + d)).count : Nat) : Int) = (k : Int) + 2 + (d : Int) := by show ((k + 2 + (pn + d - N.length) : Nat) : Int) = _; omega
          have HCNT := Lib.hid hcnt
          have HGL := Lib.hid (gotL_len N (k + 2) (pn + d))
          have HGV : Hid (∀ i, i < pn + d → (giveSt N (k + 2) d i).gives (gotAt N (k + 2) i) = (0, giveSt N (k + 2) d (i + 1))) := Lib.hid (fun i hi => giveSt_give HNR.out HNC.out (by omega) (by omega))
          have HEL : Hid ((((giveSt N (k + 2) d (pn + d)).left : Nat) : Int) = (pn : Int) + (d : Int)) := Lib.hid (by
            unfold AlS.left giveSt
            simp only [List.length_take, ← HPNO, HGL.out]
            omega)
          have HEF : Hid ((giveSt N (k + 2) d (pn + d)).frees = gotL N (k + 2) (pn + d)) := Lib.hid (by
            unfold AlS.frees giveSt
            simp only [← HPNO, List.foldl_nil]
            exact List.take_of_length_le (by rw [HGL.out]; exact Nat.le_refl _))
          have HET : Hid ((giveSt N (k + 2) d (pn + d)).took = []) := Lib.hid (by
            unfold giveSt
            simp only [← HPNO]
            exact List.drop_of_length_le (by rw [HGL.out]; exact Nat.le_refl _))
          have HR3 : Hid (Rest (fun w' G => OwnIn w.heap.size A pn c N w' G ∧ OwnIn w.heap.size Y (pn + d) y (gotL N (k + 2) (pn + d)) w' G)) := Lib.hid (rest_and (rest_own _ _ _ _ _) (rest_own _ _ _ _ _))
          clear HPNO hfull hz0 hcnt HLF
          go_wp2_with fail
          refine (htake HR3.out.st HH.out HFU.out).mono ?_
          rintro e w5 ⟨rfl, h⟩
          replace HH := Lib.hid h
          clear h
          go_wp2_with fail
          refine (hpages HR3.out.st HH.out).mono ?_
          rintro e w6 ⟨rfl, rfl⟩
          rw [HCNT.out]
          go_wp2_with fail
          refine (htaken HR3.out.st HH.out (by show (gotL N (k + 2) (pn + d)).length ≤ _; rw [HGL.out]; omega)).mono ?_
          rintro e w7 ⟨⟨X, nx, cx, rfl, ho, hb⟩, h⟩
          replace HH := Lib.hid h
          obtain ⟨G7, hG7⟩ := h.rest
          obtain rfl : pn + d = nx := by rw [← HGL.out]; exact own_len ho
          have HSA := Lib.hid (fun c c2 => sameU_yes X (pn + d) c Y c2 (gotL N (k + 2) (pn + d)) _ (Reads.of_own ho) (Reads.of_own hG7.2.1) (by unfold maxLen; omega))
          clear ho hb h hG7
          go_wp2_with fail
          refine (HSA.out _ _).mono ?_
          rintro e w8 ⟨rfl, q, rfl⟩
          replace HH := Lib.hid (HH.out.new HR3.out.st (below_drewN (Below.refl _ _) q))
          clear HSA
          generalize World.drewN _ q = w8 at *
          have HG0 : Hid (Held w w8 g (giveSt N (k + 2) d 0) (fun w' G => OwnIn w.heap.size A pn c N w' G ∧ OwnIn w.heap.size Y (pn + d) y (gotL N (k + 2) (pn + d)) w' G)) := Lib.hid (by rw [HZ0.out]; exact HH.out)
          clear HH
          go_wp2_with fail
          go_loopw [17] (fun s17 wr => ∃ i : Nat, i ≤ pn + d ∧ s17 = .int .i64 i ∧ Hid (Held w wr g (giveSt N (k + 2) d i) (fun w' G => OwnIn w.heap.size A pn c N w' G ∧ OwnIn w.heap.size Y (pn + d) y (gotL N (k + 2) (pn + d)) w' G))) (fun s17 _ => pn + d - (intOf s17).toNat)
          case atStart => exact ⟨0, by omega, rfl, HG0⟩
          case round =>
            obtain ⟨i, hi, rfl, HH⟩ := hrel
            by_cases hlt : i < pn + d
            · have hltI : (i : Int) < (pn : Int) + (d : Int) := by omega
              obtain ⟨G5, hG5⟩ := HH.out.rest
              obtain ⟨ad, hA, _, hcA⟩ := ureads_at (Reads.of_own hG5.2.1) (k := i) hlt
              subst hA
              rw [gotL_nth hlt] at hcA
              have HGI := Lib.hid (HGV.out i hlt)
              generalize gotAt N (k + 2) i = ga at hcA HGI
              clear hG5
              go_wp2_with fail
              refine (hgive HR3.out.st HH.out HGI.out).mono ?_
              rintro e w9 ⟨rfl, h⟩
              have HH2 := Lib.hid h
              clear h
              go_wp2_with fail
              go_roundw
              case rel => exact ⟨i + 1, by omega, by go_num, HH2⟩
              case measure => simp [intOf]; omega
            · obtain rfl : i = pn + d := by omega
              go_wp2_with fail
              refine (hleft HR3.out.st HH.out).mono ?_
              rintro e wa ⟨rfl, h, _⟩
              rw [HEL.out]
              replace HH := Lib.hid h
              clear h
              go_wp2_with fail
              refine (hfree HR3.out.st HH.out (by have h5 := AlS.frees_len HH.out.ok; rw [HEF.out, HGL.out] at h5; omega)).mono ?_
              rintro e wb ⟨⟨X, nx, cx, rfl, ho, hb⟩, h⟩
              rw [HEF.out] at ho
              replace HH := Lib.hid h
              obtain ⟨G7, hG7⟩ := h.rest
              obtain rfl : pn + d = nx := by rw [← HGL.out]; exact own_len ho
              have HSA := Lib.hid (fun c c2 => sameU_yes X (pn + d) c Y c2 (gotL N (k + 2) (pn + d)) _ (Reads.of_own ho) (Reads.of_own hG7.2.1) (by unfold maxLen; omega))
              clear ho hb h hG7
              go_wp2_with fail
              refine (HSA.out _ _).mono ?_
              rintro e w10 ⟨rfl, q, rfl⟩
              replace HH := Lib.hid (HH.out.new HR3.out.st (below_drewN (Below.refl _ _) q))
              clear HSA
              generalize World.drewN _ q = w10 at *
              go_wp2_with fail
              refine (htaken HR3.out.st HH.out (by rw [HET.out]; exact Nat.zero_le _)).mono ?_
              rintro e wc ⟨⟨Z, nz, cz, rfl, ho, hb⟩, h⟩
              rw [HET.out] at ho
              obtain rfl : 0 = nz := own_len ho
              replace HH := Lib.hid h
              clear ho hb h
              go_wp2_with fail
              go_ret
              exact ⟨rfl, HH.out.bel⟩
end Go.Proofs.Ytofbglgdmabafaa

