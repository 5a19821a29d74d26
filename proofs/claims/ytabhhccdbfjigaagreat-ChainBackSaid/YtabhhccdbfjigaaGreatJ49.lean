/-
  The walk of the statement ChainBack, behind its guards. (Written by wip/tools/gen_chback.py.)
-/
import Derived.Test.YtabhhccdbfjigaaGreatJ48
namespace Go.Proofs.YtabhhccdbfjigaaGreat
open Go.RowKit
open Go.Lib hiding intOf
set_option linter.unusedVariables false
set_option linter.unusedSimpArgs false
attribute [local go_sem ↓] Go.wp_at_zero Go.wp_at_succ

set_option maxRecDepth 100000 in
set_option maxHeartbeats 25600000 in
theorem chback_main (v : ByteArray) (A2 : Option Addr) (n2 c2 : Nat) (ns : List Nat) (f s : Nat) (at_ : Int) (d : Nat) (w : World) (hr : Reads w w.heap.size 1 A2 n2 (ucells ns)) (hcc : n2 ≤ c2) (h1 : ¬ 600 < v.size) (h2 : 0 < v.size) (h3 : ¬ 60 < n2) (hal : (allU ns && ascU ns) = true) (h5 : d ≠ 0) (hd : d < 4294967296) :
    Calls Tryz.prog 4 #[.string v, .slice A2 n2 c2, .int .u32 f, .int .u32 s, .int .i64 at_, .int .u32 d] w fun e w' => e = .returned (.bool true) ∧ Below w.heap.size w w' := by
  have g1 : decide ((600 : Int) < (v.size : Int)) = false := by simp; omega
  have g1b : decide (600 < v.size) = false := by simp; omega
  have he : (v.toList == []) = false := by rw [Bool.eq_false_iff]; intro h; rw [beq_iff_eq] at h; have h9 := size_list v; rw [← ByteArray.toList_eq, h] at h9; simp at h9; omega
  have g3 : decide ((60 : Int) < (n2 : Int)) = false := by simp; omega
  have g3b : decide (60 < n2) = false := by simp; omega
  have hd1 : ((d : Int) == 0) = false := by simp; omega
  have hd2 : (d == 0) = false := by simp; omega
  have HNu := fun (w : World) (h : Reads w w.heap.size 1 A2 n2 (ucells ns)) => rnumbers_any A2 n2 c2 ns w h (by unfold maxLen; omega)
  rw [hal] at HNu
  have HR := Lib.hid hr
  obtain ⟨F, hF⟩ : ∃ F, F = 2 + f % 10 := ⟨_, rfl⟩
  obtain ⟨S, hS⟩ : ∃ S, S = 1 + s % 3 := ⟨_, rfl⟩
  have hF2 : 2 ≤ F := by omega
  have hF9 : F ≤ 11 := by omega
  have hS1 : 1 ≤ S := by omega
  have hS3 : S ≤ 3 := by omega
  have hFx := Lib.hid hF
  have hSx := Lib.hid hS
  clear hF hS
  have HL2 := Lib.hid (ulen hr)
  obtain ⟨N, hN⟩ : ∃ N, N = needN 128 v.size := ⟨_, rfl⟩
  obtain ⟨K, hK⟩ : ∃ K, K = needF 128 ns.length := ⟨_, rfl⟩
  obtain ⟨ps, hps⟩ : ∃ ps, ps = stepP F S (N + K) := ⟨_, rfl⟩
  obtain ⟨hN1, hN6, hK3, LA, LB, im1, im2, m1, m2, m3, m4, m5, m6, m7, m8, m9, m10, m11⟩ := back_all hF2 hF9 hS1 hS3 h2 (by omega) (by rw [ulen hr]; omega) hal hN hK hps
  have HNc := fun w => rneed9_any 128 v.size w (by omega)
  have HKc := fun w => rneed10_any 128 n2 w (by omega)
  rw [← hN] at HNc
  rw [← ulen hr, ← hK] at HKc
  have hln := ulen hr
  rw [hln] at HKc
  have hpl : ps.length = N + K := by rw [hps, stepP_len]
  have hat : ∀ i, i < N + K → nthU ps i = F + S * i := fun i hi => by rw [hps]; exact stepP_at hi
  have HVs := Lib.hid (show v.size ≤ 600 by omega)
  have HCC := Lib.hid hcc
  have HN2 := Lib.hid (show n2 ≤ 60 by omega)
  obtain ⟨i0, hi0, hz0, hz1, hz2⟩ := info_parts infoU32
  have M1 := Lib.hid m1
  have M2 := Lib.hid m2
  have M3 := Lib.hid m3
  have M4 := Lib.hid m4
  have M5 := Lib.hid m5
  have M6 := Lib.hid m6
  have M7 := Lib.hid m7
  have M8 := Lib.hid m8
  have M9 := Lib.hid m9
  have M10 := Lib.hid m10
  have M11 := Lib.hid m11
  have HPl := Lib.hid hpl
  have HAt := Lib.hid hat
  have HPs := Lib.hid hps
  have HDd := Lib.hid hd
  have HD0 := Lib.hid h5
  have H2 := Lib.hid h2
  obtain ⟨NK, hNK⟩ : ∃ x, x = N + K := ⟨_, rfl⟩
  have hnk1 : (N : Int) + (K : Int) = (NK : Int) := by omega
  have HNK := Lib.hid hNK
  have hNK9 : NK ≤ 9 := by omega
  have HW9 := Lib.hid (wrap64_nat NK (by omega))
  have HW8 := Lib.hid (i64_nat NK (by omega))
  clear h1 h2 h3 hal hr h5 hN hK hps m1 m2 m3 m4 m5 m6 m7 m8 m9 m10 m11 hln hpl hat hcc hd hNK
  have hF := hFx.out
  have hS := hSx.out
  have u1 : Int.tmod (f : Int) 10 = (f : Int) % 10 := Int.tmod_eq_emod_of_nonneg (by omega)
  have u2 : IntKind.u32.wrap ((f : Int) % 10) = (f : Int) % 10 := by rw [IntKind.wrap_u32]; omega
  have u3 : 2 + (f : Int) % 10 = (F : Int) := by omega
  have u4 : IntKind.u32.wrap (F : Int) = (F : Int) := by rw [IntKind.wrap_u32]; omega
  have u5 : Int.tmod (s : Int) 3 = (s : Int) % 3 := Int.tmod_eq_emod_of_nonneg (by omega)
  have u6 : IntKind.u32.wrap ((s : Int) % 3) = (s : Int) % 3 := by rw [IntKind.wrap_u32]; omega
  have u7 : 1 + (s : Int) % 3 = (S : Int) := by omega
  have u8 : IntKind.u32.wrap (S : Int) = (S : Int) := by rw [IntKind.wrap_u32]; omega
  clear hF hS
  have HB := Lib.hid (Below.refl w.heap.size w)
  go_enter Tryz.func4, Tryz.ntmps4
  go_wp2_with fail
  refine (lives11_any _).mono ?_
  rintro e w1 ⟨rfl, hb⟩
  replace HB := Lib.hid (HB.out.trans (hb.mono HB.out.size))
  clear hb
  go_wp2_with fail
  refine (HNu _ ((HR.out.below HB.out).more HB.out.size)).mono ?_
  rintro e w2 ⟨rfl, q2, hq⟩
  replace HB := Lib.hid (show Below w.heap.size w w2 by rw [hq]; exact below_drewN HB.out q2)
  clear hq HNu
  go_wp2_with fail
  clear g1 g1b g3 g3b he hd1 hd2 u1 u2 u3 u4 u5 u6 u7 u8
  refine (HNc _).mono ?_
  rintro e wS ⟨rfl, rfl⟩
  clear HNc
  go_wp2_with fail
  refine (HKc _).mono ?_
  rintro e wT ⟨rfl, rfl⟩
  clear HKc
  replace HR := Lib.hid ((HR.out.below HB.out).more HB.out.size)
  have HR0 := HR
  go_wp2_with fail
  have z1 : ∀ k, k ≤ 9 → k + 1 ≤ maxLen := fun k h => by unfold maxLen; omega
  have z2 : ∀ k, k ≤ 9 → (k + 1) * 4 ≤ 140737488355328 := fun k h => by omega
  go_loopw [15, 16] (fun b i wr => ∃ (k : Nat) (A' : Option Addr) (c' : Nat), k ≤ NK ∧ i = .int .i64 k ∧ b = .slice A' k c' ∧ Hid (wr.ownsRow wS.heap.size 22 1 (.slice A' k c') k (ucells (stepP F S k))) ∧ Hid (Below wS.heap.size wS wr)) (fun _ i _ => NK - (intOf i).toNat)
  case atStart => exact ⟨0, none, 0, Nat.zero_le _, rfl, rfl, Lib.hid (World.ownsRow_nil _ _ _ _), Lib.hid (Below.refl _ _)⟩
  case round =>
    obtain ⟨k, A', c', hk, rfl, rfl, HO, HW⟩ := hrel
    have hk9 : k ≤ 9 := by omega
    by_cases hlt : k < NK
    · have hk0 : (0 : Int) ≤ k := by omega
      have hk1 : (k : Int) < NK := by omega
      have x1 : IntKind.u32.wrap (k : Int) = (k : Int) := by rw [IntKind.wrap_u32]; omega
      obtain ⟨sk, hsk⟩ : ∃ x, x = S * k := ⟨_, rfl⟩
      have hsk9 : sk ≤ 3 * 9 := by rw [hsk]; exact Nat.mul_le_mul hS3 (by omega)
      have x2 : (S : Int) * (k : Int) = (sk : Int) := by rw [hsk]; simp
      have x3 : IntKind.u32.wrap (sk : Int) = (sk : Int) := by rw [IntKind.wrap_u32]; omega
      obtain ⟨a, ha⟩ : ∃ x, x = F + sk := ⟨_, rfl⟩
      have x4 : (F : Int) + (sk : Int) = (a : Int) := by omega
      have x5 : IntKind.u32.wrap (a : Int) = (a : Int) := by rw [IntKind.wrap_u32]; omega
      have HA := Lib.hid (show a = F + S * k by omega)
      clear hsk ha hsk9
      have hnk2 := HW9.out
      have hnk3 := HW8.out
      have HX := Lib.hid (HO.out.alloc (.cells #[.int .u32 a] 22))
      have HB3 := Lib.hid (HW.out.alloc HW.out.size (.cells #[.int .u32 a] 22))
      go_upto_region 11 with fail
      clear hnk2 hnk3
      go_wp2_with (at_builtin; refine wpList_append_any _ rfl (.tmp 84) (.tmp 91) _ rfl wS.heap.size 22 i0 _ 1 4 Tryz.underlying24 hi0 hz0 hz1 hz2 rfl (by omega) _ k _ rfl HX.out (wr.heap.size + 1) (some ⟨wr.heap.size, 0, none⟩) 1 1 (ucells [a]) rfl (reads_own (n := 1) (Blk.new _ _ _) rfl) (ucells_one _) (z1 k hk9) (z2 k hk9) HB3.out.size ?_; intro v5 w5 hown4 hg4 hat; clear hat; rw [← ucells_append, HA.out, ← stepP_snoc] at hown4; obtain ⟨A4, c4, rfl, _, _, _⟩ := own_form hown4; have HO4 := Lib.hid hown4; have HB4 := Lib.hid (HB3.out.grown hg4 HB3.out.size (fun j hj => (HX.out.lt j hj).1)); clear hown4 hg4)
      clear x1 x2 x3 x4 x5
      go_roundw
      case rel =>
        first
          | exact ⟨k + 1, A4, c4, by omega, by go_num, rfl, HO4, HB4⟩
          | ((repeat apply Exists.intro); exact ⟨⟨k + 1, A4, c4, by omega, by go_num, rfl, HO4, HB4⟩, rfl⟩)
      case measure => simp [intOf]; omega
    · obtain rfl : NK = k := by omega
      clear hlt hk
      replace HB := Lib.hid (HB.out.trans (HW.out.mono HB.out.size))
      replace HR := Lib.hid ((HR.out.below HW.out).more HW.out.size)
      clear HR0
      rw [show stepP F S NK = ps by rw [HPs.out, HNK.out]] at HO
      obtain ⟨hc9, hcm⟩ : NK ≤ c' ∧ c' ≤ maxLen := by
        obtain ⟨_, _, he, g1, g2, _⟩ := own_form HO.out
        injection he with _ _ e3
        subst e3
        exact ⟨g1, g2⟩
      have RP := Lib.hid (Reads.of_own HO.out)
      obtain ⟨ad, rfl, -, -⟩ := ureads_at RP.out (show 0 < NK by have := HNK.out; omega)
      have hNc : (N : Int) ≤ (c' : Int) := by have := HNK.out; omega
      have hNn : (N : Int) ≤ (NK : Int) := by have := HNK.out; omega
      have hN0 : (0 : Int) ≤ (N : Int) := by omega
      have hNk : N ≤ NK := by have := HNK.out; omega
      obtain ⟨X, hX, hsl⟩ := usliced (some ad) NK c' N N rfl hNk
      obtain ⟨ck, hck⟩ : ∃ x, x = c' - N := ⟨_, rfl⟩
      rw [show NK - N = K by have := HNK.out; omega, ← hck] at hsl
      have HX := Lib.hid hX
      have HC9 := Lib.hid hc9
      have HT := fun (w' : World) (B : Nat) (h : Reads w' B 1 (some ad) NK (ucells ps)) => utake h hNk
      have HDr := fun (w' : World) (B : Nat) (h : Reads w' B 1 (some ad) NK (ucells ps)) => show Reads w' B 1 X K (ucells (ps.drop N)) by rw [HX.out]; have h2 := udrop h hNk HC9.out; rwa [show NK - N = K by have := HNK.out; omega] at h2
      have HTd := Lib.hid HT
      have HDd2 := Lib.hid HDr
      clear hX hck HT HDr hc9 hcm HO HW
      have hnk2 := HW9.out
      have hnk3 := HW8.out
      go_wp2_with fail
      clear hnk2 hnk3
      refine (ownU_any c' (HTd.out _ _ RP.out) (by omega)).mono ?_
      rintro e x1 ⟨B1, d1, rfl, hown1, hb⟩
      have RO1 := Lib.hid (Reads.of_own hown1)
      clear hown1
      replace HB := Lib.hid (HB.out.trans (hb.mono HB.out.size))
      replace HR := Lib.hid ((HR.out.below hb).more hb.size)
      replace RP := Lib.hid ((RP.out.below hb).more hb.size)
      clear hb
      go_wp2_with fail
      refine (hon_any 128 4 B1 N d1 (ps.take N) v _ RO1.out (by omega) (by have := HVs.out; omega)).mono ?_
      rw [M1.out]
      rintro e x2 ⟨B2, m2, d2, rfl, hr2, hb⟩
      have RA := Lib.hid hr2
      clear hr2
      replace HB := Lib.hid (HB.out.trans (hb.mono HB.out.size))
      replace HR := Lib.hid ((HR.out.below hb).more hb.size)
      replace RP := Lib.hid ((RP.out.below hb).more hb.size)
      replace RO1 := Lib.hid ((RO1.out.below hb).more hb.size)
      clear hb
      go_wp2_with fail
      refine (ownU_any ck (HDd2.out _ _ RP.out) (by omega)).mono ?_
      rintro e x3 ⟨B3, d3, rfl, hown3, hb⟩
      have RO3 := Lib.hid (Reads.of_own hown3)
      clear hown3
      replace HB := Lib.hid (HB.out.trans (hb.mono HB.out.size))
      replace HR := Lib.hid ((HR.out.below hb).more hb.size)
      replace RP := Lib.hid ((RP.out.below hb).more hb.size)
      replace RA := Lib.hid ((RA.out.below hb).more hb.size)
      clear hb
      go_wp2_with fail
      refine (hlists_any 128 4 B3 K d3 (ps.drop N) A2 n2 c2 ns _ RO3.out (by omega) HR.out (by have := HN2.out; omega) HCC.out).mono ?_
      rw [M2.out]
      rintro e x4 ⟨B4, m4, d4, rfl, hr4, hb⟩
      have RB := Lib.hid hr4
      clear hr4
      replace HB := Lib.hid (HB.out.trans (hb.mono HB.out.size))
      replace HR := Lib.hid ((HR.out.below hb).more hb.size)
      replace RP := Lib.hid ((RP.out.below hb).more hb.size)
      replace RA := Lib.hid ((RA.out.below hb).more hb.size)
      replace RO3 := Lib.hid ((RO3.out.below hb).more hb.size)
      clear hb
      go_wp2_with fail
      have LEN5 := Lib.hid (show LA.length ≤ 1000 by rw [on_len (z := 128) M1.out, List.length_take]; have := HPl.out; omega)
      have LEN6 := Lib.hid (show LB.length ≤ 1000 by have h := (listsL_some (z := 128) M2.out).2.2.2.2.2.2; rw [h, List.length_map, List.length_range, List.length_drop]; have := HPl.out; omega)
      refine (hlay_any 128 ⟨#[]⟩ B2 m2 d2 LA _ (by decide) RA.out (by have := pgcs_len RA.out; have h8 := LEN5.out; omega)).mono ?_
      rw [(lay_yes M3.out).1, (lay_yes M3.out).2]
      rintro e x5 ⟨rfl, hb⟩
      replace HB := Lib.hid (HB.out.trans (hb.mono HB.out.size))
      replace HR := Lib.hid ((HR.out.below hb).more hb.size)
      replace RP := Lib.hid ((RP.out.below hb).more hb.size)
      replace RA := Lib.hid ((RA.out.below hb).more hb.size)
      replace RB := Lib.hid ((RB.out.below hb).more hb.size)
      clear hb
      go_wp2_with fail
      refine (hlay_any 128 im1 B4 m4 d4 LB _ (by have := M5.out; omega) RB.out (by have := pgcs_len RB.out; have h8 := LEN6.out; omega)).mono ?_
      rw [(lay_yes M4.out).1, (lay_yes M4.out).2]
      rintro e x6 ⟨rfl, hb⟩
      replace HB := Lib.hid (HB.out.trans (hb.mono HB.out.size))
      replace HR := Lib.hid ((HR.out.below hb).more hb.size)
      replace RP := Lib.hid ((RP.out.below hb).more hb.size)
      replace RA := Lib.hid ((RA.out.below hb).more hb.size)
      replace RB := Lib.hid ((RB.out.below hb).more hb.size)
      clear hb
      have HF0 := Lib.hid (show nthU ps 0 = F by rw [HAt.out 0 (by omega)]; simp)
      have p0 := ureads_cell RP.out (show 0 < NK by have := HNK.out; omega)
      rw [HF0.out] at p0
      rw [add_zero_addr] at p0
      go_wp2_with fail
      refine (hread_any 128 im2 F v.size _ (by have := M6.out; have h8 : S * (N + K - 1) ≤ 3 * 9 := Nat.mul_le_mul hS3 (by omega); omega) (by omega) (by have := HVs.out; omega)).mono ?_
      rw [M7.out, (rd_some _ _).1, (rd_some _ _).2.1, (rd_some _ _).2.2]
      rintro e x7 ⟨B7, m7, d7, rfl, hr7, hb⟩
      have R7 := Lib.hid hr7
      clear hr7 p0
      replace HB := Lib.hid (HB.out.trans (hb.mono HB.out.size))
      replace HR := Lib.hid ((HR.out.below hb).more hb.size)
      replace RP := Lib.hid ((RP.out.below hb).more hb.size)
      clear hb
      have p0 := ureads_cell RP.out (show 0 < NK by have := HNK.out; omega)
      rw [HF0.out] at p0
      rw [add_zero_addr] at p0
      have y1 : wrap64 ((v.size : Int) + 1) = (v.size : Int) + 1 := wrap64_nat (v.size + 1) (by have := HVs.out; omega)
      go_wp2_with fail
      refine (hread_any 128 im2 F (v.size + 1) _ (by have := M6.out; have h8 : S * (N + K - 1) ≤ 3 * 9 := Nat.mul_le_mul hS3 (by omega); omega) (by omega) (by have := HVs.out; omega)).mono ?_
      rw [M8.out, rd_none.1, rd_none.2.1, rd_none.2.2]
      rintro e x8 ⟨B8, m8, d8, rfl, hr8, hb⟩
      clear hr8 p0
      replace HB := Lib.hid (HB.out.trans (hb.mono HB.out.size))
      replace HR := Lib.hid ((HR.out.below hb).more hb.size)
      replace RP := Lib.hid ((RP.out.below hb).more hb.size)
      replace R7 := Lib.hid ((R7.out.below hb).more hb.size)
      clear hb
      clear y1
      obtain ⟨hd9, hhd9⟩ : ∃ x, x = nthU ps N := ⟨_, rfl⟩
      have hh9 : hd9 < 4294967296 := by
        rw [hhd9]
        by_cases h : N < NK
        · rw [HAt.out N (by have := HNK.out; omega)]
          have h8 : S * N ≤ 3 * 9 := Nat.mul_le_mul hS3 (by omega)
          omega
        · rw [nthU_out (by have := HPl.out; have := HNK.out; omega)]
          omega
      have HLs := (show ∀ w, Calls Tryz.prog 8 #[.int .i64 128, .string im2, .int .u32 hd9] w (ListPost 128 (some (ns, ps.drop N)) w) from fun w => by
        have h := hlist_any 128 im2 hd9 w (by have := M6.out; have h8 : S * (N + K - 1) ≤ 3 * 9 := Nat.mul_le_mul hS3 (by omega); omega) hh9
        rwa [hhd9, M9.out, ← hhd9] at h)
      have HHd := Lib.hid hhd9
      clear hhd9 hh9
      go_upto_region 20 with fail
      have HL9 := Lib.hid HLs
      clear HLs
      rcases Nat.eq_zero_or_pos K with hK0 | hK0
      rotate_left
      · have hz1 : decide ((0 : Int) < (K : Int)) = true := by simp; omega
        have hz1b : decide (0 < K) = true := by simp; omega
        have pn := ureads_cell RP.out (show N < NK by have := HNK.out; omega)
        rw [← HHd.out] at pn
        have hNn1 : (N : Int) < (NK : Int) := by have := HNK.out; omega
        clear hK0
        go_wp2_with fail
        clear pn hz1 hz1b
        refine (HL9.out _).mono ?_
        intro e x9 hp9
        obtain ⟨B9, m9, d9, B10, m10, d10, rfl, hr9, hr10, hb⟩ := listpost_yes (show goodSize 128 = true from rfl) hp9
        clear hp9
        have R9 := Lib.hid hr9
        have R10 := Lib.hid hr10
        clear hr9 hr10
        replace HB := Lib.hid (HB.out.trans (hb.mono HB.out.size))
        replace HR := Lib.hid ((HR.out.below hb).more hb.size)
        replace RP := Lib.hid ((RP.out.below hb).more hb.size)
        replace R7 := Lib.hid ((R7.out.below hb).more hb.size)
        clear hb
        have heqv := fun w => str_noteq v w
        obtain rfl : N = m7 := (show (ps.take N).length = N by rw [List.length_take]; have := HPl.out; omega).symm.trans (ulen R7.out)
        obtain rfl : n2 = m9 := (ulen HR.out).symm.trans (ulen R9.out)
        obtain rfl : K = m10 := (show (ps.drop N).length = K by rw [List.length_drop]; have := HPl.out; omega).symm.trans (ulen R10.out)
        have hML : N ≤ maxLen ∧ n2 ≤ maxLen ∧ K ≤ maxLen := by have := HN2.out; unfold maxLen; omega
        have HML := Lib.hid hML
        clear hML
        go_wp2_with fail
        refine (sameU_yes B7 N d7 (some ad) c' (ps.take N) _ R7.out (HTd.out _ _ RP.out) HML.out.1).mono ?_
        rintro e xa ⟨rfl, qa, hq⟩
        have hb : Below x9.heap.size x9 xa := by rw [hq]; exact below_drewN (Below.refl _ _) qa
        clear hq
        replace HB := Lib.hid (HB.out.trans (hb.mono HB.out.size))
        replace HR := Lib.hid ((HR.out.below hb).more hb.size)
        replace RP := Lib.hid ((RP.out.below hb).more hb.size)
        replace R9 := Lib.hid ((R9.out.below hb).more hb.size)
        replace R10 := Lib.hid ((R10.out.below hb).more hb.size)
        clear hb
        go_wp2_with fail
        refine (sameU_yes B9 n2 d9 A2 c2 ns _ R9.out HR.out HML.out.2.1).mono ?_
        rintro e xb ⟨rfl, qb, hq⟩
        have hb : Below xa.heap.size xa xb := by rw [hq]; exact below_drewN (Below.refl _ _) qb
        clear hq
        replace HB := Lib.hid (HB.out.trans (hb.mono HB.out.size))
        replace RP := Lib.hid ((RP.out.below hb).more hb.size)
        replace R10 := Lib.hid ((R10.out.below hb).more hb.size)
        clear hb
        go_wp2_with fail
        refine (sameU_yes B10 K d10 X ck (ps.drop N) _ R10.out (HDd2.out _ _ RP.out) HML.out.2.2).mono ?_
        rintro e xc ⟨rfl, qc, hq⟩
        have hb : Below xb.heap.size xb xc := by rw [hq]; exact below_drewN (Below.refl _ _) qc
        clear hq
        replace HB := Lib.hid (HB.out.trans (hb.mono HB.out.size))
        replace RP := Lib.hid ((RP.out.below hb).more hb.size)
        clear hb
        obtain ⟨lt, hlt⟩ : ∃ x, x = NK - 1 := ⟨_, rfl⟩
        have y1 : (NK : Int) - 1 = (lt : Int) := by have := HNK.out; omega
        obtain ⟨al, hal⟩ : ∃ x, x = F + S * lt := ⟨_, rfl⟩
        have hal9 : al ≤ 11 + 3 * 9 := by rw [hal]; have h8 : S * lt ≤ 3 * 9 := Nat.mul_le_mul hS3 (by omega); omega
        have pl := ureads_cell RP.out (show lt < NK by have := HNK.out; omega)
        rw [HAt.out lt (by have := HNK.out; omega), ← hal] at pl
        have HS2 : im2.size = (al + 1) * 128 := by rw [M6.out, hal, hlt, HNK.out]
        obtain ⟨sz, hsz⟩ : ∃ x, x = im2.size := ⟨_, rfl⟩
        obtain ⟨al1, hal1⟩ : ∃ x, x = al + 1 := ⟨_, rfl⟩
        have y4 : (al : Int) + 1 = (al1 : Int) := by omega
        have y6 : (128 : Int) * (al1 : Int) = (sz : Int) := by omega
        obtain ⟨jj, hjj, hjN⟩ : ∃ j : Nat, at_ % (N : Int) = (j : Int) ∧ j < N := ⟨(at_ % (N : Int)).toNat, by have := Int.emod_nonneg at_ (show (N : Int) ≠ 0 by omega); omega, by have := Int.emod_nonneg at_ (show (N : Int) ≠ 0 by omega); have := Int.emod_lt_of_pos at_ (show (0 : Int) < (N : Int) by omega); omega⟩
        have HPk : ∀ w : World, Calls Tryz.prog 21 #[.int .i64 at_, .int .i64 (N : Int)] w fun e w' => e = .returned (.int .i64 (jj : Int)) ∧ w = w' := fun w => (pick_any at_ N w (by omega) (by omega)).mono (by rintro e w' ⟨rfl, rfl⟩; exact ⟨by rw [hjj], rfl⟩)
        obtain ⟨wh, hwh⟩ : ∃ x, x = F + S * jj := ⟨_, rfl⟩
        have hwh9 : wh ≤ 11 + 3 * 9 := by rw [hwh]; have h8 : S * jj ≤ 3 * 9 := Nat.mul_le_mul hS3 (by omega); omega
        have hjl : S * jj ≤ S * lt := Nat.mul_le_mul_left _ (by have := HNK.out; omega)
        have hwl : wh ≤ al := by omega
        have pj := ureads_cell RP.out (show jj < NK by have := HNK.out; omega)
        rw [HAt.out jj (by have := HNK.out; omega), ← hwh] at pj
        obtain ⟨wz, hwz⟩ : ∃ x, x = wh * 128 := ⟨_, rfl⟩
        obtain ⟨wy, hwy⟩ : ∃ x, x = wz + 128 := ⟨_, rfl⟩
        have v1 : (128 : Int) * (wh : Int) = (wz : Int) := by omega
        have v3 : (wz : Int) + 128 = (wy : Int) := by omega
        have hwys : wy ≤ sz := by omega
        have v5 : (0 : Int) ≤ (wz : Int) := by omega
        have v6 : (wz : Int) ≤ (wy : Int) := by omega
        have v7 : (wy : Int) ≤ (sz : Int) := by omega
        have v8 : (wz : Int) ≤ (sz : Int) := by omega
        have hj0 : (0 : Int) ≤ (jj : Int) := by omega
        have hj1 : (jj : Int) < (NK : Int) := by have := HNK.out; omega
        have hNKp : 0 < NK := by have := HNK.out; omega
        have hNKi : (0 : Int) < (NK : Int) := by omega
        have hl0 : (0 : Int) ≤ (lt : Int) := by omega
        have hl1 : (lt : Int) < (NK : Int) := by have := HNK.out; omega
        obtain ⟨blk, hblk⟩ : ∃ x, x = blkOf 128 im2 wh := ⟨_, rfl⟩
        have hblks : blk.size = 128 := by rw [hblk]; unfold blkOf; rw [ByteArray.size_extract]; omega
        obtain ⟨mok, mbad⟩ := M10.out jj hjN
        rw [← hwh] at mok mbad
        obtain ⟨qq, hqq⟩ : ∃ q : Nat, (q : Int) = 4 + at_ % ((121 : Nat) : Int) := ⟨(4 + at_ % ((121 : Nat) : Int)).toNat, by have := Int.emod_nonneg at_ (show ((121 : Nat) : Int) ≠ 0 by decide); omega⟩
        have hqq9 : qq + 4 ≤ 128 := by have := Int.emod_lt_of_pos at_ (show (0 : Int) < ((121 : Nat) : Int) by decide); omega
        obtain ⟨T, hT⟩ : ∃ x, x = turnB blk qq d := ⟨_, rfl⟩
        have hTs : T.size = 128 := by rw [hT, turnB_size, hblks]
        have hTb : blockOk 128 wh T = false := by rw [hT]; exact turn_bad 128 wh wh blk qq d (by rw [hblk]; exact mok) HDd.out HD0.out (by omega) (by rw [hblks]; exact hqq9)
        have mno := mbad T hTs hTb
        have HTu : ∀ w : World, Calls Tryz.prog 22 #[.string blk, .int .i64 at_, .int .u32 d] w fun e w' => e = .returned (.string T) ∧ Below w.heap.size w w' := fun w => turned_any blk at_ d qq T w (by omega) (by omega) HDd.out (by rw [hblks]; exact hqq) hT
        obtain ⟨bad, hbad⟩ : ∃ x, x = writeB 128 wh T im2 := ⟨_, rfl⟩
        rw [← hbad] at mno
        have hcat : im2.extract 0 wz ++ T ++ im2.extract wy im2.size = bad := by rw [hbad, hwy]; exact wr_sameZ hTs hwz (by omega)
        have hex : im2.extract wz wy = blk := by rw [hblk, hwy, hwz]; rfl
        obtain ⟨E1, hE1⟩ : ∃ x, x = im2.extract 0 wz := ⟨_, rfl⟩
        obtain ⟨E3, hE3⟩ : ∃ x, x = im2.extract wy im2.size := ⟨_, rfl⟩
        have hE1s : E1.size ≤ 10000 := by rw [hE1, ByteArray.size_extract]; omega
        have hE3s : E3.size ≤ 10000 := by rw [hE3, ByteArray.size_extract]; omega
        have hbads : bad.size ≤ 1000000 := by rw [← hcat, ByteArray.size_append, ByteArray.size_append, hTs, ← hE1, ← hE3]; omega
        rw [← hE1, ← hE3] at hcat
        obtain ⟨E2, hE2⟩ : ∃ x, x = E1 ++ T := ⟨_, rfl⟩
        have hc1 : ¬ (9223372036854775807 < E1.size + T.size) := by omega
        have hc2 : ¬ (9223372036854775807 < E2.size + E3.size) := by rw [hE2, ByteArray.size_append]; omega
        rw [← hE2] at hcat
        have hX1 := hE1.symm
        have hX2 := hE2.symm
        have hX3 := hE3.symm
        rw [← hsz] at hX3
        obtain ⟨nl, hnl⟩ : ∃ x, x = N - 1 := ⟨_, rfl⟩
        have z3 : (N : Int) - 1 = (nl : Int) := by omega
        obtain ⟨an, han⟩ : ∃ x, x = F + S * nl := ⟨_, rfl⟩
        have pn := ureads_cell RP.out (show nl < NK by have := HNK.out; omega)
        rw [HAt.out nl (by have := HNK.out; omega), ← han] at pn
        have hnl2 : S * nl ≤ S * lt := Nat.mul_le_mul_left _ (by have := HNK.out; omega)
        obtain ⟨df, hdf⟩ : ∃ x, x = al - an := ⟨_, rfl⟩
        have z5 : (al : Int) - (an : Int) = (df : Int) := by omega
        obtain ⟨df1, hdf1⟩ : ∃ x, x = df + 1 := ⟨_, rfl⟩
        have z6 : (df : Int) + 1 = (df1 : Int) := by omega
        obtain ⟨dz, hdz⟩ : ∃ x, x = df1 * 128 := ⟨_, rfl⟩
        have z7 : (128 : Int) * (df1 : Int) = (dz : Int) := by omega
        obtain ⟨cz, hcz⟩ : ∃ x, x = an * 128 := ⟨_, rfl⟩
        have z8 : (sz : Int) - (dz : Int) = (cz : Int) := by omega
        have z9 : (0 : Int) ≤ (cz : Int) := by omega
        have z10 : (cz : Int) ≤ (sz : Int) := by omega
        have hn0 : (0 : Int) ≤ (nl : Int) := by omega
        have hn1 : (nl : Int) < (NK : Int) := by have := HNK.out; omega
        obtain ⟨CT, hCT⟩ : ∃ x, x = im2.extract 0 cz := ⟨_, rfl⟩
        have hCTs : CT.size ≤ 1000000 := by rw [hCT, ByteArray.size_extract]; omega
        have mct : readV 128 CT F v.size = none := by rw [hCT, hcz, han, hnl]; exact M11.out
        have p0 := ureads_cell RP.out (show 0 < NK by have := HNK.out; omega)
        rw [HF0.out, add_zero_addr] at p0
        have hI64 := fun (n : Nat) (h : n ≤ 100000) => i64_nat n (by omega)
        have hW64 := fun (n : Nat) (h : n ≤ 100000) => wrap64_nat n (by omega)
        have hU32 := fun (n : Nat) (h : n ≤ 100000) => (show IntKind.u32.wrap (n : Int) = (n : Int) by rw [IntKind.wrap_u32]; omega)
        have b_al1 : al1 ≤ 100000 := by omega
        have b_sz : sz ≤ 100000 := by omega
        have b_wh : wh ≤ 100000 := by omega
        have b_wz : wz ≤ 100000 := by omega
        have b_wy : wy ≤ 100000 := by omega
        have b_lt : lt ≤ 100000 := by omega
        have b_al : al ≤ 100000 := by omega
        have b_nl : nl ≤ 100000 := by omega
        have b_df : df ≤ 100000 := by omega
        have b_df1 : df1 ≤ 100000 := by omega
        have b_dz : dz ≤ 100000 := by omega
        have b_cz : cz ≤ 100000 := by omega
        have HRc := fun w => hread_any 128 bad F v.size w hbads (by omega) (by have := HVs.out; omega)
        rw [mno, rd_none.1, rd_none.2.1, rd_none.2.2] at HRc
        have HRd := fun w => hread_any 128 CT F v.size w hCTs (by omega) (by have := HVs.out; omega)
        rw [mct, rd_none.1, rd_none.2.1, rd_none.2.2] at HRd
        have hCT' := hCT.symm
        have HXs := Lib.hid hsz
        have hsz' : im2.size = sz := hsz.symm
        clear hlt hal hal9 HS2 hsz hal1 hjj hjN hwh hwh9 hjl hwl hwz hwy hwys hblk hblks mok mbad hqq hqq9 hT hTs hTb mno hbad hE1 hE2 hE3 hE1s hE3s hbads hnl han hnl2 hdf hdf1 hdz hcz hCT hCTs mct
        have i_al1 := hI64 al1 b_al1
        have w_al1 := hW64 al1 b_al1
        have i_sz := hI64 sz b_sz
        have w_sz := hW64 sz b_sz
        have i_wh := hI64 wh b_wh
        have w_wh := hW64 wh b_wh
        have i_wz := hI64 wz b_wz
        have w_wz := hW64 wz b_wz
        have i_wy := hI64 wy b_wy
        have w_wy := hW64 wy b_wy
        have i_lt := hI64 lt b_lt
        have w_lt := hW64 lt b_lt
        have i_al := hI64 al b_al
        have w_al := hW64 al b_al
        have i_nl := hI64 nl b_nl
        have w_nl := hW64 nl b_nl
        have i_df1 := hI64 df1 b_df1
        have w_df1 := hW64 df1 b_df1
        have i_dz := hI64 dz b_dz
        have w_dz := hW64 dz b_dz
        have i_cz := hI64 cz b_cz
        have w_cz := hW64 cz b_cz
        have u_df := hU32 df b_df
        have i_df := hI64 df b_df
        have w_df := hW64 df b_df
        clear hI64 hW64 hU32 b_al1 b_sz b_wh b_wz b_wy b_lt b_al b_nl b_df b_df1 b_dz b_cz
        go_wp2_with fail
        refine (HPk _).mono ?_
        rintro e xd ⟨rfl, rfl⟩
        clear HPk
        go_upto_region 29 with fail
        refine wp_region_held_drew (S := fun _ => True) (by kernel_rfl) (trivial) (fun _ => ?_)
        have hHeld : True := trivial
        refine wpAnyH_takeL (i := 0) (v := ?_) rfl (by kernel_rfl) (by kernel_rfl) (by kernel_rfl) (fun _ _ _ h => h) (Or.inl ⟨by rfl, ?_⟩) (by exact trivial) ?_
        rotate_left
        · intro wz hSz; (try dsimp only at hSz); go_simp; (try with_reducible rfl)
        try simp only [Act.put, List.setIfInBounds_toArray, List.set_cons_zero, List.set_cons_succ]
        refine wpAnyH_takeL (i := 1) (v := ?_) rfl (by kernel_rfl) (by kernel_rfl) (by kernel_rfl) (fun _ _ _ h => h) (Or.inl ⟨by rfl, ?_⟩) (by exact trivial) ?_
        rotate_left
        · intro wz hSz; (try dsimp only at hSz); go_simp; (try with_reducible rfl)
        try simp only [Act.put, List.setIfInBounds_toArray, List.set_cons_zero, List.set_cons_succ]
        refine wpAnyH_takeL (i := 2) (v := ?_) rfl (by kernel_rfl) (by kernel_rfl) (by kernel_rfl) (fun _ _ _ h => h) (Or.inl ⟨by rfl, ?_⟩) (by exact trivial) ?_
        rotate_left
        · intro wz hSz; (try dsimp only at hSz); go_simp; (try with_reducible rfl)
        try simp only [Act.put, List.setIfInBounds_toArray, List.set_cons_zero, List.set_cons_succ]
        refine wpAnyH_takeL (i := 3) (v := ?_) rfl (by kernel_rfl) (by kernel_rfl) (by kernel_rfl) (fun _ _ _ h => h) (Or.inl ⟨by rfl, ?_⟩) (by exact trivial) ?_
        rotate_left
        · intro wz hSz; (try dsimp only at hSz); go_simp; (try with_reducible rfl)
        try simp only [Act.put, List.setIfInBounds_toArray, List.set_cons_zero, List.set_cons_succ]
        refine wpAnyH_takeL (i := 4) (v := ?_) rfl (by kernel_rfl) (by kernel_rfl) (by kernel_rfl) (fun _ _ _ h => h) (Or.inl ⟨by rfl, ?_⟩) (by exact trivial) ?_
        rotate_left
        · intro wz hSz; (try dsimp only at hSz); go_simp; (try with_reducible rfl)
        try simp only [Act.put, List.setIfInBounds_toArray, List.set_cons_zero, List.set_cons_succ]
        refine wpAnyH_takeL (i := 5) (v := ?_) rfl (by kernel_rfl) (by kernel_rfl) (by kernel_rfl) (fun _ _ _ h => h) (Or.inl ⟨by rfl, ?_⟩) (by exact trivial) ?_
        rotate_left
        · intro wz hSz; (try dsimp only at hSz); go_simp; (try with_reducible rfl)
        try simp only [Act.put, List.setIfInBounds_toArray, List.set_cons_zero, List.set_cons_succ]
        refine wpAnyH_takeL (i := 6) (v := ?_) rfl (by kernel_rfl) (by kernel_rfl) (by kernel_rfl) (fun _ _ _ h => h) (Or.inl ⟨by rfl, ?_⟩) (by exact trivial) ?_
        rotate_left
        · intro wz hSz; (try dsimp only at hSz); go_simp; (try with_reducible rfl)
        try simp only [Act.put, List.setIfInBounds_toArray, List.set_cons_zero, List.set_cons_succ]
        refine wpAnyH_takeL (i := 7) (v := ?_) rfl (by kernel_rfl) (by kernel_rfl) (by kernel_rfl) (fun _ _ _ h => h) (Or.inl ⟨by rfl, ?_⟩) (by exact trivial) ?_
        rotate_left
        · intro wz hSz; (try dsimp only at hSz); go_simp; (try with_reducible rfl)
        try simp only [Act.put, List.setIfInBounds_toArray, List.set_cons_zero, List.set_cons_succ]
        refine wpAnyH_takeL (i := 8) (v := ?_) rfl (by kernel_rfl) (by kernel_rfl) (by kernel_rfl) (fun _ _ _ h => h) (Or.inl ⟨by rfl, ?_⟩) (by exact trivial) ?_
        rotate_left
        · intro wz hSz; (try dsimp only at hSz); go_simp; (try with_reducible rfl)
        try simp only [Act.put, List.setIfInBounds_toArray, List.set_cons_zero, List.set_cons_succ]
        refine wpAnyH_takeL (i := 9) (v := ?_) rfl (by kernel_rfl) (by kernel_rfl) (by kernel_rfl) (fun _ _ _ h => h) (Or.inl ⟨by rfl, ?_⟩) (by exact trivial) ?_
        rotate_left
        · intro wz hSz; (try dsimp only at hSz); go_simp; (try with_reducible rfl)
        try simp only [Act.put, List.setIfInBounds_toArray, List.set_cons_zero, List.set_cons_succ]
        refine wpAnyH_takeL (i := 10) (v := ?_) rfl (by kernel_rfl) (by kernel_rfl) (by kernel_rfl) (fun _ _ _ h => h) (Or.inl ⟨by rfl, ?_⟩) (by exact trivial) ?_
        rotate_left
        · intro wz hSz; (try dsimp only at hSz); go_simp; (try with_reducible rfl)
        try simp only [Act.put, List.setIfInBounds_toArray, List.set_cons_zero, List.set_cons_succ]
        refine wpAnyH_takeL (i := 11) (v := ?_) rfl (by kernel_rfl) (by kernel_rfl) (by kernel_rfl) (fun _ _ _ h => h) (Or.inl ⟨by rfl, ?_⟩) (by exact trivial) ?_
        rotate_left
        · intro wz hSz; (try dsimp only at hSz); go_simp; (try with_reducible rfl)
        try simp only [Act.put, List.setIfInBounds_toArray, List.set_cons_zero, List.set_cons_succ]
        refine wpAnyH_takeL (i := 12) (v := ?_) rfl (by kernel_rfl) (by kernel_rfl) (by kernel_rfl) (fun _ _ _ h => h) (Or.inl ⟨by rfl, ?_⟩) (by exact trivial) ?_
        rotate_left
        · intro wz hSz; (try dsimp only at hSz); go_simp; (try with_reducible rfl)
        try simp only [Act.put, List.setIfInBounds_toArray, List.set_cons_zero, List.set_cons_succ]
        refine wpAnyH_takeL (i := 15) (v := ?_) rfl (by kernel_rfl) (by kernel_rfl) (by kernel_rfl) (fun _ _ _ h => h) (Or.inl ⟨by rfl, ?_⟩) (by exact trivial) ?_
        rotate_left
        · intro wz hSz; (try dsimp only at hSz); go_simp; (try with_reducible rfl)
        try simp only [Act.put, List.setIfInBounds_toArray, List.set_cons_zero, List.set_cons_succ]
        refine wpAnyH_takeL (i := 16) (v := ?_) rfl (by kernel_rfl) (by kernel_rfl) (by kernel_rfl) (fun _ _ _ h => h) (Or.inl ⟨by rfl, ?_⟩) (by exact trivial) ?_
        rotate_left
        · intro wz hSz; (try dsimp only at hSz); go_simp; (try with_reducible rfl)
        try simp only [Act.put, List.setIfInBounds_toArray, List.set_cons_zero, List.set_cons_succ]
        refine wpAnyH_takeL (i := 17) (v := ?_) rfl (by kernel_rfl) (by kernel_rfl) (by kernel_rfl) (fun _ _ _ h => h) (Or.inl ⟨by rfl, ?_⟩) (by exact trivial) ?_
        rotate_left
        · intro wz hSz; (try dsimp only at hSz); go_simp; (try with_reducible rfl)
        try simp only [Act.put, List.setIfInBounds_toArray, List.set_cons_zero, List.set_cons_succ]
        refine wpAnyH_takeL (i := 18) (v := ?_) rfl (by kernel_rfl) (by kernel_rfl) (by kernel_rfl) (fun _ _ _ h => h) (Or.inl ⟨by rfl, ?_⟩) (by exact trivial) ?_
        rotate_left
        · intro wz hSz; (try dsimp only at hSz); go_simp; (try with_reducible rfl)
        try simp only [Act.put, List.setIfInBounds_toArray, List.set_cons_zero, List.set_cons_succ]
        refine wpAnyH_takeL (i := 19) (v := ?_) rfl (by kernel_rfl) (by kernel_rfl) (by kernel_rfl) (fun _ _ _ h => h) (Or.inl ⟨by rfl, ?_⟩) (by exact trivial) ?_
        rotate_left
        · intro wz hSz; (try dsimp only at hSz); go_simp; (try with_reducible rfl)
        try simp only [Act.put, List.setIfInBounds_toArray, List.set_cons_zero, List.set_cons_succ]
        refine wpAnyH_ready (rs := [13]) (by kernel_rfl) (by simp) ?_
        refine AllReadyH.consL rfl (fun K hK => ?_) AllReadyH.nil
        go_simp
        refine (HTu _).mono ?_
        rintro e xe ⟨rfl, hb⟩
        refine hK.out _ _ (trivial) (fun hHeld => ?_)
        clear hK K
        try simp only [Act.put, List.setIfInBounds_toArray, List.set_cons_zero, List.set_cons_succ]
        refine wpAnyH_takeL (i := 14) (v := ?_) rfl (by kernel_rfl) (by kernel_rfl) (by kernel_rfl) (fun _ _ _ h => h) (Or.inl ⟨by rfl, ?_⟩) (by exact trivial) ?_
        rotate_left
        · intro wz hSz; (try dsimp only at hSz); go_simp; (try with_reducible rfl)
        try simp only [Act.put, List.setIfInBounds_toArray, List.set_cons_zero, List.set_cons_succ]
        refine wpAnyH_takeL (i := 20) (v := ?_) rfl (by kernel_rfl) (by kernel_rfl) (by kernel_rfl) (fun _ _ _ h => h) (Or.inl ⟨by rfl, ?_⟩) (by exact trivial) ?_
        rotate_left
        · intro wz hSz; (try dsimp only at hSz); go_simp; (try with_reducible rfl)
        try simp only [Act.put, List.setIfInBounds_toArray, List.set_cons_zero, List.set_cons_succ]
        refine wpAnyH_takeL (i := 21) (v := ?_) rfl (by kernel_rfl) (by kernel_rfl) (by kernel_rfl) (fun _ _ _ h => h) (Or.inl ⟨by rfl, ?_⟩) (by exact trivial) ?_
        rotate_left
        · intro wz hSz; (try dsimp only at hSz); go_simp; (try with_reducible rfl)
        try simp only [Act.put, List.setIfInBounds_toArray, List.set_cons_zero, List.set_cons_succ]
        refine wpAnyH_done (by kernel_rfl) ?_ _
        have hb2 : Below xc.heap.size xc xe := ((Below.refl _ _).drew).trans hb
        clear hb hHeld
        obtain ⟨ad', hea, hadb, -⟩ := ureads_at RP.out (show 0 < NK by have := HNK.out; omega)
        injection hea with hea
        subst hea
        rw [← add_zero_addr ad] at p0
        have q0 := cell_in p0 hb2 hadb
        have ql := cell_in pl hb2 hadb
        have qn := cell_in pn hb2 hadb
        rw [add_zero_addr] at q0
        have hab2 : ad.block < xe.heap.size := Nat.lt_of_lt_of_le hadb hb2.size
        replace HB := Lib.hid (HB.out.trans (hb2.mono HB.out.size))
        clear hb2 p0 pl pn pj hadb RP
        go_wp2_with fail
        refine (HRc _).mono ?_
        rintro e xf ⟨Bf, mf, df', rfl, -, hb⟩
        rw [← add_zero_addr ad] at q0
        have p0 := cell_in q0 hb hab2
        have pl := cell_in ql hb hab2
        have pn := cell_in qn hb hab2
        rw [add_zero_addr] at p0
        replace HB := Lib.hid (HB.out.trans (hb.mono HB.out.size))
        have hab4 := Nat.lt_of_lt_of_le hab2 hb.size
        clear hb q0 ql qn hab2 HRc
        have hab3 : ad.block < xf.heap.size := hab4
        go_upto_region 31 with fail
        refine wp_region_held_drew (S := fun wx => wx.cell? (ad.add lt) = some (.int .u32 al) ∧ wx.cell? (ad.add nl) = some (.int .u32 an) ∧ wx.cell? ad = some (.int .u32 F)) (by kernel_rfl) (⟨pl, pn, p0⟩) (fun _ => ?_)
        have hHeld := And.intro pl (And.intro pn p0)
        refine wpAnyH_takeL (i := 0) (v := ?_) rfl (by kernel_rfl) (by kernel_rfl) (by kernel_rfl) (fun _ _ _ h => h) (Or.inl ⟨by rfl, ?_⟩) (by exact hHeld) ?_
        rotate_left
        · intro wz hSz; (try dsimp only at hSz); obtain ⟨hza, hzb, hzc⟩ := hSz; go_simp; (try with_reducible rfl)
        try simp only [Act.put, List.setIfInBounds_toArray, List.set_cons_zero, List.set_cons_succ]
        refine wpAnyH_takeL (i := 1) (v := ?_) rfl (by kernel_rfl) (by kernel_rfl) (by kernel_rfl) (fun _ _ _ h => h) (Or.inl ⟨by rfl, ?_⟩) (by exact hHeld) ?_
        rotate_left
        · intro wz hSz; (try dsimp only at hSz); obtain ⟨hza, hzb, hzc⟩ := hSz; go_simp; (try with_reducible rfl)
        try simp only [Act.put, List.setIfInBounds_toArray, List.set_cons_zero, List.set_cons_succ]
        refine wpAnyH_takeL (i := 2) (v := ?_) rfl (by kernel_rfl) (by kernel_rfl) (by kernel_rfl) (fun _ _ _ h => h) (Or.inl ⟨by rfl, ?_⟩) (by exact hHeld) ?_
        rotate_left
        · intro wz hSz; (try dsimp only at hSz); obtain ⟨hza, hzb, hzc⟩ := hSz; go_simp; (try with_reducible rfl)
        try simp only [Act.put, List.setIfInBounds_toArray, List.set_cons_zero, List.set_cons_succ]
        refine wpAnyH_takeL (i := 3) (v := ?_) rfl (by kernel_rfl) (by kernel_rfl) (by kernel_rfl) (fun _ _ _ h => h) (Or.inl ⟨by rfl, ?_⟩) (by exact hHeld) ?_
        rotate_left
        · intro wz hSz; (try dsimp only at hSz); obtain ⟨hza, hzb, hzc⟩ := hSz; go_simp; (try with_reducible rfl)
        try simp only [Act.put, List.setIfInBounds_toArray, List.set_cons_zero, List.set_cons_succ]
        refine wpAnyH_takeL (i := 4) (v := ?_) rfl (by kernel_rfl) (by kernel_rfl) (by kernel_rfl) (fun _ _ _ h => h) (Or.inl ⟨by rfl, ?_⟩) (by exact hHeld) ?_
        rotate_left
        · intro wz hSz; (try dsimp only at hSz); obtain ⟨hza, hzb, hzc⟩ := hSz; go_simp; (try with_reducible rfl)
        try simp only [Act.put, List.setIfInBounds_toArray, List.set_cons_zero, List.set_cons_succ]
        refine wpAnyH_takeL (i := 5) (v := ?_) rfl (by kernel_rfl) (by kernel_rfl) (by kernel_rfl) (fun _ _ _ h => h) (Or.inl ⟨by rfl, ?_⟩) (by exact hHeld) ?_
        rotate_left
        · intro wz hSz; (try dsimp only at hSz); obtain ⟨hza, hzb, hzc⟩ := hSz; go_simp; (try with_reducible rfl)
        try simp only [Act.put, List.setIfInBounds_toArray, List.set_cons_zero, List.set_cons_succ]
        refine wpAnyH_takeL (i := 6) (v := ?_) rfl (by kernel_rfl) (by kernel_rfl) (by kernel_rfl) (fun _ _ _ h => h) (Or.inl ⟨by rfl, ?_⟩) (by exact hHeld) ?_
        rotate_left
        · intro wz hSz; (try dsimp only at hSz); obtain ⟨hza, hzb, hzc⟩ := hSz; go_simp; (try with_reducible rfl)
        try simp only [Act.put, List.setIfInBounds_toArray, List.set_cons_zero, List.set_cons_succ]
        refine wpAnyH_takeL (i := 7) (v := ?_) rfl (by kernel_rfl) (by kernel_rfl) (by kernel_rfl) (fun _ _ _ h => h) (Or.inl ⟨by rfl, ?_⟩) (by exact hHeld) ?_
        rotate_left
        · intro wz hSz; (try dsimp only at hSz); obtain ⟨hza, hzb, hzc⟩ := hSz; go_simp; (try with_reducible rfl)
        try simp only [Act.put, List.setIfInBounds_toArray, List.set_cons_zero, List.set_cons_succ]
        refine wpAnyH_takeL (i := 8) (v := ?_) rfl (by kernel_rfl) (by kernel_rfl) (by kernel_rfl) (fun _ _ _ h => h) (Or.inl ⟨by rfl, ?_⟩) (by exact hHeld) ?_
        rotate_left
        · intro wz hSz; (try dsimp only at hSz); obtain ⟨hza, hzb, hzc⟩ := hSz; go_simp; (try with_reducible rfl)
        try simp only [Act.put, List.setIfInBounds_toArray, List.set_cons_zero, List.set_cons_succ]
        refine wpAnyH_takeL (i := 9) (v := ?_) rfl (by kernel_rfl) (by kernel_rfl) (by kernel_rfl) (fun _ _ _ h => h) (Or.inl ⟨by rfl, ?_⟩) (by exact hHeld) ?_
        rotate_left
        · intro wz hSz; (try dsimp only at hSz); obtain ⟨hza, hzb, hzc⟩ := hSz; go_simp; (try with_reducible rfl)
        try simp only [Act.put, List.setIfInBounds_toArray, List.set_cons_zero, List.set_cons_succ]
        refine wpAnyH_takeL (i := 10) (v := ?_) rfl (by kernel_rfl) (by kernel_rfl) (by kernel_rfl) (fun _ _ _ h => h) (Or.inl ⟨by rfl, ?_⟩) (by exact hHeld) ?_
        rotate_left
        · intro wz hSz; (try dsimp only at hSz); obtain ⟨hza, hzb, hzc⟩ := hSz; go_simp; (try with_reducible rfl)
        try simp only [Act.put, List.setIfInBounds_toArray, List.set_cons_zero, List.set_cons_succ]
        refine wpAnyH_takeL (i := 11) (v := ?_) rfl (by kernel_rfl) (by kernel_rfl) (by kernel_rfl) (fun _ _ _ h => h) (Or.inl ⟨by rfl, ?_⟩) (by exact hHeld) ?_
        rotate_left
        · intro wz hSz; (try dsimp only at hSz); obtain ⟨hza, hzb, hzc⟩ := hSz; go_simp; (try with_reducible rfl)
        try simp only [Act.put, List.setIfInBounds_toArray, List.set_cons_zero, List.set_cons_succ]
        refine wpAnyH_takeL (i := 12) (v := ?_) rfl (by kernel_rfl) (by kernel_rfl) (by kernel_rfl) (fun _ _ _ h => h) (Or.inl ⟨by rfl, ?_⟩) (by exact hHeld) ?_
        rotate_left
        · intro wz hSz; (try dsimp only at hSz); obtain ⟨hza, hzb, hzc⟩ := hSz; go_simp; (try with_reducible rfl)
        try simp only [Act.put, List.setIfInBounds_toArray, List.set_cons_zero, List.set_cons_succ]
        refine wpAnyH_takeL (i := 13) (v := ?_) rfl (by kernel_rfl) (by kernel_rfl) (by kernel_rfl) (fun _ _ _ h => h) (Or.inl ⟨by rfl, ?_⟩) (by exact hHeld) ?_
        rotate_left
        · intro wz hSz; (try dsimp only at hSz); obtain ⟨hza, hzb, hzc⟩ := hSz; go_simp; (try with_reducible rfl)
        try simp only [Act.put, List.setIfInBounds_toArray, List.set_cons_zero, List.set_cons_succ]
        refine wpAnyH_takeL (i := 14) (v := ?_) rfl (by kernel_rfl) (by kernel_rfl) (by kernel_rfl) (fun _ _ _ h => h) (Or.inl ⟨by rfl, ?_⟩) (by exact hHeld) ?_
        rotate_left
        · intro wz hSz; (try dsimp only at hSz); obtain ⟨hza, hzb, hzc⟩ := hSz; go_simp; (try with_reducible rfl)
        try simp only [Act.put, List.setIfInBounds_toArray, List.set_cons_zero, List.set_cons_succ]
        refine wpAnyH_takeL (i := 15) (v := ?_) rfl (by kernel_rfl) (by kernel_rfl) (by kernel_rfl) (fun _ _ _ h => h) (Or.inl ⟨by rfl, ?_⟩) (by exact hHeld) ?_
        rotate_left
        · intro wz hSz; (try dsimp only at hSz); obtain ⟨hza, hzb, hzc⟩ := hSz; go_simp; (try with_reducible rfl)
        try simp only [Act.put, List.setIfInBounds_toArray, List.set_cons_zero, List.set_cons_succ]
        refine wpAnyH_takeL (i := 16) (v := ?_) rfl (by kernel_rfl) (by kernel_rfl) (by kernel_rfl) (fun _ _ _ h => h) (Or.inl ⟨by rfl, ?_⟩) (by exact hHeld) ?_
        rotate_left
        · intro wz hSz; (try dsimp only at hSz); obtain ⟨hza, hzb, hzc⟩ := hSz; go_simp; (try with_reducible rfl)
        try simp only [Act.put, List.setIfInBounds_toArray, List.set_cons_zero, List.set_cons_succ]
        refine wpAnyH_takeL (i := 17) (v := ?_) rfl (by kernel_rfl) (by kernel_rfl) (by kernel_rfl) (fun _ _ _ h => h) (Or.inl ⟨by rfl, ?_⟩) (by exact hHeld) ?_
        rotate_left
        · intro wz hSz; (try dsimp only at hSz); obtain ⟨hza, hzb, hzc⟩ := hSz; go_simp; (try with_reducible rfl)
        try simp only [Act.put, List.setIfInBounds_toArray, List.set_cons_zero, List.set_cons_succ]
        refine wpAnyH_takeL (i := 18) (v := ?_) rfl (by kernel_rfl) (by kernel_rfl) (by kernel_rfl) (fun _ _ _ h => h) (Or.inl ⟨by rfl, ?_⟩) (by exact hHeld) ?_
        rotate_left
        · intro wz hSz; (try dsimp only at hSz); obtain ⟨hza, hzb, hzc⟩ := hSz; go_simp; (try with_reducible rfl)
        try simp only [Act.put, List.setIfInBounds_toArray, List.set_cons_zero, List.set_cons_succ]
        refine wpAnyH_takeL (i := 19) (v := ?_) rfl (by kernel_rfl) (by kernel_rfl) (by kernel_rfl) (fun _ _ _ h => h) (Or.inl ⟨by rfl, ?_⟩) (by exact hHeld) ?_
        rotate_left
        · intro wz hSz; (try dsimp only at hSz); obtain ⟨hza, hzb, hzc⟩ := hSz; go_simp; (try with_reducible rfl)
        try simp only [Act.put, List.setIfInBounds_toArray, List.set_cons_zero, List.set_cons_succ]
        refine wpAnyH_takeL (i := 20) (v := ?_) rfl (by kernel_rfl) (by kernel_rfl) (by kernel_rfl) (fun _ _ _ h => h) (Or.inl ⟨by rfl, ?_⟩) (by exact hHeld) ?_
        rotate_left
        · intro wz hSz; (try dsimp only at hSz); obtain ⟨hza, hzb, hzc⟩ := hSz; go_simp; (try with_reducible rfl)
        try simp only [Act.put, List.setIfInBounds_toArray, List.set_cons_zero, List.set_cons_succ]
        refine wpAnyH_takeL (i := 21) (v := ?_) rfl (by kernel_rfl) (by kernel_rfl) (by kernel_rfl) (fun _ _ _ h => h) (Or.inl ⟨by rfl, ?_⟩) (by exact hHeld) ?_
        rotate_left
        · intro wz hSz; (try dsimp only at hSz); obtain ⟨hza, hzb, hzc⟩ := hSz; go_simp; (try with_reducible rfl)
        try simp only [Act.put, List.setIfInBounds_toArray, List.set_cons_zero, List.set_cons_succ]
        refine wpAnyH_takeL (i := 22) (v := ?_) rfl (by kernel_rfl) (by kernel_rfl) (by kernel_rfl) (fun _ _ _ h => h) (Or.inl ⟨by rfl, ?_⟩) (by exact hHeld) ?_
        rotate_left
        · intro wz hSz; (try dsimp only at hSz); obtain ⟨hza, hzb, hzc⟩ := hSz; go_simp; (try with_reducible rfl)
        try simp only [Act.put, List.setIfInBounds_toArray, List.set_cons_zero, List.set_cons_succ]
        refine wpAnyH_takeL (i := 23) (v := ?_) rfl (by kernel_rfl) (by kernel_rfl) (by kernel_rfl) (fun _ _ _ h => h) (Or.inl ⟨by rfl, ?_⟩) (by exact hHeld) ?_
        rotate_left
        · intro wz hSz; (try dsimp only at hSz); obtain ⟨hza, hzb, hzc⟩ := hSz; go_simp; (try with_reducible rfl)
        try simp only [Act.put, List.setIfInBounds_toArray, List.set_cons_zero, List.set_cons_succ]
        refine wpAnyH_takeL (i := 24) (v := ?_) rfl (by kernel_rfl) (by kernel_rfl) (by kernel_rfl) (fun _ _ _ h => h) (Or.inl ⟨by rfl, ?_⟩) (by exact hHeld) ?_
        rotate_left
        · intro wz hSz; (try dsimp only at hSz); obtain ⟨hza, hzb, hzc⟩ := hSz; go_simp; (try with_reducible rfl)
        try simp only [Act.put, List.setIfInBounds_toArray, List.set_cons_zero, List.set_cons_succ]
        refine wpAnyH_ready (rs := [25]) (by kernel_rfl) (by simp) ?_
        refine AllReadyH.consL rfl (fun K hK => ?_) AllReadyH.nil
        go_simp
        refine (HRd _).mono ?_
        rintro e xg ⟨Bg, mg, dg, rfl, -, hb⟩
        have hb2 : Below xf.heap.size xf xg := ((Below.refl _ _).drew).trans hb
        obtain ⟨hh1, hh2, hh3⟩ := hHeld
        refine hK.out _ _ ⟨(hb2.cell (by rw [block_add]; exact hab3)).trans hh1, (hb2.cell (by rw [block_add]; exact hab3)).trans hh2, (hb2.cell hab3).trans hh3⟩ (fun hHeld => ?_)
        clear hK K
        try simp only [Act.put, List.setIfInBounds_toArray, List.set_cons_zero, List.set_cons_succ]
        refine wpAnyH_takeL (i := 26) (v := ?_) rfl (by kernel_rfl) (by kernel_rfl) (by kernel_rfl) (fun _ _ _ h => h) (Or.inl ⟨by rfl, ?_⟩) (by exact hHeld) ?_
        rotate_left
        · intro wz hSz; (try dsimp only at hSz); go_simp; (try with_reducible rfl)
        try simp only [Act.put, List.setIfInBounds_toArray, List.set_cons_zero, List.set_cons_succ]
        refine wpAnyH_takeL (i := 27) (v := ?_) rfl (by kernel_rfl) (by kernel_rfl) (by kernel_rfl) (fun _ _ _ h => h) (Or.inl ⟨by rfl, ?_⟩) (by exact hHeld) ?_
        rotate_left
        · intro wz hSz; (try dsimp only at hSz); go_simp; (try with_reducible rfl)
        try simp only [Act.put, List.setIfInBounds_toArray, List.set_cons_zero, List.set_cons_succ]
        refine wpAnyH_takeL (i := 28) (v := ?_) rfl (by kernel_rfl) (by kernel_rfl) (by kernel_rfl) (fun _ _ _ h => h) (Or.inl ⟨by rfl, ?_⟩) (by exact hHeld) ?_
        rotate_left
        · intro wz hSz; (try dsimp only at hSz); go_simp; (try with_reducible rfl)
        try simp only [Act.put, List.setIfInBounds_toArray, List.set_cons_zero, List.set_cons_succ]
        refine wpAnyH_takeL (i := 29) (v := ?_) rfl (by kernel_rfl) (by kernel_rfl) (by kernel_rfl) (fun _ _ _ h => h) (Or.inl ⟨by rfl, ?_⟩) (by exact hHeld) ?_
        rotate_left
        · intro wz hSz; (try dsimp only at hSz); go_simp; (try with_reducible rfl)
        try simp only [Act.put, List.setIfInBounds_toArray, List.set_cons_zero, List.set_cons_succ]
        refine wpAnyH_takeL (i := 30) (v := ?_) rfl (by kernel_rfl) (by kernel_rfl) (by kernel_rfl) (fun _ _ _ h => h) (Or.inl ⟨by rfl, ?_⟩) (by exact hHeld) ?_
        rotate_left
        · intro wz hSz; (try dsimp only at hSz); go_simp; (try with_reducible rfl)
        try simp only [Act.put, List.setIfInBounds_toArray, List.set_cons_zero, List.set_cons_succ]
        refine wpAnyH_takeL (i := 31) (v := ?_) rfl (by kernel_rfl) (by kernel_rfl) (by kernel_rfl) (fun _ _ _ h => h) (Or.inl ⟨by rfl, ?_⟩) (by exact hHeld) ?_
        rotate_left
        · intro wz hSz; (try dsimp only at hSz); go_simp; (try with_reducible rfl)
        try simp only [Act.put, List.setIfInBounds_toArray, List.set_cons_zero, List.set_cons_succ]
        refine wpAnyH_takeL (i := 32) (v := ?_) rfl (by kernel_rfl) (by kernel_rfl) (by kernel_rfl) (fun _ _ _ h => h) (Or.inl ⟨by rfl, ?_⟩) (by exact hHeld) ?_
        rotate_left
        · intro wz hSz; (try dsimp only at hSz); go_simp; (try with_reducible rfl)
        try simp only [Act.put, List.setIfInBounds_toArray, List.set_cons_zero, List.set_cons_succ]
        refine wpAnyH_done (by kernel_rfl) ?_ _
        replace HB := Lib.hid (HB.out.trans (hb2.mono HB.out.size))
        clear hHeld hb hb2
        go_wp2_with fail
        go_ret
        exact ⟨rfl, HB.out⟩
      · have hz1 : decide ((0 : Int) < (K : Int)) = false := by simp; omega
        have hz1b : decide (0 < K) = false := by simp; omega
        obtain rfl : hd9 = 0 := by rw [HHd.out, nthU_out (by have := HPl.out; omega)]
        clear hK0
        go_wp2_with fail
        clear hz1 hz1b
        refine (HL9.out _).mono ?_
        intro e x9 hp9
        obtain ⟨B9, m9, d9, B10, m10, d10, rfl, hr9, hr10, hb⟩ := listpost_yes (show goodSize 128 = true from rfl) hp9
        clear hp9
        have R9 := Lib.hid hr9
        have R10 := Lib.hid hr10
        clear hr9 hr10
        replace HB := Lib.hid (HB.out.trans (hb.mono HB.out.size))
        replace HR := Lib.hid ((HR.out.below hb).more hb.size)
        replace RP := Lib.hid ((RP.out.below hb).more hb.size)
        replace R7 := Lib.hid ((R7.out.below hb).more hb.size)
        clear hb
        have heqv := fun w => str_noteq v w
        obtain rfl : N = m7 := (show (ps.take N).length = N by rw [List.length_take]; have := HPl.out; omega).symm.trans (ulen R7.out)
        obtain rfl : n2 = m9 := (ulen HR.out).symm.trans (ulen R9.out)
        obtain rfl : K = m10 := (show (ps.drop N).length = K by rw [List.length_drop]; have := HPl.out; omega).symm.trans (ulen R10.out)
        have hML : N ≤ maxLen ∧ n2 ≤ maxLen ∧ K ≤ maxLen := by have := HN2.out; unfold maxLen; omega
        have HML := Lib.hid hML
        clear hML
        go_wp2_with fail
        refine (sameU_yes B7 N d7 (some ad) c' (ps.take N) _ R7.out (HTd.out _ _ RP.out) HML.out.1).mono ?_
        rintro e xa ⟨rfl, qa, hq⟩
        have hb : Below x9.heap.size x9 xa := by rw [hq]; exact below_drewN (Below.refl _ _) qa
        clear hq
        replace HB := Lib.hid (HB.out.trans (hb.mono HB.out.size))
        replace HR := Lib.hid ((HR.out.below hb).more hb.size)
        replace RP := Lib.hid ((RP.out.below hb).more hb.size)
        replace R9 := Lib.hid ((R9.out.below hb).more hb.size)
        replace R10 := Lib.hid ((R10.out.below hb).more hb.size)
        clear hb
        go_wp2_with fail
        refine (sameU_yes B9 n2 d9 A2 c2 ns _ R9.out HR.out HML.out.2.1).mono ?_
        rintro e xb ⟨rfl, qb, hq⟩
        have hb : Below xa.heap.size xa xb := by rw [hq]; exact below_drewN (Below.refl _ _) qb
        clear hq
        replace HB := Lib.hid (HB.out.trans (hb.mono HB.out.size))
        replace RP := Lib.hid ((RP.out.below hb).more hb.size)
        replace R10 := Lib.hid ((R10.out.below hb).more hb.size)
        clear hb
        go_wp2_with fail
        refine (sameU_yes B10 K d10 X ck (ps.drop N) _ R10.out (HDd2.out _ _ RP.out) HML.out.2.2).mono ?_
        rintro e xc ⟨rfl, qc, hq⟩
        have hb : Below xb.heap.size xb xc := by rw [hq]; exact below_drewN (Below.refl _ _) qc
        clear hq
        replace HB := Lib.hid (HB.out.trans (hb.mono HB.out.size))
        replace RP := Lib.hid ((RP.out.below hb).more hb.size)
        clear hb
        obtain ⟨lt, hlt⟩ : ∃ x, x = NK - 1 := ⟨_, rfl⟩
        have y1 : (NK : Int) - 1 = (lt : Int) := by have := HNK.out; omega
        obtain ⟨al, hal⟩ : ∃ x, x = F + S * lt := ⟨_, rfl⟩
        have hal9 : al ≤ 11 + 3 * 9 := by rw [hal]; have h8 : S * lt ≤ 3 * 9 := Nat.mul_le_mul hS3 (by omega); omega
        have pl := ureads_cell RP.out (show lt < NK by have := HNK.out; omega)
        rw [HAt.out lt (by have := HNK.out; omega), ← hal] at pl
        have HS2 : im2.size = (al + 1) * 128 := by rw [M6.out, hal, hlt, HNK.out]
        obtain ⟨sz, hsz⟩ : ∃ x, x = im2.size := ⟨_, rfl⟩
        obtain ⟨al1, hal1⟩ : ∃ x, x = al + 1 := ⟨_, rfl⟩
        have y4 : (al : Int) + 1 = (al1 : Int) := by omega
        have y6 : (128 : Int) * (al1 : Int) = (sz : Int) := by omega
        obtain ⟨jj, hjj, hjN⟩ : ∃ j : Nat, at_ % (N : Int) = (j : Int) ∧ j < N := ⟨(at_ % (N : Int)).toNat, by have := Int.emod_nonneg at_ (show (N : Int) ≠ 0 by omega); omega, by have := Int.emod_nonneg at_ (show (N : Int) ≠ 0 by omega); have := Int.emod_lt_of_pos at_ (show (0 : Int) < (N : Int) by omega); omega⟩
        have HPk : ∀ w : World, Calls Tryz.prog 21 #[.int .i64 at_, .int .i64 (N : Int)] w fun e w' => e = .returned (.int .i64 (jj : Int)) ∧ w = w' := fun w => (pick_any at_ N w (by omega) (by omega)).mono (by rintro e w' ⟨rfl, rfl⟩; exact ⟨by rw [hjj], rfl⟩)
        obtain ⟨wh, hwh⟩ : ∃ x, x = F + S * jj := ⟨_, rfl⟩
        have hwh9 : wh ≤ 11 + 3 * 9 := by rw [hwh]; have h8 : S * jj ≤ 3 * 9 := Nat.mul_le_mul hS3 (by omega); omega
        have hjl : S * jj ≤ S * lt := Nat.mul_le_mul_left _ (by have := HNK.out; omega)
        have hwl : wh ≤ al := by omega
        have pj := ureads_cell RP.out (show jj < NK by have := HNK.out; omega)
        rw [HAt.out jj (by have := HNK.out; omega), ← hwh] at pj
        obtain ⟨wz, hwz⟩ : ∃ x, x = wh * 128 := ⟨_, rfl⟩
        obtain ⟨wy, hwy⟩ : ∃ x, x = wz + 128 := ⟨_, rfl⟩
        have v1 : (128 : Int) * (wh : Int) = (wz : Int) := by omega
        have v3 : (wz : Int) + 128 = (wy : Int) := by omega
        have hwys : wy ≤ sz := by omega
        have v5 : (0 : Int) ≤ (wz : Int) := by omega
        have v6 : (wz : Int) ≤ (wy : Int) := by omega
        have v7 : (wy : Int) ≤ (sz : Int) := by omega
        have v8 : (wz : Int) ≤ (sz : Int) := by omega
        have hj0 : (0 : Int) ≤ (jj : Int) := by omega
        have hj1 : (jj : Int) < (NK : Int) := by have := HNK.out; omega
        have hNKp : 0 < NK := by have := HNK.out; omega
        have hNKi : (0 : Int) < (NK : Int) := by omega
        have hl0 : (0 : Int) ≤ (lt : Int) := by omega
        have hl1 : (lt : Int) < (NK : Int) := by have := HNK.out; omega
        obtain ⟨blk, hblk⟩ : ∃ x, x = blkOf 128 im2 wh := ⟨_, rfl⟩
        have hblks : blk.size = 128 := by rw [hblk]; unfold blkOf; rw [ByteArray.size_extract]; omega
        obtain ⟨mok, mbad⟩ := M10.out jj hjN
        rw [← hwh] at mok mbad
        obtain ⟨qq, hqq⟩ : ∃ q : Nat, (q : Int) = 4 + at_ % ((121 : Nat) : Int) := ⟨(4 + at_ % ((121 : Nat) : Int)).toNat, by have := Int.emod_nonneg at_ (show ((121 : Nat) : Int) ≠ 0 by decide); omega⟩
        have hqq9 : qq + 4 ≤ 128 := by have := Int.emod_lt_of_pos at_ (show (0 : Int) < ((121 : Nat) : Int) by decide); omega
        obtain ⟨T, hT⟩ : ∃ x, x = turnB blk qq d := ⟨_, rfl⟩
        have hTs : T.size = 128 := by rw [hT, turnB_size, hblks]
        have hTb : blockOk 128 wh T = false := by rw [hT]; exact turn_bad 128 wh wh blk qq d (by rw [hblk]; exact mok) HDd.out HD0.out (by omega) (by rw [hblks]; exact hqq9)
        have mno := mbad T hTs hTb
        have HTu : ∀ w : World, Calls Tryz.prog 22 #[.string blk, .int .i64 at_, .int .u32 d] w fun e w' => e = .returned (.string T) ∧ Below w.heap.size w w' := fun w => turned_any blk at_ d qq T w (by omega) (by omega) HDd.out (by rw [hblks]; exact hqq) hT
        obtain ⟨bad, hbad⟩ : ∃ x, x = writeB 128 wh T im2 := ⟨_, rfl⟩
        rw [← hbad] at mno
        have hcat : im2.extract 0 wz ++ T ++ im2.extract wy im2.size = bad := by rw [hbad, hwy]; exact wr_sameZ hTs hwz (by omega)
        have hex : im2.extract wz wy = blk := by rw [hblk, hwy, hwz]; rfl
        obtain ⟨E1, hE1⟩ : ∃ x, x = im2.extract 0 wz := ⟨_, rfl⟩
        obtain ⟨E3, hE3⟩ : ∃ x, x = im2.extract wy im2.size := ⟨_, rfl⟩
        have hE1s : E1.size ≤ 10000 := by rw [hE1, ByteArray.size_extract]; omega
        have hE3s : E3.size ≤ 10000 := by rw [hE3, ByteArray.size_extract]; omega
        have hbads : bad.size ≤ 1000000 := by rw [← hcat, ByteArray.size_append, ByteArray.size_append, hTs, ← hE1, ← hE3]; omega
        rw [← hE1, ← hE3] at hcat
        obtain ⟨E2, hE2⟩ : ∃ x, x = E1 ++ T := ⟨_, rfl⟩
        have hc1 : ¬ (9223372036854775807 < E1.size + T.size) := by omega
        have hc2 : ¬ (9223372036854775807 < E2.size + E3.size) := by rw [hE2, ByteArray.size_append]; omega
        rw [← hE2] at hcat
        have hX1 := hE1.symm
        have hX2 := hE2.symm
        have hX3 := hE3.symm
        rw [← hsz] at hX3
        obtain ⟨nl, hnl⟩ : ∃ x, x = N - 1 := ⟨_, rfl⟩
        have z3 : (N : Int) - 1 = (nl : Int) := by omega
        obtain ⟨an, han⟩ : ∃ x, x = F + S * nl := ⟨_, rfl⟩
        have pn := ureads_cell RP.out (show nl < NK by have := HNK.out; omega)
        rw [HAt.out nl (by have := HNK.out; omega), ← han] at pn
        have hnl2 : S * nl ≤ S * lt := Nat.mul_le_mul_left _ (by have := HNK.out; omega)
        obtain ⟨df, hdf⟩ : ∃ x, x = al - an := ⟨_, rfl⟩
        have z5 : (al : Int) - (an : Int) = (df : Int) := by omega
        obtain ⟨df1, hdf1⟩ : ∃ x, x = df + 1 := ⟨_, rfl⟩
        have z6 : (df : Int) + 1 = (df1 : Int) := by omega
        obtain ⟨dz, hdz⟩ : ∃ x, x = df1 * 128 := ⟨_, rfl⟩
        have z7 : (128 : Int) * (df1 : Int) = (dz : Int) := by omega
        obtain ⟨cz, hcz⟩ : ∃ x, x = an * 128 := ⟨_, rfl⟩
        have z8 : (sz : Int) - (dz : Int) = (cz : Int) := by omega
        have z9 : (0 : Int) ≤ (cz : Int) := by omega
        have z10 : (cz : Int) ≤ (sz : Int) := by omega
        have hn0 : (0 : Int) ≤ (nl : Int) := by omega
        have hn1 : (nl : Int) < (NK : Int) := by have := HNK.out; omega
        obtain ⟨CT, hCT⟩ : ∃ x, x = im2.extract 0 cz := ⟨_, rfl⟩
        have hCTs : CT.size ≤ 1000000 := by rw [hCT, ByteArray.size_extract]; omega
        have mct : readV 128 CT F v.size = none := by rw [hCT, hcz, han, hnl]; exact M11.out
        have p0 := ureads_cell RP.out (show 0 < NK by have := HNK.out; omega)
        rw [HF0.out, add_zero_addr] at p0
        have hI64 := fun (n : Nat) (h : n ≤ 100000) => i64_nat n (by omega)
        have hW64 := fun (n : Nat) (h : n ≤ 100000) => wrap64_nat n (by omega)
        have hU32 := fun (n : Nat) (h : n ≤ 100000) => (show IntKind.u32.wrap (n : Int) = (n : Int) by rw [IntKind.wrap_u32]; omega)
        have b_al1 : al1 ≤ 100000 := by omega
        have b_sz : sz ≤ 100000 := by omega
        have b_wh : wh ≤ 100000 := by omega
        have b_wz : wz ≤ 100000 := by omega
        have b_wy : wy ≤ 100000 := by omega
        have b_lt : lt ≤ 100000 := by omega
        have b_al : al ≤ 100000 := by omega
        have b_nl : nl ≤ 100000 := by omega
        have b_df : df ≤ 100000 := by omega
        have b_df1 : df1 ≤ 100000 := by omega
        have b_dz : dz ≤ 100000 := by omega
        have b_cz : cz ≤ 100000 := by omega
        have HRc := fun w => hread_any 128 bad F v.size w hbads (by omega) (by have := HVs.out; omega)
        rw [mno, rd_none.1, rd_none.2.1, rd_none.2.2] at HRc
        have HRd := fun w => hread_any 128 CT F v.size w hCTs (by omega) (by have := HVs.out; omega)
        rw [mct, rd_none.1, rd_none.2.1, rd_none.2.2] at HRd
        have hCT' := hCT.symm
        have HXs := Lib.hid hsz
        have hsz' : im2.size = sz := hsz.symm
        clear hlt hal hal9 HS2 hsz hal1 hjj hjN hwh hwh9 hjl hwl hwz hwy hwys hblk hblks mok mbad hqq hqq9 hT hTs hTb mno hbad hE1 hE2 hE3 hE1s hE3s hbads hnl han hnl2 hdf hdf1 hdz hcz hCT hCTs mct
        have i_al1 := hI64 al1 b_al1
        have w_al1 := hW64 al1 b_al1
        have i_sz := hI64 sz b_sz
        have w_sz := hW64 sz b_sz
        have i_wh := hI64 wh b_wh
        have w_wh := hW64 wh b_wh
        have i_wz := hI64 wz b_wz
        have w_wz := hW64 wz b_wz
        have i_wy := hI64 wy b_wy
        have w_wy := hW64 wy b_wy
        have i_lt := hI64 lt b_lt
        have w_lt := hW64 lt b_lt
        have i_al := hI64 al b_al
        have w_al := hW64 al b_al
        have i_nl := hI64 nl b_nl
        have w_nl := hW64 nl b_nl
        have i_df1 := hI64 df1 b_df1
        have w_df1 := hW64 df1 b_df1
        have i_dz := hI64 dz b_dz
        have w_dz := hW64 dz b_dz
        have i_cz := hI64 cz b_cz
        have w_cz := hW64 cz b_cz
        have u_df := hU32 df b_df
        have i_df := hI64 df b_df
        have w_df := hW64 df b_df
        clear hI64 hW64 hU32 b_al1 b_sz b_wh b_wz b_wy b_lt b_al b_nl b_df b_df1 b_dz b_cz
        go_wp2_with fail
        refine (HPk _).mono ?_
        rintro e xd ⟨rfl, rfl⟩
        clear HPk
        go_upto_region 29 with fail
        refine wp_region_held_drew (S := fun _ => True) (by kernel_rfl) (trivial) (fun _ => ?_)
        have hHeld : True := trivial
        refine wpAnyH_takeL (i := 0) (v := ?_) rfl (by kernel_rfl) (by kernel_rfl) (by kernel_rfl) (fun _ _ _ h => h) (Or.inl ⟨by rfl, ?_⟩) (by exact trivial) ?_
        rotate_left
        · intro wz hSz; (try dsimp only at hSz); go_simp; (try with_reducible rfl)
        try simp only [Act.put, List.setIfInBounds_toArray, List.set_cons_zero, List.set_cons_succ]
        refine wpAnyH_takeL (i := 1) (v := ?_) rfl (by kernel_rfl) (by kernel_rfl) (by kernel_rfl) (fun _ _ _ h => h) (Or.inl ⟨by rfl, ?_⟩) (by exact trivial) ?_
        rotate_left
        · intro wz hSz; (try dsimp only at hSz); go_simp; (try with_reducible rfl)
        try simp only [Act.put, List.setIfInBounds_toArray, List.set_cons_zero, List.set_cons_succ]
        refine wpAnyH_takeL (i := 2) (v := ?_) rfl (by kernel_rfl) (by kernel_rfl) (by kernel_rfl) (fun _ _ _ h => h) (Or.inl ⟨by rfl, ?_⟩) (by exact trivial) ?_
        rotate_left
        · intro wz hSz; (try dsimp only at hSz); go_simp; (try with_reducible rfl)
        try simp only [Act.put, List.setIfInBounds_toArray, List.set_cons_zero, List.set_cons_succ]
        refine wpAnyH_takeL (i := 3) (v := ?_) rfl (by kernel_rfl) (by kernel_rfl) (by kernel_rfl) (fun _ _ _ h => h) (Or.inl ⟨by rfl, ?_⟩) (by exact trivial) ?_
        rotate_left
        · intro wz hSz; (try dsimp only at hSz); go_simp; (try with_reducible rfl)
        try simp only [Act.put, List.setIfInBounds_toArray, List.set_cons_zero, List.set_cons_succ]
        refine wpAnyH_takeL (i := 4) (v := ?_) rfl (by kernel_rfl) (by kernel_rfl) (by kernel_rfl) (fun _ _ _ h => h) (Or.inl ⟨by rfl, ?_⟩) (by exact trivial) ?_
        rotate_left
        · intro wz hSz; (try dsimp only at hSz); go_simp; (try with_reducible rfl)
        try simp only [Act.put, List.setIfInBounds_toArray, List.set_cons_zero, List.set_cons_succ]
        refine wpAnyH_takeL (i := 5) (v := ?_) rfl (by kernel_rfl) (by kernel_rfl) (by kernel_rfl) (fun _ _ _ h => h) (Or.inl ⟨by rfl, ?_⟩) (by exact trivial) ?_
        rotate_left
        · intro wz hSz; (try dsimp only at hSz); go_simp; (try with_reducible rfl)
        try simp only [Act.put, List.setIfInBounds_toArray, List.set_cons_zero, List.set_cons_succ]
        refine wpAnyH_takeL (i := 6) (v := ?_) rfl (by kernel_rfl) (by kernel_rfl) (by kernel_rfl) (fun _ _ _ h => h) (Or.inl ⟨by rfl, ?_⟩) (by exact trivial) ?_
        rotate_left
        · intro wz hSz; (try dsimp only at hSz); go_simp; (try with_reducible rfl)
        try simp only [Act.put, List.setIfInBounds_toArray, List.set_cons_zero, List.set_cons_succ]
        refine wpAnyH_takeL (i := 7) (v := ?_) rfl (by kernel_rfl) (by kernel_rfl) (by kernel_rfl) (fun _ _ _ h => h) (Or.inl ⟨by rfl, ?_⟩) (by exact trivial) ?_
        rotate_left
        · intro wz hSz; (try dsimp only at hSz); go_simp; (try with_reducible rfl)
        try simp only [Act.put, List.setIfInBounds_toArray, List.set_cons_zero, List.set_cons_succ]
        refine wpAnyH_takeL (i := 8) (v := ?_) rfl (by kernel_rfl) (by kernel_rfl) (by kernel_rfl) (fun _ _ _ h => h) (Or.inl ⟨by rfl, ?_⟩) (by exact trivial) ?_
        rotate_left
        · intro wz hSz; (try dsimp only at hSz); go_simp; (try with_reducible rfl)
        try simp only [Act.put, List.setIfInBounds_toArray, List.set_cons_zero, List.set_cons_succ]
        refine wpAnyH_takeL (i := 9) (v := ?_) rfl (by kernel_rfl) (by kernel_rfl) (by kernel_rfl) (fun _ _ _ h => h) (Or.inl ⟨by rfl, ?_⟩) (by exact trivial) ?_
        rotate_left
        · intro wz hSz; (try dsimp only at hSz); go_simp; (try with_reducible rfl)
        try simp only [Act.put, List.setIfInBounds_toArray, List.set_cons_zero, List.set_cons_succ]
        refine wpAnyH_takeL (i := 10) (v := ?_) rfl (by kernel_rfl) (by kernel_rfl) (by kernel_rfl) (fun _ _ _ h => h) (Or.inl ⟨by rfl, ?_⟩) (by exact trivial) ?_
        rotate_left
        · intro wz hSz; (try dsimp only at hSz); go_simp; (try with_reducible rfl)
        try simp only [Act.put, List.setIfInBounds_toArray, List.set_cons_zero, List.set_cons_succ]
        refine wpAnyH_takeL (i := 11) (v := ?_) rfl (by kernel_rfl) (by kernel_rfl) (by kernel_rfl) (fun _ _ _ h => h) (Or.inl ⟨by rfl, ?_⟩) (by exact trivial) ?_
        rotate_left
        · intro wz hSz; (try dsimp only at hSz); go_simp; (try with_reducible rfl)
        try simp only [Act.put, List.setIfInBounds_toArray, List.set_cons_zero, List.set_cons_succ]
        refine wpAnyH_takeL (i := 12) (v := ?_) rfl (by kernel_rfl) (by kernel_rfl) (by kernel_rfl) (fun _ _ _ h => h) (Or.inl ⟨by rfl, ?_⟩) (by exact trivial) ?_
        rotate_left
        · intro wz hSz; (try dsimp only at hSz); go_simp; (try with_reducible rfl)
        try simp only [Act.put, List.setIfInBounds_toArray, List.set_cons_zero, List.set_cons_succ]
        refine wpAnyH_takeL (i := 15) (v := ?_) rfl (by kernel_rfl) (by kernel_rfl) (by kernel_rfl) (fun _ _ _ h => h) (Or.inl ⟨by rfl, ?_⟩) (by exact trivial) ?_
        rotate_left
        · intro wz hSz; (try dsimp only at hSz); go_simp; (try with_reducible rfl)
        try simp only [Act.put, List.setIfInBounds_toArray, List.set_cons_zero, List.set_cons_succ]
        refine wpAnyH_takeL (i := 16) (v := ?_) rfl (by kernel_rfl) (by kernel_rfl) (by kernel_rfl) (fun _ _ _ h => h) (Or.inl ⟨by rfl, ?_⟩) (by exact trivial) ?_
        rotate_left
        · intro wz hSz; (try dsimp only at hSz); go_simp; (try with_reducible rfl)
        try simp only [Act.put, List.setIfInBounds_toArray, List.set_cons_zero, List.set_cons_succ]
        refine wpAnyH_takeL (i := 17) (v := ?_) rfl (by kernel_rfl) (by kernel_rfl) (by kernel_rfl) (fun _ _ _ h => h) (Or.inl ⟨by rfl, ?_⟩) (by exact trivial) ?_
        rotate_left
        · intro wz hSz; (try dsimp only at hSz); go_simp; (try with_reducible rfl)
        try simp only [Act.put, List.setIfInBounds_toArray, List.set_cons_zero, List.set_cons_succ]
        refine wpAnyH_takeL (i := 18) (v := ?_) rfl (by kernel_rfl) (by kernel_rfl) (by kernel_rfl) (fun _ _ _ h => h) (Or.inl ⟨by rfl, ?_⟩) (by exact trivial) ?_
        rotate_left
        · intro wz hSz; (try dsimp only at hSz); go_simp; (try with_reducible rfl)
        try simp only [Act.put, List.setIfInBounds_toArray, List.set_cons_zero, List.set_cons_succ]
        refine wpAnyH_takeL (i := 19) (v := ?_) rfl (by kernel_rfl) (by kernel_rfl) (by kernel_rfl) (fun _ _ _ h => h) (Or.inl ⟨by rfl, ?_⟩) (by exact trivial) ?_
        rotate_left
        · intro wz hSz; (try dsimp only at hSz); go_simp; (try with_reducible rfl)
        try simp only [Act.put, List.setIfInBounds_toArray, List.set_cons_zero, List.set_cons_succ]
        refine wpAnyH_ready (rs := [13]) (by kernel_rfl) (by simp) ?_
        refine AllReadyH.consL rfl (fun K hK => ?_) AllReadyH.nil
        go_simp
        refine (HTu _).mono ?_
        rintro e xe ⟨rfl, hb⟩
        refine hK.out _ _ (trivial) (fun hHeld => ?_)
        clear hK K
        try simp only [Act.put, List.setIfInBounds_toArray, List.set_cons_zero, List.set_cons_succ]
        refine wpAnyH_takeL (i := 14) (v := ?_) rfl (by kernel_rfl) (by kernel_rfl) (by kernel_rfl) (fun _ _ _ h => h) (Or.inl ⟨by rfl, ?_⟩) (by exact trivial) ?_
        rotate_left
        · intro wz hSz; (try dsimp only at hSz); go_simp; (try with_reducible rfl)
        try simp only [Act.put, List.setIfInBounds_toArray, List.set_cons_zero, List.set_cons_succ]
        refine wpAnyH_takeL (i := 20) (v := ?_) rfl (by kernel_rfl) (by kernel_rfl) (by kernel_rfl) (fun _ _ _ h => h) (Or.inl ⟨by rfl, ?_⟩) (by exact trivial) ?_
        rotate_left
        · intro wz hSz; (try dsimp only at hSz); go_simp; (try with_reducible rfl)
        try simp only [Act.put, List.setIfInBounds_toArray, List.set_cons_zero, List.set_cons_succ]
        refine wpAnyH_takeL (i := 21) (v := ?_) rfl (by kernel_rfl) (by kernel_rfl) (by kernel_rfl) (fun _ _ _ h => h) (Or.inl ⟨by rfl, ?_⟩) (by exact trivial) ?_
        rotate_left
        · intro wz hSz; (try dsimp only at hSz); go_simp; (try with_reducible rfl)
        try simp only [Act.put, List.setIfInBounds_toArray, List.set_cons_zero, List.set_cons_succ]
        refine wpAnyH_done (by kernel_rfl) ?_ _
        have hb2 : Below xc.heap.size xc xe := ((Below.refl _ _).drew).trans hb
        clear hb hHeld
        obtain ⟨ad', hea, hadb, -⟩ := ureads_at RP.out (show 0 < NK by have := HNK.out; omega)
        injection hea with hea
        subst hea
        rw [← add_zero_addr ad] at p0
        have q0 := cell_in p0 hb2 hadb
        have ql := cell_in pl hb2 hadb
        have qn := cell_in pn hb2 hadb
        rw [add_zero_addr] at q0
        have hab2 : ad.block < xe.heap.size := Nat.lt_of_lt_of_le hadb hb2.size
        replace HB := Lib.hid (HB.out.trans (hb2.mono HB.out.size))
        clear hb2 p0 pl pn pj hadb RP
        go_wp2_with fail
        refine (HRc _).mono ?_
        rintro e xf ⟨Bf, mf, df', rfl, -, hb⟩
        rw [← add_zero_addr ad] at q0
        have p0 := cell_in q0 hb hab2
        have pl := cell_in ql hb hab2
        have pn := cell_in qn hb hab2
        rw [add_zero_addr] at p0
        replace HB := Lib.hid (HB.out.trans (hb.mono HB.out.size))
        have hab4 := Nat.lt_of_lt_of_le hab2 hb.size
        clear hb q0 ql qn hab2 HRc
        have hab3 : ad.block < xf.heap.size := hab4
        go_upto_region 31 with fail
        refine wp_region_held_drew (S := fun wx => wx.cell? (ad.add lt) = some (.int .u32 al) ∧ wx.cell? (ad.add nl) = some (.int .u32 an) ∧ wx.cell? ad = some (.int .u32 F)) (by kernel_rfl) (⟨pl, pn, p0⟩) (fun _ => ?_)
        have hHeld := And.intro pl (And.intro pn p0)
        refine wpAnyH_takeL (i := 0) (v := ?_) rfl (by kernel_rfl) (by kernel_rfl) (by kernel_rfl) (fun _ _ _ h => h) (Or.inl ⟨by rfl, ?_⟩) (by exact hHeld) ?_
        rotate_left
        · intro wz hSz; (try dsimp only at hSz); obtain ⟨hza, hzb, hzc⟩ := hSz; go_simp; (try with_reducible rfl)
        try simp only [Act.put, List.setIfInBounds_toArray, List.set_cons_zero, List.set_cons_succ]
        refine wpAnyH_takeL (i := 1) (v := ?_) rfl (by kernel_rfl) (by kernel_rfl) (by kernel_rfl) (fun _ _ _ h => h) (Or.inl ⟨by rfl, ?_⟩) (by exact hHeld) ?_
        rotate_left
        · intro wz hSz; (try dsimp only at hSz); obtain ⟨hza, hzb, hzc⟩ := hSz; go_simp; (try with_reducible rfl)
        try simp only [Act.put, List.setIfInBounds_toArray, List.set_cons_zero, List.set_cons_succ]
        refine wpAnyH_takeL (i := 2) (v := ?_) rfl (by kernel_rfl) (by kernel_rfl) (by kernel_rfl) (fun _ _ _ h => h) (Or.inl ⟨by rfl, ?_⟩) (by exact hHeld) ?_
        rotate_left
        · intro wz hSz; (try dsimp only at hSz); obtain ⟨hza, hzb, hzc⟩ := hSz; go_simp; (try with_reducible rfl)
        try simp only [Act.put, List.setIfInBounds_toArray, List.set_cons_zero, List.set_cons_succ]
        refine wpAnyH_takeL (i := 3) (v := ?_) rfl (by kernel_rfl) (by kernel_rfl) (by kernel_rfl) (fun _ _ _ h => h) (Or.inl ⟨by rfl, ?_⟩) (by exact hHeld) ?_
        rotate_left
        · intro wz hSz; (try dsimp only at hSz); obtain ⟨hza, hzb, hzc⟩ := hSz; go_simp; (try with_reducible rfl)
        try simp only [Act.put, List.setIfInBounds_toArray, List.set_cons_zero, List.set_cons_succ]
        refine wpAnyH_takeL (i := 4) (v := ?_) rfl (by kernel_rfl) (by kernel_rfl) (by kernel_rfl) (fun _ _ _ h => h) (Or.inl ⟨by rfl, ?_⟩) (by exact hHeld) ?_
        rotate_left
        · intro wz hSz; (try dsimp only at hSz); obtain ⟨hza, hzb, hzc⟩ := hSz; go_simp; (try with_reducible rfl)
        try simp only [Act.put, List.setIfInBounds_toArray, List.set_cons_zero, List.set_cons_succ]
        refine wpAnyH_takeL (i := 5) (v := ?_) rfl (by kernel_rfl) (by kernel_rfl) (by kernel_rfl) (fun _ _ _ h => h) (Or.inl ⟨by rfl, ?_⟩) (by exact hHeld) ?_
        rotate_left
        · intro wz hSz; (try dsimp only at hSz); obtain ⟨hza, hzb, hzc⟩ := hSz; go_simp; (try with_reducible rfl)
        try simp only [Act.put, List.setIfInBounds_toArray, List.set_cons_zero, List.set_cons_succ]
        refine wpAnyH_takeL (i := 6) (v := ?_) rfl (by kernel_rfl) (by kernel_rfl) (by kernel_rfl) (fun _ _ _ h => h) (Or.inl ⟨by rfl, ?_⟩) (by exact hHeld) ?_
        rotate_left
        · intro wz hSz; (try dsimp only at hSz); obtain ⟨hza, hzb, hzc⟩ := hSz; go_simp; (try with_reducible rfl)
        try simp only [Act.put, List.setIfInBounds_toArray, List.set_cons_zero, List.set_cons_succ]
        refine wpAnyH_takeL (i := 7) (v := ?_) rfl (by kernel_rfl) (by kernel_rfl) (by kernel_rfl) (fun _ _ _ h => h) (Or.inl ⟨by rfl, ?_⟩) (by exact hHeld) ?_
        rotate_left
        · intro wz hSz; (try dsimp only at hSz); obtain ⟨hza, hzb, hzc⟩ := hSz; go_simp; (try with_reducible rfl)
        try simp only [Act.put, List.setIfInBounds_toArray, List.set_cons_zero, List.set_cons_succ]
        refine wpAnyH_takeL (i := 8) (v := ?_) rfl (by kernel_rfl) (by kernel_rfl) (by kernel_rfl) (fun _ _ _ h => h) (Or.inl ⟨by rfl, ?_⟩) (by exact hHeld) ?_
        rotate_left
        · intro wz hSz; (try dsimp only at hSz); obtain ⟨hza, hzb, hzc⟩ := hSz; go_simp; (try with_reducible rfl)
        try simp only [Act.put, List.setIfInBounds_toArray, List.set_cons_zero, List.set_cons_succ]
        refine wpAnyH_takeL (i := 9) (v := ?_) rfl (by kernel_rfl) (by kernel_rfl) (by kernel_rfl) (fun _ _ _ h => h) (Or.inl ⟨by rfl, ?_⟩) (by exact hHeld) ?_
        rotate_left
        · intro wz hSz; (try dsimp only at hSz); obtain ⟨hza, hzb, hzc⟩ := hSz; go_simp; (try with_reducible rfl)
        try simp only [Act.put, List.setIfInBounds_toArray, List.set_cons_zero, List.set_cons_succ]
        refine wpAnyH_takeL (i := 10) (v := ?_) rfl (by kernel_rfl) (by kernel_rfl) (by kernel_rfl) (fun _ _ _ h => h) (Or.inl ⟨by rfl, ?_⟩) (by exact hHeld) ?_
        rotate_left
        · intro wz hSz; (try dsimp only at hSz); obtain ⟨hza, hzb, hzc⟩ := hSz; go_simp; (try with_reducible rfl)
        try simp only [Act.put, List.setIfInBounds_toArray, List.set_cons_zero, List.set_cons_succ]
        refine wpAnyH_takeL (i := 11) (v := ?_) rfl (by kernel_rfl) (by kernel_rfl) (by kernel_rfl) (fun _ _ _ h => h) (Or.inl ⟨by rfl, ?_⟩) (by exact hHeld) ?_
        rotate_left
        · intro wz hSz; (try dsimp only at hSz); obtain ⟨hza, hzb, hzc⟩ := hSz; go_simp; (try with_reducible rfl)
        try simp only [Act.put, List.setIfInBounds_toArray, List.set_cons_zero, List.set_cons_succ]
        refine wpAnyH_takeL (i := 12) (v := ?_) rfl (by kernel_rfl) (by kernel_rfl) (by kernel_rfl) (fun _ _ _ h => h) (Or.inl ⟨by rfl, ?_⟩) (by exact hHeld) ?_
        rotate_left
        · intro wz hSz; (try dsimp only at hSz); obtain ⟨hza, hzb, hzc⟩ := hSz; go_simp; (try with_reducible rfl)
        try simp only [Act.put, List.setIfInBounds_toArray, List.set_cons_zero, List.set_cons_succ]
        refine wpAnyH_takeL (i := 13) (v := ?_) rfl (by kernel_rfl) (by kernel_rfl) (by kernel_rfl) (fun _ _ _ h => h) (Or.inl ⟨by rfl, ?_⟩) (by exact hHeld) ?_
        rotate_left
        · intro wz hSz; (try dsimp only at hSz); obtain ⟨hza, hzb, hzc⟩ := hSz; go_simp; (try with_reducible rfl)
        try simp only [Act.put, List.setIfInBounds_toArray, List.set_cons_zero, List.set_cons_succ]
        refine wpAnyH_takeL (i := 14) (v := ?_) rfl (by kernel_rfl) (by kernel_rfl) (by kernel_rfl) (fun _ _ _ h => h) (Or.inl ⟨by rfl, ?_⟩) (by exact hHeld) ?_
        rotate_left
        · intro wz hSz; (try dsimp only at hSz); obtain ⟨hza, hzb, hzc⟩ := hSz; go_simp; (try with_reducible rfl)
        try simp only [Act.put, List.setIfInBounds_toArray, List.set_cons_zero, List.set_cons_succ]
        refine wpAnyH_takeL (i := 15) (v := ?_) rfl (by kernel_rfl) (by kernel_rfl) (by kernel_rfl) (fun _ _ _ h => h) (Or.inl ⟨by rfl, ?_⟩) (by exact hHeld) ?_
        rotate_left
        · intro wz hSz; (try dsimp only at hSz); obtain ⟨hza, hzb, hzc⟩ := hSz; go_simp; (try with_reducible rfl)
        try simp only [Act.put, List.setIfInBounds_toArray, List.set_cons_zero, List.set_cons_succ]
        refine wpAnyH_takeL (i := 16) (v := ?_) rfl (by kernel_rfl) (by kernel_rfl) (by kernel_rfl) (fun _ _ _ h => h) (Or.inl ⟨by rfl, ?_⟩) (by exact hHeld) ?_
        rotate_left
        · intro wz hSz; (try dsimp only at hSz); obtain ⟨hza, hzb, hzc⟩ := hSz; go_simp; (try with_reducible rfl)
        try simp only [Act.put, List.setIfInBounds_toArray, List.set_cons_zero, List.set_cons_succ]
        refine wpAnyH_takeL (i := 17) (v := ?_) rfl (by kernel_rfl) (by kernel_rfl) (by kernel_rfl) (fun _ _ _ h => h) (Or.inl ⟨by rfl, ?_⟩) (by exact hHeld) ?_
        rotate_left
        · intro wz hSz; (try dsimp only at hSz); obtain ⟨hza, hzb, hzc⟩ := hSz; go_simp; (try with_reducible rfl)
        try simp only [Act.put, List.setIfInBounds_toArray, List.set_cons_zero, List.set_cons_succ]
        refine wpAnyH_takeL (i := 18) (v := ?_) rfl (by kernel_rfl) (by kernel_rfl) (by kernel_rfl) (fun _ _ _ h => h) (Or.inl ⟨by rfl, ?_⟩) (by exact hHeld) ?_
        rotate_left
        · intro wz hSz; (try dsimp only at hSz); obtain ⟨hza, hzb, hzc⟩ := hSz; go_simp; (try with_reducible rfl)
        try simp only [Act.put, List.setIfInBounds_toArray, List.set_cons_zero, List.set_cons_succ]
        refine wpAnyH_takeL (i := 19) (v := ?_) rfl (by kernel_rfl) (by kernel_rfl) (by kernel_rfl) (fun _ _ _ h => h) (Or.inl ⟨by rfl, ?_⟩) (by exact hHeld) ?_
        rotate_left
        · intro wz hSz; (try dsimp only at hSz); obtain ⟨hza, hzb, hzc⟩ := hSz; go_simp; (try with_reducible rfl)
        try simp only [Act.put, List.setIfInBounds_toArray, List.set_cons_zero, List.set_cons_succ]
        refine wpAnyH_takeL (i := 20) (v := ?_) rfl (by kernel_rfl) (by kernel_rfl) (by kernel_rfl) (fun _ _ _ h => h) (Or.inl ⟨by rfl, ?_⟩) (by exact hHeld) ?_
        rotate_left
        · intro wz hSz; (try dsimp only at hSz); obtain ⟨hza, hzb, hzc⟩ := hSz; go_simp; (try with_reducible rfl)
        try simp only [Act.put, List.setIfInBounds_toArray, List.set_cons_zero, List.set_cons_succ]
        refine wpAnyH_takeL (i := 21) (v := ?_) rfl (by kernel_rfl) (by kernel_rfl) (by kernel_rfl) (fun _ _ _ h => h) (Or.inl ⟨by rfl, ?_⟩) (by exact hHeld) ?_
        rotate_left
        · intro wz hSz; (try dsimp only at hSz); obtain ⟨hza, hzb, hzc⟩ := hSz; go_simp; (try with_reducible rfl)
        try simp only [Act.put, List.setIfInBounds_toArray, List.set_cons_zero, List.set_cons_succ]
        refine wpAnyH_takeL (i := 22) (v := ?_) rfl (by kernel_rfl) (by kernel_rfl) (by kernel_rfl) (fun _ _ _ h => h) (Or.inl ⟨by rfl, ?_⟩) (by exact hHeld) ?_
        rotate_left
        · intro wz hSz; (try dsimp only at hSz); obtain ⟨hza, hzb, hzc⟩ := hSz; go_simp; (try with_reducible rfl)
        try simp only [Act.put, List.setIfInBounds_toArray, List.set_cons_zero, List.set_cons_succ]
        refine wpAnyH_takeL (i := 23) (v := ?_) rfl (by kernel_rfl) (by kernel_rfl) (by kernel_rfl) (fun _ _ _ h => h) (Or.inl ⟨by rfl, ?_⟩) (by exact hHeld) ?_
        rotate_left
        · intro wz hSz; (try dsimp only at hSz); obtain ⟨hza, hzb, hzc⟩ := hSz; go_simp; (try with_reducible rfl)
        try simp only [Act.put, List.setIfInBounds_toArray, List.set_cons_zero, List.set_cons_succ]
        refine wpAnyH_takeL (i := 24) (v := ?_) rfl (by kernel_rfl) (by kernel_rfl) (by kernel_rfl) (fun _ _ _ h => h) (Or.inl ⟨by rfl, ?_⟩) (by exact hHeld) ?_
        rotate_left
        · intro wz hSz; (try dsimp only at hSz); obtain ⟨hza, hzb, hzc⟩ := hSz; go_simp; (try with_reducible rfl)
        try simp only [Act.put, List.setIfInBounds_toArray, List.set_cons_zero, List.set_cons_succ]
        refine wpAnyH_ready (rs := [25]) (by kernel_rfl) (by simp) ?_
        refine AllReadyH.consL rfl (fun K hK => ?_) AllReadyH.nil
        go_simp
        refine (HRd _).mono ?_
        rintro e xg ⟨Bg, mg, dg, rfl, -, hb⟩
        have hb2 : Below xf.heap.size xf xg := ((Below.refl _ _).drew).trans hb
        obtain ⟨hh1, hh2, hh3⟩ := hHeld
        refine hK.out _ _ ⟨(hb2.cell (by rw [block_add]; exact hab3)).trans hh1, (hb2.cell (by rw [block_add]; exact hab3)).trans hh2, (hb2.cell hab3).trans hh3⟩ (fun hHeld => ?_)
        clear hK K
        try simp only [Act.put, List.setIfInBounds_toArray, List.set_cons_zero, List.set_cons_succ]
        refine wpAnyH_takeL (i := 26) (v := ?_) rfl (by kernel_rfl) (by kernel_rfl) (by kernel_rfl) (fun _ _ _ h => h) (Or.inl ⟨by rfl, ?_⟩) (by exact hHeld) ?_
        rotate_left
        · intro wz hSz; (try dsimp only at hSz); go_simp; (try with_reducible rfl)
        try simp only [Act.put, List.setIfInBounds_toArray, List.set_cons_zero, List.set_cons_succ]
        refine wpAnyH_takeL (i := 27) (v := ?_) rfl (by kernel_rfl) (by kernel_rfl) (by kernel_rfl) (fun _ _ _ h => h) (Or.inl ⟨by rfl, ?_⟩) (by exact hHeld) ?_
        rotate_left
        · intro wz hSz; (try dsimp only at hSz); go_simp; (try with_reducible rfl)
        try simp only [Act.put, List.setIfInBounds_toArray, List.set_cons_zero, List.set_cons_succ]
        refine wpAnyH_takeL (i := 28) (v := ?_) rfl (by kernel_rfl) (by kernel_rfl) (by kernel_rfl) (fun _ _ _ h => h) (Or.inl ⟨by rfl, ?_⟩) (by exact hHeld) ?_
        rotate_left
        · intro wz hSz; (try dsimp only at hSz); go_simp; (try with_reducible rfl)
        try simp only [Act.put, List.setIfInBounds_toArray, List.set_cons_zero, List.set_cons_succ]
        refine wpAnyH_takeL (i := 29) (v := ?_) rfl (by kernel_rfl) (by kernel_rfl) (by kernel_rfl) (fun _ _ _ h => h) (Or.inl ⟨by rfl, ?_⟩) (by exact hHeld) ?_
        rotate_left
        · intro wz hSz; (try dsimp only at hSz); go_simp; (try with_reducible rfl)
        try simp only [Act.put, List.setIfInBounds_toArray, List.set_cons_zero, List.set_cons_succ]
        refine wpAnyH_takeL (i := 30) (v := ?_) rfl (by kernel_rfl) (by kernel_rfl) (by kernel_rfl) (fun _ _ _ h => h) (Or.inl ⟨by rfl, ?_⟩) (by exact hHeld) ?_
        rotate_left
        · intro wz hSz; (try dsimp only at hSz); go_simp; (try with_reducible rfl)
        try simp only [Act.put, List.setIfInBounds_toArray, List.set_cons_zero, List.set_cons_succ]
        refine wpAnyH_takeL (i := 31) (v := ?_) rfl (by kernel_rfl) (by kernel_rfl) (by kernel_rfl) (fun _ _ _ h => h) (Or.inl ⟨by rfl, ?_⟩) (by exact hHeld) ?_
        rotate_left
        · intro wz hSz; (try dsimp only at hSz); go_simp; (try with_reducible rfl)
        try simp only [Act.put, List.setIfInBounds_toArray, List.set_cons_zero, List.set_cons_succ]
        refine wpAnyH_takeL (i := 32) (v := ?_) rfl (by kernel_rfl) (by kernel_rfl) (by kernel_rfl) (fun _ _ _ h => h) (Or.inl ⟨by rfl, ?_⟩) (by exact hHeld) ?_
        rotate_left
        · intro wz hSz; (try dsimp only at hSz); go_simp; (try with_reducible rfl)
        try simp only [Act.put, List.setIfInBounds_toArray, List.set_cons_zero, List.set_cons_succ]
        refine wpAnyH_done (by kernel_rfl) ?_ _
        replace HB := Lib.hid (HB.out.trans (hb2.mono HB.out.size))
        clear hHeld hb hb2
        go_wp2_with fail
        go_ret
        exact ⟨rfl, HB.out⟩
theorem chback_walk (v : ByteArray) (A2 : Option Addr) (n2 c2 : Nat) (zs : List Int) (f0 s0 at_ d0 : Int) (w : World) (_h0 : v.size ≤ maxLen) (hz : IsRow .u32 w A2 n2 c2 zs) (hf : (Lit.int .u32 f0).wf = true) (hs : (Lit.int .u32 s0).wf = true) (_h4 : (Lit.int .i64 at_).wf = true) (hd : (Lit.int .u32 d0).wf = true) :
    Calls Tryz.prog 4 #[.string v, .slice A2 n2 c2, .int .u32 f0, .int .u32 s0, .int .i64 at_, .int .u32 d0] w fun e w' => e = .returned (.bool true) ∧ Below w.heap.size w w' := by
  obtain ⟨f, rfl⟩ := Int.eq_ofNat_of_zero_le (lit_u32' hf).1
  obtain ⟨s, rfl⟩ := Int.eq_ofNat_of_zero_le (lit_u32' hs).1
  obtain ⟨d, rfl⟩ := Int.eq_ofNat_of_zero_le (lit_u32' hd).1
  have hd2 := (lit_u32' hd).2
  obtain ⟨ns, hr, hcc, _, _⟩ := row_nats hz
  by_cases g1 : 600 < v.size
  · exact chback_g1 v A2 n2 c2 ns f s at_ d w g1
  by_cases g2 : v.size = 0
  · exact chback_g2 v A2 n2 c2 ns f s at_ d w g1 g2
  by_cases g3 : 60 < n2
  · exact chback_g3 v A2 n2 c2 ns f s at_ d w g1 (by omega) g3
  rcases hal : (allU ns && ascU ns) with _ | _
  · exact chback_g4 v A2 n2 c2 ns f s at_ d w hr g1 (by omega) g3 hal
  by_cases g5 : d = 0
  · exact chback_g5 v A2 n2 c2 ns f s at_ d w hr g1 (by omega) g3 hal g5
  exact chback_main v A2 n2 c2 ns f s at_ d w hr hcc g1 (by omega) g3 hal g5 (by omega)
end Go.Proofs.YtabhhccdbfjigaaGreat
