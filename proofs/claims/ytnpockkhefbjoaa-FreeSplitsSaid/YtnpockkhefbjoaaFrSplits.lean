/-
  The walk of the statement FreeSplits: from every start, at every argument, it returns true and changes no block that was there before.
-/
import Derived.Test.YtnpockkhefbjoaaFnLaw
import Derived.Test.YtnpockkhefbjoaaFnMath
import Derived.Test.YtnpockkhefbjoaaBkOpen
import Derived.Test.YtnpockkhefbjoaaKitLaw
import Derived.Test.YtnpockkhefbjoaaPgWords
import Derived.Deep.CutRange
namespace Go.Proofs.Ytnpockkhefbjoaa
open Go.RowKit
open Go.Lib hiding intOf
set_option linter.unusedVariables false
set_option linter.unusedSimpArgs false
attribute [local go_sem ↓] Go.wp_at_zero Go.wp_at_succ

set_option maxRecDepth 100000 in
set_option maxHeartbeats 25600000 in
theorem frsplits_long (fr : Nat) (As : Option Addr) (ns cs : Nat) (ct : Int) (w : World) (h : 26 < ns) :
    Calls Try.prog 6 #[.int .u32 fr, .slice As ns cs, .int .i64 ct] w fun e w' => e = .returned (.bool true) ∧ Below w.heap.size w w' := by
  have hd : decide ((26 : Int) < ns) = true := by simp; omega
  have hd2 : decide (26 < ns) = true := by simp; omega
  have HB := Lib.hid (Below.refl w.heap.size w)
  clear h
  go_enter Try.func6, Try.ntmps6
  go_wp2_with fail
  refine (lives10_any _).mono ?_
  rintro e w1 ⟨rfl, hb⟩
  replace HB := Lib.hid (HB.out.trans (hb.mono HB.out.size))
  clear hb
  go_wp2_with fail
  go_ret
  exact ⟨rfl, HB.out⟩
set_option maxRecDepth 100000 in
set_option maxHeartbeats 25600000 in
theorem frsplits_main (fr : Nat) (As : Option Addr) (ns cs : Nat) (ct : Int) (w : World) (st : List UInt8) (hr : Reads w w.heap.size 1 As ns (bcells st)) (h1 : ¬ 26 < ns) (hfr : fr ≤ 4294967295) :
    Calls Try.prog 6 #[.int .u32 fr, .slice As ns cs, .int .i64 ct] w fun e w' => e = .returned (.bool true) ∧ Below w.heap.size w w' := by
  have hd : decide ((26 : Int) < ns) = false := by simp; omega
  have hd2 : decide (26 < ns) = false := by simp; omega
  obtain ⟨i0, hi0, hz0, hz1, hz2⟩ := info_parts infoU32
  obtain ⟨N, hN⟩ : ∃ N, N = 2 + fr % 1000 := ⟨_, rfl⟩
  have hN2 : 2 ≤ N := by omega
  have hN9 : N ≤ 1001 := by omega
  have hwM : Int.tmod (fr : Int) 1000 = (fr : Int) % 1000 := Int.tmod_eq_emod_of_nonneg (by omega)
  have hwM2 : IntKind.u32.wrap ((fr : Int) % 1000) = (fr : Int) % 1000 := by rw [IntKind.wrap_u32]; omega
  have hwN : IntKind.u32.wrap (2 + (fr : Int) % 1000) = (N : Int) := by rw [IntKind.wrap_u32]; omega
  have hwN2 : 2 + (fr : Int) % 1000 = (N : Int) := by omega
  have hwN3 : IntKind.u32.wrap (N : Int) = (N : Int) := by rw [IntKind.wrap_u32]; omega
  obtain ⟨sts, hsts⟩ : ∃ x : List Nat, x = st.map (fun (b : UInt8) => b.toNat) := ⟨_, rfl⟩
  have hsl : sts.length = ns := by
    have := hr.1
    rw [bcells_length] at this
    rw [hsts, List.length_map]
    omega
  have hst : ∀ (k : Nat) (b : UInt8), st[k]? = some b → sts[k]? = some b.toNat := fun k b h => by rw [hsts, List.getElem?_map, h]; rfl
  have HST := Lib.hid hst
  have HSL := Lib.hid hsl
  have HS := Lib.hid hr
  have hns : ns ≤ 26 := by omega
  clear hN hsts hsl hst hr h1 hfr
  have HB := Lib.hid (Below.refl w.heap.size w)
  go_enter Try.func6, Try.ntmps6
  go_wp2_with fail
  refine (lives10_any _).mono ?_
  rintro e w101 ⟨rfl, hb⟩
  replace HB := Lib.hid (HB.out.trans (hb.mono HB.out.size))
  clear hb
  go_wp2_with fail
  clear hwM hwM2 hwN hwN2 hwN3
  go_loopw [7, 8, 9] (fun n b i wr => ∃ (k : Nat) (A' : Option Addr) (c' : Nat), k ≤ ns ∧ n = .int .u32 ((endU N (sts.take k) : Nat) : Int) ∧ b = .slice A' k c' ∧ i = .int .i64 k ∧ Hid (wr.ownsRow w.heap.size 23 1 (.slice A' k c') k (ucells (stepsU N (sts.take k)))) ∧ Hid (Below w.heap.size w wr)) (fun _ _ i _ => ns - (intOf i).toNat)
  case atStart => exact ⟨0, none, 0, Nat.zero_le _, by simp [endU], rfl, rfl, Lib.hid (World.ownsRow_nil _ _ _ _), HB⟩
  case round =>
    clear HB
    obtain ⟨k, A', c', hk, rfl, rfl, rfl, HO, HB⟩ := hrel
    by_cases hlt : k < ns
    · have hk0 : (0 : Int) ≤ k := by omega
      have hk1 : (k : Int) < ns := by omega
      obtain ⟨e, he⟩ : ∃ e, e = endU N (sts.take k) := ⟨_, rfl⟩
      have he9 : e ≤ 1300 := by
        have := (endU_le (sts.take k) N).2
        rw [List.length_take] at this
        omega
      rw [← he]
      have HE := Lib.hid he
      clear he
      have HX := Lib.hid (HO.out.alloc (.cells #[.int .u32 e] 23))
      have HB3 := Lib.hid (HB.out.alloc HB.out.size (.cells #[.int .u32 e] 23))
      go_upto_region 11 with (at_builtin; refine wpList_append_any _ rfl (.tmp 41) (.tmp 43) _ rfl w.heap.size 23 i0 _ 1 4 Try.underlying30 hi0 hz0 hz1 hz2 rfl (by omega) _ k _ rfl HX.out (wr.heap.size + 1) (some ⟨wr.heap.size, 0, none⟩) 1 1 (ucells [e]) rfl (reads_own (n := 1) (Blk.new _ _ _) rfl) (ucells_one _) (by unfold maxLen; omega) (by omega) (by have := HB.out.size; simp; omega) ?_; intro v5 w5 hown4 hg4 hat)
      clear hat
      rw [← ucells_append] at hown4
      obtain ⟨A4, c4, rfl, _, _, _⟩ := own_form hown4
      have HB4 := Lib.hid (HB3.out.grown hg4 HB3.out.size (fun j hj => (HX.out.lt j hj).1))
      obtain ⟨ad, b, rfl, hb, hc⟩ := ubytes_at (HS.out.below HB4.out) hlt
      have hsk := HST.out k b hb
      have hb9 : b.toNat < 256 := b.toNat_lt
      obtain ⟨sv, hsv⟩ : ∃ x, x = b.toNat := ⟨_, rfl⟩
      rw [← hsv] at hc hsk hb9
      obtain ⟨q, hq⟩ : ∃ q, q = sv % 9 := ⟨_, rfl⟩
      have hq9 : q ≤ 8 := by omega
      have hq1 : (sv : Int) % 9 = (q : Int) := by omega
      have hq2 : Int.tmod (sv : Int) 9 = (q : Int) := by rw [Int.tmod_eq_emod_of_nonneg (by omega)]; exact hq1
      have hq3 : IntKind.u8.wrap (q : Int) = (q : Int) := by rw [IntKind.wrap_u8]; omega
      have hq4 : IntKind.u32.wrap (q : Int) = (q : Int) := by rw [IntKind.wrap_u32]; omega
      obtain ⟨e1, he1⟩ : ∃ x, x = e + 1 := ⟨_, rfl⟩
      have hf1 : (e : Int) + 1 = (e1 : Int) := by omega
      have hf2 : IntKind.u32.wrap (e1 : Int) = (e1 : Int) := by rw [IntKind.wrap_u32]; omega
      obtain ⟨e2, he2⟩ : ∃ x, x = e1 + q := ⟨_, rfl⟩
      have hf3 : (e1 : Int) + (q : Int) = (e2 : Int) := by omega
      have hf4 : IntKind.u32.wrap (e2 : Int) = (e2 : Int) := by rw [IntKind.wrap_u32]; omega
      have hts : sts.take (k + 1) = sts.take k ++ [sv] := by
        obtain ⟨g1, g2⟩ := List.getElem?_eq_some_iff.1 hsk
        rw [List.take_succ_eq_append_getElem g1, g2]
      obtain ⟨hs1, hs2⟩ := stepsU_snoc (sts.take k) N sv
      rw [← hts, ← HE.out] at hs1 hs2
      rw [← hs1] at hown4
      have HE2 := Lib.hid (show endU N (sts.take (k + 1)) = e2 by rw [hs2, he2, he1, hq])
      have HO4 := Lib.hid hown4
      clear hown4 hg4 HX HB3 HO HB hb hsk hb9 hsv hq hq9 he1 he2 hts hs1 hs2 he9
      go_wp2_with fail
      go_roundw
      case rel =>
        first
          | exact ⟨k + 1, A4, c4, by omega, by rw [HE2.out], rfl, by go_num, HO4, HB4⟩
          | ((repeat apply Exists.intro); exact ⟨⟨k + 1, A4, c4, by omega, by rw [HE2.out], rfl, by go_num, HO4, HB4⟩, rfl⟩)
      case measure => simp [intOf]; omega
    · obtain rfl : k = ns := by omega
      obtain ⟨L, hL⟩ : ∃ L, L = stepsU N sts := ⟨_, rfl⟩
      have htk : sts.take k = sts := List.take_of_length_le (by rw [HSL.out]; exact Nat.le_refl _)
      rw [htk, ← hL] at HO
      obtain ⟨hall, hasc⟩ := stepsU_good (l := sts) hN2 hN9 (by rw [HSL.out]; exact hns)
      have hll : L.length = k := by rw [hL, stepsU_len, HSL.out]
      rw [← hL] at hall hasc
      rw [htk]
      generalize endU N sts = eN
      obtain ⟨m1, hm1⟩ : ∃ x, x = k + 1 := ⟨_, rfl⟩
      have hm2 : (k : Int) + 1 = (m1 : Int) := by omega
      have hm0 : (m1 : Int) ≠ 0 := by omega
      have hm3 := Int.emod_nonneg ct hm0
      have hm4 := Int.emod_lt_of_pos ct (show (0 : Int) < (m1 : Int) by omega)
      obtain ⟨kk, hpk⟩ : ∃ kk : Nat, ct % (m1 : Int) = (kk : Int) := ⟨(ct % (m1 : Int)).toNat, by omega⟩
      have hkk : kk ≤ k := by omega
      have HPk : ∀ w : World, Calls Try.prog 20 #[.int .i64 ct, .int .i64 (m1 : Int)] w fun e w' => e = .returned (.int .i64 (kk : Int)) ∧ w = w' := fun w => (pick_any ct m1 w (by omega) (by omega)).mono (by rintro e w' ⟨rfl, rfl⟩; exact ⟨by rw [hpk], rfl⟩)
      obtain ⟨hc9, hcm⟩ : k ≤ c' ∧ c' ≤ maxLen := by
        obtain ⟨_, _, he, g1, g2, _⟩ := own_form HO.out
        injection he with _ _ e3
        subst e3
        exact ⟨g1, g2⟩
      have hkc : (kk : Int) ≤ (c' : Int) := by omega
      have hkc2 : (kk : Int) ≤ (k : Int) := by omega
      have hkk0 : (0 : Int) ≤ (kk : Int) := by omega
      have R0 := Lib.hid (Reads.of_own HO.out)
      have HM1 : mayP10 128 2 3 7 (L.take kk) = true := may128 (allU_take hall kk) (ascU_take hasc kk) (by rw [List.length_take]; omega) (by decide) (.inr (by decide)) (by decide)
      have HM2 : mayP10 128 3 0 7 (L.drop kk) = true := may128 (allU_drop hall kk) (ascU_drop hasc kk) (by rw [List.length_drop]; omega) (by decide) (.inl rfl) (by decide)
      obtain ⟨X1, hX1⟩ : ∃ x, x = freeBody 128 (L.take kk) := ⟨_, rfl⟩
      obtain ⟨X2, hX2⟩ : ∃ x, x = freeBody 128 (L.drop kk) := ⟨_, rfl⟩
      have hX1s : X1.size = 104 := by rw [hX1]; exact freeBody_size 128 _ (by rw [List.length_take]; omega)
      have hX2s : X2.size = 104 := by rw [hX2]; exact freeBody_size 128 _ (by rw [List.length_drop]; omega)
      obtain ⟨nk, hnk⟩ : ∃ x, x = k - kk := ⟨_, rfl⟩
      have hl1 : (L.take kk).length = kk := by rw [List.length_take]; omega
      have hl2 : (L.drop kk).length = nk := by rw [List.length_drop]; omega
      obtain ⟨X, hX, hsl⟩ := usliced A' k c' kk kk rfl hkk
      obtain ⟨ck, hck⟩ : ∃ x, x = c' - kk := ⟨_, rfl⟩
      rw [← hnk, ← hck] at hsl
      have HP1 := fun (w' : World) (h' : Reads w' w'.heap.size 1 A' k (ucells L)) => fpage10_yes 128 2 3 7 A' kk c' (L.take kk) w' (utake h' hkk) HM1
      have HP2 := fun (w' : World) (h' : Reads w' w'.heap.size 1 A' k (ucells L)) => fpage10_yes 128 3 0 7 X nk ck (L.drop kk) w' (by rw [hX, hnk]; exact udrop h' hkk hc9) HM2
      have HO1 := fun w => fof10_own 6 kk 2 3 7 X1 w (by omega)
      have HO2 := fun w => fof10_own 6 nk 3 0 7 X2 w (by omega)
      have e1 := readU_page (z := 128) HM1
      have e2 := readU_page (z := 128) HM2
      rw [hl1, ← hX1] at e1
      rw [hl2, ← hX2] at e2
      have e1' : readU 6 kk 2 3 7 X1 = some (L.take kk) := e1
      have e2' : readU 6 nk 3 0 7 X2 = some (L.drop kk) := e2
      rw [e1'] at HO1
      rw [e2'] at HO2
      rw [← hX1] at HP1
      rw [← hX2] at HP2
      have HKn := Lib.hid (show kk + nk = k by omega)
      have HNk := Lib.hid hnk
      have HL1 := Lib.hid hl1
      have HL2 := Lib.hid hl2
      have HAsc := Lib.hid hasc
      have HLL := Lib.hid hll
      have HKK := Lib.hid hkk
      have HTD := Lib.hid (show ucells (L.take kk) ++ ucells (L.drop kk) = ucells L by rw [← ucells_append, List.take_append_drop])
      have HRise := fun (w' : World) (h' : Reads w' w'.heap.size 1 A' k (ucells L)) => frises_any A' k c' L w' h' (by omega)
      rw [hasc] at HRise
      obtain ⟨hzp, hi⟩ := zero_of_info infoPg
      have HIp := Lib.hid hi
      have HW := Lib.hid (Below.refl wr.heap.size wr)
      have HWB := Lib.hid HB.out.size
      clear hi hL htk hall hasc hll hm1 hm0 hm3 hm4 hpk HO hX1 hX2 hX1s hX2s hnk hl1 hl2 hX hck e1 e2 e1' e2' HM1 HM2 hcm hlt hk
      go_wp2_with fail
      refine (HPk _).mono ?_
      rintro e w102 ⟨rfl, rfl⟩
      clear HPk hm2
      go_wp2_with fail
      refine (HP1 _ ((R0.out.below HW.out).more HW.out.size)).mono ?_
      rintro e w103 ⟨rfl, hb⟩
      replace HB := Lib.hid (HB.out.trans (hb.mono HB.out.size))
      replace HW := Lib.hid (HW.out.trans (hb.mono HW.out.size))
      clear hb
      clear HP1
      obtain ⟨w104, hw104⟩ : ∃ x, x = w103.alloc (.cells #[.int .i64 6, .int .i64 kk, .int .u32 2, .int .u32 3, .int .u64 7, .string X1] 26) := ⟨_, rfl⟩
      have saw104 : w103.heap.size = w103.heap.size := by first | rfl | omega
      have ge_Pa := Lib.hid (show w.heap.size ≤ w103.heap.size from saw104 ▸ HB.out.size)
      replace HB := Lib.hid (show Below w.heap.size w w104 by rw [hw104]; exact HB.out.alloc HB.out.size _)
      have Pa := Lib.hid (show Blk w104 w103.heap.size 26 #[.int .i64 6, .int .i64 kk, .int .u32 2, .int .u32 3, .int .u64 7, .string X1] by rw [hw104, ← saw104]; exact Blk.new _ _ _)
      have szw104 : w104.heap.size = w103.heap.size + 1 := by rw [hw104]; simp
      replace HW := Lib.hid (show Below wr.heap.size wr w104 by rw [hw104]; exact HW.out.alloc HW.out.size _)
      clear saw104 szw104
      go_wp2_with fail
      rw [← hw104]
      clear hw104
      generalize w103.heap.size = gPa at *
      refine (HP2 _ ((R0.out.below HW.out).more HW.out.size)).mono ?_
      rintro e w105 ⟨rfl, hb⟩
      replace HB := Lib.hid (HB.out.trans (hb.mono HB.out.size))
      replace Pa := Lib.hid (Pa.out.below hb Pa.out.lt)
      replace HW := Lib.hid (HW.out.trans (hb.mono HW.out.size))
      clear hb
      clear HP2 hsl
      obtain ⟨w106, hw106⟩ : ∃ x, x = w105.alloc (.cells #[.int .i64 6, .int .i64 nk, .int .u32 3, .int .u32 0, .int .u64 7, .string X2] 26) := ⟨_, rfl⟩
      have saw106 : w105.heap.size = w105.heap.size := by first | rfl | omega
      have lt_Pa_Pb := Lib.hid (show gPa < w105.heap.size from saw106 ▸ Pa.out.lt)
      replace Pa := Lib.hid (show Blk w106 gPa 26 #[.int .i64 6, .int .i64 kk, .int .u32 2, .int .u32 3, .int .u64 7, .string X1] by rw [hw106]; exact Pa.out.alloc _)
      have ge_Pb := Lib.hid (show w.heap.size ≤ w105.heap.size from saw106 ▸ HB.out.size)
      replace HB := Lib.hid (show Below w.heap.size w w106 by rw [hw106]; exact HB.out.alloc HB.out.size _)
      have Pb := Lib.hid (show Blk w106 w105.heap.size 26 #[.int .i64 6, .int .i64 nk, .int .u32 3, .int .u32 0, .int .u64 7, .string X2] by rw [hw106, ← saw106]; exact Blk.new _ _ _)
      have szw106 : w106.heap.size = w105.heap.size + 1 := by rw [hw106]; simp
      replace HW := Lib.hid (show Below wr.heap.size wr w106 by rw [hw106]; exact HW.out.alloc HW.out.size _)
      clear saw106 szw106
      go_upto_region 15 with fail
      rw [← hw106]
      clear hw106
      generalize w105.heap.size = gPb at *
      have aPa_0 := Pa.out.cell 0
      have aPa_1 := Pa.out.cell 1
      have aPa_2 := Pa.out.cell 2
      have aPa_3 := Pa.out.cell 3
      have aPa_4 := Pa.out.cell 4
      have aPa_5 := Pa.out.cell 5
      simp at aPa_0 aPa_1 aPa_2 aPa_3 aPa_4 aPa_5
      go_wp2_with fail
      refine (HO1 _).mono ?_
      rintro e w15 ⟨A15, n15, c15, rfl, ho15, hb⟩
      obtain rfl : kk = n15 := HL1.out.symm.trans (ulen (Reads.of_own ho15))
      replace HB := Lib.hid (HB.out.trans (hb.mono HB.out.size))
      have HO15 := Lib.hid (own_low ho15 HW.out.size)
      replace HW := Lib.hid (HW.out.trans (hb.mono HW.out.size))
      replace Pa := Lib.hid (Pa.out.below hb Pa.out.lt)
      replace Pb := Lib.hid (Pb.out.below hb Pb.out.lt)
      have R15 := Lib.hid (Reads.of_own ho15)
      clear hb ho15 HO1 aPa_0 aPa_1 aPa_2 aPa_3 aPa_4 aPa_5
      clear Pa
      have bPb_0 := Pb.out.cell 0
      have bPb_1 := Pb.out.cell 1
      have bPb_2 := Pb.out.cell 2
      have bPb_3 := Pb.out.cell 3
      have bPb_4 := Pb.out.cell 4
      have bPb_5 := Pb.out.cell 5
      simp at bPb_0 bPb_1 bPb_2 bPb_3 bPb_4 bPb_5
      go_wp2_with fail
      refine (HO2 _).mono ?_
      rintro e w16 ⟨A16, n16, c16, rfl, ho16, hb⟩
      obtain rfl : nk = n16 := HL2.out.symm.trans (ulen (Reads.of_own ho16))
      replace HB := Lib.hid (HB.out.trans (hb.mono HB.out.size))
      replace HW := Lib.hid (HW.out.trans (hb.mono HW.out.size))
      replace Pb := Lib.hid (Pb.out.below hb Pb.out.lt)
      replace HO15 := Lib.hid (own_below HO15.out hb)
      have R16 := Lib.hid (Reads.of_own ho16)
      clear hb ho16 HO2 bPb_0 bPb_1 bPb_2 bPb_3 bPb_4 bPb_5
      clear Pb
      clear R15
      go_wp2_with (at_builtin; refine BigFrame.wpList_want (by kernel_rfl) (fun K hK => wp_append_any _ (.tmp 108) (.tmp 109) _ rfl wr.heap.size 23 i0 _ 1 4 Try.underlying30 hi0 hz0 hz1 hz2 rfl (by omega) _ kk _ rfl HO15.out w16.heap.size A16 nk c16 _ rfl R16.out (ucells_one _) (by rw [HKn.out]; unfold maxLen; omega) (by rw [HKn.out]; omega) HW.out.size ?_); intro v8 w8 hown8 hg8 hat8; refine hK _ _ ?_)
      have hgb := own_base HO15.out
      have RL := Lib.hid ((R0.out.below HW.out).grown hg8 HW.out.size hgb)
      replace HB := Lib.hid (HB.out.grown hg8 HB.out.size (fun g hg => Nat.le_trans HWB.out (hgb g hg)))
      replace HW := Lib.hid (HW.out.grown hg8 HW.out.size hgb)
      rw [HTD.out, HKn.out] at hown8
      obtain ⟨A8, c8, rfl, _, _, _⟩ := own_form hown8
      have R8 := Lib.hid (Reads.of_own hown8)
      clear hown8 hg8 hat8 hgb HO15 R16 HTD
      refine (sameU_yes A8 k c8 A' c' L _ R8.out RL.out (by unfold maxLen; omega)).mono ?_
      rintro e w9 ⟨rfl, q, hq⟩
      have hb : Below w8.heap.size w8 w9 := by rw [hq]; exact below_drewN (Below.refl _ _) q
      replace HB := Lib.hid (HB.out.trans (hb.mono HB.out.size))
      replace RL := Lib.hid (RL.out.below (hb.mono HW.out.size))
      replace HW := Lib.hid (HW.out.trans (hb.mono HW.out.size))
      clear hb hq R8
      go_wp2_with fail
      refine (HRise _ (RL.out.more HW.out.size)).mono ?_
      rintro e w107 ⟨rfl, hb⟩
      replace HB := Lib.hid (HB.out.trans (hb.mono HB.out.size))
      replace RL := Lib.hid (RL.out.below (hb.mono HW.out.size))
      replace HW := Lib.hid (HW.out.trans (hb.mono HW.out.size))
      clear hb
      clear HRise
      by_cases h2 : k < 2
      · have h2i : decide ((k : Int) < 2) = true := by simp; omega
        have h2n : decide (k < 2) = true := by simp; omega
        clear h2
        go_wp2_with fail
        go_ret
        exact ⟨rfl, HB.out⟩
      have h2i : decide ((k : Int) < 2) = false := by simp; omega
      have h2n : decide (k < 2) = false := by simp; omega
      go_wp2_with fail
      refine (ownU_any c' (RL.out.more HW.out.size) (by omega)).mono ?_
      rintro e w21 ⟨At21, ct21, rfl, ho21, hb⟩
      replace HB := Lib.hid (HB.out.trans (hb.mono HB.out.size))
      replace RL := Lib.hid (RL.out.below (hb.mono HW.out.size))
      have HG21 := Lib.hid HW.out.size
      replace HW := Lib.hid (HW.out.trans (hb.mono HW.out.size))
      obtain ⟨g21, cc21, hv, hbg, hlt21⟩ := ho21.form (by omega : 0 < k)
      injection hv with e1 e2 e3
      subst e1 e3
      have HT21 := Lib.hid ho21
      have hga21 := Lib.hid (Nat.le_trans HG21.out hbg)
      clear hb ho21 hbg hlt21 HG21
      have t0 : w21.cell? ⟨g21, 0, none⟩ = some (.int .u32 (nthU L 0 : Nat)) := by rw [HT21.out.cellAt 0 (by omega)]; exact ucells_at (nthU_at (by rw [HLL.out]; omega))
      have t1 : w21.cell? ⟨g21, 1, none⟩ = some (.int .u32 (nthU L 1 : Nat)) := by rw [HT21.out.cellAt 1 (by omega)]; exact ucells_at (nthU_at (by rw [HLL.out]; omega))
      have tf0 := HT21.out.frozenAt 0
      have tf1 := HT21.out.frozenAt 1
      have hk1 : (1 : Int) < (k : Int) := by omega
      have hk2 : (0 : Int) < (k : Int) := by omega
      obtain ⟨x0, hx0⟩ : ∃ x, x = nthU L 0 := ⟨_, rfl⟩
      obtain ⟨x1, hx1⟩ : ∃ x, x = nthU L 1 := ⟨_, rfl⟩
      rw [← hx0] at t0
      rw [← hx1] at t1
      obtain ⟨hs0, hsg0⟩ := HT21.out.stored 0 (.int .u32 x1)
      obtain ⟨hs1, hsg1⟩ := hs0.stored 1 (.int .u32 x0)
      rw [ucells_set, ucells_set, hx0, hx1] at hs1
      have HSw := Lib.hid (show (w21.setCell ⟨g21, 0, none⟩ (.int .u32 x1)).setCell ⟨g21, 1, none⟩ (.int .u32 x0) |>.ownsRow _ 23 1 (.slice (some ⟨g21, 0, none⟩) k ct21) k (ucells (swapU L)) from by rw [hx0, hx1]; exact hs1)
      have HX0 := Lib.hid hx0
      have HX1 := Lib.hid hx1
      clear hs0 hs1 hsg0 hsg1 hx0 hx1
      go_upto_region 22 with fail
      go_region
      obtain ⟨w22, hw22⟩ : ∃ x, x = ((w21.setCell ⟨g21, 0, none⟩ (.int .u32 x1)).setCell ⟨g21, 1, none⟩ (.int .u32 x0)).drew := ⟨_, rfl⟩
      have hge := Nat.le_trans HWB.out hga21.out
      replace HB := Lib.hid (show Below w.heap.size w w22 by rw [hw22]; exact ((HB.out.setCell (p := ⟨g21, 0, none⟩) hge _).setCell (p := ⟨g21, 1, none⟩) hge _).drew)
      replace HW := Lib.hid (show Below wr.heap.size wr w22 by rw [hw22]; exact ((HW.out.setCell (p := ⟨g21, 0, none⟩) hga21.out _).setCell (p := ⟨g21, 1, none⟩) hga21.out _).drew)
      replace RL := Lib.hid (show Reads w22 wr.heap.size 1 A' k (ucells L) by rw [hw22]; exact ((RL.out.setCell (p := ⟨g21, 0, none⟩) hga21.out _).setCell (p := ⟨g21, 1, none⟩) hga21.out _).drew)
      have HT := Lib.hid (show w22.ownsRow w107.heap.size 23 1 (.slice (some ⟨g21, 0, none⟩) k ct21) k (ucells (swapU L)) by rw [hw22]; exact HSw.out)
      have RT := Lib.hid (Reads.of_own HT.out)
      rw [← hw22]
      clear hw22 t0 t1 tf0 tf1 HSw HT21 HT hge
      go_wp2_with fail
      have HWs := Lib.hid HW.out.size
      have HG2 := Lib.hid (Nat.le_refl w22.heap.size)
      refine (ownU_any c' (RL.out.more HW.out.size) (by omega)).mono ?_
      rintro e w23 ⟨At23, ct23, rfl, ho23, hb⟩
      replace HB := Lib.hid (HB.out.trans (hb.mono HB.out.size))
      replace HW := Lib.hid (HW.out.trans (hb.mono HW.out.size))
      replace RT := Lib.hid (RT.out.below hb)
      obtain ⟨g23, cc23, hv, hbg, hlt23⟩ := ho23.form (by omega : 0 < k)
      injection hv with e1 e2 e3
      subst e1 e3
      have HT23 := Lib.hid ho23
      have hga23 := Lib.hid hbg
      have HSz := Lib.hid hb.size
      have HWS := Lib.hid (show wr.heap.size ≤ g23 from Nat.le_trans (show wr.heap.size ≤ w22.heap.size from HWs.out) hbg)
      clear hb ho23 hbg hlt23 RL
      have t1 : w23.cell? ⟨g23, 1, none⟩ = some (.int .u32 x1) := by rw [HT23.out.cellAt 1 (by omega), HX1.out]; exact ucells_at (nthU_at (by rw [HLL.out]; omega))
      have t0 : w23.cell? ⟨g23, 0, none⟩ = some (.int .u32 x0) := by rw [HT23.out.cellAt 0 (by omega), HX0.out]; exact ucells_at (nthU_at (by rw [HLL.out]; omega))
      have tf0 := HT23.out.frozenAt 0
      obtain ⟨hs0, hsg0⟩ := HT23.out.stored 0 (.int .u32 x1)
      rw [ucells_set, HX1.out] at hs0
      obtain ⟨w24, hw24⟩ : ∃ x, x = w23.setCell ⟨g23, 0, none⟩ (.int .u32 x1) := ⟨_, rfl⟩
      have RD := Lib.hid (show Reads w24 w24.heap.size 1 (some ⟨g23, 0, none⟩) k (ucells (dupU L)) by rw [hw24, HX1.out]; exact Reads.of_own hs0)
      have hsz : w24.heap.size = w23.heap.size := by rw [hw24]; simp [World.setCell]
      replace RT := Lib.hid (show Reads w24 w24.heap.size 1 (some ⟨g21, 0, none⟩) k (ucells (swapU L)) by rw [hsz]; refine Reads.more ?_ HSz.out; rw [hw24]; exact RT.out.setCell (p := ⟨g23, 0, none⟩) hga23.out _)
      replace HB := Lib.hid (show Below w.heap.size w w24 by rw [hw24]; exact HB.out.setCell (p := ⟨g23, 0, none⟩) (Nat.le_trans HWB.out HWS.out) _)
      clear hs0 hsg0 HT23 hsz HSz hga23 HWS HW HX0 HX1 HWs HG2
      have hn1 := swapU_no HAsc.out (by rw [HLL.out]; omega)
      have hn2 := dupU_no (l := L) (by rw [HLL.out]; omega)
      have HPt := fun (w' : World) (h' : Reads w' w'.heap.size 1 (some ⟨g21, 0, none⟩) k (ucells (swapU L))) => fpage10_no 128 2 0 7 (some ⟨g21, 0, none⟩) k ct21 (swapU L) w' h' (by omega) (no128 hn1)
      have HPd := fun (w' : World) (h' : Reads w' w'.heap.size 1 (some ⟨g23, 0, none⟩) k (ucells (dupU L))) => fpage10_no 128 2 0 7 (some ⟨g23, 0, none⟩) k ct23 (dupU L) w' h' (by omega) (no128 hn2)
      have HRt := fun (w' : World) (h' : Reads w' w'.heap.size 1 (some ⟨g21, 0, none⟩) k (ucells (swapU L))) => frises_any (some ⟨g21, 0, none⟩) k ct21 (swapU L) w' h' (by omega)
      have HRd := fun (w' : World) (h' : Reads w' w'.heap.size 1 (some ⟨g23, 0, none⟩) k (ucells (dupU L))) => frises_any (some ⟨g23, 0, none⟩) k ct23 (dupU L) w' h' (by omega)
      rw [hn1] at HRt
      rw [hn2] at HRd
      clear hn1 hn2
      go_wp2_with fail
      rw [← hw24]
      clear hw24 t0 t1 tf0
      refine (HPt _ RT.out).mono ?_
      rintro e w108 ⟨rfl, hb⟩
      replace HB := Lib.hid (HB.out.trans (hb.mono HB.out.size))
      replace RT := Lib.hid ((RT.out.below hb).more hb.size)
      replace RD := Lib.hid ((RD.out.below hb).more hb.size)
      clear hb
      clear HPt
      obtain ⟨w109, hw109⟩ : ∃ x, x = w108.alloc (.cells #[.int .i64 0, .int .i64 0, .int .u32 0, .int .u32 0, .int .u64 0, .string ByteArray.empty] 26) := ⟨_, rfl⟩
      have saw109 : w108.heap.size = w108.heap.size := by first | rfl | omega
      have ge_Z1 := Lib.hid (show w.heap.size ≤ w108.heap.size from saw109 ▸ HB.out.size)
      replace HB := Lib.hid (show Below w.heap.size w w109 by rw [hw109]; exact HB.out.alloc HB.out.size _)
      replace RT := Lib.hid (show Reads w109 w109.heap.size _ _ _ _ by rw [hw109]; exact (RT.out.alloc (Nat.le_refl _) _).more (by simp))
      replace RD := Lib.hid (show Reads w109 w109.heap.size _ _ _ _ by rw [hw109]; exact (RD.out.alloc (Nat.le_refl _) _).more (by simp))
      have Z1 := Lib.hid (show Blk w109 w108.heap.size 26 #[.int .i64 0, .int .i64 0, .int .u32 0, .int .u32 0, .int .u64 0, .string ByteArray.empty] by rw [hw109, ← saw109]; exact Blk.new _ _ _)
      have szw109 : w109.heap.size = w108.heap.size + 1 := by rw [hw109]; simp
      clear saw109 szw109
      go_wp2_with fail
      rw [← hw109]
      clear hw109
      generalize w108.heap.size = gZ1 at *
      clear Z1
      refine (HPd _ RD.out).mono ?_
      rintro e w110 ⟨rfl, hb⟩
      replace HB := Lib.hid (HB.out.trans (hb.mono HB.out.size))
      replace RT := Lib.hid ((RT.out.below hb).more hb.size)
      replace RD := Lib.hid ((RD.out.below hb).more hb.size)
      clear hb
      clear HPd
      obtain ⟨w111, hw111⟩ : ∃ x, x = w110.alloc (.cells #[.int .i64 0, .int .i64 0, .int .u32 0, .int .u32 0, .int .u64 0, .string ByteArray.empty] 26) := ⟨_, rfl⟩
      have saw111 : w110.heap.size = w110.heap.size := by first | rfl | omega
      have ge_Z2 := Lib.hid (show w.heap.size ≤ w110.heap.size from saw111 ▸ HB.out.size)
      replace HB := Lib.hid (show Below w.heap.size w w111 by rw [hw111]; exact HB.out.alloc HB.out.size _)
      replace RT := Lib.hid (show Reads w111 w111.heap.size _ _ _ _ by rw [hw111]; exact (RT.out.alloc (Nat.le_refl _) _).more (by simp))
      replace RD := Lib.hid (show Reads w111 w111.heap.size _ _ _ _ by rw [hw111]; exact (RD.out.alloc (Nat.le_refl _) _).more (by simp))
      have Z2 := Lib.hid (show Blk w111 w110.heap.size 26 #[.int .i64 0, .int .i64 0, .int .u32 0, .int .u32 0, .int .u64 0, .string ByteArray.empty] by rw [hw111, ← saw111]; exact Blk.new _ _ _)
      have szw111 : w111.heap.size = w110.heap.size + 1 := by rw [hw111]; simp
      clear saw111 szw111
      go_wp2_with fail
      rw [← hw111]
      clear hw111
      generalize w110.heap.size = gZ2 at *
      clear Z2
      refine (HRt _ RT.out).mono ?_
      rintro e w112 ⟨rfl, hb⟩
      replace HB := Lib.hid (HB.out.trans (hb.mono HB.out.size))
      replace RT := Lib.hid ((RT.out.below hb).more hb.size)
      replace RD := Lib.hid ((RD.out.below hb).more hb.size)
      clear hb
      clear HRt
      go_wp2_with fail
      refine (HRd _ RD.out).mono ?_
      rintro e w113 ⟨rfl, hb⟩
      replace HB := Lib.hid (HB.out.trans (hb.mono HB.out.size))
      replace RT := Lib.hid ((RT.out.below hb).more hb.size)
      replace RD := Lib.hid ((RD.out.below hb).more hb.size)
      clear hb
      clear HRd
      go_wp2_with fail
      go_ret
      exact ⟨rfl, HB.out⟩
theorem frsplits_walk (fr0 : Int) (As : Option Addr) (ns cs : Nat) (zs : List Int) (ct : Int) (w : World) (h0 : (Lit.int .u32 fr0).wf = true) (hz : IsRow .u8 w As ns cs zs) (_h2 : (Lit.int .i64 ct).wf = true) :
    Calls Try.prog 6 #[.int .u32 fr0, .slice As ns cs, .int .i64 ct] w fun e w' => e = .returned (.bool true) ∧ Below w.heap.size w w' := by
  obtain ⟨fr, rfl⟩ := Int.eq_ofNat_of_zero_le (lit_u32' h0).1
  obtain ⟨g1, _, _, _, g5⟩ := hz.reads
  obtain ⟨l, e, _⟩ := bytes_of_ints _ g5
  rw [e] at g1
  by_cases h : 26 < ns
  · exact frsplits_long fr As ns cs ct w h
  · exact frsplits_main fr As ns cs ct w l g1 h (by have := (lit_u32' h0).2; omega)
end Go.Proofs.Ytnpockkhefbjoaa
