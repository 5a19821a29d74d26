/-
  The walk of the statement OverJoins: from every start, at every argument, it returns true and changes no block that was there before.
-/
import Derived.Test.YtihhchncglnbiaaOvLaw
import Derived.Test.YtihhchncglnbiaaOvMath
import Derived.Test.YtihhchncglnbiaaKitLaw
import Derived.Deep.CutRange
namespace Go.Proofs.Ytihhchncglnbiaa
open Go.RowKit
open Go.Lib hiding intOf
set_option linter.unusedVariables false
set_option linter.unusedSimpArgs false
attribute [local go_sem ↓] Go.wp_at_zero Go.wp_at_succ

theorem parts128 (v : ByteArray) : partsL 128 v = chunks 104 v := by
  unfold partsL
  rw [if_pos (by decide)]
  rfl
theorem strc_one (l : List ByteArray) : ∀ u ∈ strc l, u.oneCell' = true := by
  intro u hu
  obtain ⟨s, _, rfl⟩ := List.mem_map.1 hu
  rfl
theorem own_base {w : World} {base : Nat} {e : TypeId} {size : Nat} {v : Value} {n : Nat} {xs : List Value} (h : w.ownsRow base e size v n xs) : ∀ g, v.ownBlock = some g → base ≤ g := by
  rcases h.2 with ⟨rfl, rfl⟩ | ⟨g', cap, cur, rfl, hb, _⟩
  · simp [Value.ownBlock]
  · intro g hg
    simp [Value.ownBlock] at hg
    omega
theorem own_low {w : World} {base B : Nat} {e : TypeId} {size : Nat} {v : Value} {n : Nat} {xs : List Value} (h : w.ownsRow base e size v n xs) (hB : B ≤ base) : w.ownsRow B e size v n xs := by
  refine ⟨h.1, ?_⟩
  rcases h.2 with h2 | ⟨g', cap, cur, h1, hb, h3⟩
  · exact Or.inl h2
  · exact Or.inr ⟨g', cap, cur, h1, Nat.le_trans hB hb, h3⟩
set_option maxRecDepth 100000 in
set_option maxHeartbeats 12800000 in
theorem ovjoins_walk (v : ByteArray) (wh : Int) (w : World) (_h0 : v.size ≤ maxLen) (_h1 : (Lit.int .i64 wh).wf = true) :
    Calls Try.prog 7 #[.string v, .int .i64 wh] w fun e w' => e = .returned (.bool true) ∧ Below w.heap.size w w' := by
  have HB := Lib.hid (Below.refl w.heap.size w)
  by_cases hv : 4200 < v.size
  · have hd : decide ((4200 : Int) < v.size) = true := by simp; omega
    have hd2 : decide (4200 < v.size) = true := by simp; omega
    clear hv
    go_enter Try.func7, Try.ntmps7
    go_wp2_with fail
    refine (lives9_any _).mono ?_
    rintro e w1 ⟨rfl, hb⟩
    replace HB := Lib.hid (HB.out.trans (hb.mono HB.out.size))
    clear hb
    go_wp2_with fail
    go_ret
    exact ⟨rfl, HB.out⟩
  have hd : decide ((4200 : Int) < v.size) = false := by simp; omega
  have hd2 : decide (4200 < v.size) = false := by simp; omega
  obtain ⟨i0, hi0, hz0, hz1, hz2⟩ := info_parts infoS9
  obtain ⟨d, hdd⟩ : ∃ d, d = v.size / 104 := ⟨_, rfl⟩
  have hd9 : d ≤ 4200 := by omega
  have hdiv : (v.size : Int) / 104 = (d : Int) := by omega
  have hwd : wrap64 (d : Int) = (d : Int) := wrap64_nat d (by omega)
  obtain ⟨m, hm⟩ : ∃ m, m = d + 1 := ⟨_, rfl⟩
  have hdm : (d : Int) + 1 = (m : Int) := by omega
  have hj0 : (0 : Int) ≤ wh % m := Int.emod_nonneg _ (by omega)
  have hj1 : wh % (m : Int) < m := Int.emod_lt_of_pos _ (by omega)
  obtain ⟨j, hj⟩ := Int.eq_ofNat_of_zero_le hj0
  rw [hj] at hj1
  have HPk := fun w => pick_any wh m w (by omega) (by omega)
  rw [hj] at HPk
  obtain ⟨k, hk⟩ : ∃ k, k = j * 104 := ⟨_, rfl⟩
  have hkv : k ≤ v.size := by omega
  have hkm : (104 : Int) * (j : Int) = (k : Int) := by omega
  have hk9 : (k : Int) ≤ (v.size : Int) := by omega
  obtain ⟨q, hq⟩ : ∃ q, q = v.size - k := ⟨_, rfl⟩
  have hqi : (v.size : Int) - (k : Int) = (q : Int) := by omega
  obtain ⟨X, hX⟩ : ∃ X, X = v.extract 0 k := ⟨_, rfl⟩
  obtain ⟨Y, hY⟩ : ∃ Y, Y = v.extract k v.size := ⟨_, rfl⟩
  have hXs : X.size = k := by rw [hX, ext_size9 _ _ _ hkv]; omega
  have hYs : Y.size = q := by rw [hY, ext_size9 _ _ _ (Nat.le_refl _)]; omega
  obtain ⟨PA, hPA⟩ : ∃ x, x = partsL 128 v := ⟨_, rfl⟩
  obtain ⟨PB, hPB⟩ : ∃ x, x = partsL 128 X := ⟨_, rfl⟩
  obtain ⟨PC, hPC⟩ : ∃ x, x = partsL 128 Y := ⟨_, rfl⟩
  have happ : PA = PB ++ PC := by
    rw [hPA, hPB, hPC, parts128, parts128, parts128, hX, hY, hk]
    exact chunks_append v (by decide) (by omega)
  obtain ⟨na, hna⟩ : ∃ x, x = PA.length := ⟨_, rfl⟩
  obtain ⟨nb, hnb⟩ : ∃ x, x = PB.length := ⟨_, rfl⟩
  obtain ⟨nc, hnc⟩ : ∃ x, x = PC.length := ⟨_, rfl⟩
  have hsum : nb + nc = na := by rw [hna, hnb, hnc, happ, List.length_append]
  have ha9 : na ≤ 4200 := by
    rw [hna, hPA, parts128, chunks_len]
    have := ceilD_le (n := v.size) (r := 104) (by decide)
    omega
  have HPa := fun w => lparts_read 128 v w (by omega)
  have HPb := fun w => lparts_any 128 X w (by omega)
  have HPc := fun w => lparts_read 128 Y w (by omega)
  have HN1 := fun w => oneed_any 128 (k : Int) w (by omega)
  have HN2 := fun w => oneed_any 128 (q : Int) w (by omega)
  have HN3 := fun w => oneed_any 128 (v.size : Int) w (by omega)
  rw [← hXs, ← parts_need, ← hPB, ← hnb, hXs] at HN1
  rw [← hYs, ← parts_need, ← hPC, ← hnc, hYs] at HN2
  rw [← parts_need, ← hPA, ← hna] at HN3
  rw [← hPA, ← hna] at HPa
  rw [← hPB, ← hnb] at HPb
  rw [← hPC, ← hnc] at HPc
  have hsi : (nb : Int) + (nc : Int) = (na : Int) := by omega
  have HBs := Lib.hid (show ∀ (i : Nat) (x : ByteArray), PB[i]? = some x → x.size = 104 from fun i x hx => by
    rw [hPB, parts128] at hx
    obtain ⟨h1, h2⟩ := chunks_size (by decide) hx
    rw [hXs, hk, ceilD_mul (by decide)] at h2
    rw [h1, hXs]
    omega)
  have HApp := Lib.hid happ
  have HNB := Lib.hid hnb
  have HNC := Lib.hid hnc
  have hXe : v.extract 0 k = X := hX.symm
  have hYe : v.extract k v.size = Y := hY.symm
  have hb9 : nb ≤ 4200 := by omega
  have hc9 : nc ≤ 4200 := by omega
  have HSum := Lib.hid hsum
  have HDM := Lib.hid hdm
  have HWK := Lib.hid (show k ≤ 4200 from by omega)
  have HQ42 := Lib.hid (show q ≤ 4200 from by omega)
  have HKM := Lib.hid hkm
  have HQI := Lib.hid hqi
  have HSI := Lib.hid hsi
  have HXE := Lib.hid hXe
  have HYE := Lib.hid hYe
  have HDV := Lib.hid hdiv
  have HWD := Lib.hid hwd
  have HK9 := Lib.hid hk9
  clear hdm hkm hqi hsi hXe hYe hdiv hwd hk9
  clear hv hdd hm hj0 hj1 hj hk hq hX hY hXs hYs hPA hPB hPC happ hna hnb hnc hsum hkv
  go_enter Try.func7, Try.ntmps7
  go_wp2_with fail
  refine (lives9_any _).mono ?_
  rintro e w1 ⟨rfl, hb⟩
  replace HB := Lib.hid (HB.out.trans (hb.mono HB.out.size))
  clear hb
  have hdiv := HDV.out
  have hwd := HWD.out
  have hdm := HDM.out
  go_wp2_with fail
  refine (HPk _).mono ?_
  rintro e w' ⟨rfl, rfl⟩
  clear HPk hdiv hwd hdm
  have hkm := HKM.out
  have hwk := HWK.out
  go_wp2_with fail
  refine (HPa _).mono ?_
  rintro e w2 ⟨A2, c2, rfl, hr, hb⟩
  replace HB := Lib.hid (HB.out.trans (hb.mono HB.out.size))
  have RA := Lib.hid hr
  have H2 := Lib.hid HB.out.size
  clear hb hr HPa
  clear hkm hwk
  have hXe := HXE.out
  have hk9 := HK9.out
  go_wp2_with fail
  refine (HPb _).mono ?_
  rintro e w3 ⟨V3, base, rfl, hbase, ho, hb⟩
  obtain ⟨A3, c3, rfl, _, _, _⟩ := own_form ho
  replace HB := Lib.hid (HB.out.trans (hb.mono HB.out.size))
  replace RA := Lib.hid (RA.out.below hb)
  have HBase := Lib.hid hbase
  have HBl := Lib.hid (show w2.heap.size ≤ w3.heap.size from hb.size)
  have HO := Lib.hid ho
  clear hb ho hbase HPb hXe
  have hYe := HYE.out
  go_wp2_with fail
  refine (HPc _).mono ?_
  rintro e w4 ⟨A4, c4, rfl, hr, hb⟩
  replace HB := Lib.hid (HB.out.trans (hb.mono HB.out.size))
  replace RA := Lib.hid (RA.out.below (hb.mono HBl.out))
  replace HO := Lib.hid (own_below HO.out hb)
  have RC := Lib.hid hr
  have HW4 := Lib.hid (Nat.le_trans HBl.out hb.size)
  clear hb hr HPc hYe hk9 HBl
  go_wp2_with fail
  refine (HN1 _).mono ?_
  rintro e w5 ⟨rfl, hb⟩
  replace HB := Lib.hid (HB.out.trans (hb.mono HB.out.size))
  replace RC := Lib.hid ((RC.out.below hb).more hb.size)
  replace HO := Lib.hid (own_below HO.out hb)
  have HW45 := Lib.hid hb
  clear hb HN1
  have hqi := HQI.out
  have hq42 := HQ42.out
  have hk42 := HWK.out
  go_wp2_with fail
  refine (HN2 _).mono ?_
  rintro e w6 ⟨rfl, hb⟩
  replace HB := Lib.hid (HB.out.trans (hb.mono HB.out.size))
  replace RC := Lib.hid ((RC.out.below hb).more hb.size)
  replace HO := Lib.hid (own_below HO.out hb)
  replace HW45 := Lib.hid (HW45.out.trans (hb.mono HW45.out.size))
  clear hb HN2 hqi hq42 hk42
  have hsi := HSI.out
  go_wp2_with fail
  refine (HN3 _).mono ?_
  rintro e w7 ⟨rfl, hb⟩
  replace HB := Lib.hid (HB.out.trans (hb.mono HB.out.size))
  replace RC := Lib.hid ((RC.out.below hb).more hb.size)
  replace HO := Lib.hid (own_below HO.out hb)
  replace HW45 := Lib.hid (HW45.out.trans (hb.mono HW45.out.size))
  clear hb HN3
  go_wp2_with fail
  clear hsi
  have RB := Lib.hid (Reads.of_own HO.out)
  have RA7 := Lib.hid (show Reads w7 w2.heap.size 1 A2 na (strc PA) from RA.out.below (HW45.out.mono HW4.out))
  have hW7 : w2.heap.size ≤ w7.heap.size := Nat.le_trans HW4.out HW45.out.size
  replace HO := Lib.hid (own_low HO.out HBase.out)
  go_loopw [12] (fun i wr => ∃ k : Nat, k ≤ nb ∧ i = .int .i64 k ∧ ∃ q, wr = w7.drewN q) (fun i _ => nb - (intOf i).toNat)
  case atStart => exact ⟨0, Nat.zero_le _, rfl, 0, rfl⟩
  case round =>
    obtain ⟨t, ht, rfl, r, hr⟩ := hrel
    by_cases hlt : t < nb
    · obtain ⟨ad, u, rfl, _, hx, hc⟩ := RB.out.at_ hlt
      rw [List.getElem?_map, Option.map_eq_some_iff] at hx
      obtain ⟨s, hs, rfl⟩ := hx
      have hsz : s.size = 104 := HBs.out t s hs
      have hsi : (s.size : Int) = 104 := by omega
      have hc : wr.cell? (ad.add t) = some (.string s) := by rw [hr]; exact hc
      have ht0 : (0 : Int) ≤ t := by omega
      have ht1 : (t : Int) < nb := by omega
      have HR := Lib.hid hr
      clear hs hr
      go_wp2_with fail
      exact ⟨⟨t + 1, by omega, by go_num, r, HR.out⟩, by simp [intOf]; omega⟩
    · obtain rfl : t = nb := by omega
      clear hlt ht
      have RA2 := Lib.hid (show Reads wr w2.heap.size 1 A2 na (strc PA) by rw [hr]; exact RA7.out.drewN r)
      replace HB := Lib.hid (show Below w.heap.size w wr by rw [hr]; exact below_drewN HB.out r)
      replace RC := Lib.hid (show Reads wr w7.heap.size 1 A4 nc (strc PC) by rw [hr]; exact RC.out.drewN r)
      replace HO := Lib.hid (show wr.ownsRow w2.heap.size 9 1 (.slice A3 t c3) t (strc PB) by rw [hr]; exact own_below HO.out (below_drewN (Below.refl _ _) r))
      have HWs := Lib.hid (show w7.heap.size = wr.heap.size by rw [hr]; simp)
      have H7 := Lib.hid hW7
      clear hr
      go_wp2_with (at_builtin; refine wpList_append_any _ rfl (.tmp 80) (.tmp 81) _ rfl w2.heap.size 9 i0 _ 1 16 Try.underlying33 hi0 hz0 hz1 hz2 rfl (by omega) _ t _ rfl HO.out w7.heap.size A4 nc c4 _ rfl RC.out (strc_one _) (by unfold maxLen; omega) (by omega) (Nat.le_trans H7.out (Nat.le_of_eq HWs.out)) ?_; intro v8 w8 hown8 hg8 hat8)
      have hz := Nat.le_trans H7.out (Nat.le_of_eq HWs.out)
      have RA8 := Lib.hid (RA2.out.grown hg8 hz (own_base HO.out))
      replace HB := Lib.hid (HB.out.grown hg8 HB.out.size (fun g hg => Nat.le_trans H2.out (own_base HO.out g hg)))
      obtain ⟨A8, c8, rfl, _, _, _⟩ := own_form hown8
      have hap : strc PB ++ strc PC = strc PA := by unfold strc; rw [HApp.out, List.map_append]
      rw [hap, HSum.out] at hown8
      have R8 := Reads.of_own hown8
      clear hown8 hg8 hat8 hz hap
      rw [HSum.out]
      refine (sameS_yes A8 na c8 A2 c2 PA _ R8 RA8.out (by unfold maxLen; omega)).mono ?_
      rintro e w9 ⟨rfl, q9, rfl⟩
      replace HB := Lib.hid (below_drewN HB.out q9)
      clear R8
      go_wp2_with fail
      go_ret
      exact ⟨rfl, HB.out⟩
end Go.Proofs.Ytihhchncglnbiaa
