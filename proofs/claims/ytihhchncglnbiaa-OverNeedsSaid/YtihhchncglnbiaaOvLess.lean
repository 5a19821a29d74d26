/-
  The walk of the statement OverNeeds, its last way and the whole: from every start, at every argument, it returns true and changes no block that was there before.
-/
import Derived.Test.YtihhchncglnbiaaOvNeeds
import Derived.Test.YtihhchncglnbiaaOvMath2
import Derived.Test.YtihhchncglnbiaaKitLaw
import Derived.Test.YtihhchncglnbiaaPgWords
import Derived.Test.YtihhchncglnbiaaRef6Set
import Derived.Deep.CutRange
namespace Go.Proofs.Ytihhchncglnbiaa
open Go.RowKit
open Go.Lib hiding intOf
set_option linter.unusedVariables false
set_option linter.unusedSimpArgs false
attribute [local go_sem ↓] Go.wp_at_zero Go.wp_at_succ
set_option maxRecDepth 100000 in
set_option maxHeartbeats 12800000 in
theorem ovneeds_less (n : Int) (v : ByteArray) (ct : Int) (b : UInt8) (w : World) (h0 : 1 ≤ v.size) (hv : v.size ≤ 104) (hsz : v.size < 104) :
    Calls Try.prog 6 #[.int .i64 n, .string v, .int .i64 ct, .int .u8 (b.toNat : Nat)] w fun e w' => e = .returned (.bool true) ∧ Below w.heap.size w w' := by
  have hem : v.toList.isEmpty = false := by
    rw [Bool.eq_false_iff]
    intro h
    rw [List.isEmpty_iff_length_eq_zero, ByteArray.toList_eq, size_list] at h
    omega
  have hdv : decide ((104 : Int) < v.size) = false := by simp; omega
  have hev : decide (104 < v.size) = false := by simp; omega
  obtain ⟨B, hB⟩ : ∃ B, B = overBody 128 v := ⟨_, rfl⟩
  have hBs : B.size = 104 := by rw [hB]; exact overBody_size 128 v hv
  have hm1 : mayP9 128 9 0 1 v = true := by
    unfold mayP9
    simp only [Bool.and_eq_true, Bool.or_eq_true, decide_eq_true_eq]
    exact ⟨by decide, h0, by omega, by decide, Or.inl trivial, by decide⟩
  have HP : ∀ w' : World, Calls Try.prog 10 #[.int .i64 128, .int .u32 9, .int .u32 0, .int .u64 1, .string v] w' fun e w'' => e = .returned (.tuple #[.agg #[.int .i64 5, .int .i64 v.size, .int .u32 9, .int .u32 0, .int .u64 1, .string B], .int .i64 0]) ∧ Below w'.heap.size w' w'' := fun w => by
    have h := opage9_yes 128 9 0 1 v w hm1
    rw [← hB] at h
    exact h
  have HO1 := fun w => oof9_any 5 ct 9 0 1 B w (by omega)
  have HO2 : ∀ w' : World, Calls Try.prog 11 #[.agg #[.int .i64 5, .int .i64 v.size, .int .u32 9, .int .u32 0, .int .u64 1, .string B]] w' fun e w'' => e = .returned (.tuple #[.string v, .int .u32 0, .int .i64 0]) ∧ Below w'.heap.size w' w'' := fun w => by
    have h := oof9_any 5 v.size 9 0 1 B w (by omega)
    have e := readO_page hm1
    rw [← hB] at e
    rw [e] at h
    exact h
  obtain ⟨o3, ho3⟩ : ∃ x, x = readO 5 v.size 9 0 1 (B.extract 0 103 ++ ⟨#[b]⟩) := ⟨_, rfl⟩
  have HR3 := Lib.hid (show o3.isSome = decide (b = 0) by rw [ho3, hB]; exact reads_behind v h0 hsz b)
  obtain ⟨e3, he3⟩ : ∃ x : Int, x = (if o3.isSome then 0 else 4) := ⟨_, rfl⟩
  have HE3 := Lib.hid he3
  have HO3 : ∀ w' : World, Calls Try.prog 11 #[.agg #[.int .i64 5, .int .i64 v.size, .int .u32 9, .int .u32 0, .int .u64 1, .string (B.extract 0 103 ++ ⟨#[b]⟩)]] w' fun e w'' => e = .returned (.tuple #[.string (o3.getD ⟨#[]⟩), .int .u32 ((if o3.isSome then 0 else 0 : Nat) : Int), .int .i64 e3]) ∧ Below w'.heap.size w' w'' := fun w => by
    have h := oof9_any 5 v.size 9 0 1 (B.extract 0 103 ++ ⟨#[b]⟩) w (by rw [ByteArray.size_append, ByteArray.size_extract]; show _ + 1 ≤ _; omega)
    rw [← ho3] at h
    rw [he3]
    exact h.mono fun _ _ hp => ofpost9_is hp
  clear ho3 he3
  have hrc := reads_count v hv ct
  rw [← hB] at hrc
  obtain ⟨o, ho⟩ : ∃ o, o = readO 5 ct 9 0 1 B := ⟨_, rfl⟩
  rw [← ho] at HO1 hrc
  have HRC := Lib.hid hrc
  obtain ⟨os, hos⟩ : ∃ x, x = o.getD ⟨#[]⟩ := ⟨_, rfl⟩
  obtain ⟨ol, hol⟩ : ∃ x : Nat, x = (if o.isSome then 0 else 0) := ⟨_, rfl⟩
  obtain ⟨oe, hoe⟩ : ∃ x : Int, x = (if o.isSome then 0 else 4) := ⟨_, rfl⟩
  have HOS := Lib.hid hos
  have HOL := Lib.hid hol
  have HOE := Lib.hid hoe
  have HV := Lib.hid hv
  have HSZ := Lib.hid hsz
  have HV0 := Lib.hid h0
  have HBo := Lib.hid hB
  have HBs := Lib.hid hBs
  obtain ⟨hz, hi⟩ := zero_of_info infoPg
  have HI := Lib.hid hi
  clear hi
  clear hv hsz h0 hB hBs hm1 hrc ho hos hol hoe
  have hj0 : (0 : Int) ≤ n % 1000000 := Int.emod_nonneg _ (by decide)
  have hj1 : n % (1000000 : Int) < 1000000 := Int.emod_lt_of_pos _ (by decide)
  obtain ⟨m, hm⟩ := Int.eq_ofNat_of_zero_le hj0
  rw [hm] at hj1
  have HPk := fun w => pick_any n 1000000 w (by decide) (by decide)
  rw [show ((1000000 : Nat) : Int) = 1000000 from rfl, hm] at HPk
  obtain ⟨m1, hm1⟩ : ∃ x, x = m + 1 := ⟨_, rfl⟩
  have hmi : (m : Int) + 1 = (m1 : Int) := by omega
  have HN1 := fun w => oneed_any 128 (m1 : Int) w (by omega)
  have HN0 := fun w => oneed_any 128 (m : Int) w (by omega)
  have hmore := need_more m
  rw [← hm1] at hmore
  obtain ⟨a1, ha1⟩ : ∃ x, x = needN 128 (m1 : Int) := ⟨_, rfl⟩
  obtain ⟨a0, ha0⟩ : ∃ x, x = needN 128 (m : Int) := ⟨_, rfl⟩
  rw [← ha1] at HN1 hmore
  rw [← ha0] at HN0 hmore
  obtain ⟨d, hd⟩ : ∃ d : Int, d = (a1 : Int) - (a0 : Int) := ⟨_, rfl⟩
  have hd0 : (0 : Int) ≤ d := by rw [hd, hmore]; split <;> decide
  have hd1 : d ≤ 1 := by rw [hd, hmore]; split <;> decide
  have hdq : (d = 1) ↔ ((m : Int) % 104 = 0) := by rw [hd, hmore]; split <;> simp <;> omega
  have ha19 : a1 ≤ 1000000 := by rw [ha1, need_104]; omega
  have ha09 : a0 ≤ 1000000 := by rw [ha0, need_104]; omega
  have HDD := Lib.hid hd.symm
  have HDQ := Lib.hid (show ((d == 1) == ((m : Int) % 104 == 0)) = true by
    rw [beq_iff_eq, Bool.eq_iff_iff, beq_iff_eq, beq_iff_eq]
    exact hdq)
  have hl0 : decide (d < 0) = false := decide_eq_false (by omega)
  have hl1 : decide (1 < d) = false := decide_eq_false (by omega)
  have HMI := Lib.hid hmi
  have HM9 := Lib.hid (show m ≤ 1000000 by omega)
  have HA9 := Lib.hid (And.intro ha19 ha09)
  clear hm hj0 hj1 hm1 hmi hmore ha1 ha0 hd hdq ha19 ha09
  have HB := Lib.hid (Below.refl w.heap.size w)
  go_enter Try.func6, Try.ntmps6
  go_wp2_with fail
  refine (lives9_any _).mono ?_
  rintro e w101 ⟨rfl, hb⟩
  replace HB := Lib.hid (HB.out.trans (hb.mono HB.out.size))
  clear hb
  go_wp2_with fail
  refine (HPk _).mono ?_
  rintro e w' ⟨rfl, rfl⟩
  clear HPk
  have hmi := HMI.out
  have hm9 := HM9.out
  go_wp2_with fail
  refine (HN1 _).mono ?_
  rintro e w102 ⟨rfl, hb⟩
  replace HB := Lib.hid (HB.out.trans (hb.mono HB.out.size))
  clear hb
  clear HN1 hmi
  go_wp2_with fail
  refine (HN0 _).mono ?_
  rintro e w190 ⟨rfl, hb⟩
  replace HB := Lib.hid (HB.out.trans (hb.mono HB.out.size))
  clear hb HN0
  have hdd := HDD.out
  have ha9 := HA9.out.1
  have ha8 := HA9.out.2
  have hdq := HDQ.out
  go_wp2_with fail
  refine (HP _).mono ?_
  rintro e w103 ⟨rfl, hb⟩
  replace HB := Lib.hid (HB.out.trans (hb.mono HB.out.size))
  clear hb
  clear HP
  obtain ⟨w104, hw104⟩ : ∃ x, x = w103.alloc (.cells #[.int .i64 5, .int .i64 v.size, .int .u32 9, .int .u32 0, .int .u64 1, .string B] 27) := ⟨_, rfl⟩
  have saw104 : w103.heap.size = w103.heap.size := by first | rfl | omega
  have ge_Pp := Lib.hid (show w.heap.size ≤ w103.heap.size from saw104 ▸ HB.out.size)
  replace HB := Lib.hid (show Below w.heap.size w w104 by rw [hw104]; exact HB.out.alloc HB.out.size _)
  have Pp := Lib.hid (show Blk w104 w103.heap.size 27 #[.int .i64 5, .int .i64 v.size, .int .u32 9, .int .u32 0, .int .u64 1, .string B] by rw [hw104, ← saw104]; exact Blk.new _ _ _)
  have szw104 : w104.heap.size = w103.heap.size + 1 := by rw [hw104]; simp
  clear saw104 szw104
  go_upto_region 12 with fail
  rw [← hw104]
  clear hw104
  generalize w103.heap.size = gPp at *
  have lzPp := Pp.out.lt
  have dPp_0 := Pp.out.cell 0
  have dPp_1 := Pp.out.cell 1
  have dPp_2 := Pp.out.cell 2
  have dPp_3 := Pp.out.cell 3
  have dPp_4 := Pp.out.cell 4
  have dPp_5 := Pp.out.cell 5
  simp at dPp_0 dPp_1 dPp_2 dPp_3 dPp_4 dPp_5
  obtain ⟨w105, hw105⟩ : ∃ x, x = w104.alloc (.cells #[.int .i64 5, .int .i64 v.size, .int .u32 9, .int .u32 0, .int .u64 1, .string B] 27) := ⟨_, rfl⟩
  have saw105 : w104.heap.size = w104.heap.size := by first | rfl | omega
  have lt_Pp_Qq := Lib.hid (show gPp < w104.heap.size from saw105 ▸ Pp.out.lt)
  replace Pp := Lib.hid (show Blk w105 gPp 27 #[.int .i64 5, .int .i64 v.size, .int .u32 9, .int .u32 0, .int .u64 1, .string B] by rw [hw105]; exact Pp.out.alloc _)
  have ge_Qq := Lib.hid (show w.heap.size ≤ w104.heap.size from saw105 ▸ HB.out.size)
  replace HB := Lib.hid (show Below w.heap.size w w105 by rw [hw105]; exact HB.out.alloc HB.out.size _)
  have Qq := Lib.hid (show Blk w105 w104.heap.size 27 #[.int .i64 5, .int .i64 v.size, .int .u32 9, .int .u32 0, .int .u64 1, .string B] by rw [hw105, ← saw105]; exact Blk.new _ _ _)
  have szw105 : w105.heap.size = w104.heap.size + 1 := by rw [hw105]; simp
  clear saw105 szw105
  have cPp_0 := Pp.out.cell 0
  have cPp_1 := Pp.out.cell 1
  have cPp_2 := Pp.out.cell 2
  have cPp_3 := Pp.out.cell 3
  have cPp_4 := Pp.out.cell 4
  have cPp_5 := Pp.out.cell 5
  rw [hw105] at cPp_0 cPp_1 cPp_2 cPp_3 cPp_4 cPp_5
  simp at cPp_0 cPp_1 cPp_2 cPp_3 cPp_4 cPp_5
  go_upto_region 13 with fail
  rw [← hw105]
  clear hw105 lzPp dPp_0 dPp_1 dPp_2 dPp_3 dPp_4 dPp_5 cPp_0 cPp_1 cPp_2 cPp_3 cPp_4 cPp_5
  generalize w104.heap.size = gQq at *
  have fzQq_1 := Qq.out.frozen 1
  have lzQq := Qq.out.lt
  have dQq_0 := Qq.out.cell 0
  have dQq_1 := Qq.out.cell 1
  have dQq_2 := Qq.out.cell 2
  have dQq_3 := Qq.out.cell 3
  have dQq_4 := Qq.out.cell 4
  have dQq_5 := Qq.out.cell 5
  simp at dQq_0 dQq_1 dQq_2 dQq_3 dQq_4 dQq_5
  obtain ⟨w106, hw106⟩ : ∃ x, x = w105.setCell ⟨gQq, 1, none⟩ (.int .i64 ct) := ⟨_, rfl⟩
  replace Pp := Lib.hid (show Blk w106 gPp 27 #[.int .i64 5, .int .i64 v.size, .int .u32 9, .int .u32 0, .int .u64 1, .string B] by rw [hw106]; exact Pp.out.far (p := ⟨gQq, 1, none⟩) (Nat.ne_of_lt lt_Pp_Qq.out) (.int .i64 ct))
  replace Qq := Lib.hid (show Blk w106 gQq 27 #[.int .i64 5, .int .i64 ct, .int .u32 9, .int .u32 0, .int .u64 1, .string B] by rw [hw106]; exact Qq.out.set_ 1 (.int .i64 ct))
  replace HB := Lib.hid (show Below w.heap.size w w106 by rw [hw106]; exact HB.out.setCell (p := ⟨gQq, 1, none⟩) ge_Qq.out (.int .i64 ct))
  have szw106 : w106.heap.size = w105.heap.size := by rw [hw106]; simp [World.setCell]
  clear szw106
  have cQq_0 := Qq.out.cell 0
  have cQq_1 := Qq.out.cell 1
  have cQq_2 := Qq.out.cell 2
  have cQq_3 := Qq.out.cell 3
  have cQq_4 := Qq.out.cell 4
  have cQq_5 := Qq.out.cell 5
  rw [hw106] at cQq_0 cQq_1 cQq_2 cQq_3 cQq_4 cQq_5
  simp at cQq_0 cQq_1 cQq_2 cQq_3 cQq_4 cQq_5
  go_wp2_with fail
  rw [← hw106]
  clear hw106 fzQq_1 lzQq dQq_0 dQq_1 dQq_2 dQq_3 dQq_4 dQq_5 cQq_0 cQq_1 cQq_2 cQq_3 cQq_4 cQq_5
  refine (HO1 _).mono ?_
  intro e w7 hpost
  obtain ⟨rfl, hb⟩ := ofpost9_is hpost
  rw [← HOS.out, ← HOL.out, ← HOE.out]
  replace HB := Lib.hid (HB.out.trans (hb.mono HB.out.size))
  replace Pp := Lib.hid (Pp.out.below hb Pp.out.lt)
  clear hb hpost HO1 Qq
  go_wp2_with fail
  go_loopw [16, 17] (fun z i wr => ∃ k : Nat, k ≤ v.size ∧ i = .int .i64 k ∧ z = .int .i64 (lastNZ v.data.toList k : Nat) ∧ wr = w7) (fun _ i _ => v.size - (intOf i).toNat)
  case atStart => exact ⟨0, Nat.zero_le _, rfl, rfl, rfl⟩
  case round =>
    obtain ⟨k, hk, rfl, rfl, rfl⟩ := hrel
    have hv9 := HV.out
    by_cases hlt : k < v.size
    · have hg : v[k]'hlt = v.data.toList.getD k 0 := by
        rw [List.getD, List.getElem?_eq_getElem (by rw [size_list]; exact hlt)]
        rfl
      go_wp2_with fail
      · rename_i hh
        have h0 : ¬ v.data.toList.getD k 0 = 0 := by
          intro h
          have hh : (((v[k]'hlt).toNat : Int) != 0) = true := hh
          rw [hg, h] at hh
          simp at hh
        exact ⟨⟨k + 1, by omega, by go_num, by simp only [lastNZ, if_neg h0]; go_num, trivial⟩, by simp [intOf]; omega⟩
      · rename_i hh
        have h0 : v.data.toList.getD k 0 = 0 := by
          have hh : (((v[k]'hlt).toNat : Int) != 0) = false := hh
          rw [hg] at hh
          apply UInt8.toNat_inj.1
          simp only [bne_eq_false_iff_eq] at hh
          exact Int.ofNat.inj hh
        exact ⟨⟨k + 1, by omega, by go_num, by simp only [lastNZ, if_pos h0], trivial⟩, by simp [intOf]; omega⟩
    · obtain rfl : k = v.size := by omega
      clear hlt hk
      obtain ⟨Z, hZ⟩ : ∃ Z : Nat, Z = max 1 (lastNZ v.data.toList v.size) := ⟨_, rfl⟩
      have hmx : max (1 : Int) (lastNZ v.data.toList v.size : Nat) = (Z : Int) := by omega
      have hrc := HRC.out
      rw [hmx] at hrc
      have hoe := HOE.out
      rw [hrc] at hoe
      have hsz := HSZ.out
      have hd4 : decide ((v.size : Int) < 104) = true := by simp; omega
      have hd5 : decide (v.size < 104) = true := by simp; omega
      have hd6 : ((v.size : Int) == 104) = false := by simp; omega
      have hd7 : (v.size == 104) = false := by simp; omega
      have hb104 := HBs.out
      have hbi : (B.size : Int) = 104 := by omega
      clear hsz hv9
      generalize lastNZ v.data.toList v.size = zz at hmx hZ ⊢
      clear hZ hrc
      rcases hc1 : decide ((Z : Int) ≤ ct) with _ | _ <;> rcases hc2 : decide (ct ≤ 104) with _ | _ <;> rw [hc1, hc2] at hoe <;> simp only [Bool.and_self, Bool.and_false, Bool.false_and, Bool.true_and, if_true, Bool.false_eq_true, if_false] at hoe <;> subst hoe
      all_goals
        go_upto_region 23 with fail
        have lzPp := Pp.out.lt
        have dPp_0 := Pp.out.cell 0
        have dPp_1 := Pp.out.cell 1
        have dPp_2 := Pp.out.cell 2
        have dPp_3 := Pp.out.cell 3
        have dPp_4 := Pp.out.cell 4
        have dPp_5 := Pp.out.cell 5
        simp at dPp_0 dPp_1 dPp_2 dPp_3 dPp_4 dPp_5
        obtain ⟨w107, hw107⟩ : ∃ x, x = wr.alloc (.cells #[.int .i64 5, .int .i64 v.size, .int .u32 9, .int .u32 0, .int .u64 1, .string B] 27) := ⟨_, rfl⟩
        have saw107 : wr.heap.size = wr.heap.size := by first | rfl | omega
        have lt_Pp_Rr := Lib.hid (show gPp < wr.heap.size from saw107 ▸ Pp.out.lt)
        replace Pp := Lib.hid (show Blk w107 gPp 27 #[.int .i64 5, .int .i64 v.size, .int .u32 9, .int .u32 0, .int .u64 1, .string B] by rw [hw107]; exact Pp.out.alloc _)
        have ge_Rr := Lib.hid (show w.heap.size ≤ wr.heap.size from saw107 ▸ HB.out.size)
        replace HB := Lib.hid (show Below w.heap.size w w107 by rw [hw107]; exact HB.out.alloc HB.out.size _)
        have Rr := Lib.hid (show Blk w107 wr.heap.size 27 #[.int .i64 5, .int .i64 v.size, .int .u32 9, .int .u32 0, .int .u64 1, .string B] by rw [hw107, ← saw107]; exact Blk.new _ _ _)
        have szw107 : w107.heap.size = wr.heap.size + 1 := by rw [hw107]; simp
        clear saw107 szw107
        have cPp_0 := Pp.out.cell 0
        have cPp_1 := Pp.out.cell 1
        have cPp_2 := Pp.out.cell 2
        have cPp_3 := Pp.out.cell 3
        have cPp_4 := Pp.out.cell 4
        have cPp_5 := Pp.out.cell 5
        rw [hw107] at cPp_0 cPp_1 cPp_2 cPp_3 cPp_4 cPp_5
        simp at cPp_0 cPp_1 cPp_2 cPp_3 cPp_4 cPp_5
        go_upto_region 24 with fail
        rw [← hw107]
        clear hw107 lzPp dPp_0 dPp_1 dPp_2 dPp_3 dPp_4 dPp_5 cPp_0 cPp_1 cPp_2 cPp_3 cPp_4 cPp_5
        generalize wr.heap.size = gRr at *
        have kPp_0 := Pp.out.cell 0
        have kPp_1 := Pp.out.cell 1
        have kPp_2 := Pp.out.cell 2
        have kPp_3 := Pp.out.cell 3
        have kPp_4 := Pp.out.cell 4
        have kPp_5 := Pp.out.cell 5
        have kRr_0 := Rr.out.cell 0
        have kRr_1 := Rr.out.cell 1
        have kRr_2 := Rr.out.cell 2
        have kRr_3 := Rr.out.cell 3
        have kRr_4 := Rr.out.cell 4
        have kRr_5 := Rr.out.cell 5
        simp at kPp_0 kPp_1 kPp_2 kPp_3 kPp_4 kPp_5 kRr_0 kRr_1 kRr_2 kRr_3 kRr_4 kRr_5
        go_upto_region 27 with fail
        have hcv : (convert 42 9 (.slice (some ⟨w107.heap.size, 0, none⟩) 1 1)).run Try.prog (w107.alloc (.cells #[.int .u8 (b.toNat : Nat)] 5)).drew = .ok (.string ⟨#[b]⟩) (w107.alloc (.cells #[.int .u8 (b.toNat : Nat)] 5)).drew :=
          run_string_reads (B := w107.heap.size + 1) (n := 1) (l := [b]) _ 42 9 5 1 Try.underlying42 Try.underlying5 Try.underlying9 (reads_own (n := 1) (Blk.new w107 5 #[.int .u8 (b.toNat : Nat)]).drew rfl)
        have c5 : (w107.alloc (.cells #[.int .u8 (b.toNat : Nat)] 5)).cell? ⟨gPp, 5, none⟩ = some (.string B) := (Pp.out.alloc _).cell 5
        have r5 : (w107.alloc (.cells #[.int .u8 (b.toNat : Nat)] 5)).cell? ⟨gRr, 5, none⟩ = some (.string B) := (Rr.out.alloc _).cell 5
        have f5 : (w107.alloc (.cells #[.int .u8 (b.toNat : Nat)] 5)).frozen? ⟨gRr, 5, none⟩ = false := (Rr.out.alloc _).frozen 5
        go_region
        clear hcv c5 r5 f5 kPp_0 kRr_0 kPp_1 kRr_1 kPp_2 kRr_2 kPp_3 kRr_3 kPp_4 kRr_4 kPp_5 kRr_5
        obtain ⟨w8, hw8⟩ : ∃ x, x = ((w107.alloc (.cells #[.int .u8 (b.toNat : Nat)] 5)).setCell ⟨gRr, 5, none⟩ (.string (B.extract 0 103 ++ ⟨#[b]⟩))).drew := ⟨_, rfl⟩
        rw [← hw8]
        replace HB := Lib.hid (show Below w.heap.size w w8 by rw [hw8]; exact ((HB.out.alloc HB.out.size _).setCell (p := ⟨gRr, 5, none⟩) ge_Rr.out _).drew)
        replace Rr := Lib.hid (show Blk w8 gRr 27 #[.int .i64 5, .int .i64 v.size, .int .u32 9, .int .u32 0, .int .u64 1, .string (B.extract 0 103 ++ ⟨#[b]⟩)] by rw [hw8]; exact ((Rr.out.alloc _).set_ 5 _).drew)
        clear hw8 Pp
        have xRr_0 := Rr.out.cell 0
        have xRr_1 := Rr.out.cell 1
        have xRr_2 := Rr.out.cell 2
        have xRr_3 := Rr.out.cell 3
        have xRr_4 := Rr.out.cell 4
        have xRr_5 := Rr.out.cell 5
        simp at xRr_0 xRr_1 xRr_2 xRr_3 xRr_4 xRr_5
        by_cases hb0 : b = 0
        all_goals
          have hbt : (((b.toNat : Nat) : Int) == 0) = decide (b = 0) := by
            rw [Bool.eq_iff_iff, beq_iff_eq, decide_eq_true_eq]
            constructor
            · intro h
              exact UInt8.toNat_inj.1 (Int.ofNat.inj h)
            · rintro rfl
              rfl
          have hbn : (b.toNat == 0) = decide (b = 0) := by
            rw [← hbt, Bool.eq_iff_iff, beq_iff_eq, beq_iff_eq]
            omega
          have h3 := HR3.out
          first | rw [decide_eq_true hb0] at h3 hbt hbn | rw [decide_eq_false hb0] at h3 hbt hbn
          have h4 := HE3.out
          rw [h3] at h4
          simp only [if_true, if_false, Bool.false_eq_true] at h4
          rw [h4] at HO3
          clear h3 h4 hb0
          go_wp2_with fail
          refine (HO3 _).mono ?_
          rintro e w9 ⟨rfl, hb⟩
          replace HB := Lib.hid (HB.out.trans (hb.mono HB.out.size))
          clear hb HO3
          go_wp2_with fail
        all_goals
          go_ret
          first
            | exact ⟨rfl, HB.out⟩
            | exact ⟨congrArg (fun x => Ending.returned (Value.bool x)) hbt, HB.out⟩

theorem ovneeds_walk (n : Int) (v : ByteArray) (ct bh : Int) (w : World) (_h0 : (Lit.int .i64 n).wf = true) (_h1 : v.size ≤ maxLen) (_h2 : (Lit.int .i64 ct).wf = true) (h3 : (Lit.int .u8 bh).wf = true) :
    Calls Try.prog 6 #[.int .i64 n, .string v, .int .i64 ct, .int .u8 bh] w fun e w' => e = .returned (.bool true) ∧ Below w.heap.size w w' := by
  have hb := bounds_u8 h3
  obtain ⟨k, rfl⟩ := Int.eq_ofNat_of_zero_le hb.1
  by_cases h0 : v.size = 0
  · obtain rfl : v = ByteArray.empty := by
      apply bytes_ext
      exact List.eq_nil_of_length_eq_zero (by rw [size_list]; exact h0)
    exact ovneeds_empty n ct k w
  by_cases h1 : 104 < v.size
  · exact ovneeds_long n v ct k w h1
  by_cases h2 : v.size = 104
  · exact ovneeds_full n v ct k w (by omega) (by omega) h2
  have hk : (UInt8.ofNat k).toNat = k := by
    rw [UInt8.toNat_ofNat']
    omega
  have h := ovneeds_less n v ct (UInt8.ofNat k) w (by omega) (by omega) (by omega)
  rw [hk] at h
  exact h
end Go.Proofs.Ytihhchncglnbiaa
