/-
  The walk of the statement LeafBack: from every start, at every argument, it returns true and changes no block that was there before.
-/
import Derived.Test.YtinojpcjbjjlbaaJ45
import Derived.Test.YtinojpcjbjjlbaaJ46
import Derived.Test.YtinojpcjbjjlbaaJ47
import Derived.Test.YtinojpcjbjjlbaaJ23
import Derived.Test.YtinojpcjbjjlbaaJ26
import Derived.Deep.RegionHeld3
import Derived.Deep.CutRange
namespace Go.Proofs.Ytinojpcjbjjlbaa
open Go.RowKit
open Go.Lib hiding intOf
set_option linter.unusedVariables false
set_option linter.unusedSimpArgs false
attribute [local go_sem ↓] Go.wp_at_zero Go.wp_at_succ

theorem page_eql_yes8 (a0 a1 a2 a3 a4 : Int) (a5 : ByteArray) (w : World) : (binOp .eql 26 (.agg #[.int .i64 a0, .int .i64 a1, .int .u32 a2, .int .u32 a3, .int .u64 a4, .string a5]) (.agg #[.int .i64 a0, .int .i64 a1, .int .u32 a2, .int .u32 a3, .int .u64 a4, .string a5])).run Try.prog w = .ok (.bool true) w := by
  simp [go_sem]
set_option maxRecDepth 100000 in
set_option maxHeartbeats 6400000 in
theorem lfback_no (size : Int) (n tx : Nat) (A : Option Addr) (m c : Nat) (l : List It) (kd ct : Int) (pg lk ty : Nat) (bd : ByteArray) (w : World) (hr : Reads w w.heap.size 5 A m (itc l)) (hm : m ≤ 2513169434916) (hnr : NearI l) (hmc : m ≤ c) (hl : lightI l = false) :
    Calls Try.prog 5 #[.int .i64 size, .int .u32 n, .int .u64 tx, .slice A m c, .agg #[.int .i64 kd, .int .i64 ct, .int .u32 pg, .int .u32 lk, .int .u64 ty, .string bd]] w fun e w' => e = .returned (.bool true) ∧ Below w.heap.size w w' := by
  have HR := Lib.hid hr
  have HM := Lib.hid hm
  have HNr := Lib.hid hnr
  have HLi := Lib.hid hl
  clear hr hm hl hnr hmc
  have HB := Lib.hid (Below.refl w.heap.size w)
  go_enter Try.func5, Try.ntmps5
  obtain ⟨w101, hw101⟩ : ∃ x, x = w.alloc (.cells #[.int .i64 kd, .int .i64 ct, .int .u32 pg, .int .u32 lk, .int .u64 ty, .string bd] 26) := ⟨_, rfl⟩
  have saw101 : w.heap.size = w.heap.size := by first | rfl | omega
  have ge_Pp := Lib.hid (show w.heap.size ≤ w.heap.size from saw101 ▸ HB.out.size)
  replace HB := Lib.hid (show Below w.heap.size w w101 by rw [hw101]; exact HB.out.alloc HB.out.size _)
  have Pp := Lib.hid (show Blk w101 w.heap.size 26 #[.int .i64 kd, .int .i64 ct, .int .u32 pg, .int .u32 lk, .int .u64 ty, .string bd] by rw [hw101, ← saw101]; exact Blk.new _ _ _)
  have szw101 : w101.heap.size = w.heap.size + 1 := by rw [hw101]; simp
  clear saw101 szw101
  go_wp2_with fail
  rw [← hw101]
  clear hw101
  refine (lives8_any _).mono ?_
  rintro e w102 ⟨rfl, hb⟩
  replace HB := Lib.hid (HB.out.trans (hb.mono HB.out.size))
  replace Pp := Lib.hid (Pp.out.below hb Pp.out.lt)
  clear hb
  have cPp_0 := Pp.out.cell 0
  have cPp_1 := Pp.out.cell 1
  have cPp_2 := Pp.out.cell 2
  have cPp_3 := Pp.out.cell 3
  have cPp_4 := Pp.out.cell 4
  have cPp_5 := Pp.out.cell 5
  simp at cPp_0 cPp_1 cPp_2 cPp_3 cPp_4 cPp_5
  go_wp2_with fail
  refine (light8_bel A m c l _ (HR.out.below HB.out) (Nat.le_trans HM.out (by decide)) HNr.out).mono ?_
  rintro e w103 ⟨rfl, hb⟩
  replace HB := Lib.hid (HB.out.trans (hb.mono HB.out.size))
  replace Pp := Lib.hid (Pp.out.below hb Pp.out.lt)
  clear hb
  have vPp_0 := Pp.out.cell 0
  have vPp_1 := Pp.out.cell 1
  have vPp_2 := Pp.out.cell 2
  have vPp_3 := Pp.out.cell 3
  have vPp_4 := Pp.out.cell 4
  have vPp_5 := Pp.out.cell 5
  simp at vPp_0 vPp_1 vPp_2 vPp_3 vPp_4 vPp_5
  rw [HLi.out]
  go_wp2_with fail
  go_ret
  exact ⟨rfl, HB.out⟩
set_option maxRecDepth 100000 in
set_option maxHeartbeats 6400000 in
theorem lfback_long (size : Int) (n tx : Nat) (A : Option Addr) (m c : Nat) (l : List It) (kd ct : Int) (pg lk ty : Nat) (bd : ByteArray) (w : World) (hr : Reads w w.heap.size 5 A m (itc l)) (hm : m ≤ 2513169434916) (hnr : NearI l) (hmc : m ≤ c) (hl : lightI l = true) (hb : 4200 < bd.size) :
    Calls Try.prog 5 #[.int .i64 size, .int .u32 n, .int .u64 tx, .slice A m c, .agg #[.int .i64 kd, .int .i64 ct, .int .u32 pg, .int .u32 lk, .int .u64 ty, .string bd]] w fun e w' => e = .returned (.bool true) ∧ Below w.heap.size w w' := by
  have HR := Lib.hid hr
  have HM := Lib.hid hm
  have HNr := Lib.hid hnr
  have HLi := Lib.hid hl
  have hd : decide ((4200 : Int) < bd.size) = true := by simp; omega
  have hd2 : decide (4200 < bd.size) = true := by simp; omega
  clear hb
  clear hr hm hl hnr hmc
  have HB := Lib.hid (Below.refl w.heap.size w)
  go_enter Try.func5, Try.ntmps5
  obtain ⟨w101, hw101⟩ : ∃ x, x = w.alloc (.cells #[.int .i64 kd, .int .i64 ct, .int .u32 pg, .int .u32 lk, .int .u64 ty, .string bd] 26) := ⟨_, rfl⟩
  have saw101 : w.heap.size = w.heap.size := by first | rfl | omega
  have ge_Pp := Lib.hid (show w.heap.size ≤ w.heap.size from saw101 ▸ HB.out.size)
  replace HB := Lib.hid (show Below w.heap.size w w101 by rw [hw101]; exact HB.out.alloc HB.out.size _)
  have Pp := Lib.hid (show Blk w101 w.heap.size 26 #[.int .i64 kd, .int .i64 ct, .int .u32 pg, .int .u32 lk, .int .u64 ty, .string bd] by rw [hw101, ← saw101]; exact Blk.new _ _ _)
  have szw101 : w101.heap.size = w.heap.size + 1 := by rw [hw101]; simp
  clear saw101 szw101
  go_wp2_with fail
  rw [← hw101]
  clear hw101
  refine (lives8_any _).mono ?_
  rintro e w102 ⟨rfl, hb⟩
  replace HB := Lib.hid (HB.out.trans (hb.mono HB.out.size))
  replace Pp := Lib.hid (Pp.out.below hb Pp.out.lt)
  clear hb
  have cPp_0 := Pp.out.cell 0
  have cPp_1 := Pp.out.cell 1
  have cPp_2 := Pp.out.cell 2
  have cPp_3 := Pp.out.cell 3
  have cPp_4 := Pp.out.cell 4
  have cPp_5 := Pp.out.cell 5
  simp at cPp_0 cPp_1 cPp_2 cPp_3 cPp_4 cPp_5
  go_wp2_with fail
  refine (light8_bel A m c l _ (HR.out.below HB.out) (Nat.le_trans HM.out (by decide)) HNr.out).mono ?_
  rintro e w103 ⟨rfl, hb⟩
  replace HB := Lib.hid (HB.out.trans (hb.mono HB.out.size))
  replace Pp := Lib.hid (Pp.out.below hb Pp.out.lt)
  clear hb
  have vPp_0 := Pp.out.cell 0
  have vPp_1 := Pp.out.cell 1
  have vPp_2 := Pp.out.cell 2
  have vPp_3 := Pp.out.cell 3
  have vPp_4 := Pp.out.cell 4
  have vPp_5 := Pp.out.cell 5
  simp at vPp_0 vPp_1 vPp_2 vPp_3 vPp_4 vPp_5
  rw [HLi.out]
  go_wp2_with fail
  go_ret
  exact ⟨rfl, HB.out⟩
set_option maxRecDepth 100000 in
set_option maxHeartbeats 6400000 in
theorem lfback_00 (size : Int) (n tx : Nat) (A : Option Addr) (m c : Nat) (l : List It) (kd ct : Int) (pg lk ty : Nat) (bd : ByteArray) (w : World) (hr : Reads w w.heap.size 5 A m (itc l)) (hm : m ≤ 2513169434916) (hnr : NearI l) (hmc : m ≤ c) (hl : lightI l = true) (hb : ¬ 4200 < bd.size) (h60 : m ≤ 100) (hsz : sizeI l ≤ 5000) (hy : mayP8 size n tx l = false) (hk : readI kd ct pg lk ty bd = none) :
    Calls Try.prog 5 #[.int .i64 size, .int .u32 n, .int .u64 tx, .slice A m c, .agg #[.int .i64 kd, .int .i64 ct, .int .u32 pg, .int .u32 lk, .int .u64 ty, .string bd]] w fun e w' => e = .returned (.bool true) ∧ Below w.heap.size w w' := by
  have HR := Lib.hid hr
  have HM := Lib.hid hm
  have HNr := Lib.hid hnr
  have HLi := Lib.hid hl
  have HB42 := Lib.hid hb
  have hd : decide ((4200 : Int) < bd.size) = false := by simp; omega
  have hd2 : decide (4200 < bd.size) = false := by simp; omega
  have HPg := fun (w' : World) (hb : Below w.heap.size w w') => lpage8_no size n tx A m c l w' ((hr.below hb).more hb.size) (by omega) hnr hy
  have HOp := fun w => lof8_any kd ct pg lk ty bd w (by omega)
  rw [hk] at HOp
  clear hr hm hl hb hy hk hsz hnr
  obtain ⟨hz, hi⟩ := zero_of_info infoPg
  have HI := Lib.hid hi
  clear hi
  have HB := Lib.hid (Below.refl w.heap.size w)
  go_enter Try.func5, Try.ntmps5
  obtain ⟨w101, hw101⟩ : ∃ x, x = w.alloc (.cells #[.int .i64 kd, .int .i64 ct, .int .u32 pg, .int .u32 lk, .int .u64 ty, .string bd] 26) := ⟨_, rfl⟩
  have saw101 : w.heap.size = w.heap.size := by first | rfl | omega
  have ge_Pp := Lib.hid (show w.heap.size ≤ w.heap.size from saw101 ▸ HB.out.size)
  replace HB := Lib.hid (show Below w.heap.size w w101 by rw [hw101]; exact HB.out.alloc HB.out.size _)
  have Pp := Lib.hid (show Blk w101 w.heap.size 26 #[.int .i64 kd, .int .i64 ct, .int .u32 pg, .int .u32 lk, .int .u64 ty, .string bd] by rw [hw101, ← saw101]; exact Blk.new _ _ _)
  have szw101 : w101.heap.size = w.heap.size + 1 := by rw [hw101]; simp
  clear saw101 szw101
  go_wp2_with fail
  rw [← hw101]
  clear hw101
  refine (lives8_any _).mono ?_
  rintro e w102 ⟨rfl, hb⟩
  replace HB := Lib.hid (HB.out.trans (hb.mono HB.out.size))
  replace Pp := Lib.hid (Pp.out.below hb Pp.out.lt)
  clear hb
  have cPp_0 := Pp.out.cell 0
  have cPp_1 := Pp.out.cell 1
  have cPp_2 := Pp.out.cell 2
  have cPp_3 := Pp.out.cell 3
  have cPp_4 := Pp.out.cell 4
  have cPp_5 := Pp.out.cell 5
  simp at cPp_0 cPp_1 cPp_2 cPp_3 cPp_4 cPp_5
  go_wp2_with fail
  refine (light8_bel A m c l _ (HR.out.below HB.out) (Nat.le_trans HM.out (by decide)) HNr.out).mono ?_
  rintro e w103 ⟨rfl, hb⟩
  replace HB := Lib.hid (HB.out.trans (hb.mono HB.out.size))
  replace Pp := Lib.hid (Pp.out.below hb Pp.out.lt)
  clear hb
  have vPp_0 := Pp.out.cell 0
  have vPp_1 := Pp.out.cell 1
  have vPp_2 := Pp.out.cell 2
  have vPp_3 := Pp.out.cell 3
  have vPp_4 := Pp.out.cell 4
  have vPp_5 := Pp.out.cell 5
  simp at vPp_0 vPp_1 vPp_2 vPp_3 vPp_4 vPp_5
  rw [HLi.out]
  go_wp2_with fail
  refine (HPg _ HB.out).mono ?_
  rintro e w104 ⟨rfl, hb⟩
  replace HB := Lib.hid (HB.out.trans (hb.mono HB.out.size))
  replace Pp := Lib.hid (Pp.out.below hb Pp.out.lt)
  clear hb
  clear HPg
  have lzPp := Pp.out.lt
  have dPp_0 := Pp.out.cell 0
  have dPp_1 := Pp.out.cell 1
  have dPp_2 := Pp.out.cell 2
  have dPp_3 := Pp.out.cell 3
  have dPp_4 := Pp.out.cell 4
  have dPp_5 := Pp.out.cell 5
  simp at dPp_0 dPp_1 dPp_2 dPp_3 dPp_4 dPp_5
  obtain ⟨w105, hw105⟩ : ∃ x, x = w104.alloc (.cells #[.int .i64 0, .int .i64 0, .int .u32 0, .int .u32 0, .int .u64 0, .string ByteArray.empty] 26) := ⟨_, rfl⟩
  have saw105 : w104.heap.size = w104.heap.size := by first | rfl | omega
  have lt_Pp_Xx := Lib.hid (show w.heap.size < w104.heap.size from saw105 ▸ Pp.out.lt)
  replace Pp := Lib.hid (show Blk w105 w.heap.size 26 #[.int .i64 kd, .int .i64 ct, .int .u32 pg, .int .u32 lk, .int .u64 ty, .string bd] by rw [hw105]; exact Pp.out.alloc _)
  have ge_Xx := Lib.hid (show w.heap.size ≤ w104.heap.size from saw105 ▸ HB.out.size)
  replace HB := Lib.hid (show Below w.heap.size w w105 by rw [hw105]; exact HB.out.alloc HB.out.size _)
  have Xx := Lib.hid (show Blk w105 w104.heap.size 26 #[.int .i64 0, .int .i64 0, .int .u32 0, .int .u32 0, .int .u64 0, .string ByteArray.empty] by rw [hw105, ← saw105]; exact Blk.new _ _ _)
  have szw105 : w105.heap.size = w104.heap.size + 1 := by rw [hw105]; simp
  clear saw105 szw105
  have cPp_0 := Pp.out.cell 0
  have cPp_1 := Pp.out.cell 1
  have cPp_2 := Pp.out.cell 2
  have cPp_3 := Pp.out.cell 3
  have cPp_4 := Pp.out.cell 4
  have cPp_5 := Pp.out.cell 5
  rw [hw105] at cPp_0 cPp_1 cPp_2 cPp_3 cPp_4 cPp_5
  simp at cPp_0 cPp_1 cPp_2 cPp_3 cPp_4 cPp_5
  go_wp2_with fail
  rw [← hw105]
  clear hw105 lzPp dPp_0 dPp_1 dPp_2 dPp_3 dPp_4 dPp_5 cPp_0 cPp_1 cPp_2 cPp_3 cPp_4 cPp_5
  generalize w104.heap.size = gXx at *
  refine (HOp _).mono ?_
  intro e w7 hpost
  obtain ⟨rfl, hb⟩ := hpost
  replace HB := Lib.hid (HB.out.trans (hb.mono HB.out.size))
  clear hb
  go_wp2_with fail
  go_ret
  exact ⟨rfl, HB.out⟩
set_option maxRecDepth 100000 in
set_option maxHeartbeats 6400000 in
theorem lfback_01 (size : Int) (n tx : Nat) (A : Option Addr) (m c : Nat) (l : List It) (kd ct : Int) (pg lk ty : Nat) (bd : ByteArray) (w : World) (hr : Reads w w.heap.size 5 A m (itc l)) (hm : m ≤ 2513169434916) (hnr : NearI l) (hmc : m ≤ c) (hl : lightI l = true) (hb : ¬ 4200 < bd.size) (h60 : m ≤ 100) (hsz : sizeI l ≤ 5000) (hy : mayP8 size n tx l = false) (k : List It) (hk : readI kd ct pg lk ty bd = some k) :
    Calls Try.prog 5 #[.int .i64 size, .int .u32 n, .int .u64 tx, .slice A m c, .agg #[.int .i64 kd, .int .i64 ct, .int .u32 pg, .int .u32 lk, .int .u64 ty, .string bd]] w fun e w' => e = .returned (.bool true) ∧ Below w.heap.size w w' := by
  have HR := Lib.hid hr
  have HM := Lib.hid hm
  have HNr := Lib.hid hnr
  have HLi := Lib.hid hl
  have HB42 := Lib.hid hb
  have hd : decide ((4200 : Int) < bd.size) = false := by simp; omega
  have hd2 : decide (4200 < bd.size) = false := by simp; omega
  have HPg := fun (w' : World) (hb : Below w.heap.size w w') => lpage8_no size n tx A m c l w' ((hr.below hb).more hb.size) (by omega) hnr hy
  have HOp := fun w => lof8_any kd ct pg lk ty bd w (by omega)
  rw [hk] at HOp
  obtain ⟨hm1, rfl, hct, rfl, hbd⟩ := readI_some hk
  obtain ⟨zz, hzz⟩ : ∃ zz, zz = bd.size + 24 := ⟨_, rfl⟩
  rw [← hzz] at hm1 hbd
  have hzi : (bd.size : Int) + 24 = (zz : Int) := by omega
  have hzb : zz ≤ 4224 := by omega
  have hbb : bd.size ≤ 4200 := by omega
  have hp2 := mayP8_parts hm1
  have hkl : k.length * 3 ≤ sizeI k := three_le k
  have hgz2 := good_pos hp2.2.2.1
  have HPy := fun (A' : Option Addr) (c' : Nat) (w' : World) (hr' : Reads w' w'.heap.size 5 A' k.length (itc k)) => lpage8_yes zz pg ty A' k.length c' k w' hr' (by omega) hm1
  rw [← hbd, ← hct] at HPy
  have heq := fun w => page_eql_yes8 4 ct pg 0 ty bd w
  obtain ⟨kn, hkn⟩ : ∃ kn : Nat, kn = k.length := ⟨_, rfl⟩
  rw [← hkn] at HPy hct
  have HKN := Lib.hid hkn
  have HCT := Lib.hid hct
  clear hzz hm1 hbd hp2 hkl hgz2 hct hkn
  clear hr hm hl hb hy hk hsz hnr
  obtain ⟨hz, hi⟩ := zero_of_info infoPg
  have HI := Lib.hid hi
  clear hi
  have HB := Lib.hid (Below.refl w.heap.size w)
  go_enter Try.func5, Try.ntmps5
  obtain ⟨w101, hw101⟩ : ∃ x, x = w.alloc (.cells #[.int .i64 4, .int .i64 ct, .int .u32 pg, .int .u32 0, .int .u64 ty, .string bd] 26) := ⟨_, rfl⟩
  have saw101 : w.heap.size = w.heap.size := by first | rfl | omega
  have ge_Pp := Lib.hid (show w.heap.size ≤ w.heap.size from saw101 ▸ HB.out.size)
  replace HB := Lib.hid (show Below w.heap.size w w101 by rw [hw101]; exact HB.out.alloc HB.out.size _)
  have Pp := Lib.hid (show Blk w101 w.heap.size 26 #[.int .i64 4, .int .i64 ct, .int .u32 pg, .int .u32 0, .int .u64 ty, .string bd] by rw [hw101, ← saw101]; exact Blk.new _ _ _)
  have szw101 : w101.heap.size = w.heap.size + 1 := by rw [hw101]; simp
  clear saw101 szw101
  go_wp2_with fail
  rw [← hw101]
  clear hw101
  refine (lives8_any _).mono ?_
  rintro e w102 ⟨rfl, hb⟩
  replace HB := Lib.hid (HB.out.trans (hb.mono HB.out.size))
  replace Pp := Lib.hid (Pp.out.below hb Pp.out.lt)
  clear hb
  have cPp_0 := Pp.out.cell 0
  have cPp_1 := Pp.out.cell 1
  have cPp_2 := Pp.out.cell 2
  have cPp_3 := Pp.out.cell 3
  have cPp_4 := Pp.out.cell 4
  have cPp_5 := Pp.out.cell 5
  simp at cPp_0 cPp_1 cPp_2 cPp_3 cPp_4 cPp_5
  go_wp2_with fail
  refine (light8_bel A m c l _ (HR.out.below HB.out) (Nat.le_trans HM.out (by decide)) HNr.out).mono ?_
  rintro e w103 ⟨rfl, hb⟩
  replace HB := Lib.hid (HB.out.trans (hb.mono HB.out.size))
  replace Pp := Lib.hid (Pp.out.below hb Pp.out.lt)
  clear hb
  have vPp_0 := Pp.out.cell 0
  have vPp_1 := Pp.out.cell 1
  have vPp_2 := Pp.out.cell 2
  have vPp_3 := Pp.out.cell 3
  have vPp_4 := Pp.out.cell 4
  have vPp_5 := Pp.out.cell 5
  simp at vPp_0 vPp_1 vPp_2 vPp_3 vPp_4 vPp_5
  rw [HLi.out]
  go_wp2_with fail
  refine (HPg _ HB.out).mono ?_
  rintro e w104 ⟨rfl, hb⟩
  replace HB := Lib.hid (HB.out.trans (hb.mono HB.out.size))
  replace Pp := Lib.hid (Pp.out.below hb Pp.out.lt)
  clear hb
  clear HPg
  have lzPp := Pp.out.lt
  have dPp_0 := Pp.out.cell 0
  have dPp_1 := Pp.out.cell 1
  have dPp_2 := Pp.out.cell 2
  have dPp_3 := Pp.out.cell 3
  have dPp_4 := Pp.out.cell 4
  have dPp_5 := Pp.out.cell 5
  simp at dPp_0 dPp_1 dPp_2 dPp_3 dPp_4 dPp_5
  obtain ⟨w105, hw105⟩ : ∃ x, x = w104.alloc (.cells #[.int .i64 0, .int .i64 0, .int .u32 0, .int .u32 0, .int .u64 0, .string ByteArray.empty] 26) := ⟨_, rfl⟩
  have saw105 : w104.heap.size = w104.heap.size := by first | rfl | omega
  have lt_Pp_Xx := Lib.hid (show w.heap.size < w104.heap.size from saw105 ▸ Pp.out.lt)
  replace Pp := Lib.hid (show Blk w105 w.heap.size 26 #[.int .i64 4, .int .i64 ct, .int .u32 pg, .int .u32 0, .int .u64 ty, .string bd] by rw [hw105]; exact Pp.out.alloc _)
  have ge_Xx := Lib.hid (show w.heap.size ≤ w104.heap.size from saw105 ▸ HB.out.size)
  replace HB := Lib.hid (show Below w.heap.size w w105 by rw [hw105]; exact HB.out.alloc HB.out.size _)
  have Xx := Lib.hid (show Blk w105 w104.heap.size 26 #[.int .i64 0, .int .i64 0, .int .u32 0, .int .u32 0, .int .u64 0, .string ByteArray.empty] by rw [hw105, ← saw105]; exact Blk.new _ _ _)
  have szw105 : w105.heap.size = w104.heap.size + 1 := by rw [hw105]; simp
  clear saw105 szw105
  have cPp_0 := Pp.out.cell 0
  have cPp_1 := Pp.out.cell 1
  have cPp_2 := Pp.out.cell 2
  have cPp_3 := Pp.out.cell 3
  have cPp_4 := Pp.out.cell 4
  have cPp_5 := Pp.out.cell 5
  rw [hw105] at cPp_0 cPp_1 cPp_2 cPp_3 cPp_4 cPp_5
  simp at cPp_0 cPp_1 cPp_2 cPp_3 cPp_4 cPp_5
  go_wp2_with fail
  rw [← hw105]
  clear hw105 lzPp dPp_0 dPp_1 dPp_2 dPp_3 dPp_4 dPp_5 cPp_0 cPp_1 cPp_2 cPp_3 cPp_4 cPp_5
  generalize w104.heap.size = gXx at *
  refine (HOp _).mono ?_
  intro e w7 hpost
  obtain ⟨A7, n7, c7, rfl, hr7, hc7, hm7, hb⟩ := hpost
  obtain rfl : kn = n7 := HKN.out.trans (it_len hr7)
  have HR7 := Lib.hid hr7
  replace HB := Lib.hid (HB.out.trans (hb.mono HB.out.size))
  replace Pp := Lib.hid (Pp.out.below hb Pp.out.lt)
  replace Xx := Lib.hid (Xx.out.below hb Xx.out.lt)
  clear hb hr7 HOp
  have gPp_0 := Pp.out.cell 0
  have gPp_1 := Pp.out.cell 1
  have gPp_2 := Pp.out.cell 2
  have gPp_3 := Pp.out.cell 3
  have gPp_4 := Pp.out.cell 4
  have gPp_5 := Pp.out.cell 5
  simp at gPp_0 gPp_1 gPp_2 gPp_3 gPp_4 gPp_5
  go_wp2_with fail
  have HPy2 := HPy A7 c7 w7 HR7.out
  refine (HPy2).mono ?_
  rintro e w106 ⟨rfl, hb⟩
  replace HB := Lib.hid (HB.out.trans (hb.mono HB.out.size))
  replace Pp := Lib.hid (Pp.out.below hb Pp.out.lt)
  replace Xx := Lib.hid (Xx.out.below hb Xx.out.lt)
  clear hb
  clear HPy HPy2
  obtain ⟨w107, hw107⟩ : ∃ x, x = w106.alloc (.cells #[.int .i64 4, .int .i64 ct, .int .u32 pg, .int .u32 0, .int .u64 ty, .string bd] 26) := ⟨_, rfl⟩
  have saw107 : w106.heap.size = w106.heap.size := by first | rfl | omega
  have lt_Pp_Yy := Lib.hid (show w.heap.size < w106.heap.size from saw107 ▸ Pp.out.lt)
  replace Pp := Lib.hid (show Blk w107 w.heap.size 26 #[.int .i64 4, .int .i64 ct, .int .u32 pg, .int .u32 0, .int .u64 ty, .string bd] by rw [hw107]; exact Pp.out.alloc _)
  have lt_Xx_Yy := Lib.hid (show gXx < w106.heap.size from saw107 ▸ Xx.out.lt)
  replace Xx := Lib.hid (show Blk w107 gXx 26 #[.int .i64 0, .int .i64 0, .int .u32 0, .int .u32 0, .int .u64 0, .string ByteArray.empty] by rw [hw107]; exact Xx.out.alloc _)
  have ge_Yy := Lib.hid (show w.heap.size ≤ w106.heap.size from saw107 ▸ HB.out.size)
  replace HB := Lib.hid (show Below w.heap.size w w107 by rw [hw107]; exact HB.out.alloc HB.out.size _)
  have Yy := Lib.hid (show Blk w107 w106.heap.size 26 #[.int .i64 4, .int .i64 ct, .int .u32 pg, .int .u32 0, .int .u64 ty, .string bd] by rw [hw107, ← saw107]; exact Blk.new _ _ _)
  have szw107 : w107.heap.size = w106.heap.size + 1 := by rw [hw107]; simp
  clear saw107 szw107
  go_upto_region 17 with fail
  rw [← hw107]
  clear hw107
  generalize w106.heap.size = gYy at *
  have hPp_0 := Pp.out.cell 0
  have hPp_1 := Pp.out.cell 1
  have hPp_2 := Pp.out.cell 2
  have hPp_3 := Pp.out.cell 3
  have hPp_4 := Pp.out.cell 4
  have hPp_5 := Pp.out.cell 5
  have hYy_0 := Yy.out.cell 0
  have hYy_1 := Yy.out.cell 1
  have hYy_2 := Yy.out.cell 2
  have hYy_3 := Yy.out.cell 3
  have hYy_4 := Yy.out.cell 4
  have hYy_5 := Yy.out.cell 5
  simp at hPp_0 hPp_1 hPp_2 hPp_3 hPp_4 hPp_5 hYy_0 hYy_1 hYy_2 hYy_3 hYy_4 hYy_5
  go_wp2_with fail
  go_ret
  exact ⟨rfl, HB.out⟩
set_option maxRecDepth 100000 in
set_option maxHeartbeats 6400000 in
theorem lfback_10 (z : Nat) (n tx : Nat) (A : Option Addr) (m c : Nat) (l : List It) (kd ct : Int) (pg lk ty : Nat) (bd : ByteArray) (w : World) (hr : Reads w w.heap.size 5 A m (itc l)) (hm : m ≤ 2513169434916) (hnr : NearI l) (hmc : m ≤ c) (hl : lightI l = true) (hb : ¬ 4200 < bd.size) (h60 : m ≤ 100) (hsz : sizeI l ≤ 5000) (hy : mayP8 z n tx l = true) (hk : readI kd ct pg lk ty bd = none) :
    Calls Try.prog 5 #[.int .i64 z, .int .u32 n, .int .u64 tx, .slice A m c, .agg #[.int .i64 kd, .int .i64 ct, .int .u32 pg, .int .u32 lk, .int .u64 ty, .string bd]] w fun e w' => e = .returned (.bool true) ∧ Below w.heap.size w w' := by
  have HR := Lib.hid hr
  have HM := Lib.hid hm
  have HNr := Lib.hid hnr
  have HLi := Lib.hid hl
  have HB42 := Lib.hid hb
  have hd : decide ((4200 : Int) < bd.size) = false := by simp; omega
  have hd2 : decide (4200 < bd.size) = false := by simp; omega
  obtain ⟨X, hX⟩ : ∃ X, X = itemBody z l := ⟨_, rfl⟩
  have hpt := mayP8_parts hy
  have hgz := good_pos hpt.2.2.1
  have hXs : X.size = z - 24 := by rw [hX]; exact itemBody_size z l hpt.2.2.2.1.1
  have hXl := hpt.2.2.2.1.1
  have HPg := fun (w' : World) (hb : Below w.heap.size w w') => lpage8_yes z n tx A m c l w' ((hr.below hb).more hb.size) (by omega) hy
  rw [← hX] at HPg
  have hall1 := allOkI_take hpt.1 1
  have hlen1 : (l.take 1).length = 1 := by rw [List.length_take]; have := hpt.2.1; omega
  have hm1l : 1 ≤ m := by have := hpt.2.1; have := it_len hr; omega
  have hy1 : mayP8 z n tx (l.take 1) = true := by
    have h1 := sizeI_take_le l 1
    have h2 := hpt.2.2.2.1.1
    have h3 := hpt.2.2.2.1.2
    simp only [mayP8, Bool.and_eq_true, decide_eq_true_eq] at hy ⊢
    exact ⟨hy.1, by simp only [mayI, hall1, hlen1]; rfl, by omega, hy.2.2.2⟩
  have HP1 := fun (w' : World) (hb : Below w.heap.size w w') => lpage8_yes z n tx A 1 c (l.take 1) w' ((it_take (hr.below hb) hm1l).more hb.size) (by omega) hy1
  obtain ⟨X1, hX1⟩ : ∃ X, X = itemBody z (l.take 1) := ⟨_, rfl⟩
  rw [← hX1] at HP1
  have h1c : (1 : Int) ≤ c := by omega
  have h1c2 : 1 ≤ c := by omega
  clear hall1 hlen1 hm1l hy1 hX1
  have hlen := it_len hr
  have HOx := fun w => lof8_any 4 m n 0 tx X w (by omega)
  have hrd : readI 4 m n 0 tx X = some l := by rw [hX, ← hlen]; exact readI_page hy
  rw [hrd] at HOx
  have hsub : (z : Int) - 24 = (X.size : Int) := by omega
  obtain ⟨hz1, hz2⟩ := hgz
  obtain ⟨SL, hSL⟩ : ∃ s, s = sizeI l := ⟨_, rfl⟩
  have HSL := Lib.hid hSL
  have HSz := Lib.hid hsz
  have hgt : decide (X.size < SL) = false := decide_eq_false (by omega)
  have hgt2 : decide ((X.size : Int) < SL) = false := decide_eq_false (by omega)
  clear hX hpt hXs hlen hrd hXl hSL
  have HOp := fun w => lof8_any kd ct pg lk ty bd w (by omega)
  rw [hk] at HOp
  clear hr hm hl hb hy hk hsz hnr
  obtain ⟨hz, hi⟩ := zero_of_info infoPg
  have HI := Lib.hid hi
  clear hi
  have HB := Lib.hid (Below.refl w.heap.size w)
  go_enter Try.func5, Try.ntmps5
  obtain ⟨w101, hw101⟩ : ∃ x, x = w.alloc (.cells #[.int .i64 kd, .int .i64 ct, .int .u32 pg, .int .u32 lk, .int .u64 ty, .string bd] 26) := ⟨_, rfl⟩
  have saw101 : w.heap.size = w.heap.size := by first | rfl | omega
  have ge_Pp := Lib.hid (show w.heap.size ≤ w.heap.size from saw101 ▸ HB.out.size)
  replace HB := Lib.hid (show Below w.heap.size w w101 by rw [hw101]; exact HB.out.alloc HB.out.size _)
  have Pp := Lib.hid (show Blk w101 w.heap.size 26 #[.int .i64 kd, .int .i64 ct, .int .u32 pg, .int .u32 lk, .int .u64 ty, .string bd] by rw [hw101, ← saw101]; exact Blk.new _ _ _)
  have szw101 : w101.heap.size = w.heap.size + 1 := by rw [hw101]; simp
  clear saw101 szw101
  go_wp2_with fail
  rw [← hw101]
  clear hw101
  refine (lives8_any _).mono ?_
  rintro e w102 ⟨rfl, hb⟩
  replace HB := Lib.hid (HB.out.trans (hb.mono HB.out.size))
  replace Pp := Lib.hid (Pp.out.below hb Pp.out.lt)
  clear hb
  have cPp_0 := Pp.out.cell 0
  have cPp_1 := Pp.out.cell 1
  have cPp_2 := Pp.out.cell 2
  have cPp_3 := Pp.out.cell 3
  have cPp_4 := Pp.out.cell 4
  have cPp_5 := Pp.out.cell 5
  simp at cPp_0 cPp_1 cPp_2 cPp_3 cPp_4 cPp_5
  go_wp2_with fail
  refine (light8_bel A m c l _ (HR.out.below HB.out) (Nat.le_trans HM.out (by decide)) HNr.out).mono ?_
  rintro e w103 ⟨rfl, hb⟩
  replace HB := Lib.hid (HB.out.trans (hb.mono HB.out.size))
  replace Pp := Lib.hid (Pp.out.below hb Pp.out.lt)
  clear hb
  have vPp_0 := Pp.out.cell 0
  have vPp_1 := Pp.out.cell 1
  have vPp_2 := Pp.out.cell 2
  have vPp_3 := Pp.out.cell 3
  have vPp_4 := Pp.out.cell 4
  have vPp_5 := Pp.out.cell 5
  simp at vPp_0 vPp_1 vPp_2 vPp_3 vPp_4 vPp_5
  rw [HLi.out]
  go_wp2_with fail
  refine (HPg _ HB.out).mono ?_
  rintro e w104 ⟨rfl, hb⟩
  replace HB := Lib.hid (HB.out.trans (hb.mono HB.out.size))
  replace Pp := Lib.hid (Pp.out.below hb Pp.out.lt)
  clear hb
  clear HPg
  obtain ⟨w105, hw105⟩ : ∃ x, x = w104.alloc (.cells #[.int .i64 4, .int .i64 m, .int .u32 n, .int .u32 0, .int .u64 tx, .string X] 26) := ⟨_, rfl⟩
  have saw105 : w104.heap.size = w104.heap.size := by first | rfl | omega
  have lt_Pp_Xx := Lib.hid (show w.heap.size < w104.heap.size from saw105 ▸ Pp.out.lt)
  replace Pp := Lib.hid (show Blk w105 w.heap.size 26 #[.int .i64 kd, .int .i64 ct, .int .u32 pg, .int .u32 lk, .int .u64 ty, .string bd] by rw [hw105]; exact Pp.out.alloc _)
  have ge_Xx := Lib.hid (show w.heap.size ≤ w104.heap.size from saw105 ▸ HB.out.size)
  replace HB := Lib.hid (show Below w.heap.size w w105 by rw [hw105]; exact HB.out.alloc HB.out.size _)
  have Xx := Lib.hid (show Blk w105 w104.heap.size 26 #[.int .i64 4, .int .i64 m, .int .u32 n, .int .u32 0, .int .u64 tx, .string X] by rw [hw105, ← saw105]; exact Blk.new _ _ _)
  have szw105 : w105.heap.size = w104.heap.size + 1 := by rw [hw105]; simp
  clear saw105 szw105
  go_upto_region 6 with fail
  rw [← hw105]
  clear hw105
  generalize w104.heap.size = gXx at *
  have cXx_0 := Xx.out.cell 0
  have cXx_1 := Xx.out.cell 1
  have cXx_2 := Xx.out.cell 2
  have cXx_3 := Xx.out.cell 3
  have cXx_4 := Xx.out.cell 4
  have cXx_5 := Xx.out.cell 5
  have cPp_0 := Pp.out.cell 0
  have cPp_1 := Pp.out.cell 1
  have cPp_2 := Pp.out.cell 2
  have cPp_3 := Pp.out.cell 3
  have cPp_4 := Pp.out.cell 4
  have cPp_5 := Pp.out.cell 5
  simp at cXx_0 cXx_1 cXx_2 cXx_3 cXx_4 cXx_5 cPp_0 cPp_1 cPp_2 cPp_3 cPp_4 cPp_5
  go_wp2_with fail
  refine (HOx _).mono ?_
  intro e w6 hpost
  obtain ⟨A6, n6, c6, rfl, hr6, hc6, hm6, hb⟩ := hpost
  obtain rfl : m = n6 := (it_len HR.out).symm.trans (it_len hr6)
  have HR6 := Lib.hid hr6
  replace HB := Lib.hid (HB.out.trans (hb.mono HB.out.size))
  replace Pp := Lib.hid (Pp.out.below hb Pp.out.lt)
  replace Xx := Lib.hid (Xx.out.below hb Xx.out.lt)
  clear hb hr6 HOx
  have eXx_0 := Xx.out.cell 0
  have eXx_1 := Xx.out.cell 1
  have eXx_2 := Xx.out.cell 2
  have eXx_3 := Xx.out.cell 3
  have eXx_4 := Xx.out.cell 4
  have eXx_5 := Xx.out.cell 5
  have ePp_0 := Pp.out.cell 0
  have ePp_1 := Pp.out.cell 1
  have ePp_2 := Pp.out.cell 2
  have ePp_3 := Pp.out.cell 3
  have ePp_4 := Pp.out.cell 4
  have ePp_5 := Pp.out.cell 5
  simp at eXx_0 eXx_1 eXx_2 eXx_3 eXx_4 eXx_5 ePp_0 ePp_1 ePp_2 ePp_3 ePp_4 ePp_5
  go_wp2_with fail
  replace Pp := Lib.hid Pp.out.drew
  replace Xx := Lib.hid Xx.out.drew
  replace HR6 := Lib.hid (show Reads _ _ 5 _ _ _ from HR6.out.drew)
  replace HB := Lib.hid HB.out.drew
  clear eXx_0 eXx_1 eXx_2 eXx_3 eXx_4 eXx_5 ePp_0 ePp_1 ePp_2 ePp_3 ePp_4 ePp_5
  refine wp_region_held_drew (S := fun w' => (w'.cell? ⟨gXx, 0, none⟩ = some (.int .i64 4) ∧ w'.cell? ⟨gXx, 1, none⟩ = some (.int .i64 m) ∧ w'.cell? ⟨gXx, 2, none⟩ = some (.int .u32 n) ∧ w'.cell? ⟨gXx, 3, none⟩ = some (.int .u32 0) ∧ w'.cell? ⟨gXx, 4, none⟩ = some (.int .u64 tx) ∧ w'.cell? ⟨gXx, 5, none⟩ = some (.string X)) ∧ (w'.cell? ⟨w.heap.size, 0, none⟩ = some (.int .i64 kd) ∧ w'.cell? ⟨w.heap.size, 1, none⟩ = some (.int .i64 ct) ∧ w'.cell? ⟨w.heap.size, 2, none⟩ = some (.int .u32 pg) ∧ w'.cell? ⟨w.heap.size, 3, none⟩ = some (.int .u32 lk) ∧ w'.cell? ⟨w.heap.size, 4, none⟩ = some (.int .u64 ty) ∧ w'.cell? ⟨w.heap.size, 5, none⟩ = some (.string bd))) (by kernel_rfl) ⟨pg_cells Xx.out, pg_cells Pp.out⟩ (fun hHeld => ?_)
  refine wpAnyH_takeL (i := 0) (v := ?_) rfl (by kernel_rfl) (by kernel_rfl) (by kernel_rfl) (fun _ _ _ h => h) (Or.inl ⟨by rfl, ?_⟩) (by first | exact hHeld | trivial | assumption) ?_
  rotate_left
  · intro wz hSz; (try dsimp only at hSz); go_simp; (try with_reducible rfl)
  try simp only [Act.put, List.setIfInBounds_toArray, List.set_cons_zero, List.set_cons_succ]
  refine wpAnyH_takeL (i := 1) (v := ?_) rfl (by kernel_rfl) (by kernel_rfl) (by kernel_rfl) (fun _ _ _ h => h) (Or.inl ⟨by rfl, ?_⟩) (by first | exact hHeld | trivial | assumption) ?_
  rotate_left
  · intro wz hSz; (try dsimp only at hSz); go_simp; (try with_reducible rfl)
  try simp only [Act.put, List.setIfInBounds_toArray, List.set_cons_zero, List.set_cons_succ]
  refine wpAnyH_takeL (i := 2) (v := ?_) rfl (by kernel_rfl) (by kernel_rfl) (by kernel_rfl) (fun _ _ _ h => h) (Or.inl ⟨by rfl, ?_⟩) (by first | exact hHeld | trivial | assumption) ?_
  rotate_left
  · intro wz hSz; (try dsimp only at hSz); go_simp; (try with_reducible rfl)
  try simp only [Act.put, List.setIfInBounds_toArray, List.set_cons_zero, List.set_cons_succ]
  refine wpAnyH_takeL (i := 3) (v := ?_) rfl (by kernel_rfl) (by kernel_rfl) (by kernel_rfl) (fun _ _ _ h => h) (Or.inl ⟨by rfl, ?_⟩) (by first | exact hHeld | trivial | assumption) ?_
  rotate_left
  · intro wz hSz; (try dsimp only at hSz); go_simp; (try with_reducible rfl)
  try simp only [Act.put, List.setIfInBounds_toArray, List.set_cons_zero, List.set_cons_succ]
  refine wpAnyH_takeL (i := 4) (v := ?_) rfl (by kernel_rfl) (by kernel_rfl) (by kernel_rfl) (fun _ _ _ h => h) (Or.inl ⟨by rfl, ?_⟩) (by first | exact hHeld | trivial | assumption) ?_
  rotate_left
  · intro wz hSz; (try dsimp only at hSz); go_simp; (try with_reducible rfl)
  try simp only [Act.put, List.setIfInBounds_toArray, List.set_cons_zero, List.set_cons_succ]
  refine wpAnyH_ready (rs := [5]) (by kernel_rfl) (by simp) ?_
  refine AllReadyH.consL rfl (fun K hK => ?_) AllReadyH.nil
  go_simp
  refine (same8_yes A6 _ c6 A c l _ HR6.out (HR.out.below HB.out) (by unfold maxLen; omega)).mono ?_
  rintro e w8 ⟨rfl, q, hq⟩
  have hb : Below w6.drew.heap.size w6.drew w8 := by rw [hq]; exact below_drewN (Below.refl _ _) q
  replace Pp := Lib.hid (Pp.out.below hb Pp.out.lt)
  replace Xx := Lib.hid (Xx.out.below hb Xx.out.lt)
  replace HB := Lib.hid (HB.out.trans (hb.mono HB.out.size))
  clear hb hq
  refine hK.out _ _ (⟨pg_cells Xx.out, pg_cells Pp.out⟩) (fun hHeld => ?_)
  clear hK K
  try simp only [Act.put, List.setIfInBounds_toArray, List.set_cons_zero, List.set_cons_succ]
  refine wpAnyH_takeL (i := 6) (v := ?_) rfl (by kernel_rfl) (by kernel_rfl) (by kernel_rfl) (fun _ _ _ h => h) (Or.inl ⟨by rfl, ?_⟩) (by first | exact hHeld | trivial | assumption) ?_
  rotate_left
  · intro wz hSz; (try dsimp only at hSz); go_simp; (try with_reducible rfl)
  try simp only [Act.put, List.setIfInBounds_toArray, List.set_cons_zero, List.set_cons_succ]
  refine wpAnyH_takeL (i := 7) (v := ?_) rfl (by kernel_rfl) (by kernel_rfl) (by kernel_rfl) (fun _ _ _ h => h) (Or.inl ⟨by rfl, ?_⟩) (by first | exact hHeld | trivial | assumption) ?_
  rotate_left
  · intro wz hSz; (try dsimp only at hSz); go_simp; (try with_reducible rfl)
  try simp only [Act.put, List.setIfInBounds_toArray, List.set_cons_zero, List.set_cons_succ]
  refine wpAnyH_takeL (i := 8) (v := ?_) rfl (by kernel_rfl) (by kernel_rfl) (by kernel_rfl) (fun _ _ _ h => h) (Or.inl ⟨by rfl, ?_⟩) (by first | exact hHeld | trivial | assumption) ?_
  rotate_left
  · intro wz hSz; (try dsimp only at hSz); go_simp; (try with_reducible rfl)
  try simp only [Act.put, List.setIfInBounds_toArray, List.set_cons_zero, List.set_cons_succ]
  refine wpAnyH_takeL (i := 9) (v := ?_) rfl (by kernel_rfl) (by kernel_rfl) (by kernel_rfl) (fun _ _ _ h => h) (Or.inl ⟨by rfl, ?_⟩) (by first | exact hHeld | trivial | assumption) ?_
  rotate_left
  · intro wz hSz; (try dsimp only at hSz); go_simp; (try with_reducible rfl)
  try simp only [Act.put, List.setIfInBounds_toArray, List.set_cons_zero, List.set_cons_succ]
  refine wpAnyH_takeL (i := 11) (v := ?_) rfl (by kernel_rfl) (by kernel_rfl) (by kernel_rfl) (fun _ _ _ h => h) (Or.inl ⟨by rfl, ?_⟩) (by first | exact hHeld | trivial | assumption) ?_
  rotate_left
  · intro wz hSz; (try dsimp only at hSz); go_simp; (try with_reducible rfl)
  try simp only [Act.put, List.setIfInBounds_toArray, List.set_cons_zero, List.set_cons_succ]
  refine wpAnyH_takeL (i := 12) (v := ?_) rfl (by kernel_rfl) (by kernel_rfl) (by kernel_rfl) (fun _ _ _ h => h) (Or.inl ⟨by rfl, ?_⟩) (by first | exact hHeld | trivial | assumption) ?_
  rotate_left
  · intro wz hSz; (try dsimp only at hSz); go_simp; (try with_reducible rfl)
  try simp only [Act.put, List.setIfInBounds_toArray, List.set_cons_zero, List.set_cons_succ]
  refine wpAnyH_takeL (i := 13) (v := ?_) rfl (by kernel_rfl) (by kernel_rfl) (by kernel_rfl) (fun _ _ _ h => h) (Or.inl ⟨by rfl, ?_⟩) (by first | exact hHeld | trivial | assumption) ?_
  rotate_left
  · intro wz hSz; (try dsimp only at hSz); go_simp; (try with_reducible rfl)
  try simp only [Act.put, List.setIfInBounds_toArray, List.set_cons_zero, List.set_cons_succ]
  refine wpAnyH_ready (rs := [10]) (by kernel_rfl) (by simp) ?_
  refine AllReadyH.consL rfl (fun K hK => ?_) AllReadyH.nil
  go_simp
  refine (lsize_any A m c l _ ((HR.out.below HB.out).more HB.out.size) (by omega) HNr.out (Nat.le_trans HSz.out (by decide))).mono ?_
  rw [← HSL.out]
  rintro e w9 ⟨rfl, hb⟩
  replace Pp := Lib.hid (Pp.out.below hb Pp.out.lt)
  replace Xx := Lib.hid (Xx.out.below hb Xx.out.lt)
  replace HB := Lib.hid (HB.out.trans (hb.mono HB.out.size))
  clear hb
  refine hK.out _ _ (⟨pg_cells Xx.out, pg_cells Pp.out⟩) (fun hHeld => ?_)
  clear hK K
  try simp only [Act.put, List.setIfInBounds_toArray, List.set_cons_zero, List.set_cons_succ]
  refine wpAnyH_takeL (i := 14) (v := ?_) rfl (by kernel_rfl) (by kernel_rfl) (by kernel_rfl) (fun _ _ _ h => h) (Or.inl ⟨by rfl, ?_⟩) (by first | exact hHeld | trivial | assumption) ?_
  rotate_left
  · intro wz hSz; (try dsimp only at hSz); go_simp; (try with_reducible rfl)
  try simp only [Act.put, List.setIfInBounds_toArray, List.set_cons_zero, List.set_cons_succ]
  refine wpAnyH_takeL (i := 15) (v := ?_) rfl (by kernel_rfl) (by kernel_rfl) (by kernel_rfl) (fun _ _ _ h => h) (Or.inl ⟨by rfl, ?_⟩) (by first | exact hHeld | trivial | assumption) ?_
  rotate_left
  · intro wz hSz; (try dsimp only at hSz); go_simp; (try with_reducible rfl)
  try simp only [Act.put, List.setIfInBounds_toArray, List.set_cons_zero, List.set_cons_succ]
  refine wpAnyH_done (by kernel_rfl) ?_ _
  have fXx_0 := Xx.out.cell 0
  have fXx_1 := Xx.out.cell 1
  have fXx_2 := Xx.out.cell 2
  have fXx_3 := Xx.out.cell 3
  have fXx_4 := Xx.out.cell 4
  have fXx_5 := Xx.out.cell 5
  have fPp_0 := Pp.out.cell 0
  have fPp_1 := Pp.out.cell 1
  have fPp_2 := Pp.out.cell 2
  have fPp_3 := Pp.out.cell 3
  have fPp_4 := Pp.out.cell 4
  have fPp_5 := Pp.out.cell 5
  simp at fXx_0 fXx_1 fXx_2 fXx_3 fXx_4 fXx_5 fPp_0 fPp_1 fPp_2 fPp_3 fPp_4 fPp_5
  go_wp2_with fail
  refine (HP1 _ HB.out).mono ?_
  rintro e w106 ⟨rfl, hb⟩
  replace HB := Lib.hid (HB.out.trans (hb.mono HB.out.size))
  replace Pp := Lib.hid (Pp.out.below hb Pp.out.lt)
  replace Xx := Lib.hid (Xx.out.below hb Xx.out.lt)
  clear hb
  clear HP1
  obtain ⟨w107, hw107⟩ : ∃ x, x = w106.alloc (.cells #[.int .i64 4, .int .i64 1, .int .u32 n, .int .u32 0, .int .u64 tx, .string X1] 26) := ⟨_, rfl⟩
  have saw107 : w106.heap.size = w106.heap.size := by first | rfl | omega
  have lt_Pp_X2 := Lib.hid (show w.heap.size < w106.heap.size from saw107 ▸ Pp.out.lt)
  replace Pp := Lib.hid (show Blk w107 w.heap.size 26 #[.int .i64 kd, .int .i64 ct, .int .u32 pg, .int .u32 lk, .int .u64 ty, .string bd] by rw [hw107]; exact Pp.out.alloc _)
  have lt_Xx_X2 := Lib.hid (show gXx < w106.heap.size from saw107 ▸ Xx.out.lt)
  replace Xx := Lib.hid (show Blk w107 gXx 26 #[.int .i64 4, .int .i64 m, .int .u32 n, .int .u32 0, .int .u64 tx, .string X] by rw [hw107]; exact Xx.out.alloc _)
  have ge_X2 := Lib.hid (show w.heap.size ≤ w106.heap.size from saw107 ▸ HB.out.size)
  replace HB := Lib.hid (show Below w.heap.size w w107 by rw [hw107]; exact HB.out.alloc HB.out.size _)
  have X2 := Lib.hid (show Blk w107 w106.heap.size 26 #[.int .i64 4, .int .i64 1, .int .u32 n, .int .u32 0, .int .u64 tx, .string X1] by rw [hw107, ← saw107]; exact Blk.new _ _ _)
  have szw107 : w107.heap.size = w106.heap.size + 1 := by rw [hw107]; simp
  clear saw107 szw107
  go_upto_region 11 with fail
  rw [← hw107]
  clear hw107
  generalize w106.heap.size = gX2 at *
  have kPp_0 := Pp.out.cell 0
  have kPp_1 := Pp.out.cell 1
  have kPp_2 := Pp.out.cell 2
  have kPp_3 := Pp.out.cell 3
  have kPp_4 := Pp.out.cell 4
  have kPp_5 := Pp.out.cell 5
  simp at kPp_0 kPp_1 kPp_2 kPp_3 kPp_4 kPp_5
  go_wp2_with fail
  refine (HOp _).mono ?_
  intro e w7 hpost
  obtain ⟨rfl, hb⟩ := hpost
  replace HB := Lib.hid (HB.out.trans (hb.mono HB.out.size))
  clear hb
  go_wp2_with fail
  go_ret
  exact ⟨rfl, HB.out⟩
set_option maxRecDepth 100000 in
set_option maxHeartbeats 6400000 in
theorem lfback_11 (z : Nat) (n tx : Nat) (A : Option Addr) (m c : Nat) (l : List It) (kd ct : Int) (pg lk ty : Nat) (bd : ByteArray) (w : World) (hr : Reads w w.heap.size 5 A m (itc l)) (hm : m ≤ 2513169434916) (hnr : NearI l) (hmc : m ≤ c) (hl : lightI l = true) (hb : ¬ 4200 < bd.size) (h60 : m ≤ 100) (hsz : sizeI l ≤ 5000) (hy : mayP8 z n tx l = true) (k : List It) (hk : readI kd ct pg lk ty bd = some k) :
    Calls Try.prog 5 #[.int .i64 z, .int .u32 n, .int .u64 tx, .slice A m c, .agg #[.int .i64 kd, .int .i64 ct, .int .u32 pg, .int .u32 lk, .int .u64 ty, .string bd]] w fun e w' => e = .returned (.bool true) ∧ Below w.heap.size w w' := by
  have HR := Lib.hid hr
  have HM := Lib.hid hm
  have HNr := Lib.hid hnr
  have HLi := Lib.hid hl
  have HB42 := Lib.hid hb
  have hd : decide ((4200 : Int) < bd.size) = false := by simp; omega
  have hd2 : decide (4200 < bd.size) = false := by simp; omega
  obtain ⟨X, hX⟩ : ∃ X, X = itemBody z l := ⟨_, rfl⟩
  have hpt := mayP8_parts hy
  have hgz := good_pos hpt.2.2.1
  have hXs : X.size = z - 24 := by rw [hX]; exact itemBody_size z l hpt.2.2.2.1.1
  have hXl := hpt.2.2.2.1.1
  have HPg := fun (w' : World) (hb : Below w.heap.size w w') => lpage8_yes z n tx A m c l w' ((hr.below hb).more hb.size) (by omega) hy
  rw [← hX] at HPg
  have hall1 := allOkI_take hpt.1 1
  have hlen1 : (l.take 1).length = 1 := by rw [List.length_take]; have := hpt.2.1; omega
  have hm1l : 1 ≤ m := by have := hpt.2.1; have := it_len hr; omega
  have hy1 : mayP8 z n tx (l.take 1) = true := by
    have h1 := sizeI_take_le l 1
    have h2 := hpt.2.2.2.1.1
    have h3 := hpt.2.2.2.1.2
    simp only [mayP8, Bool.and_eq_true, decide_eq_true_eq] at hy ⊢
    exact ⟨hy.1, by simp only [mayI, hall1, hlen1]; rfl, by omega, hy.2.2.2⟩
  have HP1 := fun (w' : World) (hb : Below w.heap.size w w') => lpage8_yes z n tx A 1 c (l.take 1) w' ((it_take (hr.below hb) hm1l).more hb.size) (by omega) hy1
  obtain ⟨X1, hX1⟩ : ∃ X, X = itemBody z (l.take 1) := ⟨_, rfl⟩
  rw [← hX1] at HP1
  have h1c : (1 : Int) ≤ c := by omega
  have h1c2 : 1 ≤ c := by omega
  clear hall1 hlen1 hm1l hy1 hX1
  have hlen := it_len hr
  have HOx := fun w => lof8_any 4 m n 0 tx X w (by omega)
  have hrd : readI 4 m n 0 tx X = some l := by rw [hX, ← hlen]; exact readI_page hy
  rw [hrd] at HOx
  have hsub : (z : Int) - 24 = (X.size : Int) := by omega
  obtain ⟨hz1, hz2⟩ := hgz
  obtain ⟨SL, hSL⟩ : ∃ s, s = sizeI l := ⟨_, rfl⟩
  have HSL := Lib.hid hSL
  have HSz := Lib.hid hsz
  have hgt : decide (X.size < SL) = false := decide_eq_false (by omega)
  have hgt2 : decide ((X.size : Int) < SL) = false := decide_eq_false (by omega)
  clear hX hpt hXs hlen hrd hXl hSL
  have HOp := fun w => lof8_any kd ct pg lk ty bd w (by omega)
  rw [hk] at HOp
  obtain ⟨hm1, rfl, hct, rfl, hbd⟩ := readI_some hk
  obtain ⟨zz, hzz⟩ : ∃ zz, zz = bd.size + 24 := ⟨_, rfl⟩
  rw [← hzz] at hm1 hbd
  have hzi : (bd.size : Int) + 24 = (zz : Int) := by omega
  have hzb : zz ≤ 4224 := by omega
  have hbb : bd.size ≤ 4200 := by omega
  have hp2 := mayP8_parts hm1
  have hkl : k.length * 3 ≤ sizeI k := three_le k
  have hgz2 := good_pos hp2.2.2.1
  have HPy := fun (A' : Option Addr) (c' : Nat) (w' : World) (hr' : Reads w' w'.heap.size 5 A' k.length (itc k)) => lpage8_yes zz pg ty A' k.length c' k w' hr' (by omega) hm1
  rw [← hbd, ← hct] at HPy
  have heq := fun w => page_eql_yes8 4 ct pg 0 ty bd w
  obtain ⟨kn, hkn⟩ : ∃ kn : Nat, kn = k.length := ⟨_, rfl⟩
  rw [← hkn] at HPy hct
  have HKN := Lib.hid hkn
  have HCT := Lib.hid hct
  clear hzz hm1 hbd hp2 hkl hgz2 hct hkn
  clear hr hm hl hb hy hk hsz hnr
  obtain ⟨hz, hi⟩ := zero_of_info infoPg
  have HI := Lib.hid hi
  clear hi
  have HB := Lib.hid (Below.refl w.heap.size w)
  go_enter Try.func5, Try.ntmps5
  obtain ⟨w101, hw101⟩ : ∃ x, x = w.alloc (.cells #[.int .i64 4, .int .i64 ct, .int .u32 pg, .int .u32 0, .int .u64 ty, .string bd] 26) := ⟨_, rfl⟩
  have saw101 : w.heap.size = w.heap.size := by first | rfl | omega
  have ge_Pp := Lib.hid (show w.heap.size ≤ w.heap.size from saw101 ▸ HB.out.size)
  replace HB := Lib.hid (show Below w.heap.size w w101 by rw [hw101]; exact HB.out.alloc HB.out.size _)
  have Pp := Lib.hid (show Blk w101 w.heap.size 26 #[.int .i64 4, .int .i64 ct, .int .u32 pg, .int .u32 0, .int .u64 ty, .string bd] by rw [hw101, ← saw101]; exact Blk.new _ _ _)
  have szw101 : w101.heap.size = w.heap.size + 1 := by rw [hw101]; simp
  clear saw101 szw101
  go_wp2_with fail
  rw [← hw101]
  clear hw101
  refine (lives8_any _).mono ?_
  rintro e w102 ⟨rfl, hb⟩
  replace HB := Lib.hid (HB.out.trans (hb.mono HB.out.size))
  replace Pp := Lib.hid (Pp.out.below hb Pp.out.lt)
  clear hb
  have cPp_0 := Pp.out.cell 0
  have cPp_1 := Pp.out.cell 1
  have cPp_2 := Pp.out.cell 2
  have cPp_3 := Pp.out.cell 3
  have cPp_4 := Pp.out.cell 4
  have cPp_5 := Pp.out.cell 5
  simp at cPp_0 cPp_1 cPp_2 cPp_3 cPp_4 cPp_5
  go_wp2_with fail
  refine (light8_bel A m c l _ (HR.out.below HB.out) (Nat.le_trans HM.out (by decide)) HNr.out).mono ?_
  rintro e w103 ⟨rfl, hb⟩
  replace HB := Lib.hid (HB.out.trans (hb.mono HB.out.size))
  replace Pp := Lib.hid (Pp.out.below hb Pp.out.lt)
  clear hb
  have vPp_0 := Pp.out.cell 0
  have vPp_1 := Pp.out.cell 1
  have vPp_2 := Pp.out.cell 2
  have vPp_3 := Pp.out.cell 3
  have vPp_4 := Pp.out.cell 4
  have vPp_5 := Pp.out.cell 5
  simp at vPp_0 vPp_1 vPp_2 vPp_3 vPp_4 vPp_5
  rw [HLi.out]
  go_wp2_with fail
  refine (HPg _ HB.out).mono ?_
  rintro e w104 ⟨rfl, hb⟩
  replace HB := Lib.hid (HB.out.trans (hb.mono HB.out.size))
  replace Pp := Lib.hid (Pp.out.below hb Pp.out.lt)
  clear hb
  clear HPg
  obtain ⟨w105, hw105⟩ : ∃ x, x = w104.alloc (.cells #[.int .i64 4, .int .i64 m, .int .u32 n, .int .u32 0, .int .u64 tx, .string X] 26) := ⟨_, rfl⟩
  have saw105 : w104.heap.size = w104.heap.size := by first | rfl | omega
  have lt_Pp_Xx := Lib.hid (show w.heap.size < w104.heap.size from saw105 ▸ Pp.out.lt)
  replace Pp := Lib.hid (show Blk w105 w.heap.size 26 #[.int .i64 4, .int .i64 ct, .int .u32 pg, .int .u32 0, .int .u64 ty, .string bd] by rw [hw105]; exact Pp.out.alloc _)
  have ge_Xx := Lib.hid (show w.heap.size ≤ w104.heap.size from saw105 ▸ HB.out.size)
  replace HB := Lib.hid (show Below w.heap.size w w105 by rw [hw105]; exact HB.out.alloc HB.out.size _)
  have Xx := Lib.hid (show Blk w105 w104.heap.size 26 #[.int .i64 4, .int .i64 m, .int .u32 n, .int .u32 0, .int .u64 tx, .string X] by rw [hw105, ← saw105]; exact Blk.new _ _ _)
  have szw105 : w105.heap.size = w104.heap.size + 1 := by rw [hw105]; simp
  clear saw105 szw105
  go_upto_region 6 with fail
  rw [← hw105]
  clear hw105
  generalize w104.heap.size = gXx at *
  have cXx_0 := Xx.out.cell 0
  have cXx_1 := Xx.out.cell 1
  have cXx_2 := Xx.out.cell 2
  have cXx_3 := Xx.out.cell 3
  have cXx_4 := Xx.out.cell 4
  have cXx_5 := Xx.out.cell 5
  have cPp_0 := Pp.out.cell 0
  have cPp_1 := Pp.out.cell 1
  have cPp_2 := Pp.out.cell 2
  have cPp_3 := Pp.out.cell 3
  have cPp_4 := Pp.out.cell 4
  have cPp_5 := Pp.out.cell 5
  simp at cXx_0 cXx_1 cXx_2 cXx_3 cXx_4 cXx_5 cPp_0 cPp_1 cPp_2 cPp_3 cPp_4 cPp_5
  go_wp2_with fail
  refine (HOx _).mono ?_
  intro e w6 hpost
  obtain ⟨A6, n6, c6, rfl, hr6, hc6, hm6, hb⟩ := hpost
  obtain rfl : m = n6 := (it_len HR.out).symm.trans (it_len hr6)
  have HR6 := Lib.hid hr6
  replace HB := Lib.hid (HB.out.trans (hb.mono HB.out.size))
  replace Pp := Lib.hid (Pp.out.below hb Pp.out.lt)
  replace Xx := Lib.hid (Xx.out.below hb Xx.out.lt)
  clear hb hr6 HOx
  have eXx_0 := Xx.out.cell 0
  have eXx_1 := Xx.out.cell 1
  have eXx_2 := Xx.out.cell 2
  have eXx_3 := Xx.out.cell 3
  have eXx_4 := Xx.out.cell 4
  have eXx_5 := Xx.out.cell 5
  have ePp_0 := Pp.out.cell 0
  have ePp_1 := Pp.out.cell 1
  have ePp_2 := Pp.out.cell 2
  have ePp_3 := Pp.out.cell 3
  have ePp_4 := Pp.out.cell 4
  have ePp_5 := Pp.out.cell 5
  simp at eXx_0 eXx_1 eXx_2 eXx_3 eXx_4 eXx_5 ePp_0 ePp_1 ePp_2 ePp_3 ePp_4 ePp_5
  go_wp2_with fail
  replace Pp := Lib.hid Pp.out.drew
  replace Xx := Lib.hid Xx.out.drew
  replace HR6 := Lib.hid (show Reads _ _ 5 _ _ _ from HR6.out.drew)
  replace HB := Lib.hid HB.out.drew
  clear eXx_0 eXx_1 eXx_2 eXx_3 eXx_4 eXx_5 ePp_0 ePp_1 ePp_2 ePp_3 ePp_4 ePp_5
  refine wp_region_held_drew (S := fun w' => (w'.cell? ⟨gXx, 0, none⟩ = some (.int .i64 4) ∧ w'.cell? ⟨gXx, 1, none⟩ = some (.int .i64 m) ∧ w'.cell? ⟨gXx, 2, none⟩ = some (.int .u32 n) ∧ w'.cell? ⟨gXx, 3, none⟩ = some (.int .u32 0) ∧ w'.cell? ⟨gXx, 4, none⟩ = some (.int .u64 tx) ∧ w'.cell? ⟨gXx, 5, none⟩ = some (.string X)) ∧ (w'.cell? ⟨w.heap.size, 0, none⟩ = some (.int .i64 4) ∧ w'.cell? ⟨w.heap.size, 1, none⟩ = some (.int .i64 ct) ∧ w'.cell? ⟨w.heap.size, 2, none⟩ = some (.int .u32 pg) ∧ w'.cell? ⟨w.heap.size, 3, none⟩ = some (.int .u32 0) ∧ w'.cell? ⟨w.heap.size, 4, none⟩ = some (.int .u64 ty) ∧ w'.cell? ⟨w.heap.size, 5, none⟩ = some (.string bd))) (by kernel_rfl) ⟨pg_cells Xx.out, pg_cells Pp.out⟩ (fun hHeld => ?_)
  refine wpAnyH_takeL (i := 0) (v := ?_) rfl (by kernel_rfl) (by kernel_rfl) (by kernel_rfl) (fun _ _ _ h => h) (Or.inl ⟨by rfl, ?_⟩) (by first | exact hHeld | trivial | assumption) ?_
  rotate_left
  · intro wz hSz; (try dsimp only at hSz); go_simp; (try with_reducible rfl)
  try simp only [Act.put, List.setIfInBounds_toArray, List.set_cons_zero, List.set_cons_succ]
  refine wpAnyH_takeL (i := 1) (v := ?_) rfl (by kernel_rfl) (by kernel_rfl) (by kernel_rfl) (fun _ _ _ h => h) (Or.inl ⟨by rfl, ?_⟩) (by first | exact hHeld | trivial | assumption) ?_
  rotate_left
  · intro wz hSz; (try dsimp only at hSz); go_simp; (try with_reducible rfl)
  try simp only [Act.put, List.setIfInBounds_toArray, List.set_cons_zero, List.set_cons_succ]
  refine wpAnyH_takeL (i := 2) (v := ?_) rfl (by kernel_rfl) (by kernel_rfl) (by kernel_rfl) (fun _ _ _ h => h) (Or.inl ⟨by rfl, ?_⟩) (by first | exact hHeld | trivial | assumption) ?_
  rotate_left
  · intro wz hSz; (try dsimp only at hSz); go_simp; (try with_reducible rfl)
  try simp only [Act.put, List.setIfInBounds_toArray, List.set_cons_zero, List.set_cons_succ]
  refine wpAnyH_takeL (i := 3) (v := ?_) rfl (by kernel_rfl) (by kernel_rfl) (by kernel_rfl) (fun _ _ _ h => h) (Or.inl ⟨by rfl, ?_⟩) (by first | exact hHeld | trivial | assumption) ?_
  rotate_left
  · intro wz hSz; (try dsimp only at hSz); go_simp; (try with_reducible rfl)
  try simp only [Act.put, List.setIfInBounds_toArray, List.set_cons_zero, List.set_cons_succ]
  refine wpAnyH_takeL (i := 4) (v := ?_) rfl (by kernel_rfl) (by kernel_rfl) (by kernel_rfl) (fun _ _ _ h => h) (Or.inl ⟨by rfl, ?_⟩) (by first | exact hHeld | trivial | assumption) ?_
  rotate_left
  · intro wz hSz; (try dsimp only at hSz); go_simp; (try with_reducible rfl)
  try simp only [Act.put, List.setIfInBounds_toArray, List.set_cons_zero, List.set_cons_succ]
  refine wpAnyH_ready (rs := [5]) (by kernel_rfl) (by simp) ?_
  refine AllReadyH.consL rfl (fun K hK => ?_) AllReadyH.nil
  go_simp
  refine (same8_yes A6 _ c6 A c l _ HR6.out (HR.out.below HB.out) (by unfold maxLen; omega)).mono ?_
  rintro e w8 ⟨rfl, q, hq⟩
  have hb : Below w6.drew.heap.size w6.drew w8 := by rw [hq]; exact below_drewN (Below.refl _ _) q
  replace Pp := Lib.hid (Pp.out.below hb Pp.out.lt)
  replace Xx := Lib.hid (Xx.out.below hb Xx.out.lt)
  replace HB := Lib.hid (HB.out.trans (hb.mono HB.out.size))
  clear hb hq
  refine hK.out _ _ (⟨pg_cells Xx.out, pg_cells Pp.out⟩) (fun hHeld => ?_)
  clear hK K
  try simp only [Act.put, List.setIfInBounds_toArray, List.set_cons_zero, List.set_cons_succ]
  refine wpAnyH_takeL (i := 6) (v := ?_) rfl (by kernel_rfl) (by kernel_rfl) (by kernel_rfl) (fun _ _ _ h => h) (Or.inl ⟨by rfl, ?_⟩) (by first | exact hHeld | trivial | assumption) ?_
  rotate_left
  · intro wz hSz; (try dsimp only at hSz); go_simp; (try with_reducible rfl)
  try simp only [Act.put, List.setIfInBounds_toArray, List.set_cons_zero, List.set_cons_succ]
  refine wpAnyH_takeL (i := 7) (v := ?_) rfl (by kernel_rfl) (by kernel_rfl) (by kernel_rfl) (fun _ _ _ h => h) (Or.inl ⟨by rfl, ?_⟩) (by first | exact hHeld | trivial | assumption) ?_
  rotate_left
  · intro wz hSz; (try dsimp only at hSz); go_simp; (try with_reducible rfl)
  try simp only [Act.put, List.setIfInBounds_toArray, List.set_cons_zero, List.set_cons_succ]
  refine wpAnyH_takeL (i := 8) (v := ?_) rfl (by kernel_rfl) (by kernel_rfl) (by kernel_rfl) (fun _ _ _ h => h) (Or.inl ⟨by rfl, ?_⟩) (by first | exact hHeld | trivial | assumption) ?_
  rotate_left
  · intro wz hSz; (try dsimp only at hSz); go_simp; (try with_reducible rfl)
  try simp only [Act.put, List.setIfInBounds_toArray, List.set_cons_zero, List.set_cons_succ]
  refine wpAnyH_takeL (i := 9) (v := ?_) rfl (by kernel_rfl) (by kernel_rfl) (by kernel_rfl) (fun _ _ _ h => h) (Or.inl ⟨by rfl, ?_⟩) (by first | exact hHeld | trivial | assumption) ?_
  rotate_left
  · intro wz hSz; (try dsimp only at hSz); go_simp; (try with_reducible rfl)
  try simp only [Act.put, List.setIfInBounds_toArray, List.set_cons_zero, List.set_cons_succ]
  refine wpAnyH_takeL (i := 11) (v := ?_) rfl (by kernel_rfl) (by kernel_rfl) (by kernel_rfl) (fun _ _ _ h => h) (Or.inl ⟨by rfl, ?_⟩) (by first | exact hHeld | trivial | assumption) ?_
  rotate_left
  · intro wz hSz; (try dsimp only at hSz); go_simp; (try with_reducible rfl)
  try simp only [Act.put, List.setIfInBounds_toArray, List.set_cons_zero, List.set_cons_succ]
  refine wpAnyH_takeL (i := 12) (v := ?_) rfl (by kernel_rfl) (by kernel_rfl) (by kernel_rfl) (fun _ _ _ h => h) (Or.inl ⟨by rfl, ?_⟩) (by first | exact hHeld | trivial | assumption) ?_
  rotate_left
  · intro wz hSz; (try dsimp only at hSz); go_simp; (try with_reducible rfl)
  try simp only [Act.put, List.setIfInBounds_toArray, List.set_cons_zero, List.set_cons_succ]
  refine wpAnyH_takeL (i := 13) (v := ?_) rfl (by kernel_rfl) (by kernel_rfl) (by kernel_rfl) (fun _ _ _ h => h) (Or.inl ⟨by rfl, ?_⟩) (by first | exact hHeld | trivial | assumption) ?_
  rotate_left
  · intro wz hSz; (try dsimp only at hSz); go_simp; (try with_reducible rfl)
  try simp only [Act.put, List.setIfInBounds_toArray, List.set_cons_zero, List.set_cons_succ]
  refine wpAnyH_ready (rs := [10]) (by kernel_rfl) (by simp) ?_
  refine AllReadyH.consL rfl (fun K hK => ?_) AllReadyH.nil
  go_simp
  refine (lsize_any A m c l _ ((HR.out.below HB.out).more HB.out.size) (by omega) HNr.out (Nat.le_trans HSz.out (by decide))).mono ?_
  rw [← HSL.out]
  rintro e w9 ⟨rfl, hb⟩
  replace Pp := Lib.hid (Pp.out.below hb Pp.out.lt)
  replace Xx := Lib.hid (Xx.out.below hb Xx.out.lt)
  replace HB := Lib.hid (HB.out.trans (hb.mono HB.out.size))
  clear hb
  refine hK.out _ _ (⟨pg_cells Xx.out, pg_cells Pp.out⟩) (fun hHeld => ?_)
  clear hK K
  try simp only [Act.put, List.setIfInBounds_toArray, List.set_cons_zero, List.set_cons_succ]
  refine wpAnyH_takeL (i := 14) (v := ?_) rfl (by kernel_rfl) (by kernel_rfl) (by kernel_rfl) (fun _ _ _ h => h) (Or.inl ⟨by rfl, ?_⟩) (by first | exact hHeld | trivial | assumption) ?_
  rotate_left
  · intro wz hSz; (try dsimp only at hSz); go_simp; (try with_reducible rfl)
  try simp only [Act.put, List.setIfInBounds_toArray, List.set_cons_zero, List.set_cons_succ]
  refine wpAnyH_takeL (i := 15) (v := ?_) rfl (by kernel_rfl) (by kernel_rfl) (by kernel_rfl) (fun _ _ _ h => h) (Or.inl ⟨by rfl, ?_⟩) (by first | exact hHeld | trivial | assumption) ?_
  rotate_left
  · intro wz hSz; (try dsimp only at hSz); go_simp; (try with_reducible rfl)
  try simp only [Act.put, List.setIfInBounds_toArray, List.set_cons_zero, List.set_cons_succ]
  refine wpAnyH_done (by kernel_rfl) ?_ _
  have fXx_0 := Xx.out.cell 0
  have fXx_1 := Xx.out.cell 1
  have fXx_2 := Xx.out.cell 2
  have fXx_3 := Xx.out.cell 3
  have fXx_4 := Xx.out.cell 4
  have fXx_5 := Xx.out.cell 5
  have fPp_0 := Pp.out.cell 0
  have fPp_1 := Pp.out.cell 1
  have fPp_2 := Pp.out.cell 2
  have fPp_3 := Pp.out.cell 3
  have fPp_4 := Pp.out.cell 4
  have fPp_5 := Pp.out.cell 5
  simp at fXx_0 fXx_1 fXx_2 fXx_3 fXx_4 fXx_5 fPp_0 fPp_1 fPp_2 fPp_3 fPp_4 fPp_5
  go_wp2_with fail
  refine (HP1 _ HB.out).mono ?_
  rintro e w106 ⟨rfl, hb⟩
  replace HB := Lib.hid (HB.out.trans (hb.mono HB.out.size))
  replace Pp := Lib.hid (Pp.out.below hb Pp.out.lt)
  replace Xx := Lib.hid (Xx.out.below hb Xx.out.lt)
  clear hb
  clear HP1
  obtain ⟨w107, hw107⟩ : ∃ x, x = w106.alloc (.cells #[.int .i64 4, .int .i64 1, .int .u32 n, .int .u32 0, .int .u64 tx, .string X1] 26) := ⟨_, rfl⟩
  have saw107 : w106.heap.size = w106.heap.size := by first | rfl | omega
  have lt_Pp_X2 := Lib.hid (show w.heap.size < w106.heap.size from saw107 ▸ Pp.out.lt)
  replace Pp := Lib.hid (show Blk w107 w.heap.size 26 #[.int .i64 4, .int .i64 ct, .int .u32 pg, .int .u32 0, .int .u64 ty, .string bd] by rw [hw107]; exact Pp.out.alloc _)
  have lt_Xx_X2 := Lib.hid (show gXx < w106.heap.size from saw107 ▸ Xx.out.lt)
  replace Xx := Lib.hid (show Blk w107 gXx 26 #[.int .i64 4, .int .i64 m, .int .u32 n, .int .u32 0, .int .u64 tx, .string X] by rw [hw107]; exact Xx.out.alloc _)
  have ge_X2 := Lib.hid (show w.heap.size ≤ w106.heap.size from saw107 ▸ HB.out.size)
  replace HB := Lib.hid (show Below w.heap.size w w107 by rw [hw107]; exact HB.out.alloc HB.out.size _)
  have X2 := Lib.hid (show Blk w107 w106.heap.size 26 #[.int .i64 4, .int .i64 1, .int .u32 n, .int .u32 0, .int .u64 tx, .string X1] by rw [hw107, ← saw107]; exact Blk.new _ _ _)
  have szw107 : w107.heap.size = w106.heap.size + 1 := by rw [hw107]; simp
  clear saw107 szw107
  go_upto_region 11 with fail
  rw [← hw107]
  clear hw107
  generalize w106.heap.size = gX2 at *
  have kPp_0 := Pp.out.cell 0
  have kPp_1 := Pp.out.cell 1
  have kPp_2 := Pp.out.cell 2
  have kPp_3 := Pp.out.cell 3
  have kPp_4 := Pp.out.cell 4
  have kPp_5 := Pp.out.cell 5
  simp at kPp_0 kPp_1 kPp_2 kPp_3 kPp_4 kPp_5
  go_wp2_with fail
  refine (HOp _).mono ?_
  intro e w7 hpost
  obtain ⟨A7, n7, c7, rfl, hr7, hc7, hm7, hb⟩ := hpost
  obtain rfl : kn = n7 := HKN.out.trans (it_len hr7)
  have HR7 := Lib.hid hr7
  replace HB := Lib.hid (HB.out.trans (hb.mono HB.out.size))
  replace Pp := Lib.hid (Pp.out.below hb Pp.out.lt)
  replace Xx := Lib.hid (Xx.out.below hb Xx.out.lt)
  replace X2 := Lib.hid (X2.out.below hb X2.out.lt)
  clear hb hr7 HOp
  have gPp_0 := Pp.out.cell 0
  have gPp_1 := Pp.out.cell 1
  have gPp_2 := Pp.out.cell 2
  have gPp_3 := Pp.out.cell 3
  have gPp_4 := Pp.out.cell 4
  have gPp_5 := Pp.out.cell 5
  simp at gPp_0 gPp_1 gPp_2 gPp_3 gPp_4 gPp_5
  go_wp2_with fail
  have HPy2 := HPy A7 c7 w7 HR7.out
  refine (HPy2).mono ?_
  rintro e w108 ⟨rfl, hb⟩
  replace HB := Lib.hid (HB.out.trans (hb.mono HB.out.size))
  replace Pp := Lib.hid (Pp.out.below hb Pp.out.lt)
  replace Xx := Lib.hid (Xx.out.below hb Xx.out.lt)
  replace X2 := Lib.hid (X2.out.below hb X2.out.lt)
  clear hb
  clear HPy HPy2
  obtain ⟨w109, hw109⟩ : ∃ x, x = w108.alloc (.cells #[.int .i64 4, .int .i64 ct, .int .u32 pg, .int .u32 0, .int .u64 ty, .string bd] 26) := ⟨_, rfl⟩
  have saw109 : w108.heap.size = w108.heap.size := by first | rfl | omega
  have lt_Pp_Yy := Lib.hid (show w.heap.size < w108.heap.size from saw109 ▸ Pp.out.lt)
  replace Pp := Lib.hid (show Blk w109 w.heap.size 26 #[.int .i64 4, .int .i64 ct, .int .u32 pg, .int .u32 0, .int .u64 ty, .string bd] by rw [hw109]; exact Pp.out.alloc _)
  have lt_Xx_Yy := Lib.hid (show gXx < w108.heap.size from saw109 ▸ Xx.out.lt)
  replace Xx := Lib.hid (show Blk w109 gXx 26 #[.int .i64 4, .int .i64 m, .int .u32 n, .int .u32 0, .int .u64 tx, .string X] by rw [hw109]; exact Xx.out.alloc _)
  have lt_X2_Yy := Lib.hid (show gX2 < w108.heap.size from saw109 ▸ X2.out.lt)
  replace X2 := Lib.hid (show Blk w109 gX2 26 #[.int .i64 4, .int .i64 1, .int .u32 n, .int .u32 0, .int .u64 tx, .string X1] by rw [hw109]; exact X2.out.alloc _)
  have ge_Yy := Lib.hid (show w.heap.size ≤ w108.heap.size from saw109 ▸ HB.out.size)
  replace HB := Lib.hid (show Below w.heap.size w w109 by rw [hw109]; exact HB.out.alloc HB.out.size _)
  have Yy := Lib.hid (show Blk w109 w108.heap.size 26 #[.int .i64 4, .int .i64 ct, .int .u32 pg, .int .u32 0, .int .u64 ty, .string bd] by rw [hw109, ← saw109]; exact Blk.new _ _ _)
  have szw109 : w109.heap.size = w108.heap.size + 1 := by rw [hw109]; simp
  clear saw109 szw109
  go_upto_region 17 with fail
  rw [← hw109]
  clear hw109
  generalize w108.heap.size = gYy at *
  have hPp_0 := Pp.out.cell 0
  have hPp_1 := Pp.out.cell 1
  have hPp_2 := Pp.out.cell 2
  have hPp_3 := Pp.out.cell 3
  have hPp_4 := Pp.out.cell 4
  have hPp_5 := Pp.out.cell 5
  have hYy_0 := Yy.out.cell 0
  have hYy_1 := Yy.out.cell 1
  have hYy_2 := Yy.out.cell 2
  have hYy_3 := Yy.out.cell 3
  have hYy_4 := Yy.out.cell 4
  have hYy_5 := Yy.out.cell 5
  simp at hPp_0 hPp_1 hPp_2 hPp_3 hPp_4 hPp_5 hYy_0 hYy_1 hYy_2 hYy_3 hYy_4 hYy_5
  go_wp2_with fail
  go_ret
  exact ⟨rfl, HB.out⟩
theorem lfback_walk (size n0 tx0 : Int) (A : Option Addr) (m c : Nat) (l : List It) (kd ct : Int) (pg lk ty : Nat) (bd : ByteArray) (w : World) (_h0 : (Lit.int .i64 size).wf = true) (h1 : (Lit.int .u32 n0).wf = true) (h2 : (Lit.int .u64 tx0).wf = true) (hl : Its w w.heap.size A m c l) (_h4 : pg < 4294967296 ∧ lk < 4294967296 ∧ ty < 18446744073709551616 ∧ bd.size ≤ maxLen) :
    Calls Try.prog 5 #[.int .i64 size, .int .u32 n0, .int .u64 tx0, .slice A m c, .agg #[.int .i64 kd, .int .i64 ct, .int .u32 pg, .int .u32 lk, .int .u64 ty, .string bd]] w fun e w' => e = .returned (.bool true) ∧ Below w.heap.size w w' := by
  obtain ⟨n, rfl⟩ := Int.eq_ofNat_of_zero_le (lit_u32' h1).1
  obtain ⟨tx, rfl⟩ := Int.eq_ofNat_of_zero_le (bounds_u64 h2).1
  have hnr := hl.near
  obtain ⟨hr, hmc, hcm, hm, hok⟩ := hl
  rcases hli : lightI l with _ | _
  · exact lfback_no size n tx A m c l kd ct pg lk ty bd w hr hm hnr hmc hli
  by_cases hb : 4200 < bd.size
  · exact lfback_long size n tx A m c l kd ct pg lk ty bd w hr hm hnr hmc hli hb
  obtain ⟨h60, hsz⟩ := light8_size hli
  rw [it_len hr] at h60
  rcases hy : mayP8 size n tx l with _ | _
  · rcases hk : readI kd ct pg lk ty bd with _ | k
    · exact lfback_00 size n tx A m c l kd ct pg lk ty bd w hr hm hnr hmc hli hb h60 hsz hy hk
    · exact lfback_01 size n tx A m c l kd ct pg lk ty bd w hr hm hnr hmc hli hb h60 hsz hy k hk
  · obtain ⟨z, rfl, _, _, _⟩ := good_nat (by simp only [mayP8, Bool.and_eq_true] at hy; exact hy.1 : goodSize size = true)
    rcases hk : readI kd ct pg lk ty bd with _ | k
    · exact lfback_10 z n tx A m c l kd ct pg lk ty bd w hr hm hnr hmc hli hb h60 hsz hy hk
    · exact lfback_11 z n tx A m c l kd ct pg lk ty bd w hr hm hnr hmc hli hb h60 hsz hy k hk
end Go.Proofs.Ytinojpcjbjjlbaa
