/-
  The walk of the statement FreeBack: from every start, at every argument, it returns true and changes no block that was there before.
-/
import Derived.Test.YtnpockkhefbjoaaFnLaw
import Derived.Test.YtnpockkhefbjoaaFnMath
import Derived.Test.YtnpockkhefbjoaaBkOpen
import Derived.Test.YtnpockkhefbjoaaFrameOpen
import Derived.Test.YtnpockkhefbjoaaKitLaw
import Derived.Test.YtnpockkhefbjoaaPgWords
import Derived.Deep.CutRange
namespace Go.Proofs.Ytnpockkhefbjoaa
open Go.RowKit
open Go.Lib hiding intOf
set_option linter.unusedVariables false
set_option linter.unusedSimpArgs false
attribute [local go_sem ↓] Go.wp_at_zero Go.wp_at_succ

set_option maxRecDepth 100000 in
set_option maxHeartbeats 12800000 in
theorem frback_l (size : Int) (n nx : Nat) (A : Option Addr) (m c : Nat) (l : List Nat) (kd ct : Int) (pg lk ty : Nat) (bd : ByteArray) (fr : Nat) (mn0 : Int) (w : World) (h1 : 1200 < m) :
    Calls Try.prog 5 #[.int .i64 size, .int .u32 n, .int .u32 nx, .slice A m c, .agg #[.int .i64 kd, .int .i64 ct, .int .u32 pg, .int .u32 lk, .int .u64 ty, .string bd], .int .u32 fr, .int .i64 mn0] w fun e w' => e = .returned (.bool true) ∧ Below w.heap.size w w' := by
  have hdm : decide ((1200 : Int) < m) = true := by simp; omega
  have hem : decide (1200 < m) = true := by simp; omega
  clear h1
  have HB := Lib.hid (Below.refl w.heap.size w)
  go_enter Try.func5, Try.ntmps5
  obtain ⟨w101, hw101⟩ : ∃ x, x = w.alloc (.cells #[.int .i64 kd, .int .i64 ct, .int .u32 pg, .int .u32 lk, .int .u64 ty, .string bd] 26) := ⟨_, rfl⟩
  have saw101 : w.heap.size = w.heap.size := by first | rfl | omega
  have ge_Pp := Lib.hid (show w.heap.size ≤ w.heap.size from saw101 ▸ HB.out.size)
  replace HB := Lib.hid (show Below w.heap.size w w101 by rw [hw101]; exact HB.out.alloc HB.out.size _)
  have Pp := Lib.hid (show Blk w101 w.heap.size 26 #[.int .i64 kd, .int .i64 ct, .int .u32 pg, .int .u32 lk, .int .u64 ty, .string bd] by rw [hw101, ← saw101]; exact Blk.new _ _ _)
  have szw101 : w101.heap.size = w.heap.size + 1 := by rw [hw101]; simp
  clear saw101 szw101
  go_wp2_with fail
  rw [← hw101]
  clear hw101
  refine (lives10_any _).mono ?_
  rintro e w102 ⟨rfl, hb⟩
  replace HB := Lib.hid (HB.out.trans (hb.mono HB.out.size))
  replace Pp := Lib.hid (Pp.out.below hb Pp.out.lt)
  clear hb
  have uPp_0 := Pp.out.cell 0
  have uPp_1 := Pp.out.cell 1
  have uPp_2 := Pp.out.cell 2
  have uPp_3 := Pp.out.cell 3
  have uPp_4 := Pp.out.cell 4
  have uPp_5 := Pp.out.cell 5
  simp at uPp_0 uPp_1 uPp_2 uPp_3 uPp_4 uPp_5
  go_wp2_with fail
  go_ret
  exact ⟨rfl, HB.out⟩
set_option maxRecDepth 100000 in
set_option maxHeartbeats 12800000 in
theorem frback_bd (size : Int) (n nx : Nat) (A : Option Addr) (m c : Nat) (l : List Nat) (kd ct : Int) (pg lk ty : Nat) (bd : ByteArray) (fr : Nat) (mn0 : Int) (w : World) (h1 : ¬ 1200 < m) (h2 : 4200 < bd.size) :
    Calls Try.prog 5 #[.int .i64 size, .int .u32 n, .int .u32 nx, .slice A m c, .agg #[.int .i64 kd, .int .i64 ct, .int .u32 pg, .int .u32 lk, .int .u64 ty, .string bd], .int .u32 fr, .int .i64 mn0] w fun e w' => e = .returned (.bool true) ∧ Below w.heap.size w w' := by
  have hdm : decide ((1200 : Int) < m) = false := by simp; omega
  have hem : decide (1200 < m) = false := by simp; omega
  have hdb : decide ((4200 : Int) < bd.size) = true := by simp; omega
  have heb : decide (4200 < bd.size) = true := by simp; omega
  clear h1 h2
  have HB := Lib.hid (Below.refl w.heap.size w)
  go_enter Try.func5, Try.ntmps5
  obtain ⟨w101, hw101⟩ : ∃ x, x = w.alloc (.cells #[.int .i64 kd, .int .i64 ct, .int .u32 pg, .int .u32 lk, .int .u64 ty, .string bd] 26) := ⟨_, rfl⟩
  have saw101 : w.heap.size = w.heap.size := by first | rfl | omega
  have ge_Pp := Lib.hid (show w.heap.size ≤ w.heap.size from saw101 ▸ HB.out.size)
  replace HB := Lib.hid (show Below w.heap.size w w101 by rw [hw101]; exact HB.out.alloc HB.out.size _)
  have Pp := Lib.hid (show Blk w101 w.heap.size 26 #[.int .i64 kd, .int .i64 ct, .int .u32 pg, .int .u32 lk, .int .u64 ty, .string bd] by rw [hw101, ← saw101]; exact Blk.new _ _ _)
  have szw101 : w101.heap.size = w.heap.size + 1 := by rw [hw101]; simp
  clear saw101 szw101
  go_wp2_with fail
  rw [← hw101]
  clear hw101
  refine (lives10_any _).mono ?_
  rintro e w102 ⟨rfl, hb⟩
  replace HB := Lib.hid (HB.out.trans (hb.mono HB.out.size))
  replace Pp := Lib.hid (Pp.out.below hb Pp.out.lt)
  clear hb
  have uPp_0 := Pp.out.cell 0
  have uPp_1 := Pp.out.cell 1
  have uPp_2 := Pp.out.cell 2
  have uPp_3 := Pp.out.cell 3
  have uPp_4 := Pp.out.cell 4
  have uPp_5 := Pp.out.cell 5
  simp at uPp_0 uPp_1 uPp_2 uPp_3 uPp_4 uPp_5
  go_wp2_with fail
  go_ret
  exact ⟨rfl, HB.out⟩
set_option maxRecDepth 100000 in
set_option maxHeartbeats 12800000 in
theorem frback_n0b (size : Int) (n nx : Nat) (A : Option Addr) (m c : Nat) (l : List Nat) (kd ct : Int) (pg lk ty : Nat) (bd : ByteArray) (fr : Nat) (mn0 : Int) (w : World) (hr : Reads w w.heap.size 1 A m (ucells l)) (h1 : ¬ 1200 < m) (h2 : ¬ 4200 < bd.size) (hfr : fr ≤ 4294967295) (hmn : -9223372036854775808 ≤ mn0 ∧ mn0 ≤ 9223372036854775807) (hg : goodSize size = false) (hy : mayP10 size n nx 9 l = false) (hk : readU kd ct pg lk ty bd = none) :
    Calls Try.prog 5 #[.int .i64 size, .int .u32 n, .int .u32 nx, .slice A m c, .agg #[.int .i64 kd, .int .i64 ct, .int .u32 pg, .int .u32 lk, .int .u64 ty, .string bd], .int .u32 fr, .int .i64 mn0] w fun e w' => e = .returned (.bool true) ∧ Below w.heap.size w w' := by
  have hdm : decide ((1200 : Int) < m) = false := by simp; omega
  have hem : decide (1200 < m) = false := by simp; omega
  have hdb : decide ((4200 : Int) < bd.size) = false := by simp; omega
  have heb : decide (4200 < bd.size) = false := by simp; omega
  have HR := Lib.hid hr
  have HM9 := Lib.hid (show m ≤ 1200 by omega)
  have HPg := fun (w' : World) (h' : Reads w' w'.heap.size 1 A m (ucells l)) => fpage10_no size n nx 9 A m c l w' h' (by omega) hy
  have HOp := fun w => fof10_any kd ct pg lk ty bd w (by omega)
  rw [hk] at HOp
  have HM := fun w => rroom_no size w hg
  clear h1 h2 hk hy hg hr hfr hmn
  obtain ⟨hz, hi⟩ := zero_of_info infoPg
  have HI := Lib.hid hi
  clear hi
  have HB := Lib.hid (Below.refl w.heap.size w)
  go_enter Try.func5, Try.ntmps5
  obtain ⟨w101, hw101⟩ : ∃ x, x = w.alloc (.cells #[.int .i64 kd, .int .i64 ct, .int .u32 pg, .int .u32 lk, .int .u64 ty, .string bd] 26) := ⟨_, rfl⟩
  have saw101 : w.heap.size = w.heap.size := by first | rfl | omega
  have ge_Pp := Lib.hid (show w.heap.size ≤ w.heap.size from saw101 ▸ HB.out.size)
  replace HB := Lib.hid (show Below w.heap.size w w101 by rw [hw101]; exact HB.out.alloc HB.out.size _)
  replace HR := Lib.hid (show Reads w101 w101.heap.size _ _ _ _ by rw [hw101]; exact (HR.out.alloc (Nat.le_refl _) _).more (by simp))
  have Pp := Lib.hid (show Blk w101 w.heap.size 26 #[.int .i64 kd, .int .i64 ct, .int .u32 pg, .int .u32 lk, .int .u64 ty, .string bd] by rw [hw101, ← saw101]; exact Blk.new _ _ _)
  have szw101 : w101.heap.size = w.heap.size + 1 := by rw [hw101]; simp
  clear saw101 szw101
  go_wp2_with fail
  rw [← hw101]
  clear hw101
  refine (lives10_any _).mono ?_
  rintro e w102 ⟨rfl, hb⟩
  replace HB := Lib.hid (HB.out.trans (hb.mono HB.out.size))
  replace Pp := Lib.hid (Pp.out.below hb Pp.out.lt)
  replace HR := Lib.hid ((HR.out.below hb).more hb.size)
  clear hb
  have uPp_0 := Pp.out.cell 0
  have uPp_1 := Pp.out.cell 1
  have uPp_2 := Pp.out.cell 2
  have uPp_3 := Pp.out.cell 3
  have uPp_4 := Pp.out.cell 4
  have uPp_5 := Pp.out.cell 5
  simp at uPp_0 uPp_1 uPp_2 uPp_3 uPp_4 uPp_5
  go_wp2_with fail
  refine (HPg _ HR.out).mono ?_
  rintro e w103 ⟨rfl, hb⟩
  replace HB := Lib.hid (HB.out.trans (hb.mono HB.out.size))
  replace Pp := Lib.hid (Pp.out.below hb Pp.out.lt)
  replace HR := Lib.hid ((HR.out.below hb).more hb.size)
  clear hb
  clear HPg
  clear HR
  have lzPp := Pp.out.lt
  have dPp_0 := Pp.out.cell 0
  have dPp_1 := Pp.out.cell 1
  have dPp_2 := Pp.out.cell 2
  have dPp_3 := Pp.out.cell 3
  have dPp_4 := Pp.out.cell 4
  have dPp_5 := Pp.out.cell 5
  simp at dPp_0 dPp_1 dPp_2 dPp_3 dPp_4 dPp_5
  obtain ⟨w104, hw104⟩ : ∃ x, x = w103.alloc (.cells #[.int .i64 0, .int .i64 0, .int .u32 0, .int .u32 0, .int .u64 0, .string ByteArray.empty] 26) := ⟨_, rfl⟩
  have saw104 : w103.heap.size = w103.heap.size := by first | rfl | omega
  have lt_Pp_Xx := Lib.hid (show w.heap.size < w103.heap.size from saw104 ▸ Pp.out.lt)
  replace Pp := Lib.hid (show Blk w104 w.heap.size 26 #[.int .i64 kd, .int .i64 ct, .int .u32 pg, .int .u32 lk, .int .u64 ty, .string bd] by rw [hw104]; exact Pp.out.alloc _)
  have ge_Xx := Lib.hid (show w.heap.size ≤ w103.heap.size from saw104 ▸ HB.out.size)
  replace HB := Lib.hid (show Below w.heap.size w w104 by rw [hw104]; exact HB.out.alloc HB.out.size _)
  have Xx := Lib.hid (show Blk w104 w103.heap.size 26 #[.int .i64 0, .int .i64 0, .int .u32 0, .int .u32 0, .int .u64 0, .string ByteArray.empty] by rw [hw104, ← saw104]; exact Blk.new _ _ _)
  have szw104 : w104.heap.size = w103.heap.size + 1 := by rw [hw104]; simp
  clear saw104 szw104
  have cPp_0 := Pp.out.cell 0
  have cPp_1 := Pp.out.cell 1
  have cPp_2 := Pp.out.cell 2
  have cPp_3 := Pp.out.cell 3
  have cPp_4 := Pp.out.cell 4
  have cPp_5 := Pp.out.cell 5
  rw [hw104] at cPp_0 cPp_1 cPp_2 cPp_3 cPp_4 cPp_5
  simp at cPp_0 cPp_1 cPp_2 cPp_3 cPp_4 cPp_5
  go_wp2_with fail
  rw [← hw104]
  clear hw104 lzPp dPp_0 dPp_1 dPp_2 dPp_3 dPp_4 dPp_5 cPp_0 cPp_1 cPp_2 cPp_3 cPp_4 cPp_5
  generalize w103.heap.size = gXx at *
  clear Xx
  refine (HOp _).mono ?_
  intro e w7 hpost
  obtain ⟨rfl, hb⟩ := hpost
  replace HB := Lib.hid (HB.out.trans (hb.mono HB.out.size))
  clear hb HOp Pp
  go_wp2_with fail
  refine (HM _).mono ?_
  rintro e wm ⟨rfl, rfl⟩
  go_wp2_with fail
  go_ret
  exact ⟨rfl, HB.out⟩
set_option maxRecDepth 100000 in
set_option maxHeartbeats 12800000 in
theorem frback_n1b (size : Int) (n nx : Nat) (A : Option Addr) (m c : Nat) (l : List Nat) (kd ct : Int) (pg lk ty : Nat) (bd : ByteArray) (fr : Nat) (mn0 : Int) (w : World) (hr : Reads w w.heap.size 1 A m (ucells l)) (h1 : ¬ 1200 < m) (h2 : ¬ 4200 < bd.size) (hfr : fr ≤ 4294967295) (hmn : -9223372036854775808 ≤ mn0 ∧ mn0 ≤ 9223372036854775807) (hg : goodSize size = false) (hy : mayP10 size n nx 9 l = false) (k : List Nat) (hk : readU kd ct pg lk ty bd = some k) :
    Calls Try.prog 5 #[.int .i64 size, .int .u32 n, .int .u32 nx, .slice A m c, .agg #[.int .i64 kd, .int .i64 ct, .int .u32 pg, .int .u32 lk, .int .u64 ty, .string bd], .int .u32 fr, .int .i64 mn0] w fun e w' => e = .returned (.bool true) ∧ Below w.heap.size w w' := by
  have hdm : decide ((1200 : Int) < m) = false := by simp; omega
  have hem : decide (1200 < m) = false := by simp; omega
  have hdb : decide ((4200 : Int) < bd.size) = false := by simp; omega
  have heb : decide (4200 < bd.size) = false := by simp; omega
  have HR := Lib.hid hr
  have HM9 := Lib.hid (show m ≤ 1200 by omega)
  have HPg := fun (w' : World) (h' : Reads w' w'.heap.size 1 A m (ucells l)) => fpage10_no size n nx 9 A m c l w' h' (by omega) hy
  have HOp := fun w => fof10_any kd ct pg lk ty bd w (by omega)
  rw [hk] at HOp
  obtain ⟨hm1, rfl, hct, hbd⟩ := readU_some hk
  obtain ⟨zz, hzz⟩ : ∃ zz, zz = bd.size + 24 := ⟨_, rfl⟩
  rw [← hzz] at hm1 hbd
  have hzi : (bd.size : Int) + 24 = (zz : Int) := by omega
  have hwz : wrap64 (zz : Int) = (zz : Int) := wrap64_nat zz (by omega)
  have HPy := fun (A' : Option Addr) (c' : Nat) (w' : World) (h' : Reads w' w'.heap.size 1 A' k.length (ucells k)) => fpage10_yes zz pg lk ty A' k.length c' k w' h' hm1
  rw [← hbd, ← hct] at HPy
  have heq := fun w => page10_neq_no 6 ct pg lk ty bd w
  obtain ⟨kn, hkn⟩ : ∃ kn : Nat, kn = k.length := ⟨_, rfl⟩
  rw [← hkn] at HPy hct
  have HKN := Lib.hid hkn
  have HCT := Lib.hid hct
  clear hzz hm1 hbd hct hkn
  have HM := fun w => rroom_no size w hg
  clear h1 h2 hk hy hg hr hfr hmn
  obtain ⟨hz, hi⟩ := zero_of_info infoPg
  have HI := Lib.hid hi
  clear hi
  have HB := Lib.hid (Below.refl w.heap.size w)
  go_enter Try.func5, Try.ntmps5
  obtain ⟨w101, hw101⟩ : ∃ x, x = w.alloc (.cells #[.int .i64 6, .int .i64 ct, .int .u32 pg, .int .u32 lk, .int .u64 ty, .string bd] 26) := ⟨_, rfl⟩
  have saw101 : w.heap.size = w.heap.size := by first | rfl | omega
  have ge_Pp := Lib.hid (show w.heap.size ≤ w.heap.size from saw101 ▸ HB.out.size)
  replace HB := Lib.hid (show Below w.heap.size w w101 by rw [hw101]; exact HB.out.alloc HB.out.size _)
  replace HR := Lib.hid (show Reads w101 w101.heap.size _ _ _ _ by rw [hw101]; exact (HR.out.alloc (Nat.le_refl _) _).more (by simp))
  have Pp := Lib.hid (show Blk w101 w.heap.size 26 #[.int .i64 6, .int .i64 ct, .int .u32 pg, .int .u32 lk, .int .u64 ty, .string bd] by rw [hw101, ← saw101]; exact Blk.new _ _ _)
  have szw101 : w101.heap.size = w.heap.size + 1 := by rw [hw101]; simp
  clear saw101 szw101
  go_wp2_with fail
  rw [← hw101]
  clear hw101
  refine (lives10_any _).mono ?_
  rintro e w102 ⟨rfl, hb⟩
  replace HB := Lib.hid (HB.out.trans (hb.mono HB.out.size))
  replace Pp := Lib.hid (Pp.out.below hb Pp.out.lt)
  replace HR := Lib.hid ((HR.out.below hb).more hb.size)
  clear hb
  have uPp_0 := Pp.out.cell 0
  have uPp_1 := Pp.out.cell 1
  have uPp_2 := Pp.out.cell 2
  have uPp_3 := Pp.out.cell 3
  have uPp_4 := Pp.out.cell 4
  have uPp_5 := Pp.out.cell 5
  simp at uPp_0 uPp_1 uPp_2 uPp_3 uPp_4 uPp_5
  go_wp2_with fail
  refine (HPg _ HR.out).mono ?_
  rintro e w103 ⟨rfl, hb⟩
  replace HB := Lib.hid (HB.out.trans (hb.mono HB.out.size))
  replace Pp := Lib.hid (Pp.out.below hb Pp.out.lt)
  replace HR := Lib.hid ((HR.out.below hb).more hb.size)
  clear hb
  clear HPg
  clear HR
  have lzPp := Pp.out.lt
  have dPp_0 := Pp.out.cell 0
  have dPp_1 := Pp.out.cell 1
  have dPp_2 := Pp.out.cell 2
  have dPp_3 := Pp.out.cell 3
  have dPp_4 := Pp.out.cell 4
  have dPp_5 := Pp.out.cell 5
  simp at dPp_0 dPp_1 dPp_2 dPp_3 dPp_4 dPp_5
  obtain ⟨w104, hw104⟩ : ∃ x, x = w103.alloc (.cells #[.int .i64 0, .int .i64 0, .int .u32 0, .int .u32 0, .int .u64 0, .string ByteArray.empty] 26) := ⟨_, rfl⟩
  have saw104 : w103.heap.size = w103.heap.size := by first | rfl | omega
  have lt_Pp_Xx := Lib.hid (show w.heap.size < w103.heap.size from saw104 ▸ Pp.out.lt)
  replace Pp := Lib.hid (show Blk w104 w.heap.size 26 #[.int .i64 6, .int .i64 ct, .int .u32 pg, .int .u32 lk, .int .u64 ty, .string bd] by rw [hw104]; exact Pp.out.alloc _)
  have ge_Xx := Lib.hid (show w.heap.size ≤ w103.heap.size from saw104 ▸ HB.out.size)
  replace HB := Lib.hid (show Below w.heap.size w w104 by rw [hw104]; exact HB.out.alloc HB.out.size _)
  have Xx := Lib.hid (show Blk w104 w103.heap.size 26 #[.int .i64 0, .int .i64 0, .int .u32 0, .int .u32 0, .int .u64 0, .string ByteArray.empty] by rw [hw104, ← saw104]; exact Blk.new _ _ _)
  have szw104 : w104.heap.size = w103.heap.size + 1 := by rw [hw104]; simp
  clear saw104 szw104
  have cPp_0 := Pp.out.cell 0
  have cPp_1 := Pp.out.cell 1
  have cPp_2 := Pp.out.cell 2
  have cPp_3 := Pp.out.cell 3
  have cPp_4 := Pp.out.cell 4
  have cPp_5 := Pp.out.cell 5
  rw [hw104] at cPp_0 cPp_1 cPp_2 cPp_3 cPp_4 cPp_5
  simp at cPp_0 cPp_1 cPp_2 cPp_3 cPp_4 cPp_5
  go_wp2_with fail
  rw [← hw104]
  clear hw104 lzPp dPp_0 dPp_1 dPp_2 dPp_3 dPp_4 dPp_5 cPp_0 cPp_1 cPp_2 cPp_3 cPp_4 cPp_5
  generalize w103.heap.size = gXx at *
  clear Xx
  refine (HOp _).mono ?_
  intro e w7 hpost
  obtain ⟨A7, n7, c7, rfl, hr7, hc7, hm7, hb⟩ := hpost
  obtain rfl : kn = n7 := HKN.out.trans (ulen hr7)
  have HR7 := Lib.hid hr7
  replace HB := Lib.hid (HB.out.trans (hb.mono HB.out.size))
  replace Pp := Lib.hid (Pp.out.below hb Pp.out.lt)
  clear hb hr7 HOp hc7 hm7
  have gPp_0 := Pp.out.cell 0
  have gPp_1 := Pp.out.cell 1
  have gPp_2 := Pp.out.cell 2
  have gPp_3 := Pp.out.cell 3
  have gPp_4 := Pp.out.cell 4
  have gPp_5 := Pp.out.cell 5
  simp at gPp_0 gPp_1 gPp_2 gPp_3 gPp_4 gPp_5
  go_wp2_with fail
  have HPy2 := HPy A7 c7 w7 HR7.out
  refine (HPy2).mono ?_
  rintro e w105 ⟨rfl, hb⟩
  replace HB := Lib.hid (HB.out.trans (hb.mono HB.out.size))
  replace Pp := Lib.hid (Pp.out.below hb Pp.out.lt)
  clear hb
  clear HPy HPy2 HR7
  obtain ⟨w106, hw106⟩ : ∃ x, x = w105.alloc (.cells #[.int .i64 6, .int .i64 ct, .int .u32 pg, .int .u32 lk, .int .u64 ty, .string bd] 26) := ⟨_, rfl⟩
  have saw106 : w105.heap.size = w105.heap.size := by first | rfl | omega
  have lt_Pp_Yy := Lib.hid (show w.heap.size < w105.heap.size from saw106 ▸ Pp.out.lt)
  replace Pp := Lib.hid (show Blk w106 w.heap.size 26 #[.int .i64 6, .int .i64 ct, .int .u32 pg, .int .u32 lk, .int .u64 ty, .string bd] by rw [hw106]; exact Pp.out.alloc _)
  have ge_Yy := Lib.hid (show w.heap.size ≤ w105.heap.size from saw106 ▸ HB.out.size)
  replace HB := Lib.hid (show Below w.heap.size w w106 by rw [hw106]; exact HB.out.alloc HB.out.size _)
  have Yy := Lib.hid (show Blk w106 w105.heap.size 26 #[.int .i64 6, .int .i64 ct, .int .u32 pg, .int .u32 lk, .int .u64 ty, .string bd] by rw [hw106, ← saw106]; exact Blk.new _ _ _)
  have szw106 : w106.heap.size = w105.heap.size + 1 := by rw [hw106]; simp
  clear saw106 szw106
  go_upto_region 13 with fail
  rw [← hw106]
  clear hw106
  generalize w105.heap.size = gYy at *
  have hPp_0 := Pp.out.cell 0
  have hPp_1 := Pp.out.cell 1
  have hPp_2 := Pp.out.cell 2
  have hPp_3 := Pp.out.cell 3
  have hPp_4 := Pp.out.cell 4
  have hPp_5 := Pp.out.cell 5
  have hYy_0 := Yy.out.cell 0
  have hYy_1 := Yy.out.cell 1
  have hYy_2 := Yy.out.cell 2
  have hYy_3 := Yy.out.cell 3
  have hYy_4 := Yy.out.cell 4
  have hYy_5 := Yy.out.cell 5
  simp at hPp_0 hPp_1 hPp_2 hPp_3 hPp_4 hPp_5 hYy_0 hYy_1 hYy_2 hYy_3 hYy_4 hYy_5
  go_wp2_with fail
  clear hPp_0 hPp_1 hPp_2 hPp_3 hPp_4 hPp_5 hYy_0 hYy_1 hYy_2 hYy_3 hYy_4 hYy_5 Pp Yy
  refine (HM _).mono ?_
  rintro e wm ⟨rfl, rfl⟩
  go_wp2_with fail
  go_ret
  exact ⟨rfl, HB.out⟩
set_option maxRecDepth 100000 in
set_option maxHeartbeats 12800000 in
theorem frback_n0g (z : Nat) (n nx : Nat) (A : Option Addr) (m c : Nat) (l : List Nat) (kd ct : Int) (pg lk ty : Nat) (bd : ByteArray) (fr : Nat) (mn0 : Int) (w : World) (hr : Reads w w.heap.size 1 A m (ucells l)) (h1 : ¬ 1200 < m) (h2 : ¬ 4200 < bd.size) (hfr : fr ≤ 4294967295) (hmn : -9223372036854775808 ≤ mn0 ∧ mn0 ≤ 9223372036854775807) (hg : goodSize z = true) (hy : mayP10 z n nx 9 l = false) (hk : readU kd ct pg lk ty bd = none) :
    Calls Try.prog 5 #[.int .i64 z, .int .u32 n, .int .u32 nx, .slice A m c, .agg #[.int .i64 kd, .int .i64 ct, .int .u32 pg, .int .u32 lk, .int .u64 ty, .string bd], .int .u32 fr, .int .i64 mn0] w fun e w' => e = .returned (.bool true) ∧ Below w.heap.size w w' := by
  have hdm : decide ((1200 : Int) < m) = false := by simp; omega
  have hem : decide (1200 < m) = false := by simp; omega
  have hdb : decide ((4200 : Int) < bd.size) = false := by simp; omega
  have heb : decide (4200 < bd.size) = false := by simp; omega
  have HR := Lib.hid hr
  have HM9 := Lib.hid (show m ≤ 1200 by omega)
  have HPg := fun (w' : World) (h' : Reads w' w'.heap.size 1 A m (ucells l)) => fpage10_no z n nx 9 A m c l w' h' (by omega) hy
  have HOp := fun w => fof10_any kd ct pg lk ty bd w (by omega)
  rw [hk] at HOp
  obtain ⟨rr, hrr⟩ : ∃ rr, rr = z - 24 := ⟨_, rfl⟩
  have hgn := good_nat hg
  have HM : ∀ w : World, Calls Try.prog 19 #[.int .i64 z] w fun e w' => e = .returned (.int .i64 (rr : Int)) ∧ w = w' := fun w => (rroom_yes z w hg).mono (by rintro e w' ⟨rfl, rfl⟩; exact ⟨by rw [show (z : Int) - 24 = (rr : Int) by omega], rfl⟩)
  have hr0 : ((rr : Int) == 0) = false := by simp; omega
  obtain ⟨mn, hpk, hmn9⟩ : ∃ mn : Nat, mn0 % 1100 = (mn : Int) ∧ mn ≤ 1099 := ⟨(mn0 % 1100).toNat, by omega, by omega⟩
  have HPk : ∀ w : World, Calls Try.prog 20 #[.int .i64 mn0, .int .i64 1100] w fun e w' => e = .returned (.int .i64 (mn : Int)) ∧ w = w' := fun w => (pick_any mn0 1100 w (by decide) (by decide)).mono (by rintro e w' ⟨rfl, rfl⟩; exact ⟨by rw [← hpk] <;> rfl, rfl⟩)
  obtain ⟨N, hN⟩ : ∃ N, N = 2 + fr % 1000 := ⟨_, rfl⟩
  have hN2 : 2 ≤ N := by omega
  have hN9 : N ≤ 1001 := by omega
  have hmay := run_may (k := mn) hg hN2 hN9 (by omega)
  have hneed := need_one (k := mn) hg
  obtain ⟨mo, hmo⟩ : ∃ mo, mo = mostN z := ⟨_, rfl⟩
  obtain ⟨nd, hnd⟩ : ∃ nd, nd = needF z mn := ⟨_, rfl⟩
  obtain ⟨bb, hbb⟩ : ∃ bb, bb = decide (mn ≤ mo) := ⟨_, rfl⟩
  have HMo := fun w => fmost_any z w
  have HNd := fun w => fneed_any z mn w (by omega)
  rw [← hmo] at HMo hmay hneed
  rw [← hnd] at HNd hneed
  rw [← hbb] at hmay hneed
  have hq1 : decide ((mn : Int) ≤ (mo : Int)) = bb := by rw [hbb]; simp
  have hq1b : decide (mn ≤ mo) = bb := hbb.symm
  have hq2 : decide ((nd : Int) ≤ 1) = bb := by rw [← hneed]; simp; omega
  have hq2b : decide (nd ≤ 1) = bb := hneed
  obtain ⟨a0, a1, a2, a3, a4, a5, ea, HPL, hea⟩ : ∃ (a0 a1 : Int) (a2 a3 a4 : Nat) (a5 : ByteArray) (ea : Int), (∀ (A' : Option Addr) (c' : Nat) (w' : World), Reads w' w'.heap.size 1 A' mn (ucells (runU N mn)) → Calls Try.prog 8 #[.int .i64 z, .int .u32 2, .int .u32 0, .int .u64 0, .slice A' mn c'] w' fun e w'' => e = .returned (.tuple #[.agg #[.int .i64 a0, .int .i64 a1, .int .u32 a2, .int .u32 a3, .int .u64 a4, .string a5], .int .i64 ea]) ∧ Below w'.heap.size w' w'') ∧ (ea == 0) = bb := by
    rcases hb : bb with _ | _
    · rw [hb] at hmay
      exact ⟨0, 0, 0, 0, 0, ByteArray.empty, 2, fun A' c' w' h' => fpage10_no z 2 0 0 A' mn c' _ w' h' (by omega) hmay, rfl⟩
    · rw [hb] at hmay
      exact ⟨_, _, _, _, _, _, _, fun A' c' w' h' => fpage10_yes z 2 0 0 A' mn c' _ w' h' hmay, rfl⟩
  have hwM : Int.tmod (fr : Int) 1000 = (fr : Int) % 1000 := Int.tmod_eq_emod_of_nonneg (by omega)
  have hwM2 : IntKind.u32.wrap ((fr : Int) % 1000) = (fr : Int) % 1000 := by rw [IntKind.wrap_u32]; omega
  have hwN : IntKind.u32.wrap (2 + (fr : Int) % 1000) = (N : Int) := by rw [IntKind.wrap_u32]; omega
  have hwN2 : 2 + (fr : Int) % 1000 = (N : Int) := by omega
  have hwN3 : IntKind.u32.wrap (N : Int) = (N : Int) := by rw [IntKind.wrap_u32]; omega
  have HN := Lib.hid hN
  have HMN := Lib.hid hmn9
  obtain ⟨i0, hi0, hz0, hz1, hz2⟩ := info_parts infoU32
  clear hrr hgn hmay hneed hmo hnd hbb hN hpk
  clear h1 h2 hk hy hg hr hfr hmn
  obtain ⟨hz, hi⟩ := zero_of_info infoPg
  have HI := Lib.hid hi
  clear hi
  have HB := Lib.hid (Below.refl w.heap.size w)
  go_enter Try.func5, Try.ntmps5
  obtain ⟨w101, hw101⟩ : ∃ x, x = w.alloc (.cells #[.int .i64 kd, .int .i64 ct, .int .u32 pg, .int .u32 lk, .int .u64 ty, .string bd] 26) := ⟨_, rfl⟩
  have saw101 : w.heap.size = w.heap.size := by first | rfl | omega
  have ge_Pp := Lib.hid (show w.heap.size ≤ w.heap.size from saw101 ▸ HB.out.size)
  replace HB := Lib.hid (show Below w.heap.size w w101 by rw [hw101]; exact HB.out.alloc HB.out.size _)
  replace HR := Lib.hid (show Reads w101 w101.heap.size _ _ _ _ by rw [hw101]; exact (HR.out.alloc (Nat.le_refl _) _).more (by simp))
  have Pp := Lib.hid (show Blk w101 w.heap.size 26 #[.int .i64 kd, .int .i64 ct, .int .u32 pg, .int .u32 lk, .int .u64 ty, .string bd] by rw [hw101, ← saw101]; exact Blk.new _ _ _)
  have szw101 : w101.heap.size = w.heap.size + 1 := by rw [hw101]; simp
  clear saw101 szw101
  go_wp2_with fail
  rw [← hw101]
  clear hw101
  refine (lives10_any _).mono ?_
  rintro e w102 ⟨rfl, hb⟩
  replace HB := Lib.hid (HB.out.trans (hb.mono HB.out.size))
  replace Pp := Lib.hid (Pp.out.below hb Pp.out.lt)
  replace HR := Lib.hid ((HR.out.below hb).more hb.size)
  clear hb
  have uPp_0 := Pp.out.cell 0
  have uPp_1 := Pp.out.cell 1
  have uPp_2 := Pp.out.cell 2
  have uPp_3 := Pp.out.cell 3
  have uPp_4 := Pp.out.cell 4
  have uPp_5 := Pp.out.cell 5
  simp at uPp_0 uPp_1 uPp_2 uPp_3 uPp_4 uPp_5
  go_wp2_with fail
  refine (HPg _ HR.out).mono ?_
  rintro e w103 ⟨rfl, hb⟩
  replace HB := Lib.hid (HB.out.trans (hb.mono HB.out.size))
  replace Pp := Lib.hid (Pp.out.below hb Pp.out.lt)
  replace HR := Lib.hid ((HR.out.below hb).more hb.size)
  clear hb
  clear HPg
  clear HR
  have lzPp := Pp.out.lt
  have dPp_0 := Pp.out.cell 0
  have dPp_1 := Pp.out.cell 1
  have dPp_2 := Pp.out.cell 2
  have dPp_3 := Pp.out.cell 3
  have dPp_4 := Pp.out.cell 4
  have dPp_5 := Pp.out.cell 5
  simp at dPp_0 dPp_1 dPp_2 dPp_3 dPp_4 dPp_5
  obtain ⟨w104, hw104⟩ : ∃ x, x = w103.alloc (.cells #[.int .i64 0, .int .i64 0, .int .u32 0, .int .u32 0, .int .u64 0, .string ByteArray.empty] 26) := ⟨_, rfl⟩
  have saw104 : w103.heap.size = w103.heap.size := by first | rfl | omega
  have lt_Pp_Xx := Lib.hid (show w.heap.size < w103.heap.size from saw104 ▸ Pp.out.lt)
  replace Pp := Lib.hid (show Blk w104 w.heap.size 26 #[.int .i64 kd, .int .i64 ct, .int .u32 pg, .int .u32 lk, .int .u64 ty, .string bd] by rw [hw104]; exact Pp.out.alloc _)
  have ge_Xx := Lib.hid (show w.heap.size ≤ w103.heap.size from saw104 ▸ HB.out.size)
  replace HB := Lib.hid (show Below w.heap.size w w104 by rw [hw104]; exact HB.out.alloc HB.out.size _)
  have Xx := Lib.hid (show Blk w104 w103.heap.size 26 #[.int .i64 0, .int .i64 0, .int .u32 0, .int .u32 0, .int .u64 0, .string ByteArray.empty] by rw [hw104, ← saw104]; exact Blk.new _ _ _)
  have szw104 : w104.heap.size = w103.heap.size + 1 := by rw [hw104]; simp
  clear saw104 szw104
  have cPp_0 := Pp.out.cell 0
  have cPp_1 := Pp.out.cell 1
  have cPp_2 := Pp.out.cell 2
  have cPp_3 := Pp.out.cell 3
  have cPp_4 := Pp.out.cell 4
  have cPp_5 := Pp.out.cell 5
  rw [hw104] at cPp_0 cPp_1 cPp_2 cPp_3 cPp_4 cPp_5
  simp at cPp_0 cPp_1 cPp_2 cPp_3 cPp_4 cPp_5
  go_wp2_with fail
  rw [← hw104]
  clear hw104 lzPp dPp_0 dPp_1 dPp_2 dPp_3 dPp_4 dPp_5 cPp_0 cPp_1 cPp_2 cPp_3 cPp_4 cPp_5
  generalize w103.heap.size = gXx at *
  clear Xx
  refine (HOp _).mono ?_
  intro e w7 hpost
  obtain ⟨rfl, hb⟩ := hpost
  replace HB := Lib.hid (HB.out.trans (hb.mono HB.out.size))
  clear hb HOp Pp
  go_wp2_with fail
  refine (HM _).mono ?_
  rintro e wm ⟨rfl, rfl⟩
  go_wp2_with fail
  refine (HPk _).mono ?_
  rintro e wp ⟨rfl, rfl⟩
  clear HPk
  go_wp2_with fail
  go_loopw [25, 26] (fun b i wr => ∃ (k : Nat) (A' : Option Addr) (c' : Nat), k ≤ mn ∧ i = .int .i64 k ∧ b = .slice A' k c' ∧ Hid (wr.ownsRow w.heap.size 23 1 (.slice A' k c') k (ucells (runU N k))) ∧ Hid (Below w.heap.size w wr)) (fun _ i _ => mn - (intOf i).toNat)
  case atStart => exact ⟨0, none, 0, Nat.zero_le _, rfl, rfl, Lib.hid (World.ownsRow_nil _ _ _ _), HB⟩
  case round =>
    clear HB
    obtain ⟨k, A', c', hk, rfl, rfl, HO, HB⟩ := hrel
    by_cases hlt : k < mn
    · have hk0 : (0 : Int) ≤ k := by omega
      have hk1 : (k : Int) < mn := by omega
      have hw1 : IntKind.u32.wrap (k : Int) = (k : Int) := by rw [IntKind.wrap_u32]; omega
      obtain ⟨a, ha⟩ : ∃ a, a = N + k := ⟨_, rfl⟩
      have ha1 : (N : Int) + (k : Int) = (a : Int) := by omega
      have ha2 : IntKind.u32.wrap (a : Int) = (a : Int) := by rw [IntKind.wrap_u32]; omega
      have HA := Lib.hid ha
      clear ha
      have HX := Lib.hid (HO.out.alloc (.cells #[.int .u32 a] 23))
      have HB3 := Lib.hid (HB.out.alloc HB.out.size (.cells #[.int .u32 a] 23))
      go_upto_region 21 with (at_builtin; refine wpList_append_any _ rfl (.tmp 113) (.tmp 120) _ rfl w.heap.size 23 i0 _ 1 4 Try.underlying30 hi0 hz0 hz1 hz2 rfl (by omega) _ k _ rfl HX.out (wr.heap.size + 1) (some ⟨wr.heap.size, 0, none⟩) 1 1 (ucells [a]) rfl (reads_own (n := 1) (Blk.new _ _ _) rfl) (ucells_one _) (by unfold maxLen; omega) (by omega) (by have := HB.out.size; simp; omega) ?_; intro v5 w5 hown4 hg4 hat)
      clear hat
      rw [← ucells_append, HA.out, ← runU_succ] at hown4
      obtain ⟨A4, c4, rfl, _, _, _⟩ := own_form hown4
      have HO4 := Lib.hid hown4
      have HB4 := Lib.hid (HB3.out.grown hg4 HB3.out.size (fun j hj => (HX.out.lt j hj).1))
      clear hown4 hg4 HX HB3 HO HB
      go_wp2_with fail
      go_roundw
      case rel =>
        first
          | exact ⟨k + 1, A4, c4, by omega, by go_num, rfl, HO4, HB4⟩
          | ((repeat apply Exists.intro); exact ⟨⟨k + 1, A4, c4, by omega, by go_num, rfl, HO4, HB4⟩, rfl⟩)
      case measure => simp [intOf]; omega
    · obtain rfl : k = mn := by omega
      have HRR := Lib.hid (Reads.of_own HO.out)
      clear hlt hk HO
      go_wp2_with fail
      refine (HPL A' c' _ HRR.out).mono ?_
      rintro e w105 ⟨rfl, hb⟩
      replace HB := Lib.hid (HB.out.trans (hb.mono HB.out.size))
      clear hb
      clear HPL HRR
      have HBx := HB.out.alloc HB.out.size (.cells #[.int .i64 a0, .int .i64 a1, .int .u32 a2, .int .u32 a3, .int .u64 a4, .string a5] 26)
      obtain ⟨wq, hwq⟩ : ∃ x, x = w105.alloc (.cells #[.int .i64 a0, .int .i64 a1, .int .u32 a2, .int .u32 a3, .int .u64 a4, .string a5] 26) := ⟨_, rfl⟩
      replace HB := Lib.hid (show Below w.heap.size w wq by rw [hwq]; exact HBx)
      clear HBx
      go_wp2_with fail
      rw [← hwq]
      clear hwq
      refine (HMo _).mono ?_
      rintro e w106 ⟨rfl, hb⟩
      replace HB := Lib.hid (HB.out.trans (hb.mono HB.out.size))
      clear hb
      go_wp2_with fail
      refine (HNd _).mono ?_
      rintro e w107 ⟨rfl, hb⟩
      replace HB := Lib.hid (HB.out.trans (hb.mono HB.out.size))
      clear hb
      clear HNd
      go_wp2_with fail
      refine (HMo _).mono ?_
      rintro e w108 ⟨rfl, hb⟩
      replace HB := Lib.hid (HB.out.trans (hb.mono HB.out.size))
      clear hb
      clear HMo
      go_wp2_with fail
      go_ret
      exact ⟨rfl, HB.out⟩
set_option maxRecDepth 100000 in
set_option maxHeartbeats 12800000 in
theorem frback_n1g (z : Nat) (n nx : Nat) (A : Option Addr) (m c : Nat) (l : List Nat) (kd ct : Int) (pg lk ty : Nat) (bd : ByteArray) (fr : Nat) (mn0 : Int) (w : World) (hr : Reads w w.heap.size 1 A m (ucells l)) (h1 : ¬ 1200 < m) (h2 : ¬ 4200 < bd.size) (hfr : fr ≤ 4294967295) (hmn : -9223372036854775808 ≤ mn0 ∧ mn0 ≤ 9223372036854775807) (hg : goodSize z = true) (hy : mayP10 z n nx 9 l = false) (k : List Nat) (hk : readU kd ct pg lk ty bd = some k) :
    Calls Try.prog 5 #[.int .i64 z, .int .u32 n, .int .u32 nx, .slice A m c, .agg #[.int .i64 kd, .int .i64 ct, .int .u32 pg, .int .u32 lk, .int .u64 ty, .string bd], .int .u32 fr, .int .i64 mn0] w fun e w' => e = .returned (.bool true) ∧ Below w.heap.size w w' := by
  have hdm : decide ((1200 : Int) < m) = false := by simp; omega
  have hem : decide (1200 < m) = false := by simp; omega
  have hdb : decide ((4200 : Int) < bd.size) = false := by simp; omega
  have heb : decide (4200 < bd.size) = false := by simp; omega
  have HR := Lib.hid hr
  have HM9 := Lib.hid (show m ≤ 1200 by omega)
  have HPg := fun (w' : World) (h' : Reads w' w'.heap.size 1 A m (ucells l)) => fpage10_no z n nx 9 A m c l w' h' (by omega) hy
  have HOp := fun w => fof10_any kd ct pg lk ty bd w (by omega)
  rw [hk] at HOp
  obtain ⟨hm1, rfl, hct, hbd⟩ := readU_some hk
  obtain ⟨zz, hzz⟩ : ∃ zz, zz = bd.size + 24 := ⟨_, rfl⟩
  rw [← hzz] at hm1 hbd
  have hzi : (bd.size : Int) + 24 = (zz : Int) := by omega
  have hwz : wrap64 (zz : Int) = (zz : Int) := wrap64_nat zz (by omega)
  have HPy := fun (A' : Option Addr) (c' : Nat) (w' : World) (h' : Reads w' w'.heap.size 1 A' k.length (ucells k)) => fpage10_yes zz pg lk ty A' k.length c' k w' h' hm1
  rw [← hbd, ← hct] at HPy
  have heq := fun w => page10_neq_no 6 ct pg lk ty bd w
  obtain ⟨kn, hkn⟩ : ∃ kn : Nat, kn = k.length := ⟨_, rfl⟩
  rw [← hkn] at HPy hct
  have HKN := Lib.hid hkn
  have HCT := Lib.hid hct
  clear hzz hm1 hbd hct hkn
  obtain ⟨rr, hrr⟩ : ∃ rr, rr = z - 24 := ⟨_, rfl⟩
  have hgn := good_nat hg
  have HM : ∀ w : World, Calls Try.prog 19 #[.int .i64 z] w fun e w' => e = .returned (.int .i64 (rr : Int)) ∧ w = w' := fun w => (rroom_yes z w hg).mono (by rintro e w' ⟨rfl, rfl⟩; exact ⟨by rw [show (z : Int) - 24 = (rr : Int) by omega], rfl⟩)
  have hr0 : ((rr : Int) == 0) = false := by simp; omega
  obtain ⟨mn, hpk, hmn9⟩ : ∃ mn : Nat, mn0 % 1100 = (mn : Int) ∧ mn ≤ 1099 := ⟨(mn0 % 1100).toNat, by omega, by omega⟩
  have HPk : ∀ w : World, Calls Try.prog 20 #[.int .i64 mn0, .int .i64 1100] w fun e w' => e = .returned (.int .i64 (mn : Int)) ∧ w = w' := fun w => (pick_any mn0 1100 w (by decide) (by decide)).mono (by rintro e w' ⟨rfl, rfl⟩; exact ⟨by rw [← hpk] <;> rfl, rfl⟩)
  obtain ⟨N, hN⟩ : ∃ N, N = 2 + fr % 1000 := ⟨_, rfl⟩
  have hN2 : 2 ≤ N := by omega
  have hN9 : N ≤ 1001 := by omega
  have hmay := run_may (k := mn) hg hN2 hN9 (by omega)
  have hneed := need_one (k := mn) hg
  obtain ⟨mo, hmo⟩ : ∃ mo, mo = mostN z := ⟨_, rfl⟩
  obtain ⟨nd, hnd⟩ : ∃ nd, nd = needF z mn := ⟨_, rfl⟩
  obtain ⟨bb, hbb⟩ : ∃ bb, bb = decide (mn ≤ mo) := ⟨_, rfl⟩
  have HMo := fun w => fmost_any z w
  have HNd := fun w => fneed_any z mn w (by omega)
  rw [← hmo] at HMo hmay hneed
  rw [← hnd] at HNd hneed
  rw [← hbb] at hmay hneed
  have hq1 : decide ((mn : Int) ≤ (mo : Int)) = bb := by rw [hbb]; simp
  have hq1b : decide (mn ≤ mo) = bb := hbb.symm
  have hq2 : decide ((nd : Int) ≤ 1) = bb := by rw [← hneed]; simp; omega
  have hq2b : decide (nd ≤ 1) = bb := hneed
  obtain ⟨a0, a1, a2, a3, a4, a5, ea, HPL, hea⟩ : ∃ (a0 a1 : Int) (a2 a3 a4 : Nat) (a5 : ByteArray) (ea : Int), (∀ (A' : Option Addr) (c' : Nat) (w' : World), Reads w' w'.heap.size 1 A' mn (ucells (runU N mn)) → Calls Try.prog 8 #[.int .i64 z, .int .u32 2, .int .u32 0, .int .u64 0, .slice A' mn c'] w' fun e w'' => e = .returned (.tuple #[.agg #[.int .i64 a0, .int .i64 a1, .int .u32 a2, .int .u32 a3, .int .u64 a4, .string a5], .int .i64 ea]) ∧ Below w'.heap.size w' w'') ∧ (ea == 0) = bb := by
    rcases hb : bb with _ | _
    · rw [hb] at hmay
      exact ⟨0, 0, 0, 0, 0, ByteArray.empty, 2, fun A' c' w' h' => fpage10_no z 2 0 0 A' mn c' _ w' h' (by omega) hmay, rfl⟩
    · rw [hb] at hmay
      exact ⟨_, _, _, _, _, _, _, fun A' c' w' h' => fpage10_yes z 2 0 0 A' mn c' _ w' h' hmay, rfl⟩
  have hwM : Int.tmod (fr : Int) 1000 = (fr : Int) % 1000 := Int.tmod_eq_emod_of_nonneg (by omega)
  have hwM2 : IntKind.u32.wrap ((fr : Int) % 1000) = (fr : Int) % 1000 := by rw [IntKind.wrap_u32]; omega
  have hwN : IntKind.u32.wrap (2 + (fr : Int) % 1000) = (N : Int) := by rw [IntKind.wrap_u32]; omega
  have hwN2 : 2 + (fr : Int) % 1000 = (N : Int) := by omega
  have hwN3 : IntKind.u32.wrap (N : Int) = (N : Int) := by rw [IntKind.wrap_u32]; omega
  have HN := Lib.hid hN
  have HMN := Lib.hid hmn9
  obtain ⟨i0, hi0, hz0, hz1, hz2⟩ := info_parts infoU32
  clear hrr hgn hmay hneed hmo hnd hbb hN hpk
  clear h1 h2 hk hy hg hr hfr hmn
  obtain ⟨hz, hi⟩ := zero_of_info infoPg
  have HI := Lib.hid hi
  clear hi
  have HB := Lib.hid (Below.refl w.heap.size w)
  go_enter Try.func5, Try.ntmps5
  obtain ⟨w101, hw101⟩ : ∃ x, x = w.alloc (.cells #[.int .i64 6, .int .i64 ct, .int .u32 pg, .int .u32 lk, .int .u64 ty, .string bd] 26) := ⟨_, rfl⟩
  have saw101 : w.heap.size = w.heap.size := by first | rfl | omega
  have ge_Pp := Lib.hid (show w.heap.size ≤ w.heap.size from saw101 ▸ HB.out.size)
  replace HB := Lib.hid (show Below w.heap.size w w101 by rw [hw101]; exact HB.out.alloc HB.out.size _)
  replace HR := Lib.hid (show Reads w101 w101.heap.size _ _ _ _ by rw [hw101]; exact (HR.out.alloc (Nat.le_refl _) _).more (by simp))
  have Pp := Lib.hid (show Blk w101 w.heap.size 26 #[.int .i64 6, .int .i64 ct, .int .u32 pg, .int .u32 lk, .int .u64 ty, .string bd] by rw [hw101, ← saw101]; exact Blk.new _ _ _)
  have szw101 : w101.heap.size = w.heap.size + 1 := by rw [hw101]; simp
  clear saw101 szw101
  go_wp2_with fail
  rw [← hw101]
  clear hw101
  refine (lives10_any _).mono ?_
  rintro e w102 ⟨rfl, hb⟩
  replace HB := Lib.hid (HB.out.trans (hb.mono HB.out.size))
  replace Pp := Lib.hid (Pp.out.below hb Pp.out.lt)
  replace HR := Lib.hid ((HR.out.below hb).more hb.size)
  clear hb
  have uPp_0 := Pp.out.cell 0
  have uPp_1 := Pp.out.cell 1
  have uPp_2 := Pp.out.cell 2
  have uPp_3 := Pp.out.cell 3
  have uPp_4 := Pp.out.cell 4
  have uPp_5 := Pp.out.cell 5
  simp at uPp_0 uPp_1 uPp_2 uPp_3 uPp_4 uPp_5
  go_wp2_with fail
  refine (HPg _ HR.out).mono ?_
  rintro e w103 ⟨rfl, hb⟩
  replace HB := Lib.hid (HB.out.trans (hb.mono HB.out.size))
  replace Pp := Lib.hid (Pp.out.below hb Pp.out.lt)
  replace HR := Lib.hid ((HR.out.below hb).more hb.size)
  clear hb
  clear HPg
  clear HR
  have lzPp := Pp.out.lt
  have dPp_0 := Pp.out.cell 0
  have dPp_1 := Pp.out.cell 1
  have dPp_2 := Pp.out.cell 2
  have dPp_3 := Pp.out.cell 3
  have dPp_4 := Pp.out.cell 4
  have dPp_5 := Pp.out.cell 5
  simp at dPp_0 dPp_1 dPp_2 dPp_3 dPp_4 dPp_5
  obtain ⟨w104, hw104⟩ : ∃ x, x = w103.alloc (.cells #[.int .i64 0, .int .i64 0, .int .u32 0, .int .u32 0, .int .u64 0, .string ByteArray.empty] 26) := ⟨_, rfl⟩
  have saw104 : w103.heap.size = w103.heap.size := by first | rfl | omega
  have lt_Pp_Xx := Lib.hid (show w.heap.size < w103.heap.size from saw104 ▸ Pp.out.lt)
  replace Pp := Lib.hid (show Blk w104 w.heap.size 26 #[.int .i64 6, .int .i64 ct, .int .u32 pg, .int .u32 lk, .int .u64 ty, .string bd] by rw [hw104]; exact Pp.out.alloc _)
  have ge_Xx := Lib.hid (show w.heap.size ≤ w103.heap.size from saw104 ▸ HB.out.size)
  replace HB := Lib.hid (show Below w.heap.size w w104 by rw [hw104]; exact HB.out.alloc HB.out.size _)
  have Xx := Lib.hid (show Blk w104 w103.heap.size 26 #[.int .i64 0, .int .i64 0, .int .u32 0, .int .u32 0, .int .u64 0, .string ByteArray.empty] by rw [hw104, ← saw104]; exact Blk.new _ _ _)
  have szw104 : w104.heap.size = w103.heap.size + 1 := by rw [hw104]; simp
  clear saw104 szw104
  have cPp_0 := Pp.out.cell 0
  have cPp_1 := Pp.out.cell 1
  have cPp_2 := Pp.out.cell 2
  have cPp_3 := Pp.out.cell 3
  have cPp_4 := Pp.out.cell 4
  have cPp_5 := Pp.out.cell 5
  rw [hw104] at cPp_0 cPp_1 cPp_2 cPp_3 cPp_4 cPp_5
  simp at cPp_0 cPp_1 cPp_2 cPp_3 cPp_4 cPp_5
  go_wp2_with fail
  rw [← hw104]
  clear hw104 lzPp dPp_0 dPp_1 dPp_2 dPp_3 dPp_4 dPp_5 cPp_0 cPp_1 cPp_2 cPp_3 cPp_4 cPp_5
  generalize w103.heap.size = gXx at *
  clear Xx
  refine (HOp _).mono ?_
  intro e w7 hpost
  obtain ⟨A7, n7, c7, rfl, hr7, hc7, hm7, hb⟩ := hpost
  obtain rfl : kn = n7 := HKN.out.trans (ulen hr7)
  have HR7 := Lib.hid hr7
  replace HB := Lib.hid (HB.out.trans (hb.mono HB.out.size))
  replace Pp := Lib.hid (Pp.out.below hb Pp.out.lt)
  clear hb hr7 HOp hc7 hm7
  have gPp_0 := Pp.out.cell 0
  have gPp_1 := Pp.out.cell 1
  have gPp_2 := Pp.out.cell 2
  have gPp_3 := Pp.out.cell 3
  have gPp_4 := Pp.out.cell 4
  have gPp_5 := Pp.out.cell 5
  simp at gPp_0 gPp_1 gPp_2 gPp_3 gPp_4 gPp_5
  go_wp2_with fail
  have HPy2 := HPy A7 c7 w7 HR7.out
  refine (HPy2).mono ?_
  rintro e w105 ⟨rfl, hb⟩
  replace HB := Lib.hid (HB.out.trans (hb.mono HB.out.size))
  replace Pp := Lib.hid (Pp.out.below hb Pp.out.lt)
  clear hb
  clear HPy HPy2 HR7
  obtain ⟨w106, hw106⟩ : ∃ x, x = w105.alloc (.cells #[.int .i64 6, .int .i64 ct, .int .u32 pg, .int .u32 lk, .int .u64 ty, .string bd] 26) := ⟨_, rfl⟩
  have saw106 : w105.heap.size = w105.heap.size := by first | rfl | omega
  have lt_Pp_Yy := Lib.hid (show w.heap.size < w105.heap.size from saw106 ▸ Pp.out.lt)
  replace Pp := Lib.hid (show Blk w106 w.heap.size 26 #[.int .i64 6, .int .i64 ct, .int .u32 pg, .int .u32 lk, .int .u64 ty, .string bd] by rw [hw106]; exact Pp.out.alloc _)
  have ge_Yy := Lib.hid (show w.heap.size ≤ w105.heap.size from saw106 ▸ HB.out.size)
  replace HB := Lib.hid (show Below w.heap.size w w106 by rw [hw106]; exact HB.out.alloc HB.out.size _)
  have Yy := Lib.hid (show Blk w106 w105.heap.size 26 #[.int .i64 6, .int .i64 ct, .int .u32 pg, .int .u32 lk, .int .u64 ty, .string bd] by rw [hw106, ← saw106]; exact Blk.new _ _ _)
  have szw106 : w106.heap.size = w105.heap.size + 1 := by rw [hw106]; simp
  clear saw106 szw106
  go_upto_region 13 with fail
  rw [← hw106]
  clear hw106
  generalize w105.heap.size = gYy at *
  have hPp_0 := Pp.out.cell 0
  have hPp_1 := Pp.out.cell 1
  have hPp_2 := Pp.out.cell 2
  have hPp_3 := Pp.out.cell 3
  have hPp_4 := Pp.out.cell 4
  have hPp_5 := Pp.out.cell 5
  have hYy_0 := Yy.out.cell 0
  have hYy_1 := Yy.out.cell 1
  have hYy_2 := Yy.out.cell 2
  have hYy_3 := Yy.out.cell 3
  have hYy_4 := Yy.out.cell 4
  have hYy_5 := Yy.out.cell 5
  simp at hPp_0 hPp_1 hPp_2 hPp_3 hPp_4 hPp_5 hYy_0 hYy_1 hYy_2 hYy_3 hYy_4 hYy_5
  go_wp2_with fail
  clear hPp_0 hPp_1 hPp_2 hPp_3 hPp_4 hPp_5 hYy_0 hYy_1 hYy_2 hYy_3 hYy_4 hYy_5 Pp Yy
  refine (HM _).mono ?_
  rintro e wm ⟨rfl, rfl⟩
  go_wp2_with fail
  refine (HPk _).mono ?_
  rintro e wp ⟨rfl, rfl⟩
  clear HPk
  go_wp2_with fail
  go_loopw [25, 26] (fun b i wr => ∃ (k : Nat) (A' : Option Addr) (c' : Nat), k ≤ mn ∧ i = .int .i64 k ∧ b = .slice A' k c' ∧ Hid (wr.ownsRow w.heap.size 23 1 (.slice A' k c') k (ucells (runU N k))) ∧ Hid (Below w.heap.size w wr)) (fun _ i _ => mn - (intOf i).toNat)
  case atStart => exact ⟨0, none, 0, Nat.zero_le _, rfl, rfl, Lib.hid (World.ownsRow_nil _ _ _ _), HB⟩
  case round =>
    clear HB
    obtain ⟨k, A', c', hk, rfl, rfl, HO, HB⟩ := hrel
    by_cases hlt : k < mn
    · have hk0 : (0 : Int) ≤ k := by omega
      have hk1 : (k : Int) < mn := by omega
      have hw1 : IntKind.u32.wrap (k : Int) = (k : Int) := by rw [IntKind.wrap_u32]; omega
      obtain ⟨a, ha⟩ : ∃ a, a = N + k := ⟨_, rfl⟩
      have ha1 : (N : Int) + (k : Int) = (a : Int) := by omega
      have ha2 : IntKind.u32.wrap (a : Int) = (a : Int) := by rw [IntKind.wrap_u32]; omega
      have HA := Lib.hid ha
      clear ha
      have HX := Lib.hid (HO.out.alloc (.cells #[.int .u32 a] 23))
      have HB3 := Lib.hid (HB.out.alloc HB.out.size (.cells #[.int .u32 a] 23))
      go_upto_region 21 with (at_builtin; refine wpList_append_any _ rfl (.tmp 113) (.tmp 120) _ rfl w.heap.size 23 i0 _ 1 4 Try.underlying30 hi0 hz0 hz1 hz2 rfl (by omega) _ k _ rfl HX.out (wr.heap.size + 1) (some ⟨wr.heap.size, 0, none⟩) 1 1 (ucells [a]) rfl (reads_own (n := 1) (Blk.new _ _ _) rfl) (ucells_one _) (by unfold maxLen; omega) (by omega) (by have := HB.out.size; simp; omega) ?_; intro v5 w5 hown4 hg4 hat)
      clear hat
      rw [← ucells_append, HA.out, ← runU_succ] at hown4
      obtain ⟨A4, c4, rfl, _, _, _⟩ := own_form hown4
      have HO4 := Lib.hid hown4
      have HB4 := Lib.hid (HB3.out.grown hg4 HB3.out.size (fun j hj => (HX.out.lt j hj).1))
      clear hown4 hg4 HX HB3 HO HB
      go_wp2_with fail
      go_roundw
      case rel =>
        first
          | exact ⟨k + 1, A4, c4, by omega, by go_num, rfl, HO4, HB4⟩
          | ((repeat apply Exists.intro); exact ⟨⟨k + 1, A4, c4, by omega, by go_num, rfl, HO4, HB4⟩, rfl⟩)
      case measure => simp [intOf]; omega
    · obtain rfl : k = mn := by omega
      have HRR := Lib.hid (Reads.of_own HO.out)
      clear hlt hk HO
      go_wp2_with fail
      refine (HPL A' c' _ HRR.out).mono ?_
      rintro e w107 ⟨rfl, hb⟩
      replace HB := Lib.hid (HB.out.trans (hb.mono HB.out.size))
      clear hb
      clear HPL HRR
      have HBx := HB.out.alloc HB.out.size (.cells #[.int .i64 a0, .int .i64 a1, .int .u32 a2, .int .u32 a3, .int .u64 a4, .string a5] 26)
      obtain ⟨wq, hwq⟩ : ∃ x, x = w107.alloc (.cells #[.int .i64 a0, .int .i64 a1, .int .u32 a2, .int .u32 a3, .int .u64 a4, .string a5] 26) := ⟨_, rfl⟩
      replace HB := Lib.hid (show Below w.heap.size w wq by rw [hwq]; exact HBx)
      clear HBx
      go_wp2_with fail
      rw [← hwq]
      clear hwq
      refine (HMo _).mono ?_
      rintro e w108 ⟨rfl, hb⟩
      replace HB := Lib.hid (HB.out.trans (hb.mono HB.out.size))
      clear hb
      go_wp2_with fail
      refine (HNd _).mono ?_
      rintro e w109 ⟨rfl, hb⟩
      replace HB := Lib.hid (HB.out.trans (hb.mono HB.out.size))
      clear hb
      clear HNd
      go_wp2_with fail
      refine (HMo _).mono ?_
      rintro e w110 ⟨rfl, hb⟩
      replace HB := Lib.hid (HB.out.trans (hb.mono HB.out.size))
      clear hb
      clear HMo
      go_wp2_with fail
      go_ret
      exact ⟨rfl, HB.out⟩
set_option maxRecDepth 100000 in
set_option maxHeartbeats 12800000 in
theorem frback_y0g (z : Nat) (n nx : Nat) (A : Option Addr) (m c : Nat) (l : List Nat) (kd ct : Int) (pg lk ty : Nat) (bd : ByteArray) (fr : Nat) (mn0 : Int) (w : World) (hr : Reads w w.heap.size 1 A m (ucells l)) (h1 : ¬ 1200 < m) (h2 : ¬ 4200 < bd.size) (hfr : fr ≤ 4294967295) (hmn : -9223372036854775808 ≤ mn0 ∧ mn0 ≤ 9223372036854775807) (hg : goodSize z = true) (hy : mayP10 z n nx 9 l = true) (hk : readU kd ct pg lk ty bd = none) :
    Calls Try.prog 5 #[.int .i64 z, .int .u32 n, .int .u32 nx, .slice A m c, .agg #[.int .i64 kd, .int .i64 ct, .int .u32 pg, .int .u32 lk, .int .u64 ty, .string bd], .int .u32 fr, .int .i64 mn0] w fun e w' => e = .returned (.bool true) ∧ Below w.heap.size w w' := by
  have hdm : decide ((1200 : Int) < m) = false := by simp; omega
  have hem : decide (1200 < m) = false := by simp; omega
  have hdb : decide ((4200 : Int) < bd.size) = false := by simp; omega
  have heb : decide (4200 < bd.size) = false := by simp; omega
  have HR := Lib.hid hr
  have HM9 := Lib.hid (show m ≤ 1200 by omega)
  have hpt := mayP10_parts hy
  have hgp := good_pos hg
  have hl := ulen hr
  have HPg := fun (w' : World) (h' : Reads w' w'.heap.size 1 A m (ucells l)) => fpage10_yes z n nx 9 A m c l w' h' hy
  obtain ⟨X, hX⟩ : ∃ X, X = freeBody z l := ⟨_, rfl⟩
  have hXs : X.size = z - 24 := by rw [hX]; exact freeBody_size z l hpt.2.2.2.1
  have HOx := fun w => fof10_any 6 m n nx 9 X w (by have := good_nat hg; omega)
  have hrd : readU 6 m n nx 9 X = some l := by rw [hX, ← hl]; exact readU_page hy
  rw [← hX] at HPg
  rw [hrd] at HOx
  have HAsc := Lib.hid hpt.2.2.1
  clear hX hpt hXs hrd hl hgp
  have HOp := fun w => fof10_any kd ct pg lk ty bd w (by omega)
  rw [hk] at HOp
  obtain ⟨rr, hrr⟩ : ∃ rr, rr = z - 24 := ⟨_, rfl⟩
  have hgn := good_nat hg
  have HM : ∀ w : World, Calls Try.prog 19 #[.int .i64 z] w fun e w' => e = .returned (.int .i64 (rr : Int)) ∧ w = w' := fun w => (rroom_yes z w hg).mono (by rintro e w' ⟨rfl, rfl⟩; exact ⟨by rw [show (z : Int) - 24 = (rr : Int) by omega], rfl⟩)
  have hr0 : ((rr : Int) == 0) = false := by simp; omega
  obtain ⟨mn, hpk, hmn9⟩ : ∃ mn : Nat, mn0 % 1100 = (mn : Int) ∧ mn ≤ 1099 := ⟨(mn0 % 1100).toNat, by omega, by omega⟩
  have HPk : ∀ w : World, Calls Try.prog 20 #[.int .i64 mn0, .int .i64 1100] w fun e w' => e = .returned (.int .i64 (mn : Int)) ∧ w = w' := fun w => (pick_any mn0 1100 w (by decide) (by decide)).mono (by rintro e w' ⟨rfl, rfl⟩; exact ⟨by rw [← hpk] <;> rfl, rfl⟩)
  obtain ⟨N, hN⟩ : ∃ N, N = 2 + fr % 1000 := ⟨_, rfl⟩
  have hN2 : 2 ≤ N := by omega
  have hN9 : N ≤ 1001 := by omega
  have hmay := run_may (k := mn) hg hN2 hN9 (by omega)
  have hneed := need_one (k := mn) hg
  obtain ⟨mo, hmo⟩ : ∃ mo, mo = mostN z := ⟨_, rfl⟩
  obtain ⟨nd, hnd⟩ : ∃ nd, nd = needF z mn := ⟨_, rfl⟩
  obtain ⟨bb, hbb⟩ : ∃ bb, bb = decide (mn ≤ mo) := ⟨_, rfl⟩
  have HMo := fun w => fmost_any z w
  have HNd := fun w => fneed_any z mn w (by omega)
  rw [← hmo] at HMo hmay hneed
  rw [← hnd] at HNd hneed
  rw [← hbb] at hmay hneed
  have hq1 : decide ((mn : Int) ≤ (mo : Int)) = bb := by rw [hbb]; simp
  have hq1b : decide (mn ≤ mo) = bb := hbb.symm
  have hq2 : decide ((nd : Int) ≤ 1) = bb := by rw [← hneed]; simp; omega
  have hq2b : decide (nd ≤ 1) = bb := hneed
  obtain ⟨a0, a1, a2, a3, a4, a5, ea, HPL, hea⟩ : ∃ (a0 a1 : Int) (a2 a3 a4 : Nat) (a5 : ByteArray) (ea : Int), (∀ (A' : Option Addr) (c' : Nat) (w' : World), Reads w' w'.heap.size 1 A' mn (ucells (runU N mn)) → Calls Try.prog 8 #[.int .i64 z, .int .u32 2, .int .u32 0, .int .u64 0, .slice A' mn c'] w' fun e w'' => e = .returned (.tuple #[.agg #[.int .i64 a0, .int .i64 a1, .int .u32 a2, .int .u32 a3, .int .u64 a4, .string a5], .int .i64 ea]) ∧ Below w'.heap.size w' w'') ∧ (ea == 0) = bb := by
    rcases hb : bb with _ | _
    · rw [hb] at hmay
      exact ⟨0, 0, 0, 0, 0, ByteArray.empty, 2, fun A' c' w' h' => fpage10_no z 2 0 0 A' mn c' _ w' h' (by omega) hmay, rfl⟩
    · rw [hb] at hmay
      exact ⟨_, _, _, _, _, _, _, fun A' c' w' h' => fpage10_yes z 2 0 0 A' mn c' _ w' h' hmay, rfl⟩
  have hwM : Int.tmod (fr : Int) 1000 = (fr : Int) % 1000 := Int.tmod_eq_emod_of_nonneg (by omega)
  have hwM2 : IntKind.u32.wrap ((fr : Int) % 1000) = (fr : Int) % 1000 := by rw [IntKind.wrap_u32]; omega
  have hwN : IntKind.u32.wrap (2 + (fr : Int) % 1000) = (N : Int) := by rw [IntKind.wrap_u32]; omega
  have hwN2 : 2 + (fr : Int) % 1000 = (N : Int) := by omega
  have hwN3 : IntKind.u32.wrap (N : Int) = (N : Int) := by rw [IntKind.wrap_u32]; omega
  have HN := Lib.hid hN
  have HMN := Lib.hid hmn9
  obtain ⟨i0, hi0, hz0, hz1, hz2⟩ := info_parts infoU32
  clear hrr hgn hmay hneed hmo hnd hbb hN hpk
  clear h1 h2 hk hy hg hr hfr hmn
  obtain ⟨hz, hi⟩ := zero_of_info infoPg
  have HI := Lib.hid hi
  clear hi
  have HB := Lib.hid (Below.refl w.heap.size w)
  go_enter Try.func5, Try.ntmps5
  obtain ⟨w101, hw101⟩ : ∃ x, x = w.alloc (.cells #[.int .i64 kd, .int .i64 ct, .int .u32 pg, .int .u32 lk, .int .u64 ty, .string bd] 26) := ⟨_, rfl⟩
  have saw101 : w.heap.size = w.heap.size := by first | rfl | omega
  have ge_Pp := Lib.hid (show w.heap.size ≤ w.heap.size from saw101 ▸ HB.out.size)
  replace HB := Lib.hid (show Below w.heap.size w w101 by rw [hw101]; exact HB.out.alloc HB.out.size _)
  replace HR := Lib.hid (show Reads w101 w101.heap.size _ _ _ _ by rw [hw101]; exact (HR.out.alloc (Nat.le_refl _) _).more (by simp))
  have Pp := Lib.hid (show Blk w101 w.heap.size 26 #[.int .i64 kd, .int .i64 ct, .int .u32 pg, .int .u32 lk, .int .u64 ty, .string bd] by rw [hw101, ← saw101]; exact Blk.new _ _ _)
  have szw101 : w101.heap.size = w.heap.size + 1 := by rw [hw101]; simp
  clear saw101 szw101
  go_wp2_with fail
  rw [← hw101]
  clear hw101
  refine (lives10_any _).mono ?_
  rintro e w102 ⟨rfl, hb⟩
  replace HB := Lib.hid (HB.out.trans (hb.mono HB.out.size))
  replace Pp := Lib.hid (Pp.out.below hb Pp.out.lt)
  replace HR := Lib.hid ((HR.out.below hb).more hb.size)
  clear hb
  have uPp_0 := Pp.out.cell 0
  have uPp_1 := Pp.out.cell 1
  have uPp_2 := Pp.out.cell 2
  have uPp_3 := Pp.out.cell 3
  have uPp_4 := Pp.out.cell 4
  have uPp_5 := Pp.out.cell 5
  simp at uPp_0 uPp_1 uPp_2 uPp_3 uPp_4 uPp_5
  go_wp2_with fail
  refine (HPg _ HR.out).mono ?_
  rintro e w103 ⟨rfl, hb⟩
  replace HB := Lib.hid (HB.out.trans (hb.mono HB.out.size))
  replace Pp := Lib.hid (Pp.out.below hb Pp.out.lt)
  replace HR := Lib.hid ((HR.out.below hb).more hb.size)
  clear hb
  clear HPg
  obtain ⟨w104, hw104⟩ : ∃ x, x = w103.alloc (.cells #[.int .i64 6, .int .i64 m, .int .u32 n, .int .u32 nx, .int .u64 9, .string X] 26) := ⟨_, rfl⟩
  have saw104 : w103.heap.size = w103.heap.size := by first | rfl | omega
  have lt_Pp_Xx := Lib.hid (show w.heap.size < w103.heap.size from saw104 ▸ Pp.out.lt)
  replace Pp := Lib.hid (show Blk w104 w.heap.size 26 #[.int .i64 kd, .int .i64 ct, .int .u32 pg, .int .u32 lk, .int .u64 ty, .string bd] by rw [hw104]; exact Pp.out.alloc _)
  have ge_Xx := Lib.hid (show w.heap.size ≤ w103.heap.size from saw104 ▸ HB.out.size)
  replace HB := Lib.hid (show Below w.heap.size w w104 by rw [hw104]; exact HB.out.alloc HB.out.size _)
  replace HR := Lib.hid (show Reads w104 w104.heap.size _ _ _ _ by rw [hw104]; exact (HR.out.alloc (Nat.le_refl _) _).more (by simp))
  have Xx := Lib.hid (show Blk w104 w103.heap.size 26 #[.int .i64 6, .int .i64 m, .int .u32 n, .int .u32 nx, .int .u64 9, .string X] by rw [hw104, ← saw104]; exact Blk.new _ _ _)
  have szw104 : w104.heap.size = w103.heap.size + 1 := by rw [hw104]; simp
  clear saw104 szw104
  go_upto_region 7 with fail
  rw [← hw104]
  clear hw104
  generalize w103.heap.size = gXx at *
  have cXx_0 := Xx.out.cell 0
  have cXx_1 := Xx.out.cell 1
  have cXx_2 := Xx.out.cell 2
  have cXx_3 := Xx.out.cell 3
  have cXx_4 := Xx.out.cell 4
  have cXx_5 := Xx.out.cell 5
  simp at cXx_0 cXx_1 cXx_2 cXx_3 cXx_4 cXx_5
  go_wp2_with fail
  refine (HOx _).mono ?_
  intro e w6 hpost
  obtain ⟨A6, n6, c6, rfl, hr6, hc6, hm6, hb⟩ := hpost
  obtain rfl : m = n6 := (ulen HR.out).symm.trans (ulen hr6)
  have HR6 := Lib.hid hr6
  replace HB := Lib.hid (HB.out.trans (hb.mono HB.out.size))
  replace HR := Lib.hid ((HR.out.below hb).more hb.size)
  replace Pp := Lib.hid (Pp.out.below hb Pp.out.lt)
  replace Xx := Lib.hid (Xx.out.below hb Xx.out.lt)
  clear hb hr6 HOx hc6 hm6 cXx_0 cXx_1 cXx_2 cXx_3 cXx_4 cXx_5
  clear Xx
  go_wp2_with fail
  refine (sameU_yes A6 m c6 A c l _ HR6.out HR.out (by have := HM9.out; unfold maxLen; omega)).mono ?_
  rintro e w8 ⟨rfl, q, hq⟩
  have hb : Below w6.heap.size w6 w8 := by rw [hq]; exact below_drewN (Below.refl _ _) q
  replace HB := Lib.hid (HB.out.trans (hb.mono HB.out.size))
  replace HR6 := Lib.hid ((HR6.out.below hb).more hb.size)
  replace Pp := Lib.hid (Pp.out.below hb Pp.out.lt)
  clear hb hq HR
  go_wp2_with fail
  have HRi := frises_any A6 m c6 l w8 HR6.out (by have := HM9.out; omega)
  rw [HAsc.out] at HRi
  refine (HRi).mono ?_
  rintro e w105 ⟨rfl, hb⟩
  replace HB := Lib.hid (HB.out.trans (hb.mono HB.out.size))
  replace Pp := Lib.hid (Pp.out.below hb Pp.out.lt)
  replace HR6 := Lib.hid ((HR6.out.below hb).more hb.size)
  clear hb
  clear HRi HR6
  have kPp_0 := Pp.out.cell 0
  have kPp_1 := Pp.out.cell 1
  have kPp_2 := Pp.out.cell 2
  have kPp_3 := Pp.out.cell 3
  have kPp_4 := Pp.out.cell 4
  have kPp_5 := Pp.out.cell 5
  simp at kPp_0 kPp_1 kPp_2 kPp_3 kPp_4 kPp_5
  go_wp2_with fail
  refine (HOp _).mono ?_
  intro e w7 hpost
  obtain ⟨rfl, hb⟩ := hpost
  replace HB := Lib.hid (HB.out.trans (hb.mono HB.out.size))
  clear hb HOp Pp
  go_wp2_with fail
  refine (HM _).mono ?_
  rintro e wm ⟨rfl, rfl⟩
  go_wp2_with fail
  refine (HPk _).mono ?_
  rintro e wp ⟨rfl, rfl⟩
  clear HPk
  go_wp2_with fail
  go_loopw [25, 26] (fun b i wr => ∃ (k : Nat) (A' : Option Addr) (c' : Nat), k ≤ mn ∧ i = .int .i64 k ∧ b = .slice A' k c' ∧ Hid (wr.ownsRow w.heap.size 23 1 (.slice A' k c') k (ucells (runU N k))) ∧ Hid (Below w.heap.size w wr)) (fun _ i _ => mn - (intOf i).toNat)
  case atStart => exact ⟨0, none, 0, Nat.zero_le _, rfl, rfl, Lib.hid (World.ownsRow_nil _ _ _ _), HB⟩
  case round =>
    clear HB
    obtain ⟨k, A', c', hk, rfl, rfl, HO, HB⟩ := hrel
    by_cases hlt : k < mn
    · have hk0 : (0 : Int) ≤ k := by omega
      have hk1 : (k : Int) < mn := by omega
      have hw1 : IntKind.u32.wrap (k : Int) = (k : Int) := by rw [IntKind.wrap_u32]; omega
      obtain ⟨a, ha⟩ : ∃ a, a = N + k := ⟨_, rfl⟩
      have ha1 : (N : Int) + (k : Int) = (a : Int) := by omega
      have ha2 : IntKind.u32.wrap (a : Int) = (a : Int) := by rw [IntKind.wrap_u32]; omega
      have HA := Lib.hid ha
      clear ha
      have HX := Lib.hid (HO.out.alloc (.cells #[.int .u32 a] 23))
      have HB3 := Lib.hid (HB.out.alloc HB.out.size (.cells #[.int .u32 a] 23))
      go_upto_region 21 with (at_builtin; refine wpList_append_any _ rfl (.tmp 113) (.tmp 120) _ rfl w.heap.size 23 i0 _ 1 4 Try.underlying30 hi0 hz0 hz1 hz2 rfl (by omega) _ k _ rfl HX.out (wr.heap.size + 1) (some ⟨wr.heap.size, 0, none⟩) 1 1 (ucells [a]) rfl (reads_own (n := 1) (Blk.new _ _ _) rfl) (ucells_one _) (by unfold maxLen; omega) (by omega) (by have := HB.out.size; simp; omega) ?_; intro v5 w5 hown4 hg4 hat)
      clear hat
      rw [← ucells_append, HA.out, ← runU_succ] at hown4
      obtain ⟨A4, c4, rfl, _, _, _⟩ := own_form hown4
      have HO4 := Lib.hid hown4
      have HB4 := Lib.hid (HB3.out.grown hg4 HB3.out.size (fun j hj => (HX.out.lt j hj).1))
      clear hown4 hg4 HX HB3 HO HB
      go_wp2_with fail
      go_roundw
      case rel =>
        first
          | exact ⟨k + 1, A4, c4, by omega, by go_num, rfl, HO4, HB4⟩
          | ((repeat apply Exists.intro); exact ⟨⟨k + 1, A4, c4, by omega, by go_num, rfl, HO4, HB4⟩, rfl⟩)
      case measure => simp [intOf]; omega
    · obtain rfl : k = mn := by omega
      have HRR := Lib.hid (Reads.of_own HO.out)
      clear hlt hk HO
      go_wp2_with fail
      refine (HPL A' c' _ HRR.out).mono ?_
      rintro e w106 ⟨rfl, hb⟩
      replace HB := Lib.hid (HB.out.trans (hb.mono HB.out.size))
      clear hb
      clear HPL HRR
      have HBx := HB.out.alloc HB.out.size (.cells #[.int .i64 a0, .int .i64 a1, .int .u32 a2, .int .u32 a3, .int .u64 a4, .string a5] 26)
      obtain ⟨wq, hwq⟩ : ∃ x, x = w106.alloc (.cells #[.int .i64 a0, .int .i64 a1, .int .u32 a2, .int .u32 a3, .int .u64 a4, .string a5] 26) := ⟨_, rfl⟩
      replace HB := Lib.hid (show Below w.heap.size w wq by rw [hwq]; exact HBx)
      clear HBx
      go_wp2_with fail
      rw [← hwq]
      clear hwq
      refine (HMo _).mono ?_
      rintro e w107 ⟨rfl, hb⟩
      replace HB := Lib.hid (HB.out.trans (hb.mono HB.out.size))
      clear hb
      go_wp2_with fail
      refine (HNd _).mono ?_
      rintro e w108 ⟨rfl, hb⟩
      replace HB := Lib.hid (HB.out.trans (hb.mono HB.out.size))
      clear hb
      clear HNd
      go_wp2_with fail
      refine (HMo _).mono ?_
      rintro e w109 ⟨rfl, hb⟩
      replace HB := Lib.hid (HB.out.trans (hb.mono HB.out.size))
      clear hb
      clear HMo
      go_wp2_with fail
      go_ret
      exact ⟨rfl, HB.out⟩
set_option maxRecDepth 100000 in
set_option maxHeartbeats 12800000 in
theorem frback_y1g (z : Nat) (n nx : Nat) (A : Option Addr) (m c : Nat) (l : List Nat) (kd ct : Int) (pg lk ty : Nat) (bd : ByteArray) (fr : Nat) (mn0 : Int) (w : World) (hr : Reads w w.heap.size 1 A m (ucells l)) (h1 : ¬ 1200 < m) (h2 : ¬ 4200 < bd.size) (hfr : fr ≤ 4294967295) (hmn : -9223372036854775808 ≤ mn0 ∧ mn0 ≤ 9223372036854775807) (hg : goodSize z = true) (hy : mayP10 z n nx 9 l = true) (k : List Nat) (hk : readU kd ct pg lk ty bd = some k) :
    Calls Try.prog 5 #[.int .i64 z, .int .u32 n, .int .u32 nx, .slice A m c, .agg #[.int .i64 kd, .int .i64 ct, .int .u32 pg, .int .u32 lk, .int .u64 ty, .string bd], .int .u32 fr, .int .i64 mn0] w fun e w' => e = .returned (.bool true) ∧ Below w.heap.size w w' := by
  have hdm : decide ((1200 : Int) < m) = false := by simp; omega
  have hem : decide (1200 < m) = false := by simp; omega
  have hdb : decide ((4200 : Int) < bd.size) = false := by simp; omega
  have heb : decide (4200 < bd.size) = false := by simp; omega
  have HR := Lib.hid hr
  have HM9 := Lib.hid (show m ≤ 1200 by omega)
  have hpt := mayP10_parts hy
  have hgp := good_pos hg
  have hl := ulen hr
  have HPg := fun (w' : World) (h' : Reads w' w'.heap.size 1 A m (ucells l)) => fpage10_yes z n nx 9 A m c l w' h' hy
  obtain ⟨X, hX⟩ : ∃ X, X = freeBody z l := ⟨_, rfl⟩
  have hXs : X.size = z - 24 := by rw [hX]; exact freeBody_size z l hpt.2.2.2.1
  have HOx := fun w => fof10_any 6 m n nx 9 X w (by have := good_nat hg; omega)
  have hrd : readU 6 m n nx 9 X = some l := by rw [hX, ← hl]; exact readU_page hy
  rw [← hX] at HPg
  rw [hrd] at HOx
  have HAsc := Lib.hid hpt.2.2.1
  clear hX hpt hXs hrd hl hgp
  have HOp := fun w => fof10_any kd ct pg lk ty bd w (by omega)
  rw [hk] at HOp
  obtain ⟨hm1, rfl, hct, hbd⟩ := readU_some hk
  obtain ⟨zz, hzz⟩ : ∃ zz, zz = bd.size + 24 := ⟨_, rfl⟩
  rw [← hzz] at hm1 hbd
  have hzi : (bd.size : Int) + 24 = (zz : Int) := by omega
  have hwz : wrap64 (zz : Int) = (zz : Int) := wrap64_nat zz (by omega)
  have HPy := fun (A' : Option Addr) (c' : Nat) (w' : World) (h' : Reads w' w'.heap.size 1 A' k.length (ucells k)) => fpage10_yes zz pg lk ty A' k.length c' k w' h' hm1
  rw [← hbd, ← hct] at HPy
  have heq := fun w => page10_neq_no 6 ct pg lk ty bd w
  obtain ⟨kn, hkn⟩ : ∃ kn : Nat, kn = k.length := ⟨_, rfl⟩
  rw [← hkn] at HPy hct
  have HKN := Lib.hid hkn
  have HCT := Lib.hid hct
  clear hzz hm1 hbd hct hkn
  obtain ⟨rr, hrr⟩ : ∃ rr, rr = z - 24 := ⟨_, rfl⟩
  have hgn := good_nat hg
  have HM : ∀ w : World, Calls Try.prog 19 #[.int .i64 z] w fun e w' => e = .returned (.int .i64 (rr : Int)) ∧ w = w' := fun w => (rroom_yes z w hg).mono (by rintro e w' ⟨rfl, rfl⟩; exact ⟨by rw [show (z : Int) - 24 = (rr : Int) by omega], rfl⟩)
  have hr0 : ((rr : Int) == 0) = false := by simp; omega
  obtain ⟨mn, hpk, hmn9⟩ : ∃ mn : Nat, mn0 % 1100 = (mn : Int) ∧ mn ≤ 1099 := ⟨(mn0 % 1100).toNat, by omega, by omega⟩
  have HPk : ∀ w : World, Calls Try.prog 20 #[.int .i64 mn0, .int .i64 1100] w fun e w' => e = .returned (.int .i64 (mn : Int)) ∧ w = w' := fun w => (pick_any mn0 1100 w (by decide) (by decide)).mono (by rintro e w' ⟨rfl, rfl⟩; exact ⟨by rw [← hpk] <;> rfl, rfl⟩)
  obtain ⟨N, hN⟩ : ∃ N, N = 2 + fr % 1000 := ⟨_, rfl⟩
  have hN2 : 2 ≤ N := by omega
  have hN9 : N ≤ 1001 := by omega
  have hmay := run_may (k := mn) hg hN2 hN9 (by omega)
  have hneed := need_one (k := mn) hg
  obtain ⟨mo, hmo⟩ : ∃ mo, mo = mostN z := ⟨_, rfl⟩
  obtain ⟨nd, hnd⟩ : ∃ nd, nd = needF z mn := ⟨_, rfl⟩
  obtain ⟨bb, hbb⟩ : ∃ bb, bb = decide (mn ≤ mo) := ⟨_, rfl⟩
  have HMo := fun w => fmost_any z w
  have HNd := fun w => fneed_any z mn w (by omega)
  rw [← hmo] at HMo hmay hneed
  rw [← hnd] at HNd hneed
  rw [← hbb] at hmay hneed
  have hq1 : decide ((mn : Int) ≤ (mo : Int)) = bb := by rw [hbb]; simp
  have hq1b : decide (mn ≤ mo) = bb := hbb.symm
  have hq2 : decide ((nd : Int) ≤ 1) = bb := by rw [← hneed]; simp; omega
  have hq2b : decide (nd ≤ 1) = bb := hneed
  obtain ⟨a0, a1, a2, a3, a4, a5, ea, HPL, hea⟩ : ∃ (a0 a1 : Int) (a2 a3 a4 : Nat) (a5 : ByteArray) (ea : Int), (∀ (A' : Option Addr) (c' : Nat) (w' : World), Reads w' w'.heap.size 1 A' mn (ucells (runU N mn)) → Calls Try.prog 8 #[.int .i64 z, .int .u32 2, .int .u32 0, .int .u64 0, .slice A' mn c'] w' fun e w'' => e = .returned (.tuple #[.agg #[.int .i64 a0, .int .i64 a1, .int .u32 a2, .int .u32 a3, .int .u64 a4, .string a5], .int .i64 ea]) ∧ Below w'.heap.size w' w'') ∧ (ea == 0) = bb := by
    rcases hb : bb with _ | _
    · rw [hb] at hmay
      exact ⟨0, 0, 0, 0, 0, ByteArray.empty, 2, fun A' c' w' h' => fpage10_no z 2 0 0 A' mn c' _ w' h' (by omega) hmay, rfl⟩
    · rw [hb] at hmay
      exact ⟨_, _, _, _, _, _, _, fun A' c' w' h' => fpage10_yes z 2 0 0 A' mn c' _ w' h' hmay, rfl⟩
  have hwM : Int.tmod (fr : Int) 1000 = (fr : Int) % 1000 := Int.tmod_eq_emod_of_nonneg (by omega)
  have hwM2 : IntKind.u32.wrap ((fr : Int) % 1000) = (fr : Int) % 1000 := by rw [IntKind.wrap_u32]; omega
  have hwN : IntKind.u32.wrap (2 + (fr : Int) % 1000) = (N : Int) := by rw [IntKind.wrap_u32]; omega
  have hwN2 : 2 + (fr : Int) % 1000 = (N : Int) := by omega
  have hwN3 : IntKind.u32.wrap (N : Int) = (N : Int) := by rw [IntKind.wrap_u32]; omega
  have HN := Lib.hid hN
  have HMN := Lib.hid hmn9
  obtain ⟨i0, hi0, hz0, hz1, hz2⟩ := info_parts infoU32
  clear hrr hgn hmay hneed hmo hnd hbb hN hpk
  clear h1 h2 hk hy hg hr hfr hmn
  obtain ⟨hz, hi⟩ := zero_of_info infoPg
  have HI := Lib.hid hi
  clear hi
  have HB := Lib.hid (Below.refl w.heap.size w)
  go_enter Try.func5, Try.ntmps5
  obtain ⟨w101, hw101⟩ : ∃ x, x = w.alloc (.cells #[.int .i64 6, .int .i64 ct, .int .u32 pg, .int .u32 lk, .int .u64 ty, .string bd] 26) := ⟨_, rfl⟩
  have saw101 : w.heap.size = w.heap.size := by first | rfl | omega
  have ge_Pp := Lib.hid (show w.heap.size ≤ w.heap.size from saw101 ▸ HB.out.size)
  replace HB := Lib.hid (show Below w.heap.size w w101 by rw [hw101]; exact HB.out.alloc HB.out.size _)
  replace HR := Lib.hid (show Reads w101 w101.heap.size _ _ _ _ by rw [hw101]; exact (HR.out.alloc (Nat.le_refl _) _).more (by simp))
  have Pp := Lib.hid (show Blk w101 w.heap.size 26 #[.int .i64 6, .int .i64 ct, .int .u32 pg, .int .u32 lk, .int .u64 ty, .string bd] by rw [hw101, ← saw101]; exact Blk.new _ _ _)
  have szw101 : w101.heap.size = w.heap.size + 1 := by rw [hw101]; simp
  clear saw101 szw101
  go_wp2_with fail
  rw [← hw101]
  clear hw101
  refine (lives10_any _).mono ?_
  rintro e w102 ⟨rfl, hb⟩
  replace HB := Lib.hid (HB.out.trans (hb.mono HB.out.size))
  replace Pp := Lib.hid (Pp.out.below hb Pp.out.lt)
  replace HR := Lib.hid ((HR.out.below hb).more hb.size)
  clear hb
  have uPp_0 := Pp.out.cell 0
  have uPp_1 := Pp.out.cell 1
  have uPp_2 := Pp.out.cell 2
  have uPp_3 := Pp.out.cell 3
  have uPp_4 := Pp.out.cell 4
  have uPp_5 := Pp.out.cell 5
  simp at uPp_0 uPp_1 uPp_2 uPp_3 uPp_4 uPp_5
  go_wp2_with fail
  refine (HPg _ HR.out).mono ?_
  rintro e w103 ⟨rfl, hb⟩
  replace HB := Lib.hid (HB.out.trans (hb.mono HB.out.size))
  replace Pp := Lib.hid (Pp.out.below hb Pp.out.lt)
  replace HR := Lib.hid ((HR.out.below hb).more hb.size)
  clear hb
  clear HPg
  obtain ⟨w104, hw104⟩ : ∃ x, x = w103.alloc (.cells #[.int .i64 6, .int .i64 m, .int .u32 n, .int .u32 nx, .int .u64 9, .string X] 26) := ⟨_, rfl⟩
  have saw104 : w103.heap.size = w103.heap.size := by first | rfl | omega
  have lt_Pp_Xx := Lib.hid (show w.heap.size < w103.heap.size from saw104 ▸ Pp.out.lt)
  replace Pp := Lib.hid (show Blk w104 w.heap.size 26 #[.int .i64 6, .int .i64 ct, .int .u32 pg, .int .u32 lk, .int .u64 ty, .string bd] by rw [hw104]; exact Pp.out.alloc _)
  have ge_Xx := Lib.hid (show w.heap.size ≤ w103.heap.size from saw104 ▸ HB.out.size)
  replace HB := Lib.hid (show Below w.heap.size w w104 by rw [hw104]; exact HB.out.alloc HB.out.size _)
  replace HR := Lib.hid (show Reads w104 w104.heap.size _ _ _ _ by rw [hw104]; exact (HR.out.alloc (Nat.le_refl _) _).more (by simp))
  have Xx := Lib.hid (show Blk w104 w103.heap.size 26 #[.int .i64 6, .int .i64 m, .int .u32 n, .int .u32 nx, .int .u64 9, .string X] by rw [hw104, ← saw104]; exact Blk.new _ _ _)
  have szw104 : w104.heap.size = w103.heap.size + 1 := by rw [hw104]; simp
  clear saw104 szw104
  go_upto_region 7 with fail
  rw [← hw104]
  clear hw104
  generalize w103.heap.size = gXx at *
  have cXx_0 := Xx.out.cell 0
  have cXx_1 := Xx.out.cell 1
  have cXx_2 := Xx.out.cell 2
  have cXx_3 := Xx.out.cell 3
  have cXx_4 := Xx.out.cell 4
  have cXx_5 := Xx.out.cell 5
  simp at cXx_0 cXx_1 cXx_2 cXx_3 cXx_4 cXx_5
  go_wp2_with fail
  refine (HOx _).mono ?_
  intro e w6 hpost
  obtain ⟨A6, n6, c6, rfl, hr6, hc6, hm6, hb⟩ := hpost
  obtain rfl : m = n6 := (ulen HR.out).symm.trans (ulen hr6)
  have HR6 := Lib.hid hr6
  replace HB := Lib.hid (HB.out.trans (hb.mono HB.out.size))
  replace HR := Lib.hid ((HR.out.below hb).more hb.size)
  replace Pp := Lib.hid (Pp.out.below hb Pp.out.lt)
  replace Xx := Lib.hid (Xx.out.below hb Xx.out.lt)
  clear hb hr6 HOx hc6 hm6 cXx_0 cXx_1 cXx_2 cXx_3 cXx_4 cXx_5
  clear Xx
  go_wp2_with fail
  refine (sameU_yes A6 m c6 A c l _ HR6.out HR.out (by have := HM9.out; unfold maxLen; omega)).mono ?_
  rintro e w8 ⟨rfl, q, hq⟩
  have hb : Below w6.heap.size w6 w8 := by rw [hq]; exact below_drewN (Below.refl _ _) q
  replace HB := Lib.hid (HB.out.trans (hb.mono HB.out.size))
  replace HR6 := Lib.hid ((HR6.out.below hb).more hb.size)
  replace Pp := Lib.hid (Pp.out.below hb Pp.out.lt)
  clear hb hq HR
  go_wp2_with fail
  have HRi := frises_any A6 m c6 l w8 HR6.out (by have := HM9.out; omega)
  rw [HAsc.out] at HRi
  refine (HRi).mono ?_
  rintro e w105 ⟨rfl, hb⟩
  replace HB := Lib.hid (HB.out.trans (hb.mono HB.out.size))
  replace Pp := Lib.hid (Pp.out.below hb Pp.out.lt)
  replace HR6 := Lib.hid ((HR6.out.below hb).more hb.size)
  clear hb
  clear HRi HR6
  have kPp_0 := Pp.out.cell 0
  have kPp_1 := Pp.out.cell 1
  have kPp_2 := Pp.out.cell 2
  have kPp_3 := Pp.out.cell 3
  have kPp_4 := Pp.out.cell 4
  have kPp_5 := Pp.out.cell 5
  simp at kPp_0 kPp_1 kPp_2 kPp_3 kPp_4 kPp_5
  go_wp2_with fail
  refine (HOp _).mono ?_
  intro e w7 hpost
  obtain ⟨A7, n7, c7, rfl, hr7, hc7, hm7, hb⟩ := hpost
  obtain rfl : kn = n7 := HKN.out.trans (ulen hr7)
  have HR7 := Lib.hid hr7
  replace HB := Lib.hid (HB.out.trans (hb.mono HB.out.size))
  replace Pp := Lib.hid (Pp.out.below hb Pp.out.lt)
  clear hb hr7 HOp hc7 hm7
  have gPp_0 := Pp.out.cell 0
  have gPp_1 := Pp.out.cell 1
  have gPp_2 := Pp.out.cell 2
  have gPp_3 := Pp.out.cell 3
  have gPp_4 := Pp.out.cell 4
  have gPp_5 := Pp.out.cell 5
  simp at gPp_0 gPp_1 gPp_2 gPp_3 gPp_4 gPp_5
  go_wp2_with fail
  have HPy2 := HPy A7 c7 w7 HR7.out
  refine (HPy2).mono ?_
  rintro e w106 ⟨rfl, hb⟩
  replace HB := Lib.hid (HB.out.trans (hb.mono HB.out.size))
  replace Pp := Lib.hid (Pp.out.below hb Pp.out.lt)
  clear hb
  clear HPy HPy2 HR7
  obtain ⟨w107, hw107⟩ : ∃ x, x = w106.alloc (.cells #[.int .i64 6, .int .i64 ct, .int .u32 pg, .int .u32 lk, .int .u64 ty, .string bd] 26) := ⟨_, rfl⟩
  have saw107 : w106.heap.size = w106.heap.size := by first | rfl | omega
  have lt_Pp_Yy := Lib.hid (show w.heap.size < w106.heap.size from saw107 ▸ Pp.out.lt)
  replace Pp := Lib.hid (show Blk w107 w.heap.size 26 #[.int .i64 6, .int .i64 ct, .int .u32 pg, .int .u32 lk, .int .u64 ty, .string bd] by rw [hw107]; exact Pp.out.alloc _)
  have ge_Yy := Lib.hid (show w.heap.size ≤ w106.heap.size from saw107 ▸ HB.out.size)
  replace HB := Lib.hid (show Below w.heap.size w w107 by rw [hw107]; exact HB.out.alloc HB.out.size _)
  have Yy := Lib.hid (show Blk w107 w106.heap.size 26 #[.int .i64 6, .int .i64 ct, .int .u32 pg, .int .u32 lk, .int .u64 ty, .string bd] by rw [hw107, ← saw107]; exact Blk.new _ _ _)
  have szw107 : w107.heap.size = w106.heap.size + 1 := by rw [hw107]; simp
  clear saw107 szw107
  go_upto_region 13 with fail
  rw [← hw107]
  clear hw107
  generalize w106.heap.size = gYy at *
  have hPp_0 := Pp.out.cell 0
  have hPp_1 := Pp.out.cell 1
  have hPp_2 := Pp.out.cell 2
  have hPp_3 := Pp.out.cell 3
  have hPp_4 := Pp.out.cell 4
  have hPp_5 := Pp.out.cell 5
  have hYy_0 := Yy.out.cell 0
  have hYy_1 := Yy.out.cell 1
  have hYy_2 := Yy.out.cell 2
  have hYy_3 := Yy.out.cell 3
  have hYy_4 := Yy.out.cell 4
  have hYy_5 := Yy.out.cell 5
  simp at hPp_0 hPp_1 hPp_2 hPp_3 hPp_4 hPp_5 hYy_0 hYy_1 hYy_2 hYy_3 hYy_4 hYy_5
  go_wp2_with fail
  clear hPp_0 hPp_1 hPp_2 hPp_3 hPp_4 hPp_5 hYy_0 hYy_1 hYy_2 hYy_3 hYy_4 hYy_5 Pp Yy
  refine (HM _).mono ?_
  rintro e wm ⟨rfl, rfl⟩
  go_wp2_with fail
  refine (HPk _).mono ?_
  rintro e wp ⟨rfl, rfl⟩
  clear HPk
  go_wp2_with fail
  go_loopw [25, 26] (fun b i wr => ∃ (k : Nat) (A' : Option Addr) (c' : Nat), k ≤ mn ∧ i = .int .i64 k ∧ b = .slice A' k c' ∧ Hid (wr.ownsRow w.heap.size 23 1 (.slice A' k c') k (ucells (runU N k))) ∧ Hid (Below w.heap.size w wr)) (fun _ i _ => mn - (intOf i).toNat)
  case atStart => exact ⟨0, none, 0, Nat.zero_le _, rfl, rfl, Lib.hid (World.ownsRow_nil _ _ _ _), HB⟩
  case round =>
    clear HB
    obtain ⟨k, A', c', hk, rfl, rfl, HO, HB⟩ := hrel
    by_cases hlt : k < mn
    · have hk0 : (0 : Int) ≤ k := by omega
      have hk1 : (k : Int) < mn := by omega
      have hw1 : IntKind.u32.wrap (k : Int) = (k : Int) := by rw [IntKind.wrap_u32]; omega
      obtain ⟨a, ha⟩ : ∃ a, a = N + k := ⟨_, rfl⟩
      have ha1 : (N : Int) + (k : Int) = (a : Int) := by omega
      have ha2 : IntKind.u32.wrap (a : Int) = (a : Int) := by rw [IntKind.wrap_u32]; omega
      have HA := Lib.hid ha
      clear ha
      have HX := Lib.hid (HO.out.alloc (.cells #[.int .u32 a] 23))
      have HB3 := Lib.hid (HB.out.alloc HB.out.size (.cells #[.int .u32 a] 23))
      go_upto_region 21 with (at_builtin; refine wpList_append_any _ rfl (.tmp 113) (.tmp 120) _ rfl w.heap.size 23 i0 _ 1 4 Try.underlying30 hi0 hz0 hz1 hz2 rfl (by omega) _ k _ rfl HX.out (wr.heap.size + 1) (some ⟨wr.heap.size, 0, none⟩) 1 1 (ucells [a]) rfl (reads_own (n := 1) (Blk.new _ _ _) rfl) (ucells_one _) (by unfold maxLen; omega) (by omega) (by have := HB.out.size; simp; omega) ?_; intro v5 w5 hown4 hg4 hat)
      clear hat
      rw [← ucells_append, HA.out, ← runU_succ] at hown4
      obtain ⟨A4, c4, rfl, _, _, _⟩ := own_form hown4
      have HO4 := Lib.hid hown4
      have HB4 := Lib.hid (HB3.out.grown hg4 HB3.out.size (fun j hj => (HX.out.lt j hj).1))
      clear hown4 hg4 HX HB3 HO HB
      go_wp2_with fail
      go_roundw
      case rel =>
        first
          | exact ⟨k + 1, A4, c4, by omega, by go_num, rfl, HO4, HB4⟩
          | ((repeat apply Exists.intro); exact ⟨⟨k + 1, A4, c4, by omega, by go_num, rfl, HO4, HB4⟩, rfl⟩)
      case measure => simp [intOf]; omega
    · obtain rfl : k = mn := by omega
      have HRR := Lib.hid (Reads.of_own HO.out)
      clear hlt hk HO
      go_wp2_with fail
      refine (HPL A' c' _ HRR.out).mono ?_
      rintro e w108 ⟨rfl, hb⟩
      replace HB := Lib.hid (HB.out.trans (hb.mono HB.out.size))
      clear hb
      clear HPL HRR
      have HBx := HB.out.alloc HB.out.size (.cells #[.int .i64 a0, .int .i64 a1, .int .u32 a2, .int .u32 a3, .int .u64 a4, .string a5] 26)
      obtain ⟨wq, hwq⟩ : ∃ x, x = w108.alloc (.cells #[.int .i64 a0, .int .i64 a1, .int .u32 a2, .int .u32 a3, .int .u64 a4, .string a5] 26) := ⟨_, rfl⟩
      replace HB := Lib.hid (show Below w.heap.size w wq by rw [hwq]; exact HBx)
      clear HBx
      go_wp2_with fail
      rw [← hwq]
      clear hwq
      refine (HMo _).mono ?_
      rintro e w109 ⟨rfl, hb⟩
      replace HB := Lib.hid (HB.out.trans (hb.mono HB.out.size))
      clear hb
      go_wp2_with fail
      refine (HNd _).mono ?_
      rintro e w110 ⟨rfl, hb⟩
      replace HB := Lib.hid (HB.out.trans (hb.mono HB.out.size))
      clear hb
      clear HNd
      go_wp2_with fail
      refine (HMo _).mono ?_
      rintro e w111 ⟨rfl, hb⟩
      replace HB := Lib.hid (HB.out.trans (hb.mono HB.out.size))
      clear hb
      clear HMo
      go_wp2_with fail
      go_ret
      exact ⟨rfl, HB.out⟩
theorem frback_walk (size n0 nx0 : Int) (A : Option Addr) (m c : Nat) (zs : List Int) (kd ct : Int) (pg lk ty : Nat) (bd : ByteArray) (fr0 mn0 : Int) (w : World) (_h0 : (Lit.int .i64 size).wf = true) (h1 : (Lit.int .u32 n0).wf = true) (h2 : (Lit.int .u32 nx0).wf = true) (hz : IsRow .u32 w A m c zs) (_h5 : pg < 4294967296 ∧ lk < 4294967296 ∧ ty < 18446744073709551616 ∧ bd.size ≤ maxLen) (h6 : (Lit.int .u32 fr0).wf = true) (h7 : (Lit.int .i64 mn0).wf = true) :
    Calls Try.prog 5 #[.int .i64 size, .int .u32 n0, .int .u32 nx0, .slice A m c, .agg #[.int .i64 kd, .int .i64 ct, .int .u32 pg, .int .u32 lk, .int .u64 ty, .string bd], .int .u32 fr0, .int .i64 mn0] w fun e w' => e = .returned (.bool true) ∧ Below w.heap.size w w' := by
  obtain ⟨n, rfl⟩ := Int.eq_ofNat_of_zero_le (lit_u32' h1).1
  obtain ⟨nx, rfl⟩ := Int.eq_ofNat_of_zero_le (lit_u32' h2).1
  obtain ⟨fr, rfl⟩ := Int.eq_ofNat_of_zero_le (lit_u32' h6).1
  obtain ⟨l, hr, _, _, _⟩ := row_nats hz
  have hf9 : fr ≤ 4294967295 := by have := (lit_u32' h6).2; omega
  have hm9 := lit_i64' h7
  by_cases h1 : 1200 < m
  · exact frback_l size n nx A m c l kd ct pg lk ty bd fr mn0 w h1
  by_cases h2 : 4200 < bd.size
  · exact frback_bd size n nx A m c l kd ct pg lk ty bd fr mn0 w h1 h2
  rcases hg : goodSize size with _ | _
  · have hy : mayP10 size n nx 9 l = false := by rw [mayP10, hg]; rfl
    rcases hk : readU kd ct pg lk ty bd with _ | k
    · exact frback_n0b size n nx A m c l kd ct pg lk ty bd fr mn0 w hr h1 h2 hf9 hm9 hg hy hk
    · exact frback_n1b size n nx A m c l kd ct pg lk ty bd fr mn0 w hr h1 h2 hf9 hm9 hg hy k hk
  obtain ⟨z, rfl, _, _, _⟩ := good_nat hg
  rcases hy : mayP10 z n nx 9 l with _ | _
  · rcases hk : readU kd ct pg lk ty bd with _ | k
    · exact frback_n0g z n nx A m c l kd ct pg lk ty bd fr mn0 w hr h1 h2 hf9 hm9 hg hy hk
    · exact frback_n1g z n nx A m c l kd ct pg lk ty bd fr mn0 w hr h1 h2 hf9 hm9 hg hy k hk
  · rcases hk : readU kd ct pg lk ty bd with _ | k
    · exact frback_y0g z n nx A m c l kd ct pg lk ty bd fr mn0 w hr h1 h2 hf9 hm9 hg hy hk
    · exact frback_y1g z n nx A m c l kd ct pg lk ty bd fr mn0 w hr h1 h2 hf9 hm9 hg hy k hk
end Go.Proofs.Ytnpockkhefbjoaa
