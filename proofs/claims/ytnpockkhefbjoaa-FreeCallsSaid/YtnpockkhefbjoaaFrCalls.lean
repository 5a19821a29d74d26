/-
  The walk of the statement FreeCalls: from every start, at every argument, it returns true and changes no block that was there before.
-/
import Derived.Test.YtnpockkhefbjoaaFnLaw
import Derived.Test.YtnpockkhefbjoaaBkOpen
import Derived.Test.YtnpockkhefbjoaaPgWords
import Derived.Deep.CutRange
namespace Go.Proofs.Ytnpockkhefbjoaa
open Go.RowKit
open Go.Lib hiding intOf
set_option linter.unusedVariables false
set_option linter.unusedSimpArgs false
attribute [local go_sem ↓] Go.wp_at_zero Go.wp_at_succ

theorem page_eql_yes10 (a0 a1 a2 a3 a4 : Int) (a5 : ByteArray) (w : World) : (binOp .eql 26 (.agg #[.int .i64 a0, .int .i64 a1, .int .u32 a2, .int .u32 a3, .int .u64 a4, .string a5]) (.agg #[.int .i64 a0, .int .i64 a1, .int .u32 a2, .int .u32 a3, .int .u64 a4, .string a5])).run Try.prog w = .ok (.bool true) w := by
  simp [go_sem]

set_option maxRecDepth 100000 in
set_option maxHeartbeats 12800000 in
theorem frcalls_l (size : Int) (n nx tx : Nat) (A : Option Addr) (m c : Nat) (l : List Nat) (kd ct : Int) (pg lk ty : Nat) (bd : ByteArray) (mn : Int) (w : World) (h1 : 1200 < m) :
    Calls Try.prog 4 #[.int .i64 size, .int .u32 n, .int .u32 nx, .int .u64 tx, .slice A m c, .agg #[.int .i64 kd, .int .i64 ct, .int .u32 pg, .int .u32 lk, .int .u64 ty, .string bd], .int .i64 mn] w fun e w' => e = .returned (.bool true) ∧ Below w.heap.size w w' := by
  have hdm : decide ((1200 : Int) < m) = true := by simp; omega
  have hem : decide (1200 < m) = true := by simp; omega
  clear h1
  have HB := Lib.hid (Below.refl w.heap.size w)
  go_enter Try.func4, Try.ntmps4
  obtain ⟨w101, hw101⟩ : ∃ x, x = w.alloc (.cells #[.int .i64 kd, .int .i64 ct, .int .u32 pg, .int .u32 lk, .int .u64 ty, .string bd] 26) := ⟨_, rfl⟩
  have saw101 : w.heap.size = w.heap.size := by first | rfl | omega
  have ge_Pp := Lib.hid (show w.heap.size ≤ w.heap.size from saw101 ▸ HB.out.size)
  replace HB := Lib.hid (show Below w.heap.size w w101 by rw [hw101]; exact HB.out.alloc HB.out.size _)
  have Pp := Lib.hid (show Blk w101 w.heap.size 26 #[.int .i64 kd, .int .i64 ct, .int .u32 pg, .int .u32 lk, .int .u64 ty, .string bd] by rw [hw101, ← saw101]; exact Blk.new _ _ _)
  have szw101 : w101.heap.size = w.heap.size + 1 := by rw [hw101]; simp
  clear saw101 szw101
  go_wp2_with fail
  rw [← hw101]
  clear hw101
  refine (lives10_any _).mono ?_
  rintro e w102 ⟨rfl, hb⟩
  replace HB := Lib.hid (HB.out.trans (hb.mono HB.out.size))
  replace Pp := Lib.hid (Pp.out.below hb Pp.out.lt)
  clear hb
  have uPp_0 := Pp.out.cell 0
  have uPp_1 := Pp.out.cell 1
  have uPp_2 := Pp.out.cell 2
  have uPp_3 := Pp.out.cell 3
  have uPp_4 := Pp.out.cell 4
  have uPp_5 := Pp.out.cell 5
  simp at uPp_0 uPp_1 uPp_2 uPp_3 uPp_4 uPp_5
  go_wp2_with fail
  go_ret
  exact ⟨rfl, HB.out⟩
set_option maxRecDepth 100000 in
set_option maxHeartbeats 12800000 in
theorem frcalls_bd (size : Int) (n nx tx : Nat) (A : Option Addr) (m c : Nat) (l : List Nat) (kd ct : Int) (pg lk ty : Nat) (bd : ByteArray) (mn : Int) (w : World) (h1 : ¬ 1200 < m) (h2 : 4200 < bd.size) :
    Calls Try.prog 4 #[.int .i64 size, .int .u32 n, .int .u32 nx, .int .u64 tx, .slice A m c, .agg #[.int .i64 kd, .int .i64 ct, .int .u32 pg, .int .u32 lk, .int .u64 ty, .string bd], .int .i64 mn] w fun e w' => e = .returned (.bool true) ∧ Below w.heap.size w w' := by
  have hdm : decide ((1200 : Int) < m) = false := by simp; omega
  have hem : decide (1200 < m) = false := by simp; omega
  have hdb : decide ((4200 : Int) < bd.size) = true := by simp; omega
  have heb : decide (4200 < bd.size) = true := by simp; omega
  clear h1 h2
  have HB := Lib.hid (Below.refl w.heap.size w)
  go_enter Try.func4, Try.ntmps4
  obtain ⟨w101, hw101⟩ : ∃ x, x = w.alloc (.cells #[.int .i64 kd, .int .i64 ct, .int .u32 pg, .int .u32 lk, .int .u64 ty, .string bd] 26) := ⟨_, rfl⟩
  have saw101 : w.heap.size = w.heap.size := by first | rfl | omega
  have ge_Pp := Lib.hid (show w.heap.size ≤ w.heap.size from saw101 ▸ HB.out.size)
  replace HB := Lib.hid (show Below w.heap.size w w101 by rw [hw101]; exact HB.out.alloc HB.out.size _)
  have Pp := Lib.hid (show Blk w101 w.heap.size 26 #[.int .i64 kd, .int .i64 ct, .int .u32 pg, .int .u32 lk, .int .u64 ty, .string bd] by rw [hw101, ← saw101]; exact Blk.new _ _ _)
  have szw101 : w101.heap.size = w.heap.size + 1 := by rw [hw101]; simp
  clear saw101 szw101
  go_wp2_with fail
  rw [← hw101]
  clear hw101
  refine (lives10_any _).mono ?_
  rintro e w102 ⟨rfl, hb⟩
  replace HB := Lib.hid (HB.out.trans (hb.mono HB.out.size))
  replace Pp := Lib.hid (Pp.out.below hb Pp.out.lt)
  clear hb
  have uPp_0 := Pp.out.cell 0
  have uPp_1 := Pp.out.cell 1
  have uPp_2 := Pp.out.cell 2
  have uPp_3 := Pp.out.cell 3
  have uPp_4 := Pp.out.cell 4
  have uPp_5 := Pp.out.cell 5
  simp at uPp_0 uPp_1 uPp_2 uPp_3 uPp_4 uPp_5
  go_wp2_with fail
  go_ret
  exact ⟨rfl, HB.out⟩
set_option maxRecDepth 100000 in
set_option maxHeartbeats 12800000 in
theorem frcalls_main (size : Int) (n nx tx : Nat) (A : Option Addr) (m c : Nat) (l : List Nat) (kd ct : Int) (pg lk ty : Nat) (bd : ByteArray) (mn : Int) (w : World) (hr : Reads w w.heap.size 1 A m (ucells l)) (h1 : ¬ 1200 < m) (h2 : ¬ 4200 < bd.size) (hm : mn ≤ 9223372036854775807) :
    Calls Try.prog 4 #[.int .i64 size, .int .u32 n, .int .u32 nx, .int .u64 tx, .slice A m c, .agg #[.int .i64 kd, .int .i64 ct, .int .u32 pg, .int .u32 lk, .int .u64 ty, .string bd], .int .i64 mn] w fun e w' => e = .returned (.bool true) ∧ Below w.heap.size w w' := by
  have hdm : decide ((1200 : Int) < m) = false := by simp; omega
  have hem : decide (1200 < m) = false := by simp; omega
  have hdb : decide ((4200 : Int) < bd.size) = false := by simp; omega
  have heb : decide (4200 < bd.size) = false := by simp; omega
  obtain ⟨a0, a1, a2, a3, a4, a5, ea, HA, HA2⟩ : ∃ (a0 a1 : Int) (a2 a3 a4 : Nat) (a5 : ByteArray) (ea : Int), (∀ w' : World, Reads w' w'.heap.size 1 A m (ucells l) → Calls Try.prog 8 #[.int .i64 size, .int .u32 n, .int .u32 nx, .int .u64 tx, .slice A m c] w' fun e w'' => e = .returned (.tuple #[.agg #[.int .i64 a0, .int .i64 a1, .int .u32 a2, .int .u32 a3, .int .u64 a4, .string a5], .int .i64 ea]) ∧ Below w'.heap.size w' w'') ∧ (∀ w' : World, Reads w' w'.heap.size 1 A m (ucells l) → Calls Try.prog 14 #[.int .i64 size, .int .u32 n, .int .u32 nx, .int .u64 tx, .slice A m c] w' fun e w'' => e = .returned (.tuple #[.agg #[.int .i64 a0, .int .i64 a1, .int .u32 a2, .int .u32 a3, .int .u64 a4, .string a5], .int .i64 ea]) ∧ Below w'.heap.size w' w'') := by
    rcases hy : mayP10 size n nx tx l with _ | _
    · exact ⟨0, 0, 0, 0, 0, ByteArray.empty, 2, fun w' h' => fpage10_no size n nx tx A m c l w' h' (by omega) hy, fun w' h' => rpage10_no size n nx tx A m c l w' h' (by unfold maxLen; omega) hy⟩
    · obtain ⟨z, rfl, _, _, _⟩ := good_nat (by simp only [mayP10, Bool.and_eq_true] at hy; exact hy.1 : goodSize size = true)
      exact ⟨_, _, _, _, _, _, _, fun w' h' => fpage10_yes z n nx tx A m c l w' h' hy, fun w' h' => rpage10_yes z n nx tx A m c l w' h' hy⟩
  have HOc := fun w => fof10_any kd ct pg lk ty bd w (by omega)
  have HOr := fun w => rof10_any kd ct pg lk ty bd w (by omega)
  have HRc := fun (w : World) (h' : Reads w w.heap.size 1 A m (ucells l)) => frises_any A m c l w h' (by omega)
  have HRr := fun (w : World) (h' : Reads w w.heap.size 1 A m (ucells l)) => rrises_any A m c l w h' (by unfold maxLen; omega)
  obtain ⟨ra, hra⟩ : ∃ x, x = ascU l := ⟨_, rfl⟩
  rw [← hra] at HRc HRr
  obtain ⟨o, ho⟩ : ∃ o, o = readU kd ct pg lk ty bd := ⟨_, rfl⟩
  rw [← ho] at HOc HOr
  have HO9 := Lib.hid (show (o.getD []).length ≤ 100000 by
    rw [ho]
    rcases hk : readU kd ct pg lk ty bd with _ | k
    · simp
    · obtain ⟨h3, _, _, h4⟩ := readU_some hk
      obtain ⟨_, _, _, h5, _⟩ := mayP10_parts h3
      simp
      omega)
  obtain ⟨ol, hol⟩ : ∃ x : Nat, x = (if o.isSome then lk else 0) := ⟨_, rfl⟩
  obtain ⟨oe, hoe⟩ : ∃ x : Int, x = (if o.isSome then 0 else 4) := ⟨_, rfl⟩
  have HOL := Lib.hid hol
  have HOE := Lib.hid hoe
  obtain ⟨OL, hOL⟩ : ∃ x, x = o.getD [] := ⟨_, rfl⟩
  have HOG := Lib.hid hOL
  rw [← hOL] at HO9
  have HNc := fun w => fneed_any size mn w hm
  have HNr := fun w => rneed10_any size mn w hm
  obtain ⟨nn, hnn⟩ : ∃ x, x = needF size mn := ⟨_, rfl⟩
  rw [← hnn] at HNc HNr
  have HMc := fun w => fmost_any size w
  have HMr := fun w => rmost10_any size w
  obtain ⟨mo, hmo⟩ : ∃ x, x = mostN size := ⟨_, rfl⟩
  rw [← hmo] at HMc HMr
  have heq := fun w => page_eql_yes10 a0 a1 a2 a3 a4 a5 w
  have HR := Lib.hid hr
  clear h1 h2 hm ho hol hoe hOL hnn hmo hra hr
  obtain ⟨hz, hi⟩ := zero_of_info infoPg
  have HI := Lib.hid hi
  clear hi
  have HB := Lib.hid (Below.refl w.heap.size w)
  go_enter Try.func4, Try.ntmps4
  obtain ⟨w101, hw101⟩ : ∃ x, x = w.alloc (.cells #[.int .i64 kd, .int .i64 ct, .int .u32 pg, .int .u32 lk, .int .u64 ty, .string bd] 26) := ⟨_, rfl⟩
  have saw101 : w.heap.size = w.heap.size := by first | rfl | omega
  have ge_Pp := Lib.hid (show w.heap.size ≤ w.heap.size from saw101 ▸ HB.out.size)
  replace HB := Lib.hid (show Below w.heap.size w w101 by rw [hw101]; exact HB.out.alloc HB.out.size _)
  replace HR := Lib.hid (show Reads w101 w101.heap.size _ _ _ _ by rw [hw101]; exact (HR.out.alloc (Nat.le_refl _) _).more (by simp))
  have Pp := Lib.hid (show Blk w101 w.heap.size 26 #[.int .i64 kd, .int .i64 ct, .int .u32 pg, .int .u32 lk, .int .u64 ty, .string bd] by rw [hw101, ← saw101]; exact Blk.new _ _ _)
  have szw101 : w101.heap.size = w.heap.size + 1 := by rw [hw101]; simp
  clear saw101 szw101
  go_wp2_with fail
  rw [← hw101]
  clear hw101
  refine (lives10_any _).mono ?_
  rintro e w102 ⟨rfl, hb⟩
  replace HB := Lib.hid (HB.out.trans (hb.mono HB.out.size))
  replace Pp := Lib.hid (Pp.out.below hb Pp.out.lt)
  replace HR := Lib.hid ((HR.out.below hb).more hb.size)
  clear hb
  have uPp_0 := Pp.out.cell 0
  have uPp_1 := Pp.out.cell 1
  have uPp_2 := Pp.out.cell 2
  have uPp_3 := Pp.out.cell 3
  have uPp_4 := Pp.out.cell 4
  have uPp_5 := Pp.out.cell 5
  simp at uPp_0 uPp_1 uPp_2 uPp_3 uPp_4 uPp_5
  go_wp2_with fail
  refine (HA _ HR.out).mono ?_
  rintro e w103 ⟨rfl, hb⟩
  replace HB := Lib.hid (HB.out.trans (hb.mono HB.out.size))
  replace Pp := Lib.hid (Pp.out.below hb Pp.out.lt)
  replace HR := Lib.hid ((HR.out.below hb).more hb.size)
  clear hb
  clear HA
  obtain ⟨w104, hw104⟩ : ∃ x, x = w103.alloc (.cells #[.int .i64 a0, .int .i64 a1, .int .u32 a2, .int .u32 a3, .int .u64 a4, .string a5] 26) := ⟨_, rfl⟩
  have saw104 : w103.heap.size = w103.heap.size := by first | rfl | omega
  have lt_Pp_X1 := Lib.hid (show w.heap.size < w103.heap.size from saw104 ▸ Pp.out.lt)
  replace Pp := Lib.hid (show Blk w104 w.heap.size 26 #[.int .i64 kd, .int .i64 ct, .int .u32 pg, .int .u32 lk, .int .u64 ty, .string bd] by rw [hw104]; exact Pp.out.alloc _)
  have ge_X1 := Lib.hid (show w.heap.size ≤ w103.heap.size from saw104 ▸ HB.out.size)
  replace HB := Lib.hid (show Below w.heap.size w w104 by rw [hw104]; exact HB.out.alloc HB.out.size _)
  replace HR := Lib.hid (show Reads w104 w104.heap.size _ _ _ _ by rw [hw104]; exact (HR.out.alloc (Nat.le_refl _) _).more (by simp))
  have X1 := Lib.hid (show Blk w104 w103.heap.size 26 #[.int .i64 a0, .int .i64 a1, .int .u32 a2, .int .u32 a3, .int .u64 a4, .string a5] by rw [hw104, ← saw104]; exact Blk.new _ _ _)
  have szw104 : w104.heap.size = w103.heap.size + 1 := by rw [hw104]; simp
  clear saw104 szw104
  go_wp2_with fail
  rw [← hw104]
  clear hw104
  generalize w103.heap.size = gX1 at *
  refine (HA2 _ HR.out).mono ?_
  rintro e w105 ⟨rfl, hb⟩
  replace HB := Lib.hid (HB.out.trans (hb.mono HB.out.size))
  replace Pp := Lib.hid (Pp.out.below hb Pp.out.lt)
  replace X1 := Lib.hid (X1.out.below hb X1.out.lt)
  replace HR := Lib.hid ((HR.out.below hb).more hb.size)
  clear hb
  clear HA2
  have lzPp := Pp.out.lt
  have dPp_0 := Pp.out.cell 0
  have dPp_1 := Pp.out.cell 1
  have dPp_2 := Pp.out.cell 2
  have dPp_3 := Pp.out.cell 3
  have dPp_4 := Pp.out.cell 4
  have dPp_5 := Pp.out.cell 5
  simp at dPp_0 dPp_1 dPp_2 dPp_3 dPp_4 dPp_5
  obtain ⟨w106, hw106⟩ : ∃ x, x = w105.alloc (.cells #[.int .i64 a0, .int .i64 a1, .int .u32 a2, .int .u32 a3, .int .u64 a4, .string a5] 26) := ⟨_, rfl⟩
  have saw106 : w105.heap.size = w105.heap.size := by first | rfl | omega
  have lt_Pp_X2 := Lib.hid (show w.heap.size < w105.heap.size from saw106 ▸ Pp.out.lt)
  replace Pp := Lib.hid (show Blk w106 w.heap.size 26 #[.int .i64 kd, .int .i64 ct, .int .u32 pg, .int .u32 lk, .int .u64 ty, .string bd] by rw [hw106]; exact Pp.out.alloc _)
  have lt_X1_X2 := Lib.hid (show gX1 < w105.heap.size from saw106 ▸ X1.out.lt)
  replace X1 := Lib.hid (show Blk w106 gX1 26 #[.int .i64 a0, .int .i64 a1, .int .u32 a2, .int .u32 a3, .int .u64 a4, .string a5] by rw [hw106]; exact X1.out.alloc _)
  have ge_X2 := Lib.hid (show w.heap.size ≤ w105.heap.size from saw106 ▸ HB.out.size)
  replace HB := Lib.hid (show Below w.heap.size w w106 by rw [hw106]; exact HB.out.alloc HB.out.size _)
  replace HR := Lib.hid (show Reads w106 w106.heap.size _ _ _ _ by rw [hw106]; exact (HR.out.alloc (Nat.le_refl _) _).more (by simp))
  have X2 := Lib.hid (show Blk w106 w105.heap.size 26 #[.int .i64 a0, .int .i64 a1, .int .u32 a2, .int .u32 a3, .int .u64 a4, .string a5] by rw [hw106, ← saw106]; exact Blk.new _ _ _)
  have szw106 : w106.heap.size = w105.heap.size + 1 := by rw [hw106]; simp
  clear saw106 szw106
  have cPp_0 := Pp.out.cell 0
  have cPp_1 := Pp.out.cell 1
  have cPp_2 := Pp.out.cell 2
  have cPp_3 := Pp.out.cell 3
  have cPp_4 := Pp.out.cell 4
  have cPp_5 := Pp.out.cell 5
  rw [hw106] at cPp_0 cPp_1 cPp_2 cPp_3 cPp_4 cPp_5
  simp at cPp_0 cPp_1 cPp_2 cPp_3 cPp_4 cPp_5
  go_wp2_with fail
  rw [← hw106]
  clear hw106 lzPp dPp_0 dPp_1 dPp_2 dPp_3 dPp_4 dPp_5 cPp_0 cPp_1 cPp_2 cPp_3 cPp_4 cPp_5
  generalize w105.heap.size = gX2 at *
  have yPp_0 := Pp.out.cell 0
  have yPp_1 := Pp.out.cell 1
  have yPp_2 := Pp.out.cell 2
  have yPp_3 := Pp.out.cell 3
  have yPp_4 := Pp.out.cell 4
  have yPp_5 := Pp.out.cell 5
  simp at yPp_0 yPp_1 yPp_2 yPp_3 yPp_4 yPp_5
  refine (HOc _).mono ?_
  intro e w7 hpost
  obtain ⟨A7, n7, c7, rfl, hr7, hb⟩ := ofpost10_any hpost
  rw [← HOL.out, ← HOE.out]
  rw [← HOG.out] at hr7
  replace HB := Lib.hid (HB.out.trans (hb.mono HB.out.size))
  replace Pp := Lib.hid (Pp.out.below hb Pp.out.lt)
  replace X1 := Lib.hid (X1.out.below hb X1.out.lt)
  replace X2 := Lib.hid (X2.out.below hb X2.out.lt)
  replace HR := Lib.hid ((HR.out.below hb).more hb.size)
  have R7 := Lib.hid hr7
  clear hb hpost hr7 HOc
  have v7Pp_0 := Pp.out.cell 0
  have v7Pp_1 := Pp.out.cell 1
  have v7Pp_2 := Pp.out.cell 2
  have v7Pp_3 := Pp.out.cell 3
  have v7Pp_4 := Pp.out.cell 4
  have v7Pp_5 := Pp.out.cell 5
  simp at v7Pp_0 v7Pp_1 v7Pp_2 v7Pp_3 v7Pp_4 v7Pp_5
  go_wp2_with fail
  have zX1_0 := X1.out.cell 0
  have zX1_1 := X1.out.cell 1
  have zX1_2 := X1.out.cell 2
  have zX1_3 := X1.out.cell 3
  have zX1_4 := X1.out.cell 4
  have zX1_5 := X1.out.cell 5
  have zX2_0 := X2.out.cell 0
  have zX2_1 := X2.out.cell 1
  have zX2_2 := X2.out.cell 2
  have zX2_3 := X2.out.cell 3
  have zX2_4 := X2.out.cell 4
  have zX2_5 := X2.out.cell 5
  simp at zX1_0 zX1_1 zX1_2 zX1_3 zX1_4 zX1_5 zX2_0 zX2_1 zX2_2 zX2_3 zX2_4 zX2_5
  refine (HOr _).mono ?_
  intro e w8 hpost
  obtain ⟨A8, n8, c8, rfl, hr8, hb⟩ := ofpost10_any hpost
  rw [← HOL.out, ← HOE.out]
  rw [← HOG.out] at hr8
  replace HB := Lib.hid (HB.out.trans (hb.mono HB.out.size))
  replace Pp := Lib.hid (Pp.out.below hb Pp.out.lt)
  replace X1 := Lib.hid (X1.out.below hb X1.out.lt)
  replace X2 := Lib.hid (X2.out.below hb X2.out.lt)
  replace HR := Lib.hid ((HR.out.below hb).more hb.size)
  replace R7 := Lib.hid ((R7.out.below hb).more hb.size)
  have R8 := Lib.hid hr8
  clear hb hpost hr8 HOr
  have v8X1_0 := X1.out.cell 0
  have v8X1_1 := X1.out.cell 1
  have v8X1_2 := X1.out.cell 2
  have v8X1_3 := X1.out.cell 3
  have v8X1_4 := X1.out.cell 4
  have v8X1_5 := X1.out.cell 5
  have v8X2_0 := X2.out.cell 0
  have v8X2_1 := X2.out.cell 1
  have v8X2_2 := X2.out.cell 2
  have v8X2_3 := X2.out.cell 3
  have v8X2_4 := X2.out.cell 4
  have v8X2_5 := X2.out.cell 5
  simp at v8X1_0 v8X1_1 v8X1_2 v8X1_3 v8X1_4 v8X1_5 v8X2_0 v8X2_1 v8X2_2 v8X2_3 v8X2_4 v8X2_5
  go_wp2_with fail
  clear Pp
  obtain rfl : n7 = n8 := (ulen R7.out).symm.trans (ulen R8.out)
  have h79 : n7 ≤ maxLen := by have := HO9.out; rw [ulen R7.out] at this; unfold maxLen; omega
  refine (sameU_yes A7 n7 c7 A8 c8 OL _ R7.out R8.out h79).mono ?_
  rintro e wa ⟨rfl, q, hq⟩
  replace HB := Lib.hid (show Below w.heap.size w wa by rw [hq]; exact below_drewN HB.out q)
  replace HR := Lib.hid (show Reads wa wa.heap.size 1 A m (ucells l) by rw [hq]; exact HR.out.drewN q)
  clear hq R7 R8 h79
  go_wp2_with fail
  refine (HRc _ HR.out).mono ?_
  rintro e w107 ⟨rfl, hb⟩
  replace HB := Lib.hid (HB.out.trans (hb.mono HB.out.size))
  replace HR := Lib.hid ((HR.out.below hb).more hb.size)
  clear hb
  clear HRc
  go_wp2_with fail
  refine (HRr _ HR.out).mono ?_
  rintro e wb ⟨rfl, q, hq⟩
  replace HB := Lib.hid (show Below w.heap.size w wb by rw [hq]; exact below_drewN HB.out q)
  clear hq HR HRr
  go_wp2_with fail
  refine (HNc _).mono ?_
  rintro e w108 ⟨rfl, hb⟩
  replace HB := Lib.hid (HB.out.trans (hb.mono HB.out.size))
  clear hb
  clear HNc
  go_wp2_with fail
  refine (HNr _).mono ?_
  rintro e wz ⟨rfl, rfl⟩
  go_wp2_with fail
  refine (HMc _).mono ?_
  rintro e w109 ⟨rfl, hb⟩
  replace HB := Lib.hid (HB.out.trans (hb.mono HB.out.size))
  clear hb
  clear HMc
  go_wp2_with fail
  refine (HMr _).mono ?_
  rintro e wy ⟨rfl, rfl⟩
  go_wp2_with fail
  go_ret
  exact ⟨rfl, HB.out⟩
theorem frcalls_walk (size n0 nx0 tx0 : Int) (A : Option Addr) (m c : Nat) (zs : List Int) (kd ct : Int) (pg lk ty : Nat) (bd : ByteArray) (mn : Int) (w : World) (_h0 : (Lit.int .i64 size).wf = true) (h1 : (Lit.int .u32 n0).wf = true) (h2 : (Lit.int .u32 nx0).wf = true) (h3 : (Lit.int .u64 tx0).wf = true) (hz : IsRow .u32 w A m c zs) (_h5 : pg < 4294967296 ∧ lk < 4294967296 ∧ ty < 18446744073709551616 ∧ bd.size ≤ maxLen) (h7 : (Lit.int .i64 mn).wf = true) :
    Calls Try.prog 4 #[.int .i64 size, .int .u32 n0, .int .u32 nx0, .int .u64 tx0, .slice A m c, .agg #[.int .i64 kd, .int .i64 ct, .int .u32 pg, .int .u32 lk, .int .u64 ty, .string bd], .int .i64 mn] w fun e w' => e = .returned (.bool true) ∧ Below w.heap.size w w' := by
  obtain ⟨n, rfl⟩ := Int.eq_ofNat_of_zero_le (lit_u32' h1).1
  obtain ⟨nx, rfl⟩ := Int.eq_ofNat_of_zero_le (lit_u32' h2).1
  obtain ⟨tx, rfl⟩ := Int.eq_ofNat_of_zero_le (bounds_u64 h3).1
  obtain ⟨l, hr, _, _, _⟩ := row_nats hz
  by_cases h1 : 1200 < m
  · exact frcalls_l size n nx tx A m c l kd ct pg lk ty bd mn w h1
  by_cases h2 : 4200 < bd.size
  · exact frcalls_bd size n nx tx A m c l kd ct pg lk ty bd mn w h1 h2
  exact frcalls_main size n nx tx A m c l kd ct pg lk ty bd mn w hr h1 h2 (lit_i64' h7).2
end Go.Proofs.Ytnpockkhefbjoaa
