/-
  The walk of the statement CatalogCalls: from every start, at every argument, it returns true and changes no block that was there before.
-/
import Derived.Test.YtgljmcameeeaiaaCatLaw
import Derived.Test.YtgljmcameeeaiaaBkOpen
import Derived.Test.YtgljmcameeeaiaaFrameOpen
import Derived.Test.YtgljmcameeeaiaaOrder
import Derived.Deep.CutRange
namespace Go.Proofs.Ytgljmcameeeaiaa
open Go.RowKit
open Go.Lib hiding intOf
set_option linter.unusedVariables false
set_option linter.unusedSimpArgs false
attribute [local go_sem ↓] Go.wp_at_zero Go.wp_at_succ

theorem bk_cells {w : World} {g : Nat} {a0 a1 a2 : Value} (h : Blk w g 33 #[a0, a1, a2]) : w.cell? ⟨g, 0, none⟩ = some a0 ∧ w.cell? ⟨g, 1, none⟩ = some a1 ∧ w.cell? ⟨g, 2, none⟩ = some a2 := ⟨h.cell 0, h.cell 1, h.cell 2⟩
theorem ofpost_any {o : Option (List Bk)} {w : World} {e : Ending} {w' : World} (h : OfPost o w e w') : ∃ A c er, e = .returned (.tuple #[.slice A (o.getD []).length c, .int .i64 er]) ∧ er = (if o.isSome then (0 : Int) else 4) ∧ Reads w' w'.heap.size 3 A (o.getD []).length (bkc (o.getD [])) ∧ Below w.heap.size w w' := by
  cases o with
  | none =>
    obtain ⟨rfl, hb⟩ := h
    exact ⟨none, 0, 4, rfl, rfl, Reads.none_, hb⟩
  | some l =>
    obtain ⟨A, n, c, rfl, hr, _, _, hb⟩ := h
    obtain rfl := bk_len hr
    exact ⟨A, c, 0, rfl, rfl, hr, hb⟩

set_option maxRecDepth 100000 in
set_option maxHeartbeats 12800000 in
theorem ccalls_no (size : Int) (n tx : Nat) (A : Option Addr) (m c : Nat) (l : List Bk) (kd ct : Int) (pg lk ty : Nat) (bd : ByteArray) (nm : ByteArray) (rt : Nat) (ks : Int) (w : World) (hr : Reads w w.heap.size 3 A m (bkc l)) (hm : m ≤ 4398046511104) (hmc : m ≤ c) (hcm : c ≤ maxLen) (hl : lightB l = false) :
    Calls Try.prog 4 #[.int .i64 size, .int .u32 n, .int .u64 tx, .slice A m c, .agg #[.int .i64 kd, .int .i64 ct, .int .u32 pg, .int .u32 lk, .int .u64 ty, .string bd], .agg #[.string nm, .int .u32 rt, .int .i64 ks]] w fun e w' => e = .returned (.bool true) ∧ Below w.heap.size w w' := by
  have HR := Lib.hid hr
  have HM := Lib.hid hm
  have HLi := Lib.hid hl
  clear hr hm hl hmc hcm
  have HB := Lib.hid (Below.refl w.heap.size w)
  go_enter Try.func4, Try.ntmps4
  obtain ⟨v102, hv102⟩ : ∃ x, x = w.alloc (.cells #[.int .i64 kd, .int .i64 ct, .int .u32 pg, .int .u32 lk, .int .u64 ty, .string bd] 26) := ⟨_, rfl⟩
  have sav102 : w.heap.size = w.heap.size := by first | rfl | omega
  have ge_Pp := Lib.hid (show w.heap.size ≤ w.heap.size from sav102 ▸ HB.out.size)
  replace HB := Lib.hid (show Below w.heap.size w v102 by rw [hv102]; exact HB.out.alloc HB.out.size _)
  have Pp := Lib.hid (show Blk v102 w.heap.size 26 #[.int .i64 kd, .int .i64 ct, .int .u32 pg, .int .u32 lk, .int .u64 ty, .string bd] by rw [hv102, ← sav102]; exact Blk.new _ _ _)
  have szv102 : v102.heap.size = w.heap.size + 1 := by rw [hv102]; simp
  obtain ⟨w101, hw101⟩ : ∃ x, x = v102.alloc (.cells #[.string nm, .int .u32 rt, .int .i64 ks] 33) := ⟨_, rfl⟩
  have saw101 : v102.heap.size = (w.heap.size + 1) := by first | rfl | omega
  have lt_Pp_Bb := Lib.hid (show w.heap.size < (w.heap.size + 1) from saw101 ▸ Pp.out.lt)
  replace Pp := Lib.hid (show Blk w101 w.heap.size 26 #[.int .i64 kd, .int .i64 ct, .int .u32 pg, .int .u32 lk, .int .u64 ty, .string bd] by rw [hw101]; exact Pp.out.alloc _)
  have ge_Bb := Lib.hid (show w.heap.size ≤ (w.heap.size + 1) from saw101 ▸ HB.out.size)
  replace HB := Lib.hid (show Below w.heap.size w w101 by rw [hw101]; exact HB.out.alloc HB.out.size _)
  have Bb := Lib.hid (show Blk w101 (w.heap.size + 1) 33 #[.string nm, .int .u32 rt, .int .i64 ks] by rw [hw101, ← saw101]; exact Blk.new _ _ _)
  have szw101 : w101.heap.size = v102.heap.size + 1 := by rw [hw101]; simp
  clear sav102 szv102 saw101 szw101
  go_wp2_with fail
  rw [← hv102, ← hw101]
  clear hv102 hw101
  generalize (w.heap.size + 1) = gBb at *
  refine (lives6_any _).mono ?_
  rintro e w103 ⟨rfl, hb⟩
  replace HB := Lib.hid (HB.out.trans (hb.mono HB.out.size))
  replace Pp := Lib.hid (Pp.out.below hb Pp.out.lt)
  replace Bb := Lib.hid (Bb.out.below hb Bb.out.lt)
  clear hb
  have uPp_0 := Pp.out.cell 0
  have uPp_1 := Pp.out.cell 1
  have uPp_2 := Pp.out.cell 2
  have uPp_3 := Pp.out.cell 3
  have uPp_4 := Pp.out.cell 4
  have uPp_5 := Pp.out.cell 5
  have uBb_0 := Bb.out.cell 0
  have uBb_1 := Bb.out.cell 1
  have uBb_2 := Bb.out.cell 2
  simp at uPp_0 uPp_1 uPp_2 uPp_3 uPp_4 uPp_5 uBb_0 uBb_1 uBb_2
  go_wp2_with fail
  refine (light6_any A m c l _ (HR.out.below HB.out) (Nat.le_trans HM.out (by decide))).mono ?_
  rintro e w104 ⟨rfl, rfl⟩
  rw [HLi.out]
  go_wp2_with fail
  go_ret
  exact ⟨rfl, HB.out⟩
set_option maxRecDepth 100000 in
set_option maxHeartbeats 12800000 in
theorem ccalls_long (size : Int) (n tx : Nat) (A : Option Addr) (m c : Nat) (l : List Bk) (kd ct : Int) (pg lk ty : Nat) (bd : ByteArray) (nm : ByteArray) (rt : Nat) (ks : Int) (w : World) (hr : Reads w w.heap.size 3 A m (bkc l)) (hm : m ≤ 4398046511104) (hmc : m ≤ c) (hcm : c ≤ maxLen) (hl : lightB l = true) (hb : 4200 < bd.size) :
    Calls Try.prog 4 #[.int .i64 size, .int .u32 n, .int .u64 tx, .slice A m c, .agg #[.int .i64 kd, .int .i64 ct, .int .u32 pg, .int .u32 lk, .int .u64 ty, .string bd], .agg #[.string nm, .int .u32 rt, .int .i64 ks]] w fun e w' => e = .returned (.bool true) ∧ Below w.heap.size w w' := by
  have HR := Lib.hid hr
  have HM := Lib.hid hm
  have HLi := Lib.hid hl
  have hd : decide ((4200 : Int) < bd.size) = true := by simp; omega
  have hd2 : decide (4200 < bd.size) = true := by simp; omega
  clear hb
  clear hr hm hl hmc hcm
  have HB := Lib.hid (Below.refl w.heap.size w)
  go_enter Try.func4, Try.ntmps4
  obtain ⟨v102, hv102⟩ : ∃ x, x = w.alloc (.cells #[.int .i64 kd, .int .i64 ct, .int .u32 pg, .int .u32 lk, .int .u64 ty, .string bd] 26) := ⟨_, rfl⟩
  have sav102 : w.heap.size = w.heap.size := by first | rfl | omega
  have ge_Pp := Lib.hid (show w.heap.size ≤ w.heap.size from sav102 ▸ HB.out.size)
  replace HB := Lib.hid (show Below w.heap.size w v102 by rw [hv102]; exact HB.out.alloc HB.out.size _)
  have Pp := Lib.hid (show Blk v102 w.heap.size 26 #[.int .i64 kd, .int .i64 ct, .int .u32 pg, .int .u32 lk, .int .u64 ty, .string bd] by rw [hv102, ← sav102]; exact Blk.new _ _ _)
  have szv102 : v102.heap.size = w.heap.size + 1 := by rw [hv102]; simp
  obtain ⟨w101, hw101⟩ : ∃ x, x = v102.alloc (.cells #[.string nm, .int .u32 rt, .int .i64 ks] 33) := ⟨_, rfl⟩
  have saw101 : v102.heap.size = (w.heap.size + 1) := by first | rfl | omega
  have lt_Pp_Bb := Lib.hid (show w.heap.size < (w.heap.size + 1) from saw101 ▸ Pp.out.lt)
  replace Pp := Lib.hid (show Blk w101 w.heap.size 26 #[.int .i64 kd, .int .i64 ct, .int .u32 pg, .int .u32 lk, .int .u64 ty, .string bd] by rw [hw101]; exact Pp.out.alloc _)
  have ge_Bb := Lib.hid (show w.heap.size ≤ (w.heap.size + 1) from saw101 ▸ HB.out.size)
  replace HB := Lib.hid (show Below w.heap.size w w101 by rw [hw101]; exact HB.out.alloc HB.out.size _)
  have Bb := Lib.hid (show Blk w101 (w.heap.size + 1) 33 #[.string nm, .int .u32 rt, .int .i64 ks] by rw [hw101, ← saw101]; exact Blk.new _ _ _)
  have szw101 : w101.heap.size = v102.heap.size + 1 := by rw [hw101]; simp
  clear sav102 szv102 saw101 szw101
  go_wp2_with fail
  rw [← hv102, ← hw101]
  clear hv102 hw101
  generalize (w.heap.size + 1) = gBb at *
  refine (lives6_any _).mono ?_
  rintro e w103 ⟨rfl, hb⟩
  replace HB := Lib.hid (HB.out.trans (hb.mono HB.out.size))
  replace Pp := Lib.hid (Pp.out.below hb Pp.out.lt)
  replace Bb := Lib.hid (Bb.out.below hb Bb.out.lt)
  clear hb
  have uPp_0 := Pp.out.cell 0
  have uPp_1 := Pp.out.cell 1
  have uPp_2 := Pp.out.cell 2
  have uPp_3 := Pp.out.cell 3
  have uPp_4 := Pp.out.cell 4
  have uPp_5 := Pp.out.cell 5
  have uBb_0 := Bb.out.cell 0
  have uBb_1 := Bb.out.cell 1
  have uBb_2 := Bb.out.cell 2
  simp at uPp_0 uPp_1 uPp_2 uPp_3 uPp_4 uPp_5 uBb_0 uBb_1 uBb_2
  go_wp2_with fail
  refine (light6_any A m c l _ (HR.out.below HB.out) (Nat.le_trans HM.out (by decide))).mono ?_
  rintro e w104 ⟨rfl, rfl⟩
  rw [HLi.out]
  go_wp2_with fail
  go_ret
  exact ⟨rfl, HB.out⟩
set_option maxRecDepth 100000 in
set_option maxHeartbeats 12800000 in
theorem ccalls_far (size : Int) (n tx : Nat) (A : Option Addr) (m c : Nat) (l : List Bk) (kd ct : Int) (pg lk ty : Nat) (bd : ByteArray) (nm : ByteArray) (rt : Nat) (ks : Int) (w : World) (hr : Reads w w.heap.size 3 A m (bkc l)) (hm : m ≤ 4398046511104) (hmc : m ≤ c) (hcm : c ≤ maxLen) (hl : lightB l = true) (hb : ¬ 4200 < bd.size) (hn : 100 < nm.size) :
    Calls Try.prog 4 #[.int .i64 size, .int .u32 n, .int .u64 tx, .slice A m c, .agg #[.int .i64 kd, .int .i64 ct, .int .u32 pg, .int .u32 lk, .int .u64 ty, .string bd], .agg #[.string nm, .int .u32 rt, .int .i64 ks]] w fun e w' => e = .returned (.bool true) ∧ Below w.heap.size w w' := by
  have HR := Lib.hid hr
  have HM := Lib.hid hm
  have HLi := Lib.hid hl
  have hd : decide ((4200 : Int) < bd.size) = false := by simp; omega
  have hd2 : decide (4200 < bd.size) = false := by simp; omega
  have hd3 : decide ((100 : Int) < nm.size) = true := by simp; omega
  have hd4 : decide (100 < nm.size) = true := by simp; omega
  clear hb hn
  clear hr hm hl hmc hcm
  have HB := Lib.hid (Below.refl w.heap.size w)
  go_enter Try.func4, Try.ntmps4
  obtain ⟨v102, hv102⟩ : ∃ x, x = w.alloc (.cells #[.int .i64 kd, .int .i64 ct, .int .u32 pg, .int .u32 lk, .int .u64 ty, .string bd] 26) := ⟨_, rfl⟩
  have sav102 : w.heap.size = w.heap.size := by first | rfl | omega
  have ge_Pp := Lib.hid (show w.heap.size ≤ w.heap.size from sav102 ▸ HB.out.size)
  replace HB := Lib.hid (show Below w.heap.size w v102 by rw [hv102]; exact HB.out.alloc HB.out.size _)
  have Pp := Lib.hid (show Blk v102 w.heap.size 26 #[.int .i64 kd, .int .i64 ct, .int .u32 pg, .int .u32 lk, .int .u64 ty, .string bd] by rw [hv102, ← sav102]; exact Blk.new _ _ _)
  have szv102 : v102.heap.size = w.heap.size + 1 := by rw [hv102]; simp
  obtain ⟨w101, hw101⟩ : ∃ x, x = v102.alloc (.cells #[.string nm, .int .u32 rt, .int .i64 ks] 33) := ⟨_, rfl⟩
  have saw101 : v102.heap.size = (w.heap.size + 1) := by first | rfl | omega
  have lt_Pp_Bb := Lib.hid (show w.heap.size < (w.heap.size + 1) from saw101 ▸ Pp.out.lt)
  replace Pp := Lib.hid (show Blk w101 w.heap.size 26 #[.int .i64 kd, .int .i64 ct, .int .u32 pg, .int .u32 lk, .int .u64 ty, .string bd] by rw [hw101]; exact Pp.out.alloc _)
  have ge_Bb := Lib.hid (show w.heap.size ≤ (w.heap.size + 1) from saw101 ▸ HB.out.size)
  replace HB := Lib.hid (show Below w.heap.size w w101 by rw [hw101]; exact HB.out.alloc HB.out.size _)
  have Bb := Lib.hid (show Blk w101 (w.heap.size + 1) 33 #[.string nm, .int .u32 rt, .int .i64 ks] by rw [hw101, ← saw101]; exact Blk.new _ _ _)
  have szw101 : w101.heap.size = v102.heap.size + 1 := by rw [hw101]; simp
  clear sav102 szv102 saw101 szw101
  go_wp2_with fail
  rw [← hv102, ← hw101]
  clear hv102 hw101
  generalize (w.heap.size + 1) = gBb at *
  refine (lives6_any _).mono ?_
  rintro e w103 ⟨rfl, hb⟩
  replace HB := Lib.hid (HB.out.trans (hb.mono HB.out.size))
  replace Pp := Lib.hid (Pp.out.below hb Pp.out.lt)
  replace Bb := Lib.hid (Bb.out.below hb Bb.out.lt)
  clear hb
  have uPp_0 := Pp.out.cell 0
  have uPp_1 := Pp.out.cell 1
  have uPp_2 := Pp.out.cell 2
  have uPp_3 := Pp.out.cell 3
  have uPp_4 := Pp.out.cell 4
  have uPp_5 := Pp.out.cell 5
  have uBb_0 := Bb.out.cell 0
  have uBb_1 := Bb.out.cell 1
  have uBb_2 := Bb.out.cell 2
  simp at uPp_0 uPp_1 uPp_2 uPp_3 uPp_4 uPp_5 uBb_0 uBb_1 uBb_2
  go_wp2_with fail
  refine (light6_any A m c l _ (HR.out.below HB.out) (Nat.le_trans HM.out (by decide))).mono ?_
  rintro e w104 ⟨rfl, rfl⟩
  rw [HLi.out]
  go_wp2_with fail
  go_ret
  exact ⟨rfl, HB.out⟩
set_option maxRecDepth 100000 in
set_option maxHeartbeats 12800000 in
theorem ccalls_main (size : Int) (n tx : Nat) (A : Option Addr) (m c : Nat) (l : List Bk) (kd ct : Int) (pg lk ty : Nat) (bd : ByteArray) (nm : ByteArray) (rt : Nat) (ks : Int) (w : World) (hr : Reads w w.heap.size 3 A m (bkc l)) (hm : m ≤ 4398046511104) (hmc : m ≤ c) (hcm : c ≤ maxLen) (hl : lightB l = true) (hb : ¬ 4200 < bd.size) (hn : ¬ 100 < nm.size) (h60 : m ≤ 60) (hsz : sizeB l ≤ 9007199254740992) :
    Calls Try.prog 4 #[.int .i64 size, .int .u32 n, .int .u64 tx, .slice A m c, .agg #[.int .i64 kd, .int .i64 ct, .int .u32 pg, .int .u32 lk, .int .u64 ty, .string bd], .agg #[.string nm, .int .u32 rt, .int .i64 ks]] w fun e w' => e = .returned (.bool true) ∧ Below w.heap.size w w' := by
  have HR := Lib.hid hr
  have HM := Lib.hid hm
  have HLi := Lib.hid hl
  have HMC := Lib.hid hmc
  have HCM := Lib.hid hcm
  have H60 := Lib.hid h60
  have HSZ := Lib.hid hsz
  have hd : decide ((4200 : Int) < bd.size) = false := by simp; omega
  have hd2 : decide (4200 < bd.size) = false := by simp; omega
  have hd3 : decide ((100 : Int) < nm.size) = false := by simp; omega
  have hd4 : decide (100 < nm.size) = false := by simp; omega
  obtain ⟨a0, a1, a2, a3, a4, a5, ea, HA, HA2⟩ : ∃ (a0 a1 : Int) (a2 a3 a4 : Nat) (a5 : ByteArray) (ea : Int), (∀ w' : World, Below w.heap.size w w' → Calls Try.prog 9 #[.int .i64 size, .int .u32 n, .int .u64 tx, .slice A m c] w' fun e w'' => e = .returned (.tuple #[.agg #[.int .i64 a0, .int .i64 a1, .int .u32 a2, .int .u32 a3, .int .u64 a4, .string a5], .int .i64 ea]) ∧ Below w'.heap.size w' w'') ∧ (∀ w' : World, Below w.heap.size w w' → Calls Try.prog 20 #[.int .i64 size, .int .u32 n, .int .u64 tx, .slice A m c] w' fun e w'' => e = .returned (.tuple #[.agg #[.int .i64 a0, .int .i64 a1, .int .u32 a2, .int .u32 a3, .int .u64 a4, .string a5], .int .i64 ea]) ∧ Below w'.heap.size w' w'') := by
    rcases hy : mayC size n tx l with _ | _
    · exact ⟨0, 0, 0, 0, 0, ByteArray.empty, 2, fun w' hb => cpage6_no size n tx A m c l w' ((hr.below hb).more hb.size) (by omega) hy, fun w' hb => rpage6_no size n tx A m c l w' ((hr.below hb).more hb.size) (by omega) hy⟩
    · obtain ⟨z, rfl, _, _, _⟩ := good_nat (by simp only [mayC, mayL, Bool.and_eq_true] at hy; exact hy.1.2.1 : goodSize size = true)
      exact ⟨_, _, _, _, _, _, _, fun w' hb => cpage6_yes z n tx A m c l w' ((hr.below hb).more hb.size) (by omega) hy, fun w' hb => rpage6_yes z n tx A m c l w' ((hr.below hb).more hb.size) (by omega) hy⟩
  have HOc := fun w => cof6_any kd ct pg lk ty bd w (by omega)
  have HOr := fun w => rof6_any kd ct pg lk ty bd w (by omega)
  obtain ⟨o, ho⟩ : ∃ o, o = readC kd ct pg lk ty bd := ⟨_, rfl⟩
  rw [← ho] at HOc HOr
  obtain ⟨KL, hKL⟩ : ∃ K, K = o.getD [] := ⟨_, rfl⟩
  obtain ⟨kn, hkn⟩ : ∃ kn, kn = KL.length := ⟨_, rfl⟩
  obtain ⟨ec, hec⟩ : ∃ ec : Int, ec = (if o.isSome then (0 : Int) else 4) := ⟨_, rfl⟩
  have HK := Lib.hid hKL
  have HKN := Lib.hid hkn
  have HEC := Lib.hid hec
  have heq := fun w => page_eql_yes a0 a1 a2 a3 a4 a5 w
  have HKL : Hid (kn ≤ 100000) := Lib.hid (by
    rw [hkn, hKL]
    cases o with
    | none => simp
    | some k =>
      obtain ⟨h1, _, _, _, h5⟩ := readC_some ho.symm
      have h2 := mayC_parts h1
      have h3 := good_pos h2.2.1
      have h4 := nine_le k
      simp only [Option.getD_some]
      omega)
  obtain ⟨fi, hfi⟩ : ∃ fi, fi = fI l nm := ⟨_, rfl⟩
  obtain ⟨ii, hii⟩ : ∃ ii, ii = isI l nm := ⟨_, rfl⟩
  obtain ⟨sb, hsb⟩ : ∃ sb, sb = sizeB l := ⟨_, rfl⟩
  obtain ⟨nb, hnb⟩ : ∃ nb, nb = nameB nm := ⟨_, rfl⟩
  have HFI := Lib.hid hfi
  have HII := Lib.hid hii
  have HSB := Lib.hid hsb
  have HNB := Lib.hid hnb
  clear hr hm hl hb hn h60 hsz hmc hcm ho hKL hkn hec hfi hii hsb hnb
  obtain ⟨hz, hi⟩ := zero_of_info infoPg
  have HI := Lib.hid hi
  clear hi
  have HB := Lib.hid (Below.refl w.heap.size w)
  go_enter Try.func4, Try.ntmps4
  obtain ⟨v102, hv102⟩ : ∃ x, x = w.alloc (.cells #[.int .i64 kd, .int .i64 ct, .int .u32 pg, .int .u32 lk, .int .u64 ty, .string bd] 26) := ⟨_, rfl⟩
  have sav102 : w.heap.size = w.heap.size := by first | rfl | omega
  have ge_Pp := Lib.hid (show w.heap.size ≤ w.heap.size from sav102 ▸ HB.out.size)
  replace HB := Lib.hid (show Below w.heap.size w v102 by rw [hv102]; exact HB.out.alloc HB.out.size _)
  have Pp := Lib.hid (show Blk v102 w.heap.size 26 #[.int .i64 kd, .int .i64 ct, .int .u32 pg, .int .u32 lk, .int .u64 ty, .string bd] by rw [hv102, ← sav102]; exact Blk.new _ _ _)
  have szv102 : v102.heap.size = w.heap.size + 1 := by rw [hv102]; simp
  obtain ⟨w101, hw101⟩ : ∃ x, x = v102.alloc (.cells #[.string nm, .int .u32 rt, .int .i64 ks] 33) := ⟨_, rfl⟩
  have saw101 : v102.heap.size = (w.heap.size + 1) := by first | rfl | omega
  have lt_Pp_Bb := Lib.hid (show w.heap.size < (w.heap.size + 1) from saw101 ▸ Pp.out.lt)
  replace Pp := Lib.hid (show Blk w101 w.heap.size 26 #[.int .i64 kd, .int .i64 ct, .int .u32 pg, .int .u32 lk, .int .u64 ty, .string bd] by rw [hw101]; exact Pp.out.alloc _)
  have ge_Bb := Lib.hid (show w.heap.size ≤ (w.heap.size + 1) from saw101 ▸ HB.out.size)
  replace HB := Lib.hid (show Below w.heap.size w w101 by rw [hw101]; exact HB.out.alloc HB.out.size _)
  have Bb := Lib.hid (show Blk w101 (w.heap.size + 1) 33 #[.string nm, .int .u32 rt, .int .i64 ks] by rw [hw101, ← saw101]; exact Blk.new _ _ _)
  have szw101 : w101.heap.size = v102.heap.size + 1 := by rw [hw101]; simp
  clear sav102 szv102 saw101 szw101
  go_wp2_with fail
  rw [← hv102, ← hw101]
  clear hv102 hw101
  generalize (w.heap.size + 1) = gBb at *
  refine (lives6_any _).mono ?_
  rintro e w103 ⟨rfl, hb⟩
  replace HB := Lib.hid (HB.out.trans (hb.mono HB.out.size))
  replace Pp := Lib.hid (Pp.out.below hb Pp.out.lt)
  replace Bb := Lib.hid (Bb.out.below hb Bb.out.lt)
  clear hb
  have uPp_0 := Pp.out.cell 0
  have uPp_1 := Pp.out.cell 1
  have uPp_2 := Pp.out.cell 2
  have uPp_3 := Pp.out.cell 3
  have uPp_4 := Pp.out.cell 4
  have uPp_5 := Pp.out.cell 5
  have uBb_0 := Bb.out.cell 0
  have uBb_1 := Bb.out.cell 1
  have uBb_2 := Bb.out.cell 2
  simp at uPp_0 uPp_1 uPp_2 uPp_3 uPp_4 uPp_5 uBb_0 uBb_1 uBb_2
  go_wp2_with fail
  refine (light6_any A m c l _ (HR.out.below HB.out) (Nat.le_trans HM.out (by decide))).mono ?_
  rintro e w104 ⟨rfl, rfl⟩
  rw [HLi.out]
  go_wp2_with fail
  refine (HA _ HB.out).mono ?_
  rintro e w105 ⟨rfl, hb⟩
  replace HB := Lib.hid (HB.out.trans (hb.mono HB.out.size))
  replace Pp := Lib.hid (Pp.out.below hb Pp.out.lt)
  replace Bb := Lib.hid (Bb.out.below hb Bb.out.lt)
  clear hb
  clear HA
  obtain ⟨w106, hw106⟩ : ∃ x, x = w105.alloc (.cells #[.int .i64 a0, .int .i64 a1, .int .u32 a2, .int .u32 a3, .int .u64 a4, .string a5] 26) := ⟨_, rfl⟩
  have saw106 : w105.heap.size = w105.heap.size := by first | rfl | omega
  have lt_Pp_X1 := Lib.hid (show w.heap.size < w105.heap.size from saw106 ▸ Pp.out.lt)
  replace Pp := Lib.hid (show Blk w106 w.heap.size 26 #[.int .i64 kd, .int .i64 ct, .int .u32 pg, .int .u32 lk, .int .u64 ty, .string bd] by rw [hw106]; exact Pp.out.alloc _)
  have lt_Bb_X1 := Lib.hid (show gBb < w105.heap.size from saw106 ▸ Bb.out.lt)
  replace Bb := Lib.hid (show Blk w106 gBb 33 #[.string nm, .int .u32 rt, .int .i64 ks] by rw [hw106]; exact Bb.out.alloc _)
  have ge_X1 := Lib.hid (show w.heap.size ≤ w105.heap.size from saw106 ▸ HB.out.size)
  replace HB := Lib.hid (show Below w.heap.size w w106 by rw [hw106]; exact HB.out.alloc HB.out.size _)
  have X1 := Lib.hid (show Blk w106 w105.heap.size 26 #[.int .i64 a0, .int .i64 a1, .int .u32 a2, .int .u32 a3, .int .u64 a4, .string a5] by rw [hw106, ← saw106]; exact Blk.new _ _ _)
  have szw106 : w106.heap.size = w105.heap.size + 1 := by rw [hw106]; simp
  clear saw106 szw106
  go_wp2_with fail
  rw [← hw106]
  clear hw106
  generalize w105.heap.size = gX1 at *
  refine (HA2 _ HB.out).mono ?_
  rintro e w107 ⟨rfl, hb⟩
  replace HB := Lib.hid (HB.out.trans (hb.mono HB.out.size))
  replace Pp := Lib.hid (Pp.out.below hb Pp.out.lt)
  replace Bb := Lib.hid (Bb.out.below hb Bb.out.lt)
  replace X1 := Lib.hid (X1.out.below hb X1.out.lt)
  clear hb
  clear HA2
  have lzPp := Pp.out.lt
  have lzBb := Bb.out.lt
  have dPp_0 := Pp.out.cell 0
  have dPp_1 := Pp.out.cell 1
  have dPp_2 := Pp.out.cell 2
  have dPp_3 := Pp.out.cell 3
  have dPp_4 := Pp.out.cell 4
  have dPp_5 := Pp.out.cell 5
  have dBb_0 := Bb.out.cell 0
  have dBb_1 := Bb.out.cell 1
  have dBb_2 := Bb.out.cell 2
  simp at dPp_0 dPp_1 dPp_2 dPp_3 dPp_4 dPp_5 dBb_0 dBb_1 dBb_2
  obtain ⟨w108, hw108⟩ : ∃ x, x = w107.alloc (.cells #[.int .i64 a0, .int .i64 a1, .int .u32 a2, .int .u32 a3, .int .u64 a4, .string a5] 26) := ⟨_, rfl⟩
  have saw108 : w107.heap.size = w107.heap.size := by first | rfl | omega
  have lt_Pp_X2 := Lib.hid (show w.heap.size < w107.heap.size from saw108 ▸ Pp.out.lt)
  replace Pp := Lib.hid (show Blk w108 w.heap.size 26 #[.int .i64 kd, .int .i64 ct, .int .u32 pg, .int .u32 lk, .int .u64 ty, .string bd] by rw [hw108]; exact Pp.out.alloc _)
  have lt_Bb_X2 := Lib.hid (show gBb < w107.heap.size from saw108 ▸ Bb.out.lt)
  replace Bb := Lib.hid (show Blk w108 gBb 33 #[.string nm, .int .u32 rt, .int .i64 ks] by rw [hw108]; exact Bb.out.alloc _)
  have lt_X1_X2 := Lib.hid (show gX1 < w107.heap.size from saw108 ▸ X1.out.lt)
  replace X1 := Lib.hid (show Blk w108 gX1 26 #[.int .i64 a0, .int .i64 a1, .int .u32 a2, .int .u32 a3, .int .u64 a4, .string a5] by rw [hw108]; exact X1.out.alloc _)
  have ge_X2 := Lib.hid (show w.heap.size ≤ w107.heap.size from saw108 ▸ HB.out.size)
  replace HB := Lib.hid (show Below w.heap.size w w108 by rw [hw108]; exact HB.out.alloc HB.out.size _)
  have X2 := Lib.hid (show Blk w108 w107.heap.size 26 #[.int .i64 a0, .int .i64 a1, .int .u32 a2, .int .u32 a3, .int .u64 a4, .string a5] by rw [hw108, ← saw108]; exact Blk.new _ _ _)
  have szw108 : w108.heap.size = w107.heap.size + 1 := by rw [hw108]; simp
  clear saw108 szw108
  have cPp_0 := Pp.out.cell 0
  have cPp_1 := Pp.out.cell 1
  have cPp_2 := Pp.out.cell 2
  have cPp_3 := Pp.out.cell 3
  have cPp_4 := Pp.out.cell 4
  have cPp_5 := Pp.out.cell 5
  have cBb_0 := Bb.out.cell 0
  have cBb_1 := Bb.out.cell 1
  have cBb_2 := Bb.out.cell 2
  rw [hw108] at cPp_0 cPp_1 cPp_2 cPp_3 cPp_4 cPp_5 cBb_0 cBb_1 cBb_2
  simp at cPp_0 cPp_1 cPp_2 cPp_3 cPp_4 cPp_5 cBb_0 cBb_1 cBb_2
  go_wp2_with fail
  rw [← hw108]
  clear hw108 lzPp lzBb dPp_0 dPp_1 dPp_2 dPp_3 dPp_4 dPp_5 dBb_0 dBb_1 dBb_2 cPp_0 cPp_1 cPp_2 cPp_3 cPp_4 cPp_5 cBb_0 cBb_1 cBb_2
  generalize w107.heap.size = gX2 at *
  have yPp_0 := Pp.out.cell 0
  have yPp_1 := Pp.out.cell 1
  have yPp_2 := Pp.out.cell 2
  have yPp_3 := Pp.out.cell 3
  have yPp_4 := Pp.out.cell 4
  have yPp_5 := Pp.out.cell 5
  have yBb_0 := Bb.out.cell 0
  have yBb_1 := Bb.out.cell 1
  have yBb_2 := Bb.out.cell 2
  simp at yPp_0 yPp_1 yPp_2 yPp_3 yPp_4 yPp_5 yBb_0 yBb_1 yBb_2
  refine (HOc _).mono ?_
  intro e w7 hpost
  obtain ⟨A7, c7, e7, rfl, he7, hr7, hb⟩ := ofpost_any hpost
  rw [← HK.out, ← HKN.out] at hr7
  rw [← HK.out, ← HKN.out, he7, ← HEC.out]
  replace HB := Lib.hid (HB.out.trans (hb.mono HB.out.size))
  replace Pp := Lib.hid (Pp.out.below hb Pp.out.lt)
  replace Bb := Lib.hid (Bb.out.below hb Bb.out.lt)
  replace X1 := Lib.hid (X1.out.below hb X1.out.lt)
  replace X2 := Lib.hid (X2.out.below hb X2.out.lt)
  have R7 := Lib.hid hr7
  clear hb hpost hr7 he7 HOc
  have v7Pp_0 := Pp.out.cell 0
  have v7Pp_1 := Pp.out.cell 1
  have v7Pp_2 := Pp.out.cell 2
  have v7Pp_3 := Pp.out.cell 3
  have v7Pp_4 := Pp.out.cell 4
  have v7Pp_5 := Pp.out.cell 5
  have v7Bb_0 := Bb.out.cell 0
  have v7Bb_1 := Bb.out.cell 1
  have v7Bb_2 := Bb.out.cell 2
  simp at v7Pp_0 v7Pp_1 v7Pp_2 v7Pp_3 v7Pp_4 v7Pp_5 v7Bb_0 v7Bb_1 v7Bb_2
  go_wp2_with fail
  refine (HOr _).mono ?_
  intro e w8 hpost
  obtain ⟨A8, c8, e8, rfl, he8, hr8, hb⟩ := ofpost_any hpost
  rw [← HK.out, ← HKN.out] at hr8
  rw [← HK.out, ← HKN.out, he8, ← HEC.out]
  replace HB := Lib.hid (HB.out.trans (hb.mono HB.out.size))
  replace Pp := Lib.hid (Pp.out.below hb Pp.out.lt)
  replace Bb := Lib.hid (Bb.out.below hb Bb.out.lt)
  replace X1 := Lib.hid (X1.out.below hb X1.out.lt)
  replace X2 := Lib.hid (X2.out.below hb X2.out.lt)
  replace R7 := Lib.hid ((R7.out.below hb).more hb.size)
  have R8 := Lib.hid hr8
  clear hb hpost hr8 he8 HOr
  have v8Pp_0 := Pp.out.cell 0
  have v8Pp_1 := Pp.out.cell 1
  have v8Pp_2 := Pp.out.cell 2
  have v8Pp_3 := Pp.out.cell 3
  have v8Pp_4 := Pp.out.cell 4
  have v8Pp_5 := Pp.out.cell 5
  have v8Bb_0 := Bb.out.cell 0
  have v8Bb_1 := Bb.out.cell 1
  have v8Bb_2 := Bb.out.cell 2
  simp at v8Pp_0 v8Pp_1 v8Pp_2 v8Pp_3 v8Pp_4 v8Pp_5 v8Bb_0 v8Bb_1 v8Bb_2
  go_wp2_with fail
  refine (cfind_any A m c l nm _ ((HR.out.below HB.out).more HB.out.size) (Nat.le_trans H60.out (by decide))).mono ?_
  rintro e w109 ⟨rfl, hb⟩
  replace HB := Lib.hid (HB.out.trans (hb.mono HB.out.size))
  replace Pp := Lib.hid (Pp.out.below hb Pp.out.lt)
  replace Bb := Lib.hid (Bb.out.below hb Bb.out.lt)
  replace X1 := Lib.hid (X1.out.below hb X1.out.lt)
  replace X2 := Lib.hid (X2.out.below hb X2.out.lt)
  replace R7 := Lib.hid ((R7.out.below hb).more hb.size)
  replace R8 := Lib.hid ((R8.out.below hb).more hb.size)
  clear hb
  rw [← HFI.out, ← HII.out]
  have qBb_0 := Bb.out.cell 0
  have qBb_1 := Bb.out.cell 1
  have qBb_2 := Bb.out.cell 2
  simp at qBb_0 qBb_1 qBb_2
  go_wp2_with fail
  refine (rfind_any A m c l nm _ ((HR.out.below HB.out).more HB.out.size) (Nat.le_trans H60.out (by decide))).mono ?_
  rintro e w110 ⟨rfl, rfl⟩
  rw [← HFI.out, ← HII.out]
  have rBb_0 := Bb.out.cell 0
  have rBb_1 := Bb.out.cell 1
  have rBb_2 := Bb.out.cell 2
  simp at rBb_0 rBb_1 rBb_2
  go_wp2_with fail
  simp only [List.append_eq, List.cons_append, List.nil_append]
  replace Pp := Lib.hid Pp.out.drew
  replace Bb := Lib.hid Bb.out.drew
  replace X1 := Lib.hid X1.out.drew
  replace X2 := Lib.hid X2.out.drew
  replace R7 := Lib.hid (show Reads _ _ 3 _ _ _ from R7.out.drew)
  replace R8 := Lib.hid (show Reads _ _ 3 _ _ _ from R8.out.drew)
  replace HB := Lib.hid HB.out.drew
  refine wp_region_held_drew (S := (fun w' => (w'.cell? ⟨gX1, 0, none⟩ = some (.int .i64 a0) ∧ w'.cell? ⟨gX1, 1, none⟩ = some (.int .i64 a1) ∧ w'.cell? ⟨gX1, 2, none⟩ = some (.int .u32 a2) ∧ w'.cell? ⟨gX1, 3, none⟩ = some (.int .u32 a3) ∧ w'.cell? ⟨gX1, 4, none⟩ = some (.int .u64 a4) ∧ w'.cell? ⟨gX1, 5, none⟩ = some (.string a5)) ∧ (w'.cell? ⟨gX2, 0, none⟩ = some (.int .i64 a0) ∧ w'.cell? ⟨gX2, 1, none⟩ = some (.int .i64 a1) ∧ w'.cell? ⟨gX2, 2, none⟩ = some (.int .u32 a2) ∧ w'.cell? ⟨gX2, 3, none⟩ = some (.int .u32 a3) ∧ w'.cell? ⟨gX2, 4, none⟩ = some (.int .u64 a4) ∧ w'.cell? ⟨gX2, 5, none⟩ = some (.string a5)) ∧ (w'.cell? ⟨gBb, 0, none⟩ = some (.string nm) ∧ w'.cell? ⟨gBb, 1, none⟩ = some (.int .u32 rt) ∧ w'.cell? ⟨gBb, 2, none⟩ = some (.int .i64 ks)))) (by decide +kernel) ⟨pg_cells X1.out, pg_cells X2.out, bk_cells Bb.out⟩ (fun hHeld => ?_)
  refine wpAnyH_takeL (i := 0) (v := ?_) rfl (by decide +kernel) (by decide +kernel) (by decide +kernel) (fun _ _ _ h => h) (Or.inl ⟨by rfl, ?_⟩) (by first | trivial | assumption) ?_
  rotate_left
  · intro wz hSz; (try dsimp only at hSz); go_simp; (try with_reducible rfl)
  try simp only [Act.put, List.setIfInBounds_toArray, List.set_cons_zero, List.set_cons_succ]
  refine wpAnyH_takeL (i := 1) (v := ?_) rfl (by decide +kernel) (by decide +kernel) (by decide +kernel) (fun _ _ _ h => h) (Or.inl ⟨by rfl, ?_⟩) (by first | trivial | assumption) ?_
  rotate_left
  · intro wz hSz; (try dsimp only at hSz); go_simp; (try with_reducible rfl)
  try simp only [Act.put, List.setIfInBounds_toArray, List.set_cons_zero, List.set_cons_succ]
  refine wpAnyH_takeL (i := 2) (v := ?_) rfl (by decide +kernel) (by decide +kernel) (by decide +kernel) (fun _ _ _ h => h) (Or.inl ⟨by rfl, ?_⟩) (by first | trivial | assumption) ?_
  rotate_left
  · intro wz hSz; (try dsimp only at hSz); go_simp; (try with_reducible rfl)
  try simp only [Act.put, List.setIfInBounds_toArray, List.set_cons_zero, List.set_cons_succ]
  refine wpAnyH_takeL (i := 3) (v := ?_) rfl (by decide +kernel) (by decide +kernel) (by decide +kernel) (fun _ _ _ h => h) (Or.inl ⟨by rfl, ?_⟩) (by first | trivial | assumption) ?_
  rotate_left
  · intro wz hSz; (try dsimp only at hSz); go_simp; (try with_reducible rfl)
  try simp only [Act.put, List.setIfInBounds_toArray, List.set_cons_zero, List.set_cons_succ]
  refine wpAnyH_takeL (i := 4) (v := ?_) rfl (by decide +kernel) (by decide +kernel) (by decide +kernel) (fun _ _ _ h => h) (Or.inl ⟨by rfl, ?_⟩) (by first | trivial | assumption) ?_
  rotate_left
  · intro wz hSz; (try dsimp only at hSz); go_simp; (try with_reducible rfl)
  try simp only [Act.put, List.setIfInBounds_toArray, List.set_cons_zero, List.set_cons_succ]
  refine wpAnyH_takeL (i := 5) (v := ?_) rfl (by decide +kernel) (by decide +kernel) (by decide +kernel) (fun _ _ _ h => h) (Or.inl ⟨by rfl, ?_⟩) (by first | trivial | assumption) ?_
  rotate_left
  · intro wz hSz; (try dsimp only at hSz); go_simp; (try with_reducible rfl)
  try simp only [Act.put, List.setIfInBounds_toArray, List.set_cons_zero, List.set_cons_succ]
  refine wpAnyH_takeL (i := 6) (v := ?_) rfl (by decide +kernel) (by decide +kernel) (by decide +kernel) (fun _ _ _ h => h) (Or.inl ⟨by rfl, ?_⟩) (by first | trivial | assumption) ?_
  rotate_left
  · intro wz hSz; (try dsimp only at hSz); go_simp; (try with_reducible rfl)
  try simp only [Act.put, List.setIfInBounds_toArray, List.set_cons_zero, List.set_cons_succ]
  refine wpAnyH_takeL (i := 7) (v := ?_) rfl (by decide +kernel) (by decide +kernel) (by decide +kernel) (fun _ _ _ h => h) (Or.inl ⟨by rfl, ?_⟩) (by first | trivial | assumption) ?_
  rotate_left
  · intro wz hSz; (try dsimp only at hSz); go_simp; (try with_reducible rfl)
  try simp only [Act.put, List.setIfInBounds_toArray, List.set_cons_zero, List.set_cons_succ]
  refine wpAnyH_takeL (i := 8) (v := ?_) rfl (by decide +kernel) (by decide +kernel) (by decide +kernel) (fun _ _ _ h => h) (Or.inl ⟨by rfl, ?_⟩) (by first | trivial | assumption) ?_
  rotate_left
  · intro wz hSz; (try dsimp only at hSz); go_simp; (try with_reducible rfl)
  try simp only [Act.put, List.setIfInBounds_toArray, List.set_cons_zero, List.set_cons_succ]
  refine wpAnyH_takeL (i := 9) (v := ?_) rfl (by decide +kernel) (by decide +kernel) (by decide +kernel) (fun _ _ _ h => h) (Or.inl ⟨by rfl, ?_⟩) (by first | trivial | assumption) ?_
  rotate_left
  · intro wz hSz; (try dsimp only at hSz); go_simp; (try with_reducible rfl)
  try simp only [Act.put, List.setIfInBounds_toArray, List.set_cons_zero, List.set_cons_succ]
  refine wpAnyH_takeL (i := 10) (v := ?_) rfl (by decide +kernel) (by decide +kernel) (by decide +kernel) (fun _ _ _ h => h) (Or.inl ⟨by rfl, ?_⟩) (by first | trivial | assumption) ?_
  rotate_left
  · intro wz hSz; (try dsimp only at hSz); go_simp; (try with_reducible rfl)
  try simp only [Act.put, List.setIfInBounds_toArray, List.set_cons_zero, List.set_cons_succ]
  refine wpAnyH_ready (rs := [11]) (by decide +kernel) (by simp) ?_
  refine AllReadyH.consL rfl (fun K hK => ?_) AllReadyH.nil
  go_simp
  refine (same6_yes A7 kn c7 A8 c8 KL _ R7.out R8.out (Nat.le_trans HKL.out (by decide))).mono ?_
  rintro e wa ⟨rfl, q, hq⟩
  replace HB := Lib.hid (show Below w.heap.size w wa by rw [hq]; exact below_drewN HB.out q)
  replace X1 := Lib.hid (show Blk wa _ _ _ by rw [hq]; exact X1.out.drewN q)
  replace X2 := Lib.hid (show Blk wa _ _ _ by rw [hq]; exact X2.out.drewN q)
  replace Bb := Lib.hid (show Blk wa _ _ _ by rw [hq]; exact Bb.out.drewN q)
  clear hq
  refine hK.out _ _ (⟨pg_cells X1.out, pg_cells X2.out, bk_cells Bb.out⟩) (fun hHeld => ?_)
  clear hK K
  try simp only [Act.put, List.setIfInBounds_toArray, List.set_cons_zero, List.set_cons_succ]
  refine wpAnyH_takeL (i := 12) (v := ?_) rfl (by decide +kernel) (by decide +kernel) (by decide +kernel) (fun _ _ _ h => h) (Or.inl ⟨by rfl, ?_⟩) (by first | trivial | assumption) ?_
  rotate_left
  · intro wz hSz; (try dsimp only at hSz); go_simp; (try with_reducible rfl)
  try simp only [Act.put, List.setIfInBounds_toArray, List.set_cons_zero, List.set_cons_succ]
  refine wpAnyH_takeL (i := 13) (v := ?_) rfl (by decide +kernel) (by decide +kernel) (by decide +kernel) (fun _ _ _ h => h) (Or.inl ⟨by rfl, ?_⟩) (by first | trivial | assumption) ?_
  rotate_left
  · intro wz hSz; (try dsimp only at hSz); go_simp; (try with_reducible rfl)
  try simp only [Act.put, List.setIfInBounds_toArray, List.set_cons_zero, List.set_cons_succ]
  refine wpAnyH_takeL (i := 14) (v := ?_) rfl (by decide +kernel) (by decide +kernel) (by decide +kernel) (fun _ _ _ h => h) (Or.inl ⟨by rfl, ?_⟩) (by first | trivial | assumption) ?_
  rotate_left
  · intro wz hSz; (try dsimp only at hSz); go_simp; (try with_reducible rfl)
  try simp only [Act.put, List.setIfInBounds_toArray, List.set_cons_zero, List.set_cons_succ]
  refine wpAnyH_takeL (i := 15) (v := ?_) rfl (by decide +kernel) (by decide +kernel) (by decide +kernel) (fun _ _ _ h => h) (Or.inl ⟨by rfl, ?_⟩) (by first | trivial | assumption) ?_
  rotate_left
  · intro wz hSz; (try dsimp only at hSz); go_simp; (try with_reducible rfl)
  try simp only [Act.put, List.setIfInBounds_toArray, List.set_cons_zero, List.set_cons_succ]
  refine wpAnyH_takeL (i := 16) (v := ?_) rfl (by decide +kernel) (by decide +kernel) (by decide +kernel) (fun _ _ _ h => h) (Or.inl ⟨by rfl, ?_⟩) (by first | trivial | assumption) ?_
  rotate_left
  · intro wz hSz; (try dsimp only at hSz); go_simp; (try with_reducible rfl)
  try simp only [Act.put, List.setIfInBounds_toArray, List.set_cons_zero, List.set_cons_succ]
  refine wpAnyH_takeL (i := 17) (v := ?_) rfl (by decide +kernel) (by decide +kernel) (by decide +kernel) (fun _ _ _ h => h) (Or.inl ⟨by rfl, ?_⟩) (by first | trivial | assumption) ?_
  rotate_left
  · intro wz hSz; (try dsimp only at hSz); go_simp; (try with_reducible rfl)
  try simp only [Act.put, List.setIfInBounds_toArray, List.set_cons_zero, List.set_cons_succ]
  refine wpAnyH_takeL (i := 18) (v := ?_) rfl (by decide +kernel) (by decide +kernel) (by decide +kernel) (fun _ _ _ h => h) (Or.inl ⟨by rfl, ?_⟩) (by first | trivial | assumption) ?_
  rotate_left
  · intro wz hSz; (try dsimp only at hSz); go_simp; (try with_reducible rfl)
  try simp only [Act.put, List.setIfInBounds_toArray, List.set_cons_zero, List.set_cons_succ]
  refine wpAnyH_takeL (i := 19) (v := ?_) rfl (by decide +kernel) (by decide +kernel) (by decide +kernel) (fun _ _ _ h => h) (Or.inl ⟨by rfl, ?_⟩) (by first | trivial | assumption) ?_
  rotate_left
  · intro wz hSz; (try dsimp only at hSz); go_simp; (try with_reducible rfl)
  try simp only [Act.put, List.setIfInBounds_toArray, List.set_cons_zero, List.set_cons_succ]
  refine wpAnyH_takeL (i := 20) (v := ?_) rfl (by decide +kernel) (by decide +kernel) (by decide +kernel) (fun _ _ _ h => h) (Or.inl ⟨by rfl, ?_⟩) (by first | trivial | assumption) ?_
  rotate_left
  · intro wz hSz; (try dsimp only at hSz); go_simp; (try with_reducible rfl)
  try simp only [Act.put, List.setIfInBounds_toArray, List.set_cons_zero, List.set_cons_succ]
  refine wpAnyH_takeL (i := 21) (v := ?_) rfl (by decide +kernel) (by decide +kernel) (by decide +kernel) (fun _ _ _ h => h) (Or.inl ⟨by rfl, ?_⟩) (by first | trivial | assumption) ?_
  rotate_left
  · intro wz hSz; (try dsimp only at hSz); go_simp; (try with_reducible rfl)
  try simp only [Act.put, List.setIfInBounds_toArray, List.set_cons_zero, List.set_cons_succ]
  refine wpAnyH_takeL (i := 22) (v := ?_) rfl (by decide +kernel) (by decide +kernel) (by decide +kernel) (fun _ _ _ h => h) (Or.inl ⟨by rfl, ?_⟩) (by first | trivial | assumption) ?_
  rotate_left
  · intro wz hSz; (try dsimp only at hSz); go_simp; (try with_reducible rfl)
  try simp only [Act.put, List.setIfInBounds_toArray, List.set_cons_zero, List.set_cons_succ]
  refine wpAnyH_takeL (i := 23) (v := ?_) rfl (by decide +kernel) (by decide +kernel) (by decide +kernel) (fun _ _ _ h => h) (Or.inl ⟨by rfl, ?_⟩) (by first | trivial | assumption) ?_
  rotate_left
  · intro wz hSz; (try dsimp only at hSz); go_simp; (try with_reducible rfl)
  try simp only [Act.put, List.setIfInBounds_toArray, List.set_cons_zero, List.set_cons_succ]
  refine wpAnyH_takeL (i := 24) (v := ?_) rfl (by decide +kernel) (by decide +kernel) (by decide +kernel) (fun _ _ _ h => h) (Or.inl ⟨by rfl, ?_⟩) (by first | trivial | assumption) ?_
  rotate_left
  · intro wz hSz; (try dsimp only at hSz); go_simp; (try with_reducible rfl)
  try simp only [Act.put, List.setIfInBounds_toArray, List.set_cons_zero, List.set_cons_succ]
  refine wpAnyH_takeL (i := 25) (v := ?_) rfl (by decide +kernel) (by decide +kernel) (by decide +kernel) (fun _ _ _ h => h) (Or.inl ⟨by rfl, ?_⟩) (by first | trivial | assumption) ?_
  rotate_left
  · intro wz hSz; (try dsimp only at hSz); go_simp; (try with_reducible rfl)
  try simp only [Act.put, List.setIfInBounds_toArray, List.set_cons_zero, List.set_cons_succ]
  refine wpAnyH_takeL (i := 26) (v := ?_) rfl (by decide +kernel) (by decide +kernel) (by decide +kernel) (fun _ _ _ h => h) (Or.inl ⟨by rfl, ?_⟩) (by first | trivial | assumption) ?_
  rotate_left
  · intro wz hSz; (try dsimp only at hSz); go_simp; (try with_reducible rfl)
  try simp only [Act.put, List.setIfInBounds_toArray, List.set_cons_zero, List.set_cons_succ]
  refine wpAnyH_takeL (i := 27) (v := ?_) rfl (by decide +kernel) (by decide +kernel) (by decide +kernel) (fun _ _ _ h => h) (Or.inl ⟨by rfl, ?_⟩) (by first | trivial | assumption) ?_
  rotate_left
  · intro wz hSz; (try dsimp only at hSz); go_simp; (try with_reducible rfl)
  try simp only [Act.put, List.setIfInBounds_toArray, List.set_cons_zero, List.set_cons_succ]
  refine wpAnyH_takeL (i := 28) (v := ?_) rfl (by decide +kernel) (by decide +kernel) (by decide +kernel) (fun _ _ _ h => h) (Or.inl ⟨by rfl, ?_⟩) (by first | trivial | assumption) ?_
  rotate_left
  · intro wz hSz; (try dsimp only at hSz); go_simp; (try with_reducible rfl)
  try simp only [Act.put, List.setIfInBounds_toArray, List.set_cons_zero, List.set_cons_succ]
  refine wpAnyH_takeL (i := 29) (v := ?_) rfl (by decide +kernel) (by decide +kernel) (by decide +kernel) (fun _ _ _ h => h) (Or.inl ⟨by rfl, ?_⟩) (by first | trivial | assumption) ?_
  rotate_left
  · intro wz hSz; (try dsimp only at hSz); go_simp; (try with_reducible rfl)
  try simp only [Act.put, List.setIfInBounds_toArray, List.set_cons_zero, List.set_cons_succ]
  refine wpAnyH_takeL (i := 31) (v := ?_) rfl (by decide +kernel) (by decide +kernel) (by decide +kernel) (fun _ _ _ h => h) (Or.inl ⟨by rfl, ?_⟩) (by first | trivial | assumption) ?_
  rotate_left
  · intro wz hSz; (try dsimp only at hSz); go_simp; (try with_reducible rfl)
  try simp only [Act.put, List.setIfInBounds_toArray, List.set_cons_zero, List.set_cons_succ]
  refine wpAnyH_ready (rs := [30]) (by decide +kernel) (by simp) ?_
  refine AllReadyH.consL rfl (fun K hK => ?_) AllReadyH.nil
  go_simp
  refine (csize_any A m c l _ ((HR.out.below HB.out).more HB.out.size) (Nat.le_trans H60.out (by decide)) HSZ.out).mono ?_
  rintro e wb ⟨rfl, hb⟩
  replace HB := Lib.hid (HB.out.trans (hb.mono HB.out.size))
  replace X1 := Lib.hid (X1.out.below hb X1.out.lt)
  replace X2 := Lib.hid (X2.out.below hb X2.out.lt)
  replace Bb := Lib.hid (Bb.out.below hb Bb.out.lt)
  clear hb
  rw [← HSB.out]
  refine hK.out _ _ (⟨pg_cells X1.out, pg_cells X2.out, bk_cells Bb.out⟩) (fun hHeld => ?_)
  clear hK K
  try simp only [Act.put, List.setIfInBounds_toArray, List.set_cons_zero, List.set_cons_succ]
  refine wpAnyH_ready (rs := [32]) (by decide +kernel) (by simp) ?_
  refine AllReadyH.consL rfl (fun K hK => ?_) AllReadyH.nil
  go_simp
  refine (rsize_any A m c l _ ((HR.out.below HB.out).more HB.out.size) (Nat.le_trans H60.out (by decide)) HSZ.out).mono ?_
  rintro e wd ⟨rfl, hb⟩
  replace HB := Lib.hid (HB.out.trans (hb.mono HB.out.size))
  replace X1 := Lib.hid (X1.out.below hb X1.out.lt)
  replace X2 := Lib.hid (X2.out.below hb X2.out.lt)
  replace Bb := Lib.hid (Bb.out.below hb Bb.out.lt)
  clear hb
  rw [← HSB.out]
  refine hK.out _ _ (⟨pg_cells X1.out, pg_cells X2.out, bk_cells Bb.out⟩) (fun hHeld => ?_)
  clear hK K
  try simp only [Act.put, List.setIfInBounds_toArray, List.set_cons_zero, List.set_cons_succ]
  refine wpAnyH_takeL (i := 33) (v := ?_) rfl (by decide +kernel) (by decide +kernel) (by decide +kernel) (fun _ _ _ h => h) (Or.inl ⟨by rfl, ?_⟩) (by first | trivial | assumption) ?_
  rotate_left
  · intro wz hSz; (try dsimp only at hSz); go_simp; (try with_reducible rfl)
  try simp only [Act.put, List.setIfInBounds_toArray, List.set_cons_zero, List.set_cons_succ]
  refine wpAnyH_takeL (i := 34) (v := ?_) rfl (by decide +kernel) (by decide +kernel) (by decide +kernel) (fun _ _ _ h => h) (Or.inl ⟨by rfl, ?_⟩) (by first | trivial | assumption) ?_
  rotate_left
  · intro wz hSz; (try dsimp only at hSz); go_simp; (try with_reducible rfl)
  try simp only [Act.put, List.setIfInBounds_toArray, List.set_cons_zero, List.set_cons_succ]
  refine wpAnyH_takeL (i := 35) (v := ?_) rfl (by decide +kernel) (by decide +kernel) (by decide +kernel) (fun _ _ _ h => h) (Or.inl ⟨by rfl, ?_⟩) (by first | trivial | assumption) ?_
  rotate_left
  · intro wz hSz; (try dsimp only at hSz); go_simp; (try with_reducible rfl)
  try simp only [Act.put, List.setIfInBounds_toArray, List.set_cons_zero, List.set_cons_succ]
  refine wpAnyH_takeL (i := 36) (v := ?_) rfl (by decide +kernel) (by decide +kernel) (by decide +kernel) (fun _ _ _ h => h) (Or.inl ⟨by rfl, ?_⟩) (by first | trivial | assumption) ?_
  rotate_left
  · intro wz hSz; (try dsimp only at hSz); go_simp; (try with_reducible rfl)
  try simp only [Act.put, List.setIfInBounds_toArray, List.set_cons_zero, List.set_cons_succ]
  refine wpAnyH_takeL (i := 37) (v := ?_) rfl (by decide +kernel) (by decide +kernel) (by decide +kernel) (fun _ _ _ h => h) (Or.inl ⟨by rfl, ?_⟩) (by first | trivial | assumption) ?_
  rotate_left
  · intro wz hSz; (try dsimp only at hSz); go_simp; (try with_reducible rfl)
  try simp only [Act.put, List.setIfInBounds_toArray, List.set_cons_zero, List.set_cons_succ]
  refine wpAnyH_takeL (i := 39) (v := ?_) rfl (by decide +kernel) (by decide +kernel) (by decide +kernel) (fun _ _ _ h => h) (Or.inl ⟨by rfl, ?_⟩) (by first | trivial | assumption) ?_
  rotate_left
  · intro wz hSz; (try dsimp only at hSz); go_simp; (try with_reducible rfl)
  try simp only [Act.put, List.setIfInBounds_toArray, List.set_cons_zero, List.set_cons_succ]
  refine wpAnyH_takeL (i := 40) (v := ?_) rfl (by decide +kernel) (by decide +kernel) (by decide +kernel) (fun _ _ _ h => h) (Or.inl ⟨by rfl, ?_⟩) (by first | trivial | assumption) ?_
  rotate_left
  · intro wz hSz; (try dsimp only at hSz); go_simp; (try with_reducible rfl)
  try simp only [Act.put, List.setIfInBounds_toArray, List.set_cons_zero, List.set_cons_succ]
  refine wpAnyH_ready (rs := [38]) (by decide +kernel) (by simp) ?_
  refine AllReadyH.consL rfl (fun K hK => ?_) AllReadyH.nil
  go_simp
  refine (cname_any nm _).mono ?_
  rintro e wf ⟨rfl, rfl⟩
  rw [← HNB.out]
  refine hK.out _ _ (⟨pg_cells X1.out, pg_cells X2.out, bk_cells Bb.out⟩) (fun hHeld => ?_)
  clear hK K
  try simp only [Act.put, List.setIfInBounds_toArray, List.set_cons_zero, List.set_cons_succ]
  refine wpAnyH_ready (rs := [41]) (by decide +kernel) (by simp) ?_
  refine AllReadyH.consL rfl (fun K hK => ?_) AllReadyH.nil
  go_simp
  refine (rnameB_any nm _).mono ?_
  rintro e wg ⟨rfl, rfl⟩
  rw [← HNB.out]
  refine hK.out _ _ (⟨pg_cells X1.out, pg_cells X2.out, bk_cells Bb.out⟩) (fun hHeld => ?_)
  clear hK K
  try simp only [Act.put, List.setIfInBounds_toArray, List.set_cons_zero, List.set_cons_succ]
  refine wpAnyH_takeL (i := 42) (v := ?_) rfl (by decide +kernel) (by decide +kernel) (by decide +kernel) (fun _ _ _ h => h) (Or.inl ⟨by rfl, ?_⟩) (by first | trivial | assumption) ?_
  rotate_left
  · intro wz hSz; (try dsimp only at hSz); go_simp; (try with_reducible rfl)
  try simp only [Act.put, List.setIfInBounds_toArray, List.set_cons_zero, List.set_cons_succ]
  refine wpAnyH_takeL (i := 43) (v := ?_) rfl (by decide +kernel) (by decide +kernel) (by decide +kernel) (fun _ _ _ h => h) (Or.inl ⟨by rfl, ?_⟩) (by first | trivial | assumption) ?_
  rotate_left
  · intro wz hSz; (try dsimp only at hSz); go_simp; (try with_reducible rfl)
  try simp only [Act.put, List.setIfInBounds_toArray, List.set_cons_zero, List.set_cons_succ]
  refine wpAnyH_takeL (i := 44) (v := ?_) rfl (by decide +kernel) (by decide +kernel) (by decide +kernel) (fun _ _ _ h => h) (Or.inl ⟨by rfl, ?_⟩) (by first | trivial | assumption) ?_
  rotate_left
  · intro wz hSz; (try dsimp only at hSz); go_simp; (try with_reducible rfl)
  try simp only [Act.put, List.setIfInBounds_toArray, List.set_cons_zero, List.set_cons_succ]
  refine wpAnyH_takeL (i := 45) (v := ?_) rfl (by decide +kernel) (by decide +kernel) (by decide +kernel) (fun _ _ _ h => h) (Or.inl ⟨by rfl, ?_⟩) (by first | trivial | assumption) ?_
  rotate_left
  · intro wz hSz; (try dsimp only at hSz); go_simp; (try with_reducible rfl)
  try simp only [Act.put, List.setIfInBounds_toArray, List.set_cons_zero, List.set_cons_succ]
  refine wpAnyH_takeL (i := 47) (v := ?_) rfl (by decide +kernel) (by decide +kernel) (by decide +kernel) (fun _ _ _ h => h) (Or.inl ⟨by rfl, ?_⟩) (by first | trivial | assumption) ?_
  rotate_left
  · intro wz hSz; (try dsimp only at hSz); go_simp; (try with_reducible rfl)
  try simp only [Act.put, List.setIfInBounds_toArray, List.set_cons_zero, List.set_cons_succ]
  refine wpAnyH_takeL (i := 49) (v := ?_) rfl (by decide +kernel) (by decide +kernel) (by decide +kernel) (fun _ _ _ h => h) (Or.inl ⟨by rfl, ?_⟩) (by first | trivial | assumption) ?_
  rotate_left
  · intro wz hSz; (try dsimp only at hSz); go_simp; (try with_reducible rfl)
  try simp only [Act.put, List.setIfInBounds_toArray, List.set_cons_zero, List.set_cons_succ]
  refine wpAnyH_takeL (i := 50) (v := ?_) rfl (by decide +kernel) (by decide +kernel) (by decide +kernel) (fun _ _ _ h => h) (Or.inl ⟨by rfl, ?_⟩) (by first | trivial | assumption) ?_
  rotate_left
  · intro wz hSz; (try dsimp only at hSz); go_simp; (try with_reducible rfl)
  try simp only [Act.put, List.setIfInBounds_toArray, List.set_cons_zero, List.set_cons_succ]
  refine wpAnyH_ready (rs := [46]) (by decide +kernel) (by simp) ?_
  refine AllReadyH.consL rfl (fun K hK => ?_) AllReadyH.nil
  go_simp
  refine (own6_any A m c l _ ((HR.out.below HB.out).more HB.out.size) (Nat.le_trans H60.out (by decide))).mono ?_
  rintro e wh ⟨A20, c20, rfl, hr20, hc20, hm20, hb⟩
  replace HB := Lib.hid (HB.out.trans (hb.mono HB.out.size))
  replace X1 := Lib.hid (X1.out.below hb X1.out.lt)
  replace X2 := Lib.hid (X2.out.below hb X2.out.lt)
  replace Bb := Lib.hid (Bb.out.below hb Bb.out.lt)
  have R20 := Lib.hid hr20
  have C20 := Lib.hid hc20
  have M20 := Lib.hid hm20
  clear hb hr20 hc20 hm20
  refine hK.out _ _ (⟨pg_cells X1.out, pg_cells X2.out, bk_cells Bb.out⟩) (fun hHeld => ?_)
  clear hK K
  try simp only [Act.put, List.setIfInBounds_toArray, List.set_cons_zero, List.set_cons_succ]
  refine wpAnyH_ready (rs := [48]) (by decide +kernel) (by simp) ?_
  refine AllReadyH.consL rfl (fun K hK => ?_) AllReadyH.nil
  go_simp
  refine (cset_any A20 m c20 l ⟨nm, rt, ks⟩ _ R20.out (Nat.le_trans H60.out (by decide)) C20.out M20.out).mono ?_
  rintro e wi ⟨A21, n21, c21, rfl, hr21, hc21, hm21, hb⟩
  replace HB := Lib.hid (HB.out.trans (hb.mono HB.out.size))
  replace X1 := Lib.hid (X1.out.below hb X1.out.lt)
  replace X2 := Lib.hid (X2.out.below hb X2.out.lt)
  replace Bb := Lib.hid (Bb.out.below hb Bb.out.lt)
  have R21 := Lib.hid hr21
  clear hb hr21 hc21 hm21
  refine hK.out _ _ (⟨pg_cells X1.out, pg_cells X2.out, bk_cells Bb.out⟩) (fun hHeld => ?_)
  clear hK K
  try simp only [Act.put, List.setIfInBounds_toArray, List.set_cons_zero, List.set_cons_succ]
  refine wpAnyH_ready (rs := [51]) (by decide +kernel) (by simp) ?_
  refine AllReadyH.consL rfl (fun K hK => ?_) AllReadyH.nil
  go_simp
  refine (rset_any A m c l ⟨nm, rt, ks⟩ _ ((HR.out.below HB.out).more HB.out.size) (Nat.le_trans H60.out (by decide)) HMC.out HCM.out).mono ?_
  rintro e wj ⟨A22, n22, c22, rfl, hr22, hc22, hm22, hb⟩
  replace HB := Lib.hid (HB.out.trans (hb.mono HB.out.size))
  replace X1 := Lib.hid (X1.out.below hb X1.out.lt)
  replace X2 := Lib.hid (X2.out.below hb X2.out.lt)
  replace Bb := Lib.hid (Bb.out.below hb Bb.out.lt)
  replace R21 := Lib.hid ((R21.out.below hb).more hb.size)
  have R22 := Lib.hid hr22
  clear hb hr22 hc22 hm22
  refine hK.out _ _ (⟨pg_cells X1.out, pg_cells X2.out, bk_cells Bb.out⟩) (fun hHeld => ?_)
  clear hK K
  try simp only [Act.put, List.setIfInBounds_toArray, List.set_cons_zero, List.set_cons_succ]
  refine wpAnyH_ready (rs := [52]) (by decide +kernel) (by simp) ?_
  refine AllReadyH.consL rfl (fun K hK => ?_) AllReadyH.nil
  obtain rfl : n21 = n22 := (bk_len R21.out).symm.trans (bk_len R22.out)
  go_simp
  refine (same6_yes A21 n21 c21 A22 c22 _ _ R21.out R22.out (by have h1 := bk_len R22.out; have h2 := setB_len l ⟨nm, rt, ks⟩; have h5 := delB_len l nm; have h3 := bk_len HR.out; have h4 := H60.out; unfold maxLen; omega)).mono ?_
  rintro e wk ⟨rfl, q, hq⟩
  replace HB := Lib.hid (show Below w.heap.size w wk by rw [hq]; exact below_drewN HB.out q)
  replace X1 := Lib.hid (show Blk wk _ _ _ by rw [hq]; exact X1.out.drewN q)
  replace X2 := Lib.hid (show Blk wk _ _ _ by rw [hq]; exact X2.out.drewN q)
  replace Bb := Lib.hid (show Blk wk _ _ _ by rw [hq]; exact Bb.out.drewN q)
  clear hq
  refine hK.out _ _ (⟨pg_cells X1.out, pg_cells X2.out, bk_cells Bb.out⟩) (fun hHeld => ?_)
  clear hK K
  try simp only [Act.put, List.setIfInBounds_toArray, List.set_cons_zero, List.set_cons_succ]
  refine wpAnyH_takeL (i := 53) (v := ?_) rfl (by decide +kernel) (by decide +kernel) (by decide +kernel) (fun _ _ _ h => h) (Or.inl ⟨by rfl, ?_⟩) (by first | trivial | assumption) ?_
  rotate_left
  · intro wz hSz; (try dsimp only at hSz); go_simp; (try with_reducible rfl)
  try simp only [Act.put, List.setIfInBounds_toArray, List.set_cons_zero, List.set_cons_succ]
  refine wpAnyH_takeL (i := 54) (v := ?_) rfl (by decide +kernel) (by decide +kernel) (by decide +kernel) (fun _ _ _ h => h) (Or.inl ⟨by rfl, ?_⟩) (by first | trivial | assumption) ?_
  rotate_left
  · intro wz hSz; (try dsimp only at hSz); go_simp; (try with_reducible rfl)
  try simp only [Act.put, List.setIfInBounds_toArray, List.set_cons_zero, List.set_cons_succ]
  refine wpAnyH_takeL (i := 55) (v := ?_) rfl (by decide +kernel) (by decide +kernel) (by decide +kernel) (fun _ _ _ h => h) (Or.inl ⟨by rfl, ?_⟩) (by first | trivial | assumption) ?_
  rotate_left
  · intro wz hSz; (try dsimp only at hSz); go_simp; (try with_reducible rfl)
  try simp only [Act.put, List.setIfInBounds_toArray, List.set_cons_zero, List.set_cons_succ]
  refine wpAnyH_takeL (i := 57) (v := ?_) rfl (by decide +kernel) (by decide +kernel) (by decide +kernel) (fun _ _ _ h => h) (Or.inl ⟨by rfl, ?_⟩) (by first | trivial | assumption) ?_
  rotate_left
  · intro wz hSz; (try dsimp only at hSz); go_simp; (try with_reducible rfl)
  try simp only [Act.put, List.setIfInBounds_toArray, List.set_cons_zero, List.set_cons_succ]
  refine wpAnyH_takeL (i := 58) (v := ?_) rfl (by decide +kernel) (by decide +kernel) (by decide +kernel) (fun _ _ _ h => h) (Or.inl ⟨by rfl, ?_⟩) (by first | trivial | assumption) ?_
  rotate_left
  · intro wz hSz; (try dsimp only at hSz); go_simp; (try with_reducible rfl)
  try simp only [Act.put, List.setIfInBounds_toArray, List.set_cons_zero, List.set_cons_succ]
  refine wpAnyH_takeL (i := 60) (v := ?_) rfl (by decide +kernel) (by decide +kernel) (by decide +kernel) (fun _ _ _ h => h) (Or.inl ⟨by rfl, ?_⟩) (by first | trivial | assumption) ?_
  rotate_left
  · intro wz hSz; (try dsimp only at hSz); go_simp; (try with_reducible rfl)
  try simp only [Act.put, List.setIfInBounds_toArray, List.set_cons_zero, List.set_cons_succ]
  refine wpAnyH_takeL (i := 61) (v := ?_) rfl (by decide +kernel) (by decide +kernel) (by decide +kernel) (fun _ _ _ h => h) (Or.inl ⟨by rfl, ?_⟩) (by first | trivial | assumption) ?_
  rotate_left
  · intro wz hSz; (try dsimp only at hSz); go_simp; (try with_reducible rfl)
  try simp only [Act.put, List.setIfInBounds_toArray, List.set_cons_zero, List.set_cons_succ]
  refine wpAnyH_takeL (i := 62) (v := ?_) rfl (by decide +kernel) (by decide +kernel) (by decide +kernel) (fun _ _ _ h => h) (Or.inl ⟨by rfl, ?_⟩) (by first | trivial | assumption) ?_
  rotate_left
  · intro wz hSz; (try dsimp only at hSz); go_simp; (try with_reducible rfl)
  try simp only [Act.put, List.setIfInBounds_toArray, List.set_cons_zero, List.set_cons_succ]
  refine wpAnyH_ready (rs := [56]) (by decide +kernel) (by simp) ?_
  refine AllReadyH.consL rfl (fun K hK => ?_) AllReadyH.nil
  go_simp
  refine (own6_any A m c l _ ((HR.out.below HB.out).more HB.out.size) (Nat.le_trans H60.out (by decide))).mono ?_
  rintro e wl ⟨A23, c23, rfl, hr23, hc23, hm23, hb⟩
  replace HB := Lib.hid (HB.out.trans (hb.mono HB.out.size))
  replace X1 := Lib.hid (X1.out.below hb X1.out.lt)
  replace X2 := Lib.hid (X2.out.below hb X2.out.lt)
  replace Bb := Lib.hid (Bb.out.below hb Bb.out.lt)
  have R23 := Lib.hid hr23
  have C23 := Lib.hid hc23
  have M23 := Lib.hid hm23
  clear hb hr23 hc23 hm23
  refine hK.out _ _ (⟨pg_cells X1.out, pg_cells X2.out, bk_cells Bb.out⟩) (fun hHeld => ?_)
  clear hK K
  try simp only [Act.put, List.setIfInBounds_toArray, List.set_cons_zero, List.set_cons_succ]
  refine wpAnyH_ready (rs := [59]) (by decide +kernel) (by simp) ?_
  refine AllReadyH.consL rfl (fun K hK => ?_) AllReadyH.nil
  go_simp
  refine (cdel_any A23 m c23 l nm _ R23.out (Nat.le_trans H60.out (by decide)) C23.out M23.out).mono ?_
  rintro e wm ⟨A24, n24, c24, rfl, hr24, hc24, hm24, hb⟩
  replace HB := Lib.hid (HB.out.trans (hb.mono HB.out.size))
  replace X1 := Lib.hid (X1.out.below hb X1.out.lt)
  replace X2 := Lib.hid (X2.out.below hb X2.out.lt)
  replace Bb := Lib.hid (Bb.out.below hb Bb.out.lt)
  have R24 := Lib.hid hr24
  clear hb hr24 hc24 hm24
  refine hK.out _ _ (⟨pg_cells X1.out, pg_cells X2.out, bk_cells Bb.out⟩) (fun hHeld => ?_)
  clear hK K
  try simp only [Act.put, List.setIfInBounds_toArray, List.set_cons_zero, List.set_cons_succ]
  refine wpAnyH_ready (rs := [63]) (by decide +kernel) (by simp) ?_
  refine AllReadyH.consL rfl (fun K hK => ?_) AllReadyH.nil
  go_simp
  refine (rdel_any A m c l nm _ ((HR.out.below HB.out).more HB.out.size) (Nat.le_trans H60.out (by decide)) HMC.out HCM.out).mono ?_
  rintro e wn ⟨A25, n25, c25, rfl, hr25, hc25, hm25, hb⟩
  replace HB := Lib.hid (HB.out.trans (hb.mono HB.out.size))
  replace X1 := Lib.hid (X1.out.below hb X1.out.lt)
  replace X2 := Lib.hid (X2.out.below hb X2.out.lt)
  replace Bb := Lib.hid (Bb.out.below hb Bb.out.lt)
  replace R24 := Lib.hid ((R24.out.below hb).more hb.size)
  have R25 := Lib.hid hr25
  clear hb hr25 hc25 hm25
  refine hK.out _ _ (⟨pg_cells X1.out, pg_cells X2.out, bk_cells Bb.out⟩) (fun hHeld => ?_)
  clear hK K
  try simp only [Act.put, List.setIfInBounds_toArray, List.set_cons_zero, List.set_cons_succ]
  refine wpAnyH_ready (rs := [64]) (by decide +kernel) (by simp) ?_
  refine AllReadyH.consL rfl (fun K hK => ?_) AllReadyH.nil
  obtain rfl : n24 = n25 := (bk_len R24.out).symm.trans (bk_len R25.out)
  go_simp
  refine (same6_yes A24 n24 c24 A25 c25 _ _ R24.out R25.out (by have h1 := bk_len R25.out; have h2 := setB_len l ⟨nm, rt, ks⟩; have h5 := delB_len l nm; have h3 := bk_len HR.out; have h4 := H60.out; unfold maxLen; omega)).mono ?_
  rintro e wo ⟨rfl, q, hq⟩
  replace HB := Lib.hid (show Below w.heap.size w wo by rw [hq]; exact below_drewN HB.out q)
  replace X1 := Lib.hid (show Blk wo _ _ _ by rw [hq]; exact X1.out.drewN q)
  replace X2 := Lib.hid (show Blk wo _ _ _ by rw [hq]; exact X2.out.drewN q)
  replace Bb := Lib.hid (show Blk wo _ _ _ by rw [hq]; exact Bb.out.drewN q)
  clear hq
  refine hK.out _ _ (⟨pg_cells X1.out, pg_cells X2.out, bk_cells Bb.out⟩) (fun hHeld => ?_)
  clear hK K
  try simp only [Act.put, List.setIfInBounds_toArray, List.set_cons_zero, List.set_cons_succ]
  refine wpAnyH_takeL (i := 65) (v := ?_) rfl (by decide +kernel) (by decide +kernel) (by decide +kernel) (fun _ _ _ h => h) (Or.inl ⟨by rfl, ?_⟩) (by first | trivial | assumption) ?_
  rotate_left
  · intro wz hSz; (try dsimp only at hSz); go_simp; (try with_reducible rfl)
  try simp only [Act.put, List.setIfInBounds_toArray, List.set_cons_zero, List.set_cons_succ]
  refine wpAnyH_takeL (i := 66) (v := ?_) rfl (by decide +kernel) (by decide +kernel) (by decide +kernel) (fun _ _ _ h => h) (Or.inl ⟨by rfl, ?_⟩) (by first | trivial | assumption) ?_
  rotate_left
  · intro wz hSz; (try dsimp only at hSz); go_simp; (try with_reducible rfl)
  try simp only [Act.put, List.setIfInBounds_toArray, List.set_cons_zero, List.set_cons_succ]
  refine wpAnyH_done (by decide +kernel) ?_ _
  go_wp2_with fail
  go_ret
  exact ⟨rfl, HB.out⟩
theorem ccalls_walk (size n0 tx0 : Int) (A : Option Addr) (m c : Nat) (l : List Bk) (kd ct : Int) (pg lk ty : Nat) (bd : ByteArray) (nm : ByteArray) (rt : Nat) (ks : Int) (w : World) (_h0 : (Lit.int .i64 size).wf = true) (h1 : (Lit.int .u32 n0).wf = true) (h2 : (Lit.int .u64 tx0).wf = true) (hl : Bks w w.heap.size A m c l) (_h4 : pg < 4294967296 ∧ lk < 4294967296 ∧ ty < 18446744073709551616 ∧ bd.size ≤ maxLen) (_h5 : BkOk ⟨nm, rt, ks⟩) :
    Calls Try.prog 4 #[.int .i64 size, .int .u32 n0, .int .u64 tx0, .slice A m c, .agg #[.int .i64 kd, .int .i64 ct, .int .u32 pg, .int .u32 lk, .int .u64 ty, .string bd], .agg #[.string nm, .int .u32 rt, .int .i64 ks]] w fun e w' => e = .returned (.bool true) ∧ Below w.heap.size w w' := by
  obtain ⟨n, rfl⟩ := Int.eq_ofNat_of_zero_le (lit_u32' h1).1
  obtain ⟨tx, rfl⟩ := Int.eq_ofNat_of_zero_le (bounds_u64 h2).1
  obtain ⟨hr, hmc, hcm, hm, hok⟩ := hl
  rcases hli : lightB l with _ | _
  · exact ccalls_no size n tx A m c l kd ct pg lk ty bd nm rt ks w hr hm hmc hcm hli
  by_cases hb : 4200 < bd.size
  · exact ccalls_long size n tx A m c l kd ct pg lk ty bd nm rt ks w hr hm hmc hcm hli hb
  by_cases hn : 100 < nm.size
  · exact ccalls_far size n tx A m c l kd ct pg lk ty bd nm rt ks w hr hm hmc hcm hli hb hn
  obtain ⟨h60, hsz⟩ := light_size hli fun b hb => (hok b hb).2
  rw [bk_len hr] at h60
  exact ccalls_main size n tx A m c l kd ct pg lk ty bd nm rt ks w hr hm hmc hcm hli hb hn h60 hsz
end Go.Proofs.Ytgljmcameeeaiaa
