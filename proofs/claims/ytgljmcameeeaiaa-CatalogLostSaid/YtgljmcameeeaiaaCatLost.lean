/-
  The walk of the statement CatalogLost: from every start, at every argument, it returns true and changes no block that was there before.
-/
import Derived.Test.YtgljmcameeeaiaaCatLaw
import Derived.Test.YtgljmcameeeaiaaBkOpen
import Derived.Test.YtgljmcameeeaiaaKitLaw
import Derived.Test.YtgljmcameeeaiaaOrder
import Derived.Deep.CutRange
import Derived.Deep.RegionHeld3
namespace Go.Proofs.Ytgljmcameeeaiaa
open Go.RowKit
open Go.Lib hiding intOf
set_option linter.unusedVariables false
set_option linter.unusedSimpArgs false
attribute [local go_sem ↓] Go.wp_at_zero Go.wp_at_succ

theorem bk_cells2 {w : World} {g : Nat} {a0 a1 a2 : Value} (h : Blk w g 33 #[a0, a1, a2]) : w.cell? ⟨g, 0, none⟩ = some a0 ∧ w.cell? ⟨g, 1, none⟩ = some a1 ∧ w.cell? ⟨g, 2, none⟩ = some a2 := ⟨h.cell 0, h.cell 1, h.cell 2⟩
theorem bk_same (a : ByteArray) (b c : Int) (w : World) : (binOp .eql 33 (.agg #[.string a, .int .u32 b, .int .i64 c]) (.agg #[.string a, .int .u32 b, .int .i64 c])).run Try.prog w = .ok (.bool true) w := by
  simp [go_sem]

theorem infoBk2 : (Try.prog.info? 33).map (fun i => (i.zero, i.size)) = some (some (.agg #[.string ByteArray.empty, .int .u32 0, .int .i64 0]), 3) := by kernel_rfl
set_option maxRecDepth 100000 in
set_option maxHeartbeats 12800000 in
theorem clost_no (size : Int) (A : Option Addr) (m c : Nat) (l : List Bk) (r0 : Nat) (keys : Int) (w : World) (hr : Reads w w.heap.size 3 A m (bkc l)) (hm : m ≤ 4398046511104) (hmc : m ≤ c) (hcm : c ≤ maxLen) (hl : lightB l = false) :
    Calls Try.prog 6 #[.int .i64 size, .slice A m c, .int .u32 r0, .int .i64 keys] w fun e w' => e = .returned (.bool true) ∧ Below w.heap.size w w' := by
  have HR := Lib.hid hr
  have HM := Lib.hid hm
  have HLi := Lib.hid hl
  obtain ⟨a0, a1, a2, a3, a4, a5, ea, HA, hea⟩ : ∃ (a0 a1 : Int) (a2 a3 a4 : Nat) (a5 : ByteArray) (ea : Int), (∀ w' : World, Below w.heap.size w w' → Calls Try.prog 9 #[.int .i64 size, .int .u32 2, .int .u64 0, .slice A m c] w' fun e w'' => e = .returned (.tuple #[.agg #[.int .i64 a0, .int .i64 a1, .int .u32 a2, .int .u32 a3, .int .u64 a4, .string a5], .int .i64 ea]) ∧ Below w'.heap.size w' w'') ∧ (mayC size 2 0 l = false → ea = 2) := by
    rcases hy : mayC size 2 0 l with _ | _
    · exact ⟨0, 0, 0, 0, 0, ByteArray.empty, 2, fun w' hb => cpage6_no size 2 0 A m c l w' ((hr.below hb).more hb.size) hm hy, fun _ => rfl⟩
    · obtain ⟨z, rfl, _, _, _⟩ := good_nat (by simp only [mayC, mayL, Bool.and_eq_true] at hy; exact hy.1.2.1 : goodSize size = true)
      exact ⟨_, _, _, _, _, _, _, fun w' hb => cpage6_yes z 2 0 A m c l w' ((hr.below hb).more hb.size) hm hy, fun h => by cases h⟩
  
  clear hea
  clear hr hm hl hmc hcm
  obtain ⟨hz, hi⟩ := zero_of_info infoPg
  have HI := Lib.hid hi
  obtain ⟨hy0, hj⟩ := zero_of_info infoBk2
  have HJ := Lib.hid hj
  clear hi hj
  have HB := Lib.hid (Below.refl w.heap.size w)
  go_enter Try.func6, Try.ntmps6
  go_wp2_with fail
  refine (lives6_any _).mono ?_
  rintro e w101 ⟨rfl, hb⟩
  replace HB := Lib.hid (HB.out.trans (hb.mono HB.out.size))
  clear hb
  go_wp2_with fail
  refine (HA _ HB.out).mono ?_
  rintro e w102 ⟨rfl, hb⟩
  replace HB := Lib.hid (HB.out.trans (hb.mono HB.out.size))
  clear hb
  clear HA
  obtain ⟨w103, hw103⟩ : ∃ x, x = w102.alloc (.cells #[.int .i64 a0, .int .i64 a1, .int .u32 a2, .int .u32 a3, .int .u64 a4, .string a5] 26) := ⟨_, rfl⟩
  have saw103 : w102.heap.size = w102.heap.size := by first | rfl | omega
  have ge_X0 := Lib.hid (show w.heap.size ≤ w102.heap.size from saw103 ▸ HB.out.size)
  replace HB := Lib.hid (show Below w.heap.size w w103 by rw [hw103]; exact HB.out.alloc HB.out.size _)
  have X0 := Lib.hid (show Blk w103 w102.heap.size 26 #[.int .i64 a0, .int .i64 a1, .int .u32 a2, .int .u32 a3, .int .u64 a4, .string a5] by rw [hw103, ← saw103]; exact Blk.new _ _ _)
  have szw103 : w103.heap.size = w102.heap.size + 1 := by rw [hw103]; simp
  clear saw103 szw103
  go_wp2_with fail
  rw [← hw103]
  clear hw103
  generalize w102.heap.size = gX0 at *
  refine (light6_any A m c l _ (HR.out.below HB.out) (Nat.le_trans HM.out (by decide))).mono ?_
  rintro e w104 ⟨rfl, rfl⟩
  rw [HLi.out]
  go_wp2_with fail
  go_ret
  exact ⟨rfl, HB.out⟩
set_option maxRecDepth 100000 in
set_option maxHeartbeats 12800000 in
theorem clost_bad (size : Int) (A : Option Addr) (m c : Nat) (l : List Bk) (r0 : Nat) (keys : Int) (w : World) (hr : Reads w w.heap.size 3 A m (bkc l)) (hm : m ≤ 4398046511104) (hmc : m ≤ c) (hcm : c ≤ maxLen) (hl : lightB l = true) (hy : mayC size 2 0 l = false) :
    Calls Try.prog 6 #[.int .i64 size, .slice A m c, .int .u32 r0, .int .i64 keys] w fun e w' => e = .returned (.bool true) ∧ Below w.heap.size w w' := by
  have HR := Lib.hid hr
  have HM := Lib.hid hm
  have HLi := Lib.hid hl
  obtain ⟨a0, a1, a2, a3, a4, a5, ea, HA, hea⟩ : ∃ (a0 a1 : Int) (a2 a3 a4 : Nat) (a5 : ByteArray) (ea : Int), (∀ w' : World, Below w.heap.size w w' → Calls Try.prog 9 #[.int .i64 size, .int .u32 2, .int .u64 0, .slice A m c] w' fun e w'' => e = .returned (.tuple #[.agg #[.int .i64 a0, .int .i64 a1, .int .u32 a2, .int .u32 a3, .int .u64 a4, .string a5], .int .i64 ea]) ∧ Below w'.heap.size w' w'') ∧ (mayC size 2 0 l = false → ea = 2) := by
    rcases hy : mayC size 2 0 l with _ | _
    · exact ⟨0, 0, 0, 0, 0, ByteArray.empty, 2, fun w' hb => cpage6_no size 2 0 A m c l w' ((hr.below hb).more hb.size) hm hy, fun _ => rfl⟩
    · obtain ⟨z, rfl, _, _, _⟩ := good_nat (by simp only [mayC, mayL, Bool.and_eq_true] at hy; exact hy.1.2.1 : goodSize size = true)
      exact ⟨_, _, _, _, _, _, _, fun w' hb => cpage6_yes z 2 0 A m c l w' ((hr.below hb).more hb.size) hm hy, fun h => by cases h⟩
  
  obtain rfl := hea hy
  clear hy hea
  clear hr hm hl hmc hcm
  obtain ⟨hz, hi⟩ := zero_of_info infoPg
  have HI := Lib.hid hi
  obtain ⟨hy0, hj⟩ := zero_of_info infoBk2
  have HJ := Lib.hid hj
  clear hi hj
  have HB := Lib.hid (Below.refl w.heap.size w)
  go_enter Try.func6, Try.ntmps6
  go_wp2_with fail
  refine (lives6_any _).mono ?_
  rintro e w101 ⟨rfl, hb⟩
  replace HB := Lib.hid (HB.out.trans (hb.mono HB.out.size))
  clear hb
  go_wp2_with fail
  refine (HA _ HB.out).mono ?_
  rintro e w102 ⟨rfl, hb⟩
  replace HB := Lib.hid (HB.out.trans (hb.mono HB.out.size))
  clear hb
  clear HA
  obtain ⟨w103, hw103⟩ : ∃ x, x = w102.alloc (.cells #[.int .i64 a0, .int .i64 a1, .int .u32 a2, .int .u32 a3, .int .u64 a4, .string a5] 26) := ⟨_, rfl⟩
  have saw103 : w102.heap.size = w102.heap.size := by first | rfl | omega
  have ge_X0 := Lib.hid (show w.heap.size ≤ w102.heap.size from saw103 ▸ HB.out.size)
  replace HB := Lib.hid (show Below w.heap.size w w103 by rw [hw103]; exact HB.out.alloc HB.out.size _)
  have X0 := Lib.hid (show Blk w103 w102.heap.size 26 #[.int .i64 a0, .int .i64 a1, .int .u32 a2, .int .u32 a3, .int .u64 a4, .string a5] by rw [hw103, ← saw103]; exact Blk.new _ _ _)
  have szw103 : w103.heap.size = w102.heap.size + 1 := by rw [hw103]; simp
  clear saw103 szw103
  go_wp2_with fail
  rw [← hw103]
  clear hw103
  generalize w102.heap.size = gX0 at *
  refine (light6_any A m c l _ (HR.out.below HB.out) (Nat.le_trans HM.out (by decide))).mono ?_
  rintro e w104 ⟨rfl, rfl⟩
  rw [HLi.out]
  go_wp2_with fail
  go_ret
  exact ⟨rfl, HB.out⟩
set_option maxRecDepth 100000 in
set_option maxHeartbeats 12800000 in
theorem clost_main (z : Nat) (A : Option Addr) (m c : Nat) (l : List Bk) (r0 : Nat) (keys : Int) (w : World) (hr : Reads w w.heap.size 3 A m (bkc l)) (hm : m ≤ 4398046511104) (hmc : m ≤ c) (hcm : c ≤ maxLen) (hl : lightB l = true) (hy : mayC z 2 0 l = true) (h60 : m ≤ 60) (hr0 : r0 < 4294967296) :
    Calls Try.prog 6 #[.int .i64 z, .slice A m c, .int .u32 r0, .int .i64 keys] w fun e w' => e = .returned (.bool true) ∧ Below w.heap.size w w' := by
  have HR := Lib.hid hr
  have HM := Lib.hid hm
  have HLi := Lib.hid hl
  have HMC := Lib.hid hmc
  have HCM := Lib.hid hcm
  have H60 := Lib.hid h60
  obtain ⟨X, hX⟩ : ∃ X, X = catBody z l := ⟨_, rfl⟩
  have HA : ∀ w' : World, Below w.heap.size w w' → Calls Try.prog 9 #[.int .i64 z, .int .u32 2, .int .u64 0, .slice A m c] w' fun e w'' => e = .returned (.tuple #[.agg #[.int .i64 2, .int .i64 m, .int .u32 2, .int .u32 0, .int .u64 0, .string X], .int .i64 0]) ∧ Below w'.heap.size w' w'' := fun w' hb => by rw [hX]; exact cpage6_yes z 2 0 A m c l w' ((hr.below hb).more hb.size) hm hy
  obtain ⟨R, hR⟩ : ∃ R : Nat, R = 2 + r0 % 1000 := ⟨_, rfl⟩
  obtain ⟨K0, hK0⟩ : ∃ K0 : Nat, keys % ((1000 : Nat) : Int) = (K0 : Int) := ⟨(keys % 1000).toNat, by omega⟩
  obtain ⟨Kq, hKK⟩ : ∃ K : Nat, K = 1 + K0 := ⟨_, rfl⟩
  have HPk : ∀ w : World, Calls Try.prog 28 #[.int .i64 keys, .int .i64 1000] w fun e w' => e = .returned (.int .i64 K0) ∧ w = w' := fun w => by
    have := pick_any keys 1000 w (by decide) (by decide)
    rw [hK0] at this
    exact this
  obtain ⟨Wa, hWa⟩ : ∃ W, W = delB l lostN := ⟨_, rfl⟩
  obtain ⟨Ms, hMs⟩ : ∃ M, M = setB Wa ⟨⟨#[108, 111, 115, 116, 43, 102, 111, 117, 110, 100]⟩, R, (Kq : Int)⟩ := ⟨_, rfl⟩
  have hall : allOk l = true := (mayC_parts hy).1
  have hasc : Asc l := ((allOk_iff l).1 hall).2
  have hascW : Asc Wa := by rw [hWa]; exact asc_delB hasc lostN
  have hok : okBk ⟨⟨#[108, 111, 115, 116, 43, 102, 111, 117, 110, 100]⟩, R, (Kq : Int)⟩ = true := by
    simp only [okBk, nameB, emptyB, fullB, Bool.and_eq_true, Bool.or_eq_true, decide_eq_true_eq]
    exact ⟨⟨by decide, by decide⟩, .inr ⟨⟨by omega, by omega⟩, by omega, by omega⟩⟩
  have hmm : mayC z 2 0 Ms = true := by
    simp only [mayC, Bool.and_eq_true] at hy ⊢
    refine ⟨?_, hy.2⟩
    rw [hMs, hWa]
    exact may_lost hy.1 _ rfl hok
  obtain ⟨hfi1, hfi2, hfi3⟩ := find_setB hascW ⟨⟨#[108, 111, 115, 116, 43, 102, 111, 117, 110, 100]⟩, R, (Kq : Int)⟩
  rw [← hMs] at hfi1 hfi2 hfi3
  obtain ⟨fi, hfi⟩ : ∃ fi, fi = fI Ms ⟨#[108, 111, 115, 116, 43, 102, 111, 117, 110, 100]⟩ := ⟨_, rfl⟩
  have hfi1' : isI Ms ⟨#[108, 111, 115, 116, 43, 102, 111, 117, 110, 100]⟩ = true := hfi1
  rw [show fI Ms (Bk.nm ⟨⟨#[108, 111, 115, 116, 43, 102, 111, 117, 110, 100]⟩, R, (Kq : Int)⟩) = fi from hfi.symm] at hfi2 hfi3
  have hdd : delB Ms ⟨#[108, 111, 115, 116, 43, 102, 111, 117, 110, 100]⟩ = Wa := by
    have h1 := del_set hascW ⟨⟨#[108, 111, 115, 116, 43, 102, 111, 117, 110, 100]⟩, R, (Kq : Int)⟩
    rw [hMs]
    exact h1.trans (by rw [hWa]; exact del_del hasc lostN)
  have hMl : Ms.length ≤ 61 := by
    have h1 := setB_len Wa ⟨⟨#[108, 111, 115, 116, 43, 102, 111, 117, 110, 100]⟩, R, (Kq : Int)⟩
    have h2 := delB_len l lostN
    have h3 := bk_len hr
    rw [← hMs] at h1
    rw [← hWa] at h2
    omega
  have hWl : Wa.length ≤ 60 := by
    have h2 := delB_len l lostN
    have h3 := bk_len hr
    rw [← hWa] at h2
    omega
  obtain ⟨nm, hnm⟩ : ∃ n, n = Ms.length := ⟨_, rfl⟩
  obtain ⟨nw, hnw⟩ : ∃ n, n = Wa.length := ⟨_, rfl⟩
  obtain ⟨B, hB⟩ : ∃ B, B = catBody z Ms := ⟨_, rfl⟩
  have hmp := mayC_parts hmm
  have hBs : B.size = z - 24 := by rw [hB]; exact catBody_size z Ms hmp.2.2.2.2.2
  have hgz := good_pos hmp.2.1
  have HOf := fun w => cof6_any 2 nm 2 0 0 B w (by omega)
  have hrd : readC 2 nm 2 0 0 B = some Ms := by rw [hB, hnm]; exact readC_page hmm
  rw [hrd] at HOf
  have HPg2 := fun (A' : Option Addr) (c' : Nat) (w' : World) (hr' : Reads w' w'.heap.size 3 A' nm (bkc Ms)) => cpage6_yes z 2 0 A' nm c' Ms w' hr' (by omega) hmm
  rw [← hB] at HPg2
  have hw1 : (r0 : Int) % 1000 + 2 = R := by omega
  have hw2 : 2 + (r0 : Int) % 1000 = R := by omega
  have hw3 : IntKind.u32.wrap (2 + (r0 : Int) % 1000) = R := by rw [IntKind.wrap_u32]; omega
  have hw4 : (2 + (r0 : Int) % 1000) % 4294967296 = R := by omega
  have hw5 : 1 + (K0 : Int) = Kq := by omega
  have hw6 : IntKind.i64.wrap (1 + (K0 : Int)) = Kq := by rw [IntKind.wrap_i64]; omega
  have HWa := Lib.hid hWa
  have HMs := Lib.hid hMs
  have HFI := Lib.hid hfi
  have HI1 := Lib.hid hfi1'
  have HI2 := Lib.hid hfi2
  have HI3 := Lib.hid hfi3
  have HDD := Lib.hid hdd
  have HNM := Lib.hid hnm
  have HNW := Lib.hid hnw
  have HMl := Lib.hid hMl
  have HWl := Lib.hid hWl
  have hfn : fi < nm := by omega
  have heq := fun w => bk_same ⟨#[108, 111, 115, 116, 43, 102, 111, 117, 110, 100]⟩ R Kq w
  have hK0b : K0 ≤ 1000 := by omega
  clear hr hm hl hy h60 hmc hcm hX hR hK0 hKK hWa hMs hall hasc hascW hok hmm hfi1 hfi2 hfi3 hfi hfi1' hdd hMl hWl hnm hnw hB hmp hBs hgz hrd
  obtain ⟨hz, hi⟩ := zero_of_info infoPg
  have HI := Lib.hid hi
  obtain ⟨hy0, hj⟩ := zero_of_info infoBk2
  have HJ := Lib.hid hj
  clear hi hj
  have HB := Lib.hid (Below.refl w.heap.size w)
  go_enter Try.func6, Try.ntmps6
  go_wp2_with fail
  refine (lives6_any _).mono ?_
  rintro e w101 ⟨rfl, hb⟩
  replace HB := Lib.hid (HB.out.trans (hb.mono HB.out.size))
  clear hb
  go_wp2_with fail
  refine (HA _ HB.out).mono ?_
  rintro e w102 ⟨rfl, hb⟩
  replace HB := Lib.hid (HB.out.trans (hb.mono HB.out.size))
  clear hb
  clear HA
  obtain ⟨w103, hw103⟩ : ∃ x, x = w102.alloc (.cells #[.int .i64 2, .int .i64 m, .int .u32 2, .int .u32 0, .int .u64 0, .string X] 26) := ⟨_, rfl⟩
  have saw103 : w102.heap.size = w102.heap.size := by first | rfl | omega
  have ge_X0 := Lib.hid (show w.heap.size ≤ w102.heap.size from saw103 ▸ HB.out.size)
  replace HB := Lib.hid (show Below w.heap.size w w103 by rw [hw103]; exact HB.out.alloc HB.out.size _)
  have X0 := Lib.hid (show Blk w103 w102.heap.size 26 #[.int .i64 2, .int .i64 m, .int .u32 2, .int .u32 0, .int .u64 0, .string X] by rw [hw103, ← saw103]; exact Blk.new _ _ _)
  have szw103 : w103.heap.size = w102.heap.size + 1 := by rw [hw103]; simp
  clear saw103 szw103
  go_wp2_with fail
  rw [← hw103]
  clear hw103
  generalize w102.heap.size = gX0 at *
  refine (light6_any A m c l _ (HR.out.below HB.out) (Nat.le_trans HM.out (by decide))).mono ?_
  rintro e w104 ⟨rfl, rfl⟩
  rw [HLi.out]
  go_wp2_with fail
  refine (HPk _).mono ?_
  rintro e w' ⟨rfl, rfl⟩
  clear HPk
  obtain ⟨w105, hw105⟩ : ∃ x, x = w104.alloc (.cells #[.string ⟨#[108, 111, 115, 116, 43, 102, 111, 117, 110, 100]⟩, .int .u32 R, .int .i64 Kq] 33) := ⟨_, rfl⟩
  have saw105 : w104.heap.size = w104.heap.size := by first | rfl | omega
  have lt_X0_Bb := Lib.hid (show gX0 < w104.heap.size from saw105 ▸ X0.out.lt)
  replace X0 := Lib.hid (show Blk w105 gX0 26 #[.int .i64 2, .int .i64 m, .int .u32 2, .int .u32 0, .int .u64 0, .string X] by rw [hw105]; exact X0.out.alloc _)
  have ge_Bb := Lib.hid (show w.heap.size ≤ w104.heap.size from saw105 ▸ HB.out.size)
  replace HB := Lib.hid (show Below w.heap.size w w105 by rw [hw105]; exact HB.out.alloc HB.out.size _)
  have Bb := Lib.hid (show Blk w105 w104.heap.size 33 #[.string ⟨#[108, 111, 115, 116, 43, 102, 111, 117, 110, 100]⟩, .int .u32 R, .int .i64 Kq] by rw [hw105, ← saw105]; exact Blk.new _ _ _)
  have szw105 : w105.heap.size = w104.heap.size + 1 := by rw [hw105]; simp
  clear saw105 szw105
  go_upto_region 8 with fail
  rw [← hw105]
  clear hw105
  generalize w104.heap.size = gBb at *
  clear hw1 hw2 hw3 hw4 hw5 hw6 hK0b
  go_wp2_with fail
  refine (own6_any A m c l _ ((HR.out.below HB.out).more HB.out.size) (Nat.le_trans H60.out (by decide))).mono ?_
  rintro e wa ⟨A1, c1, rfl, hr1, hc1, hm1, hb⟩
  replace HB := Lib.hid (HB.out.trans (hb.mono HB.out.size))
  replace X0 := Lib.hid (X0.out.below hb X0.out.lt)
  replace Bb := Lib.hid (Bb.out.below hb Bb.out.lt)
  have R1 := Lib.hid hr1
  have C1 := Lib.hid hc1
  have M1 := Lib.hid hm1
  clear hb hr1 hc1 hm1
  go_wp2_with fail
  refine (cdel_any A1 m c1 l ⟨#[108, 111, 115, 116, 43, 102, 111, 117, 110, 100]⟩ _ R1.out (Nat.le_trans H60.out (by decide)) C1.out M1.out).mono ?_
  rintro e wb ⟨A2, n2, c2, rfl, hr2, hc2, hm2, hb⟩
  rw [show delB l ⟨#[108, 111, 115, 116, 43, 102, 111, 117, 110, 100]⟩ = Wa from HWa.out.symm] at hr2
  obtain rfl : nw = n2 := HNW.out.trans (bk_len hr2)
  replace HB := Lib.hid (HB.out.trans (hb.mono HB.out.size))
  replace X0 := Lib.hid (X0.out.below hb X0.out.lt)
  replace Bb := Lib.hid (Bb.out.below hb Bb.out.lt)
  have R2 := Lib.hid hr2
  have C2 := Lib.hid hc2
  have M2 := Lib.hid hm2
  clear hb hr2 hc2 hm2
  go_wp2_with fail
  replace X0 := Lib.hid X0.out.drew
  replace Bb := Lib.hid Bb.out.drew
  replace R2 := Lib.hid (show Reads _ _ 3 _ _ _ from R2.out.drew)
  replace HB := Lib.hid HB.out.drew
  clear X0
  refine wp_region_held_drew (S := (fun w' => w'.cell? ⟨gBb, 0, none⟩ = some (.string ⟨#[108, 111, 115, 116, 43, 102, 111, 117, 110, 100]⟩) ∧ w'.cell? ⟨gBb, 1, none⟩ = some (.int .u32 R) ∧ w'.cell? ⟨gBb, 2, none⟩ = some (.int .i64 Kq))) (by kernel_rfl) (bk_cells2 Bb.out) (fun hHeld => ?_)
  refine wpAnyH_takeL (i := 0) (v := ?_) rfl (by kernel_rfl) (by kernel_rfl) (by kernel_rfl) (fun _ _ _ h => h) (Or.inl ⟨by rfl, ?_⟩) (by first | trivial | assumption) ?_
  rotate_left
  · intro wz hSz; (try dsimp only at hSz); go_simp; (try with_reducible rfl)
  try simp only [Act.put, List.setIfInBounds_toArray, List.set_cons_zero, List.set_cons_succ]
  refine wpAnyH_takeL (i := 2) (v := ?_) rfl (by kernel_rfl) (by kernel_rfl) (by kernel_rfl) (fun _ _ _ h => h) (Or.inl ⟨by rfl, ?_⟩) (by first | trivial | assumption) ?_
  rotate_left
  · intro wz hSz; (try dsimp only at hSz); go_simp; (try with_reducible rfl)
  try simp only [Act.put, List.setIfInBounds_toArray, List.set_cons_zero, List.set_cons_succ]
  refine wpAnyH_ready (rs := [1]) (by kernel_rfl) (by simp) ?_
  refine AllReadyH.consL rfl (fun K hK => ?_) AllReadyH.nil
  go_simp
  refine (own6_any A2 nw c2 Wa _ R2.out (Nat.le_trans (by rw [HNW.out]; exact HWl.out) (by decide : 60 ≤ 1000000))).mono ?_
  rintro e wc ⟨A3, c3, rfl, hr3, hc3, hm3, hb⟩
  replace HB := Lib.hid (HB.out.trans (hb.mono HB.out.size))
  replace Bb := Lib.hid (Bb.out.below hb Bb.out.lt)
  replace R2 := Lib.hid ((R2.out.below hb).more hb.size)
  have R3 := Lib.hid hr3
  have C3 := Lib.hid hc3
  have M3 := Lib.hid hm3
  clear hb hr3 hc3 hm3
  refine hK.out _ _ (bk_cells2 Bb.out) (fun hHeld => ?_)
  clear hK K
  try simp only [Act.put, List.setIfInBounds_toArray, List.set_cons_zero, List.set_cons_succ]
  refine wpAnyH_ready (rs := [3]) (by kernel_rfl) (by simp) ?_
  refine AllReadyH.consL rfl (fun K hK => ?_) AllReadyH.nil
  go_simp
  refine (cset_any A3 nw c3 Wa ⟨⟨#[108, 111, 115, 116, 43, 102, 111, 117, 110, 100]⟩, R, (Kq : Int)⟩ _ R3.out (Nat.le_trans (by rw [HNW.out]; exact HWl.out) (by decide : 60 ≤ 1000000)) C3.out M3.out).mono ?_
  rintro e wd ⟨A4, n4, c4, rfl, hr4, hc4, hm4, hb⟩
  replace HB := Lib.hid (HB.out.trans (hb.mono HB.out.size))
  replace Bb := Lib.hid (Bb.out.below hb Bb.out.lt)
  replace R2 := Lib.hid ((R2.out.below hb).more hb.size)
  rw [← HMs.out] at hr4
  obtain rfl : nm = n4 := HNM.out.trans (bk_len hr4)
  have R4 := Lib.hid hr4
  clear hb hr4 R3 C3 M3
  refine hK.out _ _ (bk_cells2 Bb.out) (fun hHeld => ?_)
  clear hK K
  try simp only [Act.put, List.setIfInBounds_toArray, List.set_cons_zero, List.set_cons_succ]
  refine wpAnyH_takeL (i := 4) (v := ?_) rfl (by kernel_rfl) (by kernel_rfl) (by kernel_rfl) (fun _ _ _ h => h) (Or.inl ⟨by rfl, ?_⟩) (by first | trivial | assumption) ?_
  rotate_left
  · intro wz hSz; (try dsimp only at hSz); go_simp; (try with_reducible rfl)
  try simp only [Act.put, List.setIfInBounds_toArray, List.set_cons_zero, List.set_cons_succ]
  refine wpAnyH_done (by kernel_rfl) ?_ _
  go_wp2_with fail
  refine (HPg2 A4 c4 _ R4.out).mono ?_
  rintro e w106 ⟨rfl, hb⟩
  replace HB := Lib.hid (HB.out.trans (hb.mono HB.out.size))
  replace Bb := Lib.hid (Bb.out.below hb Bb.out.lt)
  replace R2 := Lib.hid ((R2.out.below hb).more hb.size)
  replace R4 := Lib.hid ((R4.out.below hb).more hb.size)
  clear hb
  clear HPg2
  obtain ⟨w107, hw107⟩ : ∃ x, x = w106.alloc (.cells #[.int .i64 2, .int .i64 nm, .int .u32 2, .int .u32 0, .int .u64 0, .string B] 26) := ⟨_, rfl⟩
  have saw107 : w106.heap.size = w106.heap.size := by first | rfl | omega
  have lt_Bb_Pm := Lib.hid (show gBb < w106.heap.size from saw107 ▸ Bb.out.lt)
  replace Bb := Lib.hid (show Blk w107 gBb 33 #[.string ⟨#[108, 111, 115, 116, 43, 102, 111, 117, 110, 100]⟩, .int .u32 R, .int .i64 Kq] by rw [hw107]; exact Bb.out.alloc _)
  have ge_Pm := Lib.hid (show w.heap.size ≤ w106.heap.size from saw107 ▸ HB.out.size)
  replace HB := Lib.hid (show Below w.heap.size w w107 by rw [hw107]; exact HB.out.alloc HB.out.size _)
  replace R2 := Lib.hid (show Reads w107 w107.heap.size _ _ _ _ by rw [hw107]; exact (R2.out.alloc (Nat.le_refl _) _).more (by simp))
  replace R4 := Lib.hid (show Reads w107 w107.heap.size _ _ _ _ by rw [hw107]; exact (R4.out.alloc (Nat.le_refl _) _).more (by simp))
  have Pm := Lib.hid (show Blk w107 w106.heap.size 26 #[.int .i64 2, .int .i64 nm, .int .u32 2, .int .u32 0, .int .u64 0, .string B] by rw [hw107, ← saw107]; exact Blk.new _ _ _)
  have szw107 : w107.heap.size = w106.heap.size + 1 := by rw [hw107]; simp
  clear saw107 szw107
  go_upto_region 11 with fail
  rw [← hw107]
  clear hw107
  generalize w106.heap.size = gPm at *
  have cPm_0 := Pm.out.cell 0
  have cPm_1 := Pm.out.cell 1
  have cPm_2 := Pm.out.cell 2
  have cPm_3 := Pm.out.cell 3
  have cPm_4 := Pm.out.cell 4
  have cPm_5 := Pm.out.cell 5
  simp at cPm_0 cPm_1 cPm_2 cPm_3 cPm_4 cPm_5
  go_wp2_with fail
  refine (HOf _).mono ?_
  intro e we hpost
  obtain ⟨A5, n5, c5, rfl, hr5, _, _, hb⟩ := hpost
  obtain rfl : nm = n5 := HNM.out.trans (bk_len hr5)
  replace HB := Lib.hid (HB.out.trans (hb.mono HB.out.size))
  replace Bb := Lib.hid (Bb.out.below hb Bb.out.lt)
  replace Pm := Lib.hid (Pm.out.below hb Pm.out.lt)
  replace R2 := Lib.hid ((R2.out.below hb).more hb.size)
  replace R4 := Lib.hid ((R4.out.below hb).more hb.size)
  have R5 := Lib.hid hr5
  clear hb hr5 HOf
  go_wp2_with fail
  refine (cfind_any A4 nm c4 Ms ⟨#[108, 111, 115, 116, 43, 102, 111, 117, 110, 100]⟩ _ R4.out (Nat.le_trans (by rw [HNM.out]; exact HMl.out) (by decide : 61 ≤ 1000000))).mono ?_
  rintro e w108 ⟨rfl, hb⟩
  replace HB := Lib.hid (HB.out.trans (hb.mono HB.out.size))
  replace Bb := Lib.hid (Bb.out.below hb Bb.out.lt)
  replace Pm := Lib.hid (Pm.out.below hb Pm.out.lt)
  replace R2 := Lib.hid ((R2.out.below hb).more hb.size)
  replace R4 := Lib.hid ((R4.out.below hb).more hb.size)
  replace R5 := Lib.hid ((R5.out.below hb).more hb.size)
  clear hb
  rw [show fI Ms ⟨#[108, 111, 115, 116, 43, 102, 111, 117, 110, 100]⟩ = fi from HFI.out.symm, HI1.out]
  go_wp2_with fail
  replace Bb := Lib.hid Bb.out.drew
  replace Pm := Lib.hid Pm.out.drew
  replace R2 := Lib.hid (show Reads _ _ 3 _ _ _ from R2.out.drew)
  replace R4 := Lib.hid (show Reads _ _ 3 _ _ _ from R4.out.drew)
  replace R5 := Lib.hid (show Reads _ _ 3 _ _ _ from R5.out.drew)
  replace HB := Lib.hid HB.out.drew
  clear Pm
  obtain ⟨ad, x, hA4, _, hp4, hx4, hc4⟩ := bk_at R4.out hfn
  rw [HI3.out] at hx4
  injection hx4 with hx4
  subst hx4
  subst hA4
  have BA := Lib.hid hc4
  have HP4 := Lib.hid hp4
  have hf0 : (0 : Int) ≤ fi := by omega
  have hf1 : (fi : Int) < nm := by omega
  clear hc4 hp4
  refine wp_region_held_drew (S := (fun w' => (w'.cell? ⟨gBb, 0, none⟩ = some (.string ⟨#[108, 111, 115, 116, 43, 102, 111, 117, 110, 100]⟩) ∧ w'.cell? ⟨gBb, 1, none⟩ = some (.int .u32 R) ∧ w'.cell? ⟨gBb, 2, none⟩ = some (.int .i64 Kq)) ∧ (w'.cell? (ad.add (fi * 3)) = some (.string ⟨#[108, 111, 115, 116, 43, 102, 111, 117, 110, 100]⟩) ∧ w'.cell? ⟨(ad.add (fi * 3)).block, (ad.add (fi * 3)).off + 1, none⟩ = some (.int .u32 R) ∧ w'.cell? ⟨(ad.add (fi * 3)).block, (ad.add (fi * 3)).off + 2, none⟩ = some (.int .i64 Kq)))) (by kernel_rfl) ⟨bk_cells2 Bb.out, BA.out⟩ (fun hHeld => ?_)
  refine wpAnyH_takeL (i := 0) (v := ?_) rfl (by kernel_rfl) (by kernel_rfl) (by kernel_rfl) (fun _ _ _ h => h) (Or.inl ⟨by rfl, ?_⟩) (by first | trivial | assumption) ?_
  rotate_left
  · intro wz hSz; (try dsimp only at hSz); go_simp; (try with_reducible rfl)
  try simp only [Act.put, List.setIfInBounds_toArray, List.set_cons_zero, List.set_cons_succ]
  refine wpAnyH_takeL (i := 1) (v := ?_) rfl (by kernel_rfl) (by kernel_rfl) (by kernel_rfl) (fun _ _ _ h => h) (Or.inl ⟨by rfl, ?_⟩) (by first | trivial | assumption) ?_
  rotate_left
  · intro wz hSz; (try dsimp only at hSz); go_simp; (try with_reducible rfl)
  try simp only [Act.put, List.setIfInBounds_toArray, List.set_cons_zero, List.set_cons_succ]
  refine wpAnyH_takeL (i := 2) (v := ?_) rfl (by kernel_rfl) (by kernel_rfl) (by kernel_rfl) (fun _ _ _ h => h) (Or.inl ⟨by rfl, ?_⟩) (by first | trivial | assumption) ?_
  rotate_left
  · intro wz hSz; (try dsimp only at hSz); go_simp; (try with_reducible rfl)
  try simp only [Act.put, List.setIfInBounds_toArray, List.set_cons_zero, List.set_cons_succ]
  refine wpAnyH_takeL (i := 3) (v := ?_) rfl (by kernel_rfl) (by kernel_rfl) (by kernel_rfl) (fun _ _ _ h => h) (Or.inl ⟨by rfl, ?_⟩) (by first | trivial | assumption) ?_
  rotate_left
  · intro wz hSz; (try dsimp only at hSz); go_simp; (try with_reducible rfl)
  try simp only [Act.put, List.setIfInBounds_toArray, List.set_cons_zero, List.set_cons_succ]
  refine wpAnyH_takeL (i := 4) (v := ?_) rfl (by kernel_rfl) (by kernel_rfl) (by kernel_rfl) (fun _ _ _ h => h) (Or.inl ⟨by rfl, ?_⟩) (by first | trivial | assumption) ?_
  rotate_left
  · intro wz hSz; (try dsimp only at hSz); go_simp; (try with_reducible rfl)
  try simp only [Act.put, List.setIfInBounds_toArray, List.set_cons_zero, List.set_cons_succ]
  refine wpAnyH_ready (rs := [5]) (by kernel_rfl) (by simp) ?_
  refine AllReadyH.consL rfl (fun K hK => ?_) AllReadyH.nil
  go_simp
  refine (same6_yes A5 nm c5 (some ad) c4 Ms _ R5.out R4.out (Nat.le_trans (by rw [HNM.out]; exact HMl.out) (by decide : 61 ≤ maxLen))).mono ?_
  rintro e wf ⟨rfl, q, hq⟩
  replace HB := Lib.hid (show Below w.heap.size w wf by rw [hq]; exact below_drewN HB.out q)
  replace Bb := Lib.hid (show Blk wf _ _ _ by rw [hq]; exact Bb.out.drewN q)
  replace BA := Lib.hid (show BkAt wf _ _ by rw [hq]; exact BA.out)
  replace HP4 := Lib.hid (show _ < wf.heap.size by rw [hq]; exact HP4.out)
  replace R2 := Lib.hid (show Reads wf wf.heap.size 3 _ _ _ by rw [hq]; exact R2.out.drewN q)
  replace R4 := Lib.hid (show Reads wf wf.heap.size 3 _ _ _ by rw [hq]; exact R4.out.drewN q)
  clear hq
  refine hK.out _ _ (⟨bk_cells2 Bb.out, BA.out⟩) (fun hHeld => ?_)
  clear hK K
  try simp only [Act.put, List.setIfInBounds_toArray, List.set_cons_zero, List.set_cons_succ]
  refine wpAnyH_takeL (i := 6) (v := ?_) rfl (by kernel_rfl) (by kernel_rfl) (by kernel_rfl) (fun _ _ _ h => h) (Or.inl ⟨by rfl, ?_⟩) (by first | trivial | assumption) ?_
  rotate_left
  · intro wz hSz; (try dsimp only at hSz); go_simp; (try with_reducible rfl)
  try simp only [Act.put, List.setIfInBounds_toArray, List.set_cons_zero, List.set_cons_succ]
  refine wpAnyH_takeL (i := 7) (v := ?_) rfl (by kernel_rfl) (by kernel_rfl) (by kernel_rfl) (fun _ _ _ h => h) (Or.inl ⟨by rfl, ?_⟩) (by first | trivial | assumption) ?_
  rotate_left
  · intro wz hSz; (try dsimp only at hSz); go_simp; (try with_reducible rfl)
  try simp only [Act.put, List.setIfInBounds_toArray, List.set_cons_zero, List.set_cons_succ]
  refine wpAnyH_takeL (i := 8) (v := ?_) rfl (by kernel_rfl) (by kernel_rfl) (by kernel_rfl) (fun _ _ _ h => h) (Or.inl ⟨by rfl, ?_⟩) (by first | trivial | assumption) ?_
  rotate_left
  · intro wz hSz; (try dsimp only at hSz); go_simp; (try with_reducible rfl)
  try simp only [Act.put, List.setIfInBounds_toArray, List.set_cons_zero, List.set_cons_succ]
  refine wpAnyH_takeL (i := 9) (v := ?_) rfl (by kernel_rfl) (by kernel_rfl) (by kernel_rfl) (fun _ _ _ h => h) (Or.inl ⟨by rfl, ?_⟩) (by first | trivial | assumption) ?_
  rotate_left
  · intro wz hSz; (try dsimp only at hSz); go_simp; (try with_reducible rfl)
  try simp only [Act.put, List.setIfInBounds_toArray, List.set_cons_zero, List.set_cons_succ]
  refine wpAnyH_takeL (i := 10) (v := ?_) rfl (by kernel_rfl) (by kernel_rfl) (by kernel_rfl) (fun _ _ _ h => h) (Or.inl ⟨by rfl, ?_⟩) (by first | trivial | assumption) ?_
  rotate_left
  · intro wz hSz; (try dsimp only at hSz); go_simp; (try with_reducible rfl)
  try simp only [Act.put, List.setIfInBounds_toArray, List.set_cons_zero, List.set_cons_succ]
  refine wpAnyH_takeL (i := 11) (v := ?_) rfl (by kernel_rfl) (by kernel_rfl) (by kernel_rfl) (fun _ _ _ h => h) (Or.inl ⟨by rfl, ?_⟩) (by first | trivial | assumption) ?_
  rotate_left
  · intro wz hSz; (try dsimp only at hSz); go_simp; (try with_reducible rfl)
  try simp only [Act.put, List.setIfInBounds_toArray, List.set_cons_zero, List.set_cons_succ]
  refine wpAnyH_takeL (i := 12) (v := ?_) rfl (by kernel_rfl) (by kernel_rfl) (by kernel_rfl) (fun _ _ _ h => h) (Or.inl ⟨by rfl, ?_⟩) (by first | trivial | assumption) ?_
  rotate_left
  · intro wz hSz; (try dsimp only at hSz); go_simp; (try with_reducible rfl)
  try simp only [Act.put, List.setIfInBounds_toArray, List.set_cons_zero, List.set_cons_succ]
  refine wpAnyH_takeL (i := 13) (v := ?_) rfl (by kernel_rfl) (by kernel_rfl) (by kernel_rfl) (fun _ _ _ h => h) (Or.inl ⟨by rfl, ?_⟩) (by first | trivial | assumption) ?_
  rotate_left
  · intro wz hSz; (try dsimp only at hSz); go_simp; (try with_reducible rfl)
  try simp only [Act.put, List.setIfInBounds_toArray, List.set_cons_zero, List.set_cons_succ]
  refine wpAnyH_takeL (i := 14) (v := ?_) rfl (by kernel_rfl) (by kernel_rfl) (by kernel_rfl) (fun _ _ _ h => h) (Or.inl ⟨by rfl, ?_⟩) (by first | trivial | assumption) ?_
  rotate_left
  · intro wz hSz; (try dsimp only at hSz); go_simp; (try with_reducible rfl)
  try simp only [Act.put, List.setIfInBounds_toArray, List.set_cons_zero, List.set_cons_succ]
  refine wpAnyH_takeL (i := 15) (v := ?_) rfl (by kernel_rfl) (by kernel_rfl) (by kernel_rfl) (fun _ _ _ h => h) (Or.inl ⟨by rfl, ?_⟩) (by first | trivial | assumption) ?_
  rotate_left
  · intro wz hSz; (try dsimp only at hSz); go_simp; (try with_reducible rfl)
  try simp only [Act.put, List.setIfInBounds_toArray, List.set_cons_zero, List.set_cons_succ]
  refine wpAnyH_takeL (i := 16) (v := ?_) rfl (by kernel_rfl) (by kernel_rfl) (by kernel_rfl) (fun _ _ _ h => h) (Or.inl ⟨by rfl, ?_⟩) (by first | trivial | assumption) ?_
  rotate_left
  · intro wz hSz; (try dsimp only at hSz); go_simp; (try with_reducible rfl)
  try simp only [Act.put, List.setIfInBounds_toArray, List.set_cons_zero, List.set_cons_succ]
  refine wpAnyH_takeL (i := 17) (v := ?_) rfl (by kernel_rfl) (by kernel_rfl) (by kernel_rfl) (fun _ _ _ h => h) (Or.inl ⟨by rfl, ?_⟩) (by first | trivial | assumption) ?_
  rotate_left
  · intro wz hSz; (try dsimp only at hSz); go_simp; (try with_reducible rfl)
  try simp only [Act.put, List.setIfInBounds_toArray, List.set_cons_zero, List.set_cons_succ]
  refine wpAnyH_takeL (i := 18) (v := ?_) rfl (by kernel_rfl) (by kernel_rfl) (by kernel_rfl) (fun _ _ _ h => h) (Or.inl ⟨by rfl, ?_⟩) (by first | trivial | assumption) ?_
  rotate_left
  · intro wz hSz; (try dsimp only at hSz); go_simp; (try with_reducible rfl)
  try simp only [Act.put, List.setIfInBounds_toArray, List.set_cons_zero, List.set_cons_succ]
  refine wpAnyH_takeL (i := 19) (v := ?_) rfl (by kernel_rfl) (by kernel_rfl) (by kernel_rfl) (fun _ _ _ h => h) (Or.inl ⟨by rfl, ?_⟩) (by first | trivial | assumption) ?_
  rotate_left
  · intro wz hSz; (try dsimp only at hSz); go_simp; (try with_reducible rfl)
  try simp only [Act.put, List.setIfInBounds_toArray, List.set_cons_zero, List.set_cons_succ]
  refine wpAnyH_takeL (i := 20) (v := ?_) rfl (by kernel_rfl) (by kernel_rfl) (by kernel_rfl) (fun _ _ _ h => h) (Or.inl ⟨by rfl, ?_⟩) (by first | trivial | assumption) ?_
  rotate_left
  · intro wz hSz; (try dsimp only at hSz); go_simp; (try with_reducible rfl)
  try simp only [Act.put, List.setIfInBounds_toArray, List.set_cons_zero, List.set_cons_succ]
  refine wpAnyH_takeL (i := 21) (v := ?_) rfl (by kernel_rfl) (by kernel_rfl) (by kernel_rfl) (fun _ _ _ h => h) (Or.inl ⟨by rfl, ?_⟩) (by first | trivial | assumption) ?_
  rotate_left
  · intro wz hSz; (try dsimp only at hSz); go_simp; (try with_reducible rfl)
  try simp only [Act.put, List.setIfInBounds_toArray, List.set_cons_zero, List.set_cons_succ]
  refine wpAnyH_takeL (i := 22) (v := ?_) rfl (by kernel_rfl) (by kernel_rfl) (by kernel_rfl) (fun _ _ _ h => h) (Or.inl ⟨by rfl, ?_⟩) (by first | trivial | assumption) ?_
  rotate_left
  · intro wz hSz; (try dsimp only at hSz); go_simp; (try with_reducible rfl)
  try simp only [Act.put, List.setIfInBounds_toArray, List.set_cons_zero, List.set_cons_succ]
  refine wpAnyH_takeL (i := 23) (v := ?_) rfl (by kernel_rfl) (by kernel_rfl) (by kernel_rfl) (fun _ _ _ h => h) (Or.inl ⟨by rfl, ?_⟩) (by first | trivial | assumption) ?_
  rotate_left
  · intro wz hSz; (try dsimp only at hSz); go_simp; (try with_reducible rfl)
  try simp only [Act.put, List.setIfInBounds_toArray, List.set_cons_zero, List.set_cons_succ]
  refine wpAnyH_takeL (i := 24) (v := ?_) rfl (by kernel_rfl) (by kernel_rfl) (by kernel_rfl) (fun _ _ _ h => h) (Or.inl ⟨by rfl, ?_⟩) (by first | trivial | assumption) ?_
  rotate_left
  · intro wz hSz; (try dsimp only at hSz); go_simp; (try with_reducible rfl)
  try simp only [Act.put, List.setIfInBounds_toArray, List.set_cons_zero, List.set_cons_succ]
  refine wpAnyH_takeL (i := 25) (v := ?_) rfl (by kernel_rfl) (by kernel_rfl) (by kernel_rfl) (fun _ _ _ h => h) (Or.inl ⟨by rfl, ?_⟩) (by first | trivial | assumption) ?_
  rotate_left
  · intro wz hSz; (try dsimp only at hSz); go_simp; (try with_reducible rfl)
  try simp only [Act.put, List.setIfInBounds_toArray, List.set_cons_zero, List.set_cons_succ]
  refine wpAnyH_takeL (i := 26) (v := ?_) rfl (by kernel_rfl) (by kernel_rfl) (by kernel_rfl) (fun _ _ _ h => h) (Or.inl ⟨by rfl, ?_⟩) (by first | trivial | assumption) ?_
  rotate_left
  · intro wz hSz; (try dsimp only at hSz); go_simp; (try with_reducible rfl)
  try simp only [Act.put, List.setIfInBounds_toArray, List.set_cons_zero, List.set_cons_succ]
  refine wpAnyH_takeL (i := 27) (v := ?_) rfl (by kernel_rfl) (by kernel_rfl) (by kernel_rfl) (fun _ _ _ h => h) (Or.inl ⟨by rfl, ?_⟩) (by first | trivial | assumption) ?_
  rotate_left
  · intro wz hSz; (try dsimp only at hSz); go_simp; (try with_reducible rfl)
  try simp only [Act.put, List.setIfInBounds_toArray, List.set_cons_zero, List.set_cons_succ]
  refine wpAnyH_takeL (i := 28) (v := ?_) rfl (by kernel_rfl) (by kernel_rfl) (by kernel_rfl) (fun _ _ _ h => h) (Or.inl ⟨by rfl, ?_⟩) (by first | trivial | assumption) ?_
  rotate_left
  · intro wz hSz; (try dsimp only at hSz); go_simp; (try with_reducible rfl)
  try simp only [Act.put, List.setIfInBounds_toArray, List.set_cons_zero, List.set_cons_succ]
  refine wpAnyH_takeL (i := 29) (v := ?_) rfl (by kernel_rfl) (by kernel_rfl) (by kernel_rfl) (fun _ _ _ h => h) (Or.inl ⟨by rfl, ?_⟩) (by first | trivial | assumption) ?_
  rotate_left
  · intro wz hSz; (try dsimp only at hSz); go_simp; (try with_reducible rfl)
  try simp only [Act.put, List.setIfInBounds_toArray, List.set_cons_zero, List.set_cons_succ]
  refine wpAnyH_takeL (i := 32) (v := ?_) rfl (by kernel_rfl) (by kernel_rfl) (by kernel_rfl) (fun _ _ _ h => h) (Or.inl ⟨by rfl, ?_⟩) (by first | trivial | assumption) ?_
  rotate_left
  · intro wz hSz; (try dsimp only at hSz); go_simp; (try with_reducible rfl)
  try simp only [Act.put, List.setIfInBounds_toArray, List.set_cons_zero, List.set_cons_succ]
  refine wpAnyH_ready (rs := [30]) (by kernel_rfl) (by simp) ?_
  refine AllReadyH.consL rfl (fun K hK => ?_) AllReadyH.nil
  go_simp
  refine (own6_any (some ad) nm c4 Ms _ R4.out (Nat.le_trans (by rw [HNM.out]; exact HMl.out) (by decide : 61 ≤ 1000000))).mono ?_
  rintro e wg ⟨A6, c6, rfl, hr6, hc6, hm6, hb⟩
  replace HB := Lib.hid (HB.out.trans (hb.mono HB.out.size))
  replace Bb := Lib.hid (Bb.out.below hb Bb.out.lt)
  replace R2 := Lib.hid ((R2.out.below hb).more hb.size)
  replace R4 := Lib.hid ((R4.out.below hb).more hb.size)
  replace BA := Lib.hid (BA.out.below hb HP4.out)
  replace HP4 := Lib.hid (Nat.lt_of_lt_of_le HP4.out hb.size)
  have R6 := Lib.hid hr6
  have C6 := Lib.hid hc6
  have M6 := Lib.hid hm6
  clear hb hr6 hc6 hm6
  refine hK.out _ _ (⟨bk_cells2 Bb.out, BA.out⟩) (fun hHeld => ?_)
  clear hK K
  try simp only [Act.put, List.setIfInBounds_toArray, List.set_cons_zero, List.set_cons_succ]
  refine wpAnyH_ready (rs := [31]) (by kernel_rfl) (by simp) ?_
  refine AllReadyH.consL rfl (fun K hK => ?_) AllReadyH.nil
  go_simp
  refine (cdel_any A6 nm c6 Ms ⟨#[108, 111, 115, 116, 43, 102, 111, 117, 110, 100]⟩ _ R6.out (Nat.le_trans (by rw [HNM.out]; exact HMl.out) (by decide : 61 ≤ 1000000)) C6.out M6.out).mono ?_
  rintro e wh ⟨A7, n7, c7, rfl, hr7, hc7, hm7, hb⟩
  replace HB := Lib.hid (HB.out.trans (hb.mono HB.out.size))
  replace Bb := Lib.hid (Bb.out.below hb Bb.out.lt)
  replace R2 := Lib.hid ((R2.out.below hb).more hb.size)
  replace R4 := Lib.hid ((R4.out.below hb).more hb.size)
  replace BA := Lib.hid (BA.out.below hb HP4.out)
  replace HP4 := Lib.hid (Nat.lt_of_lt_of_le HP4.out hb.size)
  rw [HDD.out] at hr7
  obtain rfl : nw = n7 := HNW.out.trans (bk_len hr7)
  have R7 := Lib.hid hr7
  clear hb hr7
  refine hK.out _ _ (⟨bk_cells2 Bb.out, BA.out⟩) (fun hHeld => ?_)
  clear hK K
  try simp only [Act.put, List.setIfInBounds_toArray, List.set_cons_zero, List.set_cons_succ]
  refine wpAnyH_ready (rs := [33]) (by kernel_rfl) (by simp) ?_
  refine AllReadyH.consL rfl (fun K hK => ?_) AllReadyH.nil
  go_simp
  refine (same6_yes A7 nw c7 A2 c2 Wa _ R7.out R2.out (Nat.le_trans (by rw [HNW.out]; exact HWl.out) (by decide : 60 ≤ maxLen))).mono ?_
  rintro e wi ⟨rfl, q, hq⟩
  replace HB := Lib.hid (show Below w.heap.size w wi by rw [hq]; exact below_drewN HB.out q)
  replace Bb := Lib.hid (show Blk wi _ _ _ by rw [hq]; exact Bb.out.drewN q)
  replace BA := Lib.hid (show BkAt wi _ _ by rw [hq]; exact BA.out)
  replace HP4 := Lib.hid (show _ < wi.heap.size by rw [hq]; exact HP4.out)
  replace R2 := Lib.hid (show Reads wi wi.heap.size 3 _ _ _ by rw [hq]; exact R2.out.drewN q)
  replace R4 := Lib.hid (show Reads wi wi.heap.size 3 _ _ _ by rw [hq]; exact R4.out.drewN q)
  clear hq
  refine hK.out _ _ (⟨bk_cells2 Bb.out, BA.out⟩) (fun hHeld => ?_)
  clear hK K
  try simp only [Act.put, List.setIfInBounds_toArray, List.set_cons_zero, List.set_cons_succ]
  refine wpAnyH_takeL (i := 34) (v := ?_) rfl (by kernel_rfl) (by kernel_rfl) (by kernel_rfl) (fun _ _ _ h => h) (Or.inl ⟨by rfl, ?_⟩) (by first | trivial | assumption) ?_
  rotate_left
  · intro wz hSz; (try dsimp only at hSz); go_simp; (try with_reducible rfl)
  try simp only [Act.put, List.setIfInBounds_toArray, List.set_cons_zero, List.set_cons_succ]
  refine wpAnyH_takeL (i := 35) (v := ?_) rfl (by kernel_rfl) (by kernel_rfl) (by kernel_rfl) (fun _ _ _ h => h) (Or.inl ⟨by rfl, ?_⟩) (by first | trivial | assumption) ?_
  rotate_left
  · intro wz hSz; (try dsimp only at hSz); go_simp; (try with_reducible rfl)
  try simp only [Act.put, List.setIfInBounds_toArray, List.set_cons_zero, List.set_cons_succ]
  refine wpAnyH_done (by kernel_rfl) ?_ _
  go_wp2_with fail
  go_ret
  exact ⟨rfl, HB.out⟩
theorem clost_walk (size : Int) (A : Option Addr) (m c : Nat) (l : List Bk) (root keys : Int) (w : World) (_h0 : (Lit.int .i64 size).wf = true) (hl : Bks w w.heap.size A m c l) (h2 : (Lit.int .u32 root).wf = true) (_h3 : (Lit.int .i64 keys).wf = true) :
    Calls Try.prog 6 #[.int .i64 size, .slice A m c, .int .u32 root, .int .i64 keys] w fun e w' => e = .returned (.bool true) ∧ Below w.heap.size w w' := by
  have hu := lit_u32' h2
  obtain ⟨r0, rfl⟩ := Int.eq_ofNat_of_zero_le hu.1
  obtain ⟨hr, hmc, hcm, hm, hok⟩ := hl
  rcases hli : lightB l with _ | _
  · exact clost_no size A m c l r0 keys w hr hm hmc hcm hli
  rcases hy : mayC size 2 0 l with _ | _
  · exact clost_bad size A m c l r0 keys w hr hm hmc hcm hli hy
  obtain ⟨h60, _⟩ := light_size hli fun b hb => (hok b hb).2
  rw [bk_len hr] at h60
  obtain ⟨z, rfl, _, _, _⟩ := good_nat (by simp only [mayC, mayL, Bool.and_eq_true] at hy; exact hy.1.2.1 : goodSize size = true)
  exact clost_main z A m c l r0 keys w hr hm hmc hcm hli hy h60 (by omega)
end Go.Proofs.Ytgljmcameeeaiaa
