/-
  The walk of the statement LeafCalls: from every start, at every argument, it returns true and changes no block that was there before.
-/
import Derived.Test.YtinojpcjbjjlbaaJ45
import Derived.Test.YtinojpcjbjjlbaaJ46
import Derived.Test.YtinojpcjbjjlbaaJ47
import Derived.Test.YtinojpcjbjjlbaaJ23
import Derived.Test.YtinojpcjbjjlbaaJ26
import Derived.Deep.CutRange
import Derived.Deep.RegionHeld3
namespace Go.Proofs.Ytinojpcjbjjlbaa
open Go.RowKit
open Go.Lib hiding intOf
set_option linter.unusedVariables false
set_option linter.unusedSimpArgs false
attribute [local go_sem ↓] Go.wp_at_zero Go.wp_at_succ

theorem page_eql_yesD (a0 a1 a2 a3 a4 : Int) (a5 : ByteArray) (w : World) : (binOp .eql 26 (.agg #[.int .i64 a0, .int .i64 a1, .int .u32 a2, .int .u32 a3, .int .u64 a4, .string a5]) (.agg #[.int .i64 a0, .int .i64 a1, .int .u32 a2, .int .u32 a3, .int .u64 a4, .string a5])).run Try.prog w = .ok (.bool true) w := by
  simp [go_sem]
theorem rfind8_bel (A : Option Addr) (n c : Nat) (l : List It) (key : ByteArray) (w : World) {B : Nat} (hr : Reads w B 5 A n (itc l)) (hn : n ≤ 2513169434916) :
    Calls Try.prog 20 #[.slice A n c, .string key] w fun e w' => e = .returned (.tuple #[.int .i64 (findN l key), .bool (findB l key)]) ∧ Below w.heap.size w w' :=
  (rfind8_any A n c l key w hr hn).mono fun _ _ ⟨he, q, hq⟩ => ⟨he, by rw [hq]; exact below_drewN (Below.refl _ _) q⟩
theorem ofpost8_any {o : Option (List It)} {w : World} {e : Ending} {w' : World} (h : OfPost8 o w e w') : ∃ A c er, e = .returned (.tuple #[.slice A (o.getD []).length c, .int .i64 er]) ∧ er = (if o.isSome then (0 : Int) else 4) ∧ Reads w' w'.heap.size 5 A (o.getD []).length (itc (o.getD [])) ∧ Below w.heap.size w w' := by
  cases o with
  | none =>
    obtain ⟨rfl, hb⟩ := h
    exact ⟨none, 0, 4, rfl, rfl, Reads.none_, hb⟩
  | some l =>
    obtain ⟨A, n, c, rfl, hr, _, _, hb⟩ := h
    obtain rfl := it_len hr
    exact ⟨A, c, 0, rfl, rfl, hr, hb⟩

set_option maxRecDepth 100000 in
set_option maxHeartbeats 12800000 in
theorem lfcalls_no (size : Int) (n tx : Nat) (A : Option Addr) (m c : Nat) (l : List It) (kd ct : Int) (pg lk ty : Nat) (bd : ByteArray) (nm : ByteArray) (by_ : Int) (w : World) (hr : Reads w w.heap.size 5 A m (itc l)) (hm : m ≤ 2513169434916) (hmc : m ≤ c) (hcm : c ≤ maxLen) (hnr : NearI l) (hl : lightI l = false) :
    Calls Try.prog 4 #[.int .i64 size, .int .u32 n, .int .u64 tx, .slice A m c, .agg #[.int .i64 kd, .int .i64 ct, .int .u32 pg, .int .u32 lk, .int .u64 ty, .string bd], .string nm, .int .i64 by_] w fun e w' => e = .returned (.bool true) ∧ Below w.heap.size w w' := by
  have HR := Lib.hid hr
  have HM := Lib.hid hm
  have HNr := Lib.hid hnr
  have HLi := Lib.hid hl
  clear hr hm hl hmc hcm hnr
  have HB := Lib.hid (Below.refl w.heap.size w)
  go_enter Try.func4, Try.ntmps4
  obtain ⟨w101, hw101⟩ : ∃ x, x = w.alloc (.cells #[.int .i64 kd, .int .i64 ct, .int .u32 pg, .int .u32 lk, .int .u64 ty, .string bd] 26) := ⟨_, rfl⟩
  have saw101 : w.heap.size = w.heap.size := by first | rfl | omega
  have ge_Pp := Lib.hid (show w.heap.size ≤ w.heap.size from saw101 ▸ HB.out.size)
  replace HB := Lib.hid (show Below w.heap.size w w101 by rw [hw101]; exact HB.out.alloc HB.out.size _)
  have Pp := Lib.hid (show Blk w101 w.heap.size 26 #[.int .i64 kd, .int .i64 ct, .int .u32 pg, .int .u32 lk, .int .u64 ty, .string bd] by rw [hw101, ← saw101]; exact Blk.new _ _ _)
  have szw101 : w101.heap.size = w.heap.size + 1 := by rw [hw101]; simp
  clear saw101 szw101
  go_wp2_with fail
  rw [← hw101]
  clear hw101
  refine (lives8_any _).mono ?_
  rintro e w102 ⟨rfl, hb⟩
  replace HB := Lib.hid (HB.out.trans (hb.mono HB.out.size))
  replace Pp := Lib.hid (Pp.out.below hb Pp.out.lt)
  clear hb
  have uPp_0 := Pp.out.cell 0
  have uPp_1 := Pp.out.cell 1
  have uPp_2 := Pp.out.cell 2
  have uPp_3 := Pp.out.cell 3
  have uPp_4 := Pp.out.cell 4
  have uPp_5 := Pp.out.cell 5
  simp at uPp_0 uPp_1 uPp_2 uPp_3 uPp_4 uPp_5
  go_wp2_with fail
  refine (light8_bel A m c l _ (HR.out.below HB.out) (Nat.le_trans HM.out (by decide)) HNr.out).mono ?_
  rintro e w103 ⟨rfl, hb⟩
  replace HB := Lib.hid (HB.out.trans (hb.mono HB.out.size))
  replace Pp := Lib.hid (Pp.out.below hb Pp.out.lt)
  clear hb
  have vPp_0 := Pp.out.cell 0
  have vPp_1 := Pp.out.cell 1
  have vPp_2 := Pp.out.cell 2
  have vPp_3 := Pp.out.cell 3
  have vPp_4 := Pp.out.cell 4
  have vPp_5 := Pp.out.cell 5
  simp at vPp_0 vPp_1 vPp_2 vPp_3 vPp_4 vPp_5
  rw [HLi.out]
  go_wp2_with fail
  go_ret
  exact ⟨rfl, HB.out⟩
set_option maxRecDepth 100000 in
set_option maxHeartbeats 12800000 in
theorem lfcalls_long (size : Int) (n tx : Nat) (A : Option Addr) (m c : Nat) (l : List It) (kd ct : Int) (pg lk ty : Nat) (bd : ByteArray) (nm : ByteArray) (by_ : Int) (w : World) (hr : Reads w w.heap.size 5 A m (itc l)) (hm : m ≤ 2513169434916) (hmc : m ≤ c) (hcm : c ≤ maxLen) (hnr : NearI l) (hl : lightI l = true) (hb : 4200 < bd.size) :
    Calls Try.prog 4 #[.int .i64 size, .int .u32 n, .int .u64 tx, .slice A m c, .agg #[.int .i64 kd, .int .i64 ct, .int .u32 pg, .int .u32 lk, .int .u64 ty, .string bd], .string nm, .int .i64 by_] w fun e w' => e = .returned (.bool true) ∧ Below w.heap.size w w' := by
  have HR := Lib.hid hr
  have HM := Lib.hid hm
  have HNr := Lib.hid hnr
  have HLi := Lib.hid hl
  have hd : decide ((4200 : Int) < bd.size) = true := by simp; omega
  have hd2 : decide (4200 < bd.size) = true := by simp; omega
  clear hb
  clear hr hm hl hmc hcm hnr
  have HB := Lib.hid (Below.refl w.heap.size w)
  go_enter Try.func4, Try.ntmps4
  obtain ⟨w101, hw101⟩ : ∃ x, x = w.alloc (.cells #[.int .i64 kd, .int .i64 ct, .int .u32 pg, .int .u32 lk, .int .u64 ty, .string bd] 26) := ⟨_, rfl⟩
  have saw101 : w.heap.size = w.heap.size := by first | rfl | omega
  have ge_Pp := Lib.hid (show w.heap.size ≤ w.heap.size from saw101 ▸ HB.out.size)
  replace HB := Lib.hid (show Below w.heap.size w w101 by rw [hw101]; exact HB.out.alloc HB.out.size _)
  have Pp := Lib.hid (show Blk w101 w.heap.size 26 #[.int .i64 kd, .int .i64 ct, .int .u32 pg, .int .u32 lk, .int .u64 ty, .string bd] by rw [hw101, ← saw101]; exact Blk.new _ _ _)
  have szw101 : w101.heap.size = w.heap.size + 1 := by rw [hw101]; simp
  clear saw101 szw101
  go_wp2_with fail
  rw [← hw101]
  clear hw101
  refine (lives8_any _).mono ?_
  rintro e w102 ⟨rfl, hb⟩
  replace HB := Lib.hid (HB.out.trans (hb.mono HB.out.size))
  replace Pp := Lib.hid (Pp.out.below hb Pp.out.lt)
  clear hb
  have uPp_0 := Pp.out.cell 0
  have uPp_1 := Pp.out.cell 1
  have uPp_2 := Pp.out.cell 2
  have uPp_3 := Pp.out.cell 3
  have uPp_4 := Pp.out.cell 4
  have uPp_5 := Pp.out.cell 5
  simp at uPp_0 uPp_1 uPp_2 uPp_3 uPp_4 uPp_5
  go_wp2_with fail
  refine (light8_bel A m c l _ (HR.out.below HB.out) (Nat.le_trans HM.out (by decide)) HNr.out).mono ?_
  rintro e w103 ⟨rfl, hb⟩
  replace HB := Lib.hid (HB.out.trans (hb.mono HB.out.size))
  replace Pp := Lib.hid (Pp.out.below hb Pp.out.lt)
  clear hb
  have vPp_0 := Pp.out.cell 0
  have vPp_1 := Pp.out.cell 1
  have vPp_2 := Pp.out.cell 2
  have vPp_3 := Pp.out.cell 3
  have vPp_4 := Pp.out.cell 4
  have vPp_5 := Pp.out.cell 5
  simp at vPp_0 vPp_1 vPp_2 vPp_3 vPp_4 vPp_5
  rw [HLi.out]
  go_wp2_with fail
  go_ret
  exact ⟨rfl, HB.out⟩
set_option maxRecDepth 100000 in
set_option maxHeartbeats 12800000 in
theorem lfcalls_far (size : Int) (n tx : Nat) (A : Option Addr) (m c : Nat) (l : List It) (kd ct : Int) (pg lk ty : Nat) (bd : ByteArray) (nm : ByteArray) (by_ : Int) (w : World) (hr : Reads w w.heap.size 5 A m (itc l)) (hm : m ≤ 2513169434916) (hmc : m ≤ c) (hcm : c ≤ maxLen) (hnr : NearI l) (hl : lightI l = true) (hb : ¬ 4200 < bd.size) (hn : 200 < nm.size) :
    Calls Try.prog 4 #[.int .i64 size, .int .u32 n, .int .u64 tx, .slice A m c, .agg #[.int .i64 kd, .int .i64 ct, .int .u32 pg, .int .u32 lk, .int .u64 ty, .string bd], .string nm, .int .i64 by_] w fun e w' => e = .returned (.bool true) ∧ Below w.heap.size w w' := by
  have HR := Lib.hid hr
  have HM := Lib.hid hm
  have HNr := Lib.hid hnr
  have HLi := Lib.hid hl
  have hd : decide ((4200 : Int) < bd.size) = false := by simp; omega
  have hd2 : decide (4200 < bd.size) = false := by simp; omega
  have hd3 : decide ((200 : Int) < nm.size) = true := by simp; omega
  have hd4 : decide (200 < nm.size) = true := by simp; omega
  clear hb hn
  clear hr hm hl hmc hcm hnr
  have HB := Lib.hid (Below.refl w.heap.size w)
  go_enter Try.func4, Try.ntmps4
  obtain ⟨w101, hw101⟩ : ∃ x, x = w.alloc (.cells #[.int .i64 kd, .int .i64 ct, .int .u32 pg, .int .u32 lk, .int .u64 ty, .string bd] 26) := ⟨_, rfl⟩
  have saw101 : w.heap.size = w.heap.size := by first | rfl | omega
  have ge_Pp := Lib.hid (show w.heap.size ≤ w.heap.size from saw101 ▸ HB.out.size)
  replace HB := Lib.hid (show Below w.heap.size w w101 by rw [hw101]; exact HB.out.alloc HB.out.size _)
  have Pp := Lib.hid (show Blk w101 w.heap.size 26 #[.int .i64 kd, .int .i64 ct, .int .u32 pg, .int .u32 lk, .int .u64 ty, .string bd] by rw [hw101, ← saw101]; exact Blk.new _ _ _)
  have szw101 : w101.heap.size = w.heap.size + 1 := by rw [hw101]; simp
  clear saw101 szw101
  go_wp2_with fail
  rw [← hw101]
  clear hw101
  refine (lives8_any _).mono ?_
  rintro e w102 ⟨rfl, hb⟩
  replace HB := Lib.hid (HB.out.trans (hb.mono HB.out.size))
  replace Pp := Lib.hid (Pp.out.below hb Pp.out.lt)
  clear hb
  have uPp_0 := Pp.out.cell 0
  have uPp_1 := Pp.out.cell 1
  have uPp_2 := Pp.out.cell 2
  have uPp_3 := Pp.out.cell 3
  have uPp_4 := Pp.out.cell 4
  have uPp_5 := Pp.out.cell 5
  simp at uPp_0 uPp_1 uPp_2 uPp_3 uPp_4 uPp_5
  go_wp2_with fail
  refine (light8_bel A m c l _ (HR.out.below HB.out) (Nat.le_trans HM.out (by decide)) HNr.out).mono ?_
  rintro e w103 ⟨rfl, hb⟩
  replace HB := Lib.hid (HB.out.trans (hb.mono HB.out.size))
  replace Pp := Lib.hid (Pp.out.below hb Pp.out.lt)
  clear hb
  have vPp_0 := Pp.out.cell 0
  have vPp_1 := Pp.out.cell 1
  have vPp_2 := Pp.out.cell 2
  have vPp_3 := Pp.out.cell 3
  have vPp_4 := Pp.out.cell 4
  have vPp_5 := Pp.out.cell 5
  simp at vPp_0 vPp_1 vPp_2 vPp_3 vPp_4 vPp_5
  rw [HLi.out]
  go_wp2_with fail
  go_ret
  exact ⟨rfl, HB.out⟩
set_option maxRecDepth 100000 in
set_option maxHeartbeats 12800000 in
theorem lfcalls_main (size : Int) (n tx : Nat) (A : Option Addr) (m c : Nat) (l : List It) (kd ct : Int) (pg lk ty : Nat) (bd : ByteArray) (nm : ByteArray) (by_ : Int) (w : World) (hr : Reads w w.heap.size 5 A m (itc l)) (hm : m ≤ 2513169434916) (hmc : m ≤ c) (hcm : c ≤ maxLen) (hnr : NearI l) (hl : lightI l = true) (hb : ¬ 4200 < bd.size) (hn : ¬ 200 < nm.size) (h60 : m ≤ 100) (hsz : sizeI l ≤ 5000) (hz64 : size ≤ 9223372036854775807) :
    Calls Try.prog 4 #[.int .i64 size, .int .u32 n, .int .u64 tx, .slice A m c, .agg #[.int .i64 kd, .int .i64 ct, .int .u32 pg, .int .u32 lk, .int .u64 ty, .string bd], .string nm, .int .i64 by_] w fun e w' => e = .returned (.bool true) ∧ Below w.heap.size w w' := by
  have HR := Lib.hid hr
  have HM := Lib.hid hm
  have HNr := Lib.hid hnr
  have HLi := Lib.hid hl
  have HMC := Lib.hid hmc
  have HCM := Lib.hid hcm
  have H60 := Lib.hid h60
  have HSZ := Lib.hid (show sizeI l ≤ 9007199254740992 by omega)
  have hd : decide ((4200 : Int) < bd.size) = false := by simp; omega
  have hd2 : decide (4200 < bd.size) = false := by simp; omega
  have hd3 : decide ((200 : Int) < nm.size) = false := by simp; omega
  have hd4 : decide (200 < nm.size) = false := by simp; omega
  obtain ⟨a0, a1, a2, a3, a4, a5, ea, HA, HA2⟩ : ∃ (a0 a1 : Int) (a2 a3 a4 : Nat) (a5 : ByteArray) (ea : Int), (∀ w' : World, Below w.heap.size w w' → Calls Try.prog 9 #[.int .i64 size, .int .u32 n, .int .u64 tx, .slice A m c] w' fun e w'' => e = .returned (.tuple #[.agg #[.int .i64 a0, .int .i64 a1, .int .u32 a2, .int .u32 a3, .int .u64 a4, .string a5], .int .i64 ea]) ∧ Below w'.heap.size w' w'') ∧ (∀ w' : World, Below w.heap.size w w' → Calls Try.prog 18 #[.int .i64 size, .int .u32 n, .int .u64 tx, .slice A m c] w' fun e w'' => e = .returned (.tuple #[.agg #[.int .i64 a0, .int .i64 a1, .int .u32 a2, .int .u32 a3, .int .u64 a4, .string a5], .int .i64 ea]) ∧ Below w'.heap.size w' w'') := by
    rcases hy : mayP8 size n tx l with _ | _
    · exact ⟨0, 0, 0, 0, 0, ByteArray.empty, 2, fun w' hb => lpage8_no size n tx A m c l w' ((hr.below hb).more hb.size) (by omega) hnr hy, fun w' hb => rpage8_no size n tx A m c l w' ((hr.below hb).more hb.size) (by omega) hnr (by omega) hy⟩
    · obtain ⟨z, rfl, _, _, _⟩ := good_nat (by simp only [mayP8, Bool.and_eq_true] at hy; exact hy.1 : goodSize size = true)
      exact ⟨_, _, _, _, _, _, _, fun w' hb => lpage8_yes z n tx A m c l w' ((hr.below hb).more hb.size) (by omega) hy, fun w' hb => rpage8_yes z n tx A m c l w' ((hr.below hb).more hb.size) (by omega) hy⟩
  have HOc := fun w => lof8_any kd ct pg lk ty bd w (by omega)
  have HOr := fun w => rof8_any kd ct pg lk ty bd w (by omega)
  obtain ⟨o, ho⟩ : ∃ o, o = readI kd ct pg lk ty bd := ⟨_, rfl⟩
  rw [← ho] at HOc HOr
  obtain ⟨KL, hKL⟩ : ∃ K, K = o.getD [] := ⟨_, rfl⟩
  obtain ⟨kn, hkn⟩ : ∃ kn, kn = KL.length := ⟨_, rfl⟩
  obtain ⟨ec, hec⟩ : ∃ ec : Int, ec = (if o.isSome then (0 : Int) else 4) := ⟨_, rfl⟩
  have HK := Lib.hid hKL
  have HKN := Lib.hid hkn
  have HEC := Lib.hid hec
  have heq := fun w => page_eql_yesD a0 a1 a2 a3 a4 a5 w
  have HKL : Hid (kn ≤ 100000) := Lib.hid (by
    rw [hkn, hKL]
    cases o with
    | none => simp
    | some k =>
      obtain ⟨h1, _, _, _, h5⟩ := readI_some ho.symm
      have h2 := mayP8_parts h1
      have h3 := good_pos h2.2.2.1
      have h4 := three_le k
      have h6 := h2.2.2.2.1.1
      simp only [Option.getD_some]
      omega)
  obtain ⟨fi, hfi⟩ : ∃ fi, fi = findN l nm := ⟨_, rfl⟩
  obtain ⟨fb, hfb⟩ : ∃ fb, fb = findB l nm := ⟨_, rfl⟩
  obtain ⟨sb, hsb⟩ : ∃ sb, sb = sizeI l := ⟨_, rfl⟩
  have HFI := Lib.hid hfi
  have HFB := Lib.hid hfb
  have HSB := Lib.hid hsb
  have HZ := Lib.hid hz64
  clear hr hm hl hb hn h60 hsz hmc hcm ho hKL hkn hec hfi hfb hsb hnr hz64
  obtain ⟨hz, hi⟩ := zero_of_info infoPg
  have HI := Lib.hid hi
  clear hi
  have HB := Lib.hid (Below.refl w.heap.size w)
  go_enter Try.func4, Try.ntmps4
  obtain ⟨w101, hw101⟩ : ∃ x, x = w.alloc (.cells #[.int .i64 kd, .int .i64 ct, .int .u32 pg, .int .u32 lk, .int .u64 ty, .string bd] 26) := ⟨_, rfl⟩
  have saw101 : w.heap.size = w.heap.size := by first | rfl | omega
  have ge_Pp := Lib.hid (show w.heap.size ≤ w.heap.size from saw101 ▸ HB.out.size)
  replace HB := Lib.hid (show Below w.heap.size w w101 by rw [hw101]; exact HB.out.alloc HB.out.size _)
  have Pp := Lib.hid (show Blk w101 w.heap.size 26 #[.int .i64 kd, .int .i64 ct, .int .u32 pg, .int .u32 lk, .int .u64 ty, .string bd] by rw [hw101, ← saw101]; exact Blk.new _ _ _)
  have szw101 : w101.heap.size = w.heap.size + 1 := by rw [hw101]; simp
  clear saw101 szw101
  go_wp2_with fail
  rw [← hw101]
  clear hw101
  refine (lives8_any _).mono ?_
  rintro e w102 ⟨rfl, hb⟩
  replace HB := Lib.hid (HB.out.trans (hb.mono HB.out.size))
  replace Pp := Lib.hid (Pp.out.below hb Pp.out.lt)
  clear hb
  have uPp_0 := Pp.out.cell 0
  have uPp_1 := Pp.out.cell 1
  have uPp_2 := Pp.out.cell 2
  have uPp_3 := Pp.out.cell 3
  have uPp_4 := Pp.out.cell 4
  have uPp_5 := Pp.out.cell 5
  simp at uPp_0 uPp_1 uPp_2 uPp_3 uPp_4 uPp_5
  go_wp2_with fail
  refine (light8_bel A m c l _ (HR.out.below HB.out) (Nat.le_trans HM.out (by decide)) HNr.out).mono ?_
  rintro e w103 ⟨rfl, hb⟩
  replace HB := Lib.hid (HB.out.trans (hb.mono HB.out.size))
  replace Pp := Lib.hid (Pp.out.below hb Pp.out.lt)
  clear hb
  have vPp_0 := Pp.out.cell 0
  have vPp_1 := Pp.out.cell 1
  have vPp_2 := Pp.out.cell 2
  have vPp_3 := Pp.out.cell 3
  have vPp_4 := Pp.out.cell 4
  have vPp_5 := Pp.out.cell 5
  simp at vPp_0 vPp_1 vPp_2 vPp_3 vPp_4 vPp_5
  rw [HLi.out]
  go_wp2_with fail
  refine (HA _ HB.out).mono ?_
  rintro e w104 ⟨rfl, hb⟩
  replace HB := Lib.hid (HB.out.trans (hb.mono HB.out.size))
  replace Pp := Lib.hid (Pp.out.below hb Pp.out.lt)
  clear hb
  clear HA
  obtain ⟨w105, hw105⟩ : ∃ x, x = w104.alloc (.cells #[.int .i64 a0, .int .i64 a1, .int .u32 a2, .int .u32 a3, .int .u64 a4, .string a5] 26) := ⟨_, rfl⟩
  have saw105 : w104.heap.size = w104.heap.size := by first | rfl | omega
  have lt_Pp_X1 := Lib.hid (show w.heap.size < w104.heap.size from saw105 ▸ Pp.out.lt)
  replace Pp := Lib.hid (show Blk w105 w.heap.size 26 #[.int .i64 kd, .int .i64 ct, .int .u32 pg, .int .u32 lk, .int .u64 ty, .string bd] by rw [hw105]; exact Pp.out.alloc _)
  have ge_X1 := Lib.hid (show w.heap.size ≤ w104.heap.size from saw105 ▸ HB.out.size)
  replace HB := Lib.hid (show Below w.heap.size w w105 by rw [hw105]; exact HB.out.alloc HB.out.size _)
  have X1 := Lib.hid (show Blk w105 w104.heap.size 26 #[.int .i64 a0, .int .i64 a1, .int .u32 a2, .int .u32 a3, .int .u64 a4, .string a5] by rw [hw105, ← saw105]; exact Blk.new _ _ _)
  have szw105 : w105.heap.size = w104.heap.size + 1 := by rw [hw105]; simp
  clear saw105 szw105
  go_wp2_with fail
  rw [← hw105]
  clear hw105
  generalize w104.heap.size = gX1 at *
  refine (HA2 _ HB.out).mono ?_
  rintro e w106 ⟨rfl, hb⟩
  replace HB := Lib.hid (HB.out.trans (hb.mono HB.out.size))
  replace Pp := Lib.hid (Pp.out.below hb Pp.out.lt)
  replace X1 := Lib.hid (X1.out.below hb X1.out.lt)
  clear hb
  clear HA2
  have lzPp := Pp.out.lt
  have dPp_0 := Pp.out.cell 0
  have dPp_1 := Pp.out.cell 1
  have dPp_2 := Pp.out.cell 2
  have dPp_3 := Pp.out.cell 3
  have dPp_4 := Pp.out.cell 4
  have dPp_5 := Pp.out.cell 5
  simp at dPp_0 dPp_1 dPp_2 dPp_3 dPp_4 dPp_5
  obtain ⟨w107, hw107⟩ : ∃ x, x = w106.alloc (.cells #[.int .i64 a0, .int .i64 a1, .int .u32 a2, .int .u32 a3, .int .u64 a4, .string a5] 26) := ⟨_, rfl⟩
  have saw107 : w106.heap.size = w106.heap.size := by first | rfl | omega
  have lt_Pp_X2 := Lib.hid (show w.heap.size < w106.heap.size from saw107 ▸ Pp.out.lt)
  replace Pp := Lib.hid (show Blk w107 w.heap.size 26 #[.int .i64 kd, .int .i64 ct, .int .u32 pg, .int .u32 lk, .int .u64 ty, .string bd] by rw [hw107]; exact Pp.out.alloc _)
  have lt_X1_X2 := Lib.hid (show gX1 < w106.heap.size from saw107 ▸ X1.out.lt)
  replace X1 := Lib.hid (show Blk w107 gX1 26 #[.int .i64 a0, .int .i64 a1, .int .u32 a2, .int .u32 a3, .int .u64 a4, .string a5] by rw [hw107]; exact X1.out.alloc _)
  have ge_X2 := Lib.hid (show w.heap.size ≤ w106.heap.size from saw107 ▸ HB.out.size)
  replace HB := Lib.hid (show Below w.heap.size w w107 by rw [hw107]; exact HB.out.alloc HB.out.size _)
  have X2 := Lib.hid (show Blk w107 w106.heap.size 26 #[.int .i64 a0, .int .i64 a1, .int .u32 a2, .int .u32 a3, .int .u64 a4, .string a5] by rw [hw107, ← saw107]; exact Blk.new _ _ _)
  have szw107 : w107.heap.size = w106.heap.size + 1 := by rw [hw107]; simp
  clear saw107 szw107
  have cPp_0 := Pp.out.cell 0
  have cPp_1 := Pp.out.cell 1
  have cPp_2 := Pp.out.cell 2
  have cPp_3 := Pp.out.cell 3
  have cPp_4 := Pp.out.cell 4
  have cPp_5 := Pp.out.cell 5
  rw [hw107] at cPp_0 cPp_1 cPp_2 cPp_3 cPp_4 cPp_5
  simp at cPp_0 cPp_1 cPp_2 cPp_3 cPp_4 cPp_5
  go_wp2_with fail
  rw [← hw107]
  clear hw107 lzPp dPp_0 dPp_1 dPp_2 dPp_3 dPp_4 dPp_5 cPp_0 cPp_1 cPp_2 cPp_3 cPp_4 cPp_5
  generalize w106.heap.size = gX2 at *
  have yPp_0 := Pp.out.cell 0
  have yPp_1 := Pp.out.cell 1
  have yPp_2 := Pp.out.cell 2
  have yPp_3 := Pp.out.cell 3
  have yPp_4 := Pp.out.cell 4
  have yPp_5 := Pp.out.cell 5
  simp at yPp_0 yPp_1 yPp_2 yPp_3 yPp_4 yPp_5
  refine (HOc _).mono ?_
  intro e w7 hpost
  obtain ⟨A7, c7, e7, rfl, he7, hr7, hb⟩ := ofpost8_any hpost
  rw [← HK.out, ← HKN.out] at hr7
  rw [← HK.out, ← HKN.out, he7, ← HEC.out]
  replace HB := Lib.hid (HB.out.trans (hb.mono HB.out.size))
  replace Pp := Lib.hid (Pp.out.below hb Pp.out.lt)
  replace X1 := Lib.hid (X1.out.below hb X1.out.lt)
  replace X2 := Lib.hid (X2.out.below hb X2.out.lt)
  have R7 := Lib.hid hr7
  clear hb hpost hr7 he7 HOc
  have v7Pp_0 := Pp.out.cell 0
  have v7Pp_1 := Pp.out.cell 1
  have v7Pp_2 := Pp.out.cell 2
  have v7Pp_3 := Pp.out.cell 3
  have v7Pp_4 := Pp.out.cell 4
  have v7Pp_5 := Pp.out.cell 5
  have v7X1_0 := X1.out.cell 0
  have v7X1_1 := X1.out.cell 1
  have v7X1_2 := X1.out.cell 2
  have v7X1_3 := X1.out.cell 3
  have v7X1_4 := X1.out.cell 4
  have v7X1_5 := X1.out.cell 5
  have v7X2_0 := X2.out.cell 0
  have v7X2_1 := X2.out.cell 1
  have v7X2_2 := X2.out.cell 2
  have v7X2_3 := X2.out.cell 3
  have v7X2_4 := X2.out.cell 4
  have v7X2_5 := X2.out.cell 5
  simp at v7Pp_0 v7Pp_1 v7Pp_2 v7Pp_3 v7Pp_4 v7Pp_5 v7X1_0 v7X1_1 v7X1_2 v7X1_3 v7X1_4 v7X1_5 v7X2_0 v7X2_1 v7X2_2 v7X2_3 v7X2_4 v7X2_5
  go_wp2_with fail
  refine (HOr _).mono ?_
  intro e w8 hpost
  obtain ⟨A8, c8, e8, rfl, he8, hr8, hb⟩ := ofpost8_any hpost
  rw [← HK.out, ← HKN.out] at hr8
  rw [← HK.out, ← HKN.out, he8, ← HEC.out]
  replace HB := Lib.hid (HB.out.trans (hb.mono HB.out.size))
  replace Pp := Lib.hid (Pp.out.below hb Pp.out.lt)
  replace X1 := Lib.hid (X1.out.below hb X1.out.lt)
  replace X2 := Lib.hid (X2.out.below hb X2.out.lt)
  replace R7 := Lib.hid ((R7.out.below hb).more hb.size)
  have R8 := Lib.hid hr8
  clear hb hpost hr8 he8 HOr
  have v8Pp_0 := Pp.out.cell 0
  have v8Pp_1 := Pp.out.cell 1
  have v8Pp_2 := Pp.out.cell 2
  have v8Pp_3 := Pp.out.cell 3
  have v8Pp_4 := Pp.out.cell 4
  have v8Pp_5 := Pp.out.cell 5
  have v8X1_0 := X1.out.cell 0
  have v8X1_1 := X1.out.cell 1
  have v8X1_2 := X1.out.cell 2
  have v8X1_3 := X1.out.cell 3
  have v8X1_4 := X1.out.cell 4
  have v8X1_5 := X1.out.cell 5
  have v8X2_0 := X2.out.cell 0
  have v8X2_1 := X2.out.cell 1
  have v8X2_2 := X2.out.cell 2
  have v8X2_3 := X2.out.cell 3
  have v8X2_4 := X2.out.cell 4
  have v8X2_5 := X2.out.cell 5
  simp at v8Pp_0 v8Pp_1 v8Pp_2 v8Pp_3 v8Pp_4 v8Pp_5 v8X1_0 v8X1_1 v8X1_2 v8X1_3 v8X1_4 v8X1_5 v8X2_0 v8X2_1 v8X2_2 v8X2_3 v8X2_4 v8X2_5
  go_wp2_with fail
  refine (lfind_any A m c l nm _ ((HR.out.below HB.out).more HB.out.size) (Nat.le_trans H60.out (by decide))).mono ?_
  rintro e we ⟨rfl, hb⟩
  replace HB := Lib.hid (HB.out.trans (hb.mono HB.out.size))
  replace Pp := Lib.hid (Pp.out.below hb Pp.out.lt)
  replace X1 := Lib.hid (X1.out.below hb X1.out.lt)
  replace X2 := Lib.hid (X2.out.below hb X2.out.lt)
  replace R7 := Lib.hid ((R7.out.below hb).more hb.size)
  replace R8 := Lib.hid ((R8.out.below hb).more hb.size)
  clear hb
  rw [← HFI.out, ← HFB.out]
  
  go_wp2_with fail
  refine (rfind8_bel A m c l nm _ ((HR.out.below HB.out).more HB.out.size) (Nat.le_trans H60.out (by decide))).mono ?_
  rintro e wf ⟨rfl, hb⟩
  replace HB := Lib.hid (HB.out.trans (hb.mono HB.out.size))
  replace Pp := Lib.hid (Pp.out.below hb Pp.out.lt)
  replace X1 := Lib.hid (X1.out.below hb X1.out.lt)
  replace X2 := Lib.hid (X2.out.below hb X2.out.lt)
  replace R7 := Lib.hid ((R7.out.below hb).more hb.size)
  replace R8 := Lib.hid ((R8.out.below hb).more hb.size)
  clear hb
  rw [← HFI.out, ← HFB.out]
  
  have zX1_0 := X1.out.cell 0
  have zX1_1 := X1.out.cell 1
  have zX1_2 := X1.out.cell 2
  have zX1_3 := X1.out.cell 3
  have zX1_4 := X1.out.cell 4
  have zX1_5 := X1.out.cell 5
  have zX2_0 := X2.out.cell 0
  have zX2_1 := X2.out.cell 1
  have zX2_2 := X2.out.cell 2
  have zX2_3 := X2.out.cell 3
  have zX2_4 := X2.out.cell 4
  have zX2_5 := X2.out.cell 5
  simp at zX1_0 zX1_1 zX1_2 zX1_3 zX1_4 zX1_5 zX2_0 zX2_1 zX2_2 zX2_3 zX2_4 zX2_5
  go_wp2_with fail
  refine (same8_yes A7 kn c7 A8 c8 KL _ R7.out R8.out (Nat.le_trans HKL.out (by decide))).mono ?_
  rintro e wa ⟨rfl, q, hq⟩
  replace HB := Lib.hid (show Below w.heap.size w wa by rw [hq]; exact below_drewN HB.out q)
  clear hq
  go_wp2_with fail
  refine (lsize_any A m c l _ ((HR.out.below HB.out).more HB.out.size) (Nat.le_trans H60.out (by decide)) HNr.out HSZ.out).mono ?_
  rintro e wb ⟨rfl, hb⟩
  replace HB := Lib.hid (HB.out.trans (hb.mono HB.out.size))
  clear hb
  rw [← HSB.out]
  
  go_wp2_with fail
  refine (rsize8_any A m c l _ ((HR.out.below HB.out).more HB.out.size) (Nat.le_trans H60.out (by decide)) HNr.out HSZ.out).mono ?_
  rintro e wd ⟨rfl, hb⟩
  replace HB := Lib.hid (HB.out.trans (hb.mono HB.out.size))
  clear hb
  rw [← HSB.out]
  
  by_cases hneg : size < 0
  · have hdn : decide (size < 0) = true := decide_eq_true hneg
    go_wp2_with fail
    go_ret
    exact ⟨rfl, HB.out⟩
  have hdn : decide (size < 0) = false := decide_eq_false hneg
  obtain ⟨z, rfl⟩ := Int.eq_ofNat_of_zero_le (by omega : 0 ≤ size)
  obtain ⟨ib, hib⟩ : ∃ ib, ib = inB z by_ := ⟨_, rfl⟩
  have hI1 := fun w => lin_any z by_ w HZ.out
  have hI2 := fun w => rin_any z by_ w HZ.out
  rw [← hib] at hI1 hI2
  clear hib
  go_wp2_with fail
  refine (hI1 _).mono ?_
  rintro e wg ⟨rfl, hb⟩
  replace HB := Lib.hid (HB.out.trans (hb.mono HB.out.size))
  clear hb
  go_wp2_with fail
  refine (hI2 _).mono ?_
  rintro e wh ⟨rfl, rfl⟩
  go_wp2_with fail
  go_ret
  exact ⟨rfl, HB.out⟩
theorem lfcalls_walk (size n0 tx0 : Int) (A : Option Addr) (m c : Nat) (l : List It) (kd ct : Int) (pg lk ty : Nat) (bd : ByteArray) (nm : ByteArray) (by_ : Int) (w : World) (h0 : (Lit.int .i64 size).wf = true) (h1 : (Lit.int .u32 n0).wf = true) (h2 : (Lit.int .u64 tx0).wf = true) (hl : Its w w.heap.size A m c l) (_h4 : pg < 4294967296 ∧ lk < 4294967296 ∧ ty < 18446744073709551616 ∧ bd.size ≤ maxLen) (_h5 : nm.size ≤ maxLen) (_h6 : (Lit.int .i64 by_).wf = true) :
    Calls Try.prog 4 #[.int .i64 size, .int .u32 n0, .int .u64 tx0, .slice A m c, .agg #[.int .i64 kd, .int .i64 ct, .int .u32 pg, .int .u32 lk, .int .u64 ty, .string bd], .string nm, .int .i64 by_] w fun e w' => e = .returned (.bool true) ∧ Below w.heap.size w w' := by
  obtain ⟨n, rfl⟩ := Int.eq_ofNat_of_zero_le (lit_u32' h1).1
  obtain ⟨tx, rfl⟩ := Int.eq_ofNat_of_zero_le (bounds_u64 h2).1
  have hnr := hl.near
  obtain ⟨hr, hmc, hcm, hm, hok⟩ := hl
  rcases hli : lightI l with _ | _
  · exact lfcalls_no size n tx A m c l kd ct pg lk ty bd nm by_ w hr hm hmc hcm hnr hli
  by_cases hb : 4200 < bd.size
  · exact lfcalls_long size n tx A m c l kd ct pg lk ty bd nm by_ w hr hm hmc hcm hnr hli hb
  by_cases hn : 200 < nm.size
  · exact lfcalls_far size n tx A m c l kd ct pg lk ty bd nm by_ w hr hm hmc hcm hnr hli hb hn
  obtain ⟨h60, hsz⟩ := light8_size hli
  rw [it_len hr] at h60
  exact lfcalls_main size n tx A m c l kd ct pg lk ty bd nm by_ w hr hm hmc hcm hnr hli hb hn h60 hsz (lit_i64' h0).2
end Go.Proofs.Ytinojpcjbjjlbaa
