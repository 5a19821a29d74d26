/-
  The walk of the statement OverBack: from every start, at every argument, it returns true and changes no block that was there before.
-/
import Derived.Test.YtihhchncglnbiaaOvLaw
import Derived.Test.YtihhchncglnbiaaOvMath3
import Derived.Test.YtihhchncglnbiaaBkOpen
import Derived.Test.YtihhchncglnbiaaFrameOpen
import Derived.Test.YtihhchncglnbiaaPgWords
import Derived.Deep.CutRange
namespace Go.Proofs.Ytihhchncglnbiaa
open Go.RowKit
open Go.Lib hiding intOf
set_option linter.unusedVariables false
set_option linter.unusedSimpArgs false
attribute [local go_sem ↓] Go.wp_at_zero Go.wp_at_succ

theorem page_eql_yes9b (a0 a1 a2 a3 a4 : Int) (a5 : ByteArray) (w : World) : (binOp .eql 27 (.agg #[.int .i64 a0, .int .i64 a1, .int .u32 a2, .int .u32 a3, .int .u64 a4, .string a5]) (.agg #[.int .i64 a0, .int .i64 a1, .int .u32 a2, .int .u32 a3, .int .u64 a4, .string a5])).run Try.prog w = .ok (.bool true) w := by
  simp [go_sem]
theorem strc_cell {w : World} {B n k : Nat} {ad : Addr} {l : List ByteArray} {s : ByteArray} (h : Reads w B 1 (some ad) n (strc l)) (hk : k < n) (hs : l[k]? = some s) : w.cell? (ad.add k) = some (.string s) := by
  obtain ⟨ad', u, ha, _, hx, hc⟩ := h.at_ hk
  injection ha with ha
  subst ha
  have : (strc l)[k]? = some (.string s) := by unfold strc; rw [List.getElem?_map, hs]; rfl
  rw [this] at hx
  injection hx with hx
  rw [hc, ← hx]

set_option maxRecDepth 100000 in
set_option maxHeartbeats 12800000 in
theorem ovback_v (size : Int) (v : ByteArray) (n : Nat) (kd ct : Int) (pg lk ty : Nat) (bd : ByteArray) (w : World) (h1 : 4200 < v.size) :
    Calls Try.prog 5 #[.int .i64 size, .string v, .int .u32 n, .agg #[.int .i64 kd, .int .i64 ct, .int .u32 pg, .int .u32 lk, .int .u64 ty, .string bd]] w fun e w' => e = .returned (.bool true) ∧ Below w.heap.size w w' := by
  have hdv : decide ((4200 : Int) < v.size) = true := by simp; omega
  have hev : decide (4200 < v.size) = true := by simp; omega
  clear h1
  have HB := Lib.hid (Below.refl w.heap.size w)
  go_enter Try.func5, Try.ntmps5
  obtain ⟨w101, hw101⟩ : ∃ x, x = w.alloc (.cells #[.int .i64 kd, .int .i64 ct, .int .u32 pg, .int .u32 lk, .int .u64 ty, .string bd] 27) := ⟨_, rfl⟩
  have saw101 : w.heap.size = w.heap.size := by first | rfl | omega
  have ge_Pp := Lib.hid (show w.heap.size ≤ w.heap.size from saw101 ▸ HB.out.size)
  replace HB := Lib.hid (show Below w.heap.size w w101 by rw [hw101]; exact HB.out.alloc HB.out.size _)
  have Pp := Lib.hid (show Blk w101 w.heap.size 27 #[.int .i64 kd, .int .i64 ct, .int .u32 pg, .int .u32 lk, .int .u64 ty, .string bd] by rw [hw101, ← saw101]; exact Blk.new _ _ _)
  have szw101 : w101.heap.size = w.heap.size + 1 := by rw [hw101]; simp
  clear saw101 szw101
  go_wp2_with fail
  rw [← hw101]
  clear hw101
  refine (lives9_any _).mono ?_
  rintro e w102 ⟨rfl, hb⟩
  replace HB := Lib.hid (HB.out.trans (hb.mono HB.out.size))
  replace Pp := Lib.hid (Pp.out.below hb Pp.out.lt)
  clear hb
  have uPp_0 := Pp.out.cell 0
  have uPp_1 := Pp.out.cell 1
  have uPp_2 := Pp.out.cell 2
  have uPp_3 := Pp.out.cell 3
  have uPp_4 := Pp.out.cell 4
  have uPp_5 := Pp.out.cell 5
  simp at uPp_0 uPp_1 uPp_2 uPp_3 uPp_4 uPp_5
  go_wp2_with fail
  go_ret
  exact ⟨rfl, HB.out⟩
set_option maxRecDepth 100000 in
set_option maxHeartbeats 12800000 in
theorem ovback_bd (size : Int) (v : ByteArray) (n : Nat) (kd ct : Int) (pg lk ty : Nat) (bd : ByteArray) (w : World) (h1 : ¬ 4200 < v.size) (h2 : 4200 < bd.size) :
    Calls Try.prog 5 #[.int .i64 size, .string v, .int .u32 n, .agg #[.int .i64 kd, .int .i64 ct, .int .u32 pg, .int .u32 lk, .int .u64 ty, .string bd]] w fun e w' => e = .returned (.bool true) ∧ Below w.heap.size w w' := by
  have hdv : decide ((4200 : Int) < v.size) = false := by simp; omega
  have hev : decide (4200 < v.size) = false := by simp; omega
  have hdbd : decide ((4200 : Int) < bd.size) = true := by simp; omega
  have hebd : decide (4200 < bd.size) = true := by simp; omega
  clear h1 h2
  have HB := Lib.hid (Below.refl w.heap.size w)
  go_enter Try.func5, Try.ntmps5
  obtain ⟨w101, hw101⟩ : ∃ x, x = w.alloc (.cells #[.int .i64 kd, .int .i64 ct, .int .u32 pg, .int .u32 lk, .int .u64 ty, .string bd] 27) := ⟨_, rfl⟩
  have saw101 : w.heap.size = w.heap.size := by first | rfl | omega
  have ge_Pp := Lib.hid (show w.heap.size ≤ w.heap.size from saw101 ▸ HB.out.size)
  replace HB := Lib.hid (show Below w.heap.size w w101 by rw [hw101]; exact HB.out.alloc HB.out.size _)
  have Pp := Lib.hid (show Blk w101 w.heap.size 27 #[.int .i64 kd, .int .i64 ct, .int .u32 pg, .int .u32 lk, .int .u64 ty, .string bd] by rw [hw101, ← saw101]; exact Blk.new _ _ _)
  have szw101 : w101.heap.size = w.heap.size + 1 := by rw [hw101]; simp
  clear saw101 szw101
  go_wp2_with fail
  rw [← hw101]
  clear hw101
  refine (lives9_any _).mono ?_
  rintro e w102 ⟨rfl, hb⟩
  replace HB := Lib.hid (HB.out.trans (hb.mono HB.out.size))
  replace Pp := Lib.hid (Pp.out.below hb Pp.out.lt)
  clear hb
  have uPp_0 := Pp.out.cell 0
  have uPp_1 := Pp.out.cell 1
  have uPp_2 := Pp.out.cell 2
  have uPp_3 := Pp.out.cell 3
  have uPp_4 := Pp.out.cell 4
  have uPp_5 := Pp.out.cell 5
  simp at uPp_0 uPp_1 uPp_2 uPp_3 uPp_4 uPp_5
  go_wp2_with fail
  go_ret
  exact ⟨rfl, HB.out⟩
set_option maxRecDepth 100000 in
set_option maxHeartbeats 12800000 in
theorem ovback_a0 (size : Int) (v : ByteArray) (n : Nat) (kd ct : Int) (pg lk ty : Nat) (bd : ByteArray) (w : World) (h1 : ¬ 4200 < v.size) (h2 : ¬ 4200 < bd.size) (hn9 : n ≤ 4294967295) (hg : goodSize size = false) (hk : readO kd ct pg lk ty bd = none) :
    Calls Try.prog 5 #[.int .i64 size, .string v, .int .u32 n, .agg #[.int .i64 kd, .int .i64 ct, .int .u32 pg, .int .u32 lk, .int .u64 ty, .string bd]] w fun e w' => e = .returned (.bool true) ∧ Below w.heap.size w w' := by
  have hdv : decide ((4200 : Int) < v.size) = false := by simp; omega
  have hev : decide (4200 < v.size) = false := by simp; omega
  have hdbd : decide ((4200 : Int) < bd.size) = false := by simp; omega
  have hebd : decide (4200 < bd.size) = false := by simp; omega
  obtain ⟨N, hN⟩ : ∃ N, N = 2 + n % 1000 := ⟨_, rfl⟩
  have hwN : IntKind.u32.wrap (2 + (n : Int) % 1000) = (N : Int) := by rw [IntKind.wrap_u32]; omega
  have hwM : Int.tmod (n : Int) 1000 = (n : Int) % 1000 := Int.tmod_eq_emod_of_nonneg (by omega)
  have hwM2 : IntKind.u32.wrap ((n : Int) % 1000) = (n : Int) % 1000 := by rw [IntKind.wrap_u32]; omega
  have HV9 := Lib.hid (show v.size ≤ 4200 by omega)
  have HBD9 := Lib.hid (show bd.size ≤ 4200 by omega)
  have hN2 : 2 ≤ N := by omega
  have hN9 : N ≤ 1001 := by omega
  have HPc := fun w => lparts_read size v w (by omega)
  have HNc := fun w => oneed_any size v.size w (by omega)
  rw [← parts_need] at HNc
  
  have hL : partsL size v = [] := by rw [partsL, hg]; rfl
  have HM := fun w => rroom_no size w hg
  obtain ⟨rr, hrr⟩ : ∃ rr : Nat, rr = 104 := ⟨_, rfl⟩
  obtain ⟨L, hLL⟩ : ∃ L, L = partsL size v := ⟨_, rfl⟩
  rw [← hLL] at HPc HNc hL
  subst hL
  have HOp := fun w => oof9_any kd ct pg lk ty bd w (by omega)
  rw [hk] at HOp
  clear h1 h2 hn9 hk hg hrr hLL
  have HN := Lib.hid hN
  clear hN
  obtain ⟨hz, hi⟩ := zero_of_info infoPg
  have HI := Lib.hid hi
  clear hi
  have HB := Lib.hid (Below.refl w.heap.size w)
  go_enter Try.func5, Try.ntmps5
  obtain ⟨w101, hw101⟩ : ∃ x, x = w.alloc (.cells #[.int .i64 kd, .int .i64 ct, .int .u32 pg, .int .u32 lk, .int .u64 ty, .string bd] 27) := ⟨_, rfl⟩
  have saw101 : w.heap.size = w.heap.size := by first | rfl | omega
  have ge_Pp := Lib.hid (show w.heap.size ≤ w.heap.size from saw101 ▸ HB.out.size)
  replace HB := Lib.hid (show Below w.heap.size w w101 by rw [hw101]; exact HB.out.alloc HB.out.size _)
  have Pp := Lib.hid (show Blk w101 w.heap.size 27 #[.int .i64 kd, .int .i64 ct, .int .u32 pg, .int .u32 lk, .int .u64 ty, .string bd] by rw [hw101, ← saw101]; exact Blk.new _ _ _)
  have szw101 : w101.heap.size = w.heap.size + 1 := by rw [hw101]; simp
  clear saw101 szw101
  go_wp2_with fail
  rw [← hw101]
  clear hw101
  refine (lives9_any _).mono ?_
  rintro e w102 ⟨rfl, hb⟩
  replace HB := Lib.hid (HB.out.trans (hb.mono HB.out.size))
  replace Pp := Lib.hid (Pp.out.below hb Pp.out.lt)
  clear hb
  have uPp_0 := Pp.out.cell 0
  have uPp_1 := Pp.out.cell 1
  have uPp_2 := Pp.out.cell 2
  have uPp_3 := Pp.out.cell 3
  have uPp_4 := Pp.out.cell 4
  have uPp_5 := Pp.out.cell 5
  simp at uPp_0 uPp_1 uPp_2 uPp_3 uPp_4 uPp_5
  go_wp2_with fail
  refine (HPc _).mono ?_
  rintro e w9 ⟨A9, c9, rfl, hr9, hb⟩
  replace HB := Lib.hid (HB.out.trans (hb.mono HB.out.size))
  replace Pp := Lib.hid (Pp.out.below hb Pp.out.lt)
  have R9 := Lib.hid hr9
  clear hb hr9 HPc
  go_wp2_with fail
  refine (HNc _).mono ?_
  rintro e w103 ⟨rfl, hb⟩
  replace HB := Lib.hid (HB.out.trans (hb.mono HB.out.size))
  replace Pp := Lib.hid (Pp.out.below hb Pp.out.lt)
  replace R9 := Lib.hid ((R9.out.below hb).more hb.size)
  clear hb
  clear HNc
  simp only [List.length_nil]
  go_wp2_with fail
  clear hwN hwM hwM2
  go_loopw [11, 12] (fun all i wr => i = .int .i64 0 ∧ all = .string ⟨#[]⟩ ∧ Hid (Blk wr w.heap.size 27 #[.int .i64 kd, .int .i64 ct, .int .u32 pg, .int .u32 lk, .int .u64 ty, .string bd]) ∧ Hid (Below w.heap.size w wr)) (fun _ _ _ => 0)
  case atStart => exact ⟨rfl, rfl, Pp, HB⟩
  case round =>
    clear Pp R9 HB
    obtain ⟨rfl, rfl, Pp, HB⟩ := hrel
    have tPp_0 := Pp.out.cell 0
    have tPp_1 := Pp.out.cell 1
    have tPp_2 := Pp.out.cell 2
    have tPp_3 := Pp.out.cell 3
    have tPp_4 := Pp.out.cell 4
    have tPp_5 := Pp.out.cell 5
    simp at tPp_0 tPp_1 tPp_2 tPp_3 tPp_4 tPp_5
    rcases hv0 : v.toList.isEmpty with _ | _
    · have hv2 : ¬ v.toList = [] := fun h => by rw [h] at hv0; simp at hv0
      go_wp2_with (go_at_call 19; refine (HM _).mono ?_; rintro e w' ⟨rfl, rfl⟩)
      refine (HOp _).mono ?_
      rintro e w7 ⟨rfl, hb⟩
      replace HB := Lib.hid (HB.out.trans (hb.mono HB.out.size))
      clear hb
      go_wp2_with fail
      go_ret
      exact ⟨rfl, HB.out⟩
    · have hv2 : v.toList = [] := List.isEmpty_iff.1 hv0
      go_wp2_with (go_at_call 19; refine (HM _).mono ?_; rintro e w' ⟨rfl, rfl⟩)
      refine (HOp _).mono ?_
      rintro e w7 ⟨rfl, hb⟩
      replace HB := Lib.hid (HB.out.trans (hb.mono HB.out.size))
      clear hb
      go_wp2_with fail
      go_ret
      exact ⟨rfl, HB.out⟩
set_option maxRecDepth 100000 in
set_option maxHeartbeats 12800000 in
theorem ovback_a1 (size : Int) (v : ByteArray) (n : Nat) (kd ct : Int) (pg lk ty : Nat) (bd : ByteArray) (w : World) (h1 : ¬ 4200 < v.size) (h2 : ¬ 4200 < bd.size) (hn9 : n ≤ 4294967295) (hg : goodSize size = false) (k : ByteArray) (hk : readO kd ct pg lk ty bd = some k) :
    Calls Try.prog 5 #[.int .i64 size, .string v, .int .u32 n, .agg #[.int .i64 kd, .int .i64 ct, .int .u32 pg, .int .u32 lk, .int .u64 ty, .string bd]] w fun e w' => e = .returned (.bool true) ∧ Below w.heap.size w w' := by
  have hdv : decide ((4200 : Int) < v.size) = false := by simp; omega
  have hev : decide (4200 < v.size) = false := by simp; omega
  have hdbd : decide ((4200 : Int) < bd.size) = false := by simp; omega
  have hebd : decide (4200 < bd.size) = false := by simp; omega
  obtain ⟨N, hN⟩ : ∃ N, N = 2 + n % 1000 := ⟨_, rfl⟩
  have hwN : IntKind.u32.wrap (2 + (n : Int) % 1000) = (N : Int) := by rw [IntKind.wrap_u32]; omega
  have hwM : Int.tmod (n : Int) 1000 = (n : Int) % 1000 := Int.tmod_eq_emod_of_nonneg (by omega)
  have hwM2 : IntKind.u32.wrap ((n : Int) % 1000) = (n : Int) % 1000 := by rw [IntKind.wrap_u32]; omega
  have HV9 := Lib.hid (show v.size ≤ 4200 by omega)
  have HBD9 := Lib.hid (show bd.size ≤ 4200 by omega)
  have hN2 : 2 ≤ N := by omega
  have hN9 : N ≤ 1001 := by omega
  have HPc := fun w => lparts_read size v w (by omega)
  have HNc := fun w => oneed_any size v.size w (by omega)
  rw [← parts_need] at HNc
  
  have hL : partsL size v = [] := by rw [partsL, hg]; rfl
  have HM := fun w => rroom_no size w hg
  obtain ⟨rr, hrr⟩ : ∃ rr : Nat, rr = 104 := ⟨_, rfl⟩
  obtain ⟨L, hLL⟩ : ∃ L, L = partsL size v := ⟨_, rfl⟩
  rw [← hLL] at HPc HNc hL
  subst hL
  have HOp := fun w => oof9_any kd ct pg lk ty bd w (by omega)
  rw [hk] at HOp
  obtain ⟨hm1, rfl, hct, hbd⟩ := readO_some hk
  obtain ⟨zz, hzz⟩ : ∃ zz, zz = bd.size + 24 := ⟨_, rfl⟩
  rw [← hzz] at hm1 hbd
  have hzi : (bd.size : Int) + 24 = (zz : Int) := by omega
  have hwz : wrap64 (zz : Int) = (zz : Int) := wrap64_nat zz (by omega)
  have HPy := fun (w : World) => opage9_yes zz pg lk ty k w hm1
  rw [← hbd, ← hct] at HPy
  have heq := fun w => page_eql_yes9b 5 ct pg lk ty bd w
  have HCT := Lib.hid hct
  clear hzz hm1 hbd hct
  clear h1 h2 hn9 hk hg hrr hLL
  have HN := Lib.hid hN
  clear hN
  obtain ⟨hz, hi⟩ := zero_of_info infoPg
  have HI := Lib.hid hi
  clear hi
  have HB := Lib.hid (Below.refl w.heap.size w)
  go_enter Try.func5, Try.ntmps5
  obtain ⟨w101, hw101⟩ : ∃ x, x = w.alloc (.cells #[.int .i64 5, .int .i64 ct, .int .u32 pg, .int .u32 lk, .int .u64 ty, .string bd] 27) := ⟨_, rfl⟩
  have saw101 : w.heap.size = w.heap.size := by first | rfl | omega
  have ge_Pp := Lib.hid (show w.heap.size ≤ w.heap.size from saw101 ▸ HB.out.size)
  replace HB := Lib.hid (show Below w.heap.size w w101 by rw [hw101]; exact HB.out.alloc HB.out.size _)
  have Pp := Lib.hid (show Blk w101 w.heap.size 27 #[.int .i64 5, .int .i64 ct, .int .u32 pg, .int .u32 lk, .int .u64 ty, .string bd] by rw [hw101, ← saw101]; exact Blk.new _ _ _)
  have szw101 : w101.heap.size = w.heap.size + 1 := by rw [hw101]; simp
  clear saw101 szw101
  go_wp2_with fail
  rw [← hw101]
  clear hw101
  refine (lives9_any _).mono ?_
  rintro e w102 ⟨rfl, hb⟩
  replace HB := Lib.hid (HB.out.trans (hb.mono HB.out.size))
  replace Pp := Lib.hid (Pp.out.below hb Pp.out.lt)
  clear hb
  have uPp_0 := Pp.out.cell 0
  have uPp_1 := Pp.out.cell 1
  have uPp_2 := Pp.out.cell 2
  have uPp_3 := Pp.out.cell 3
  have uPp_4 := Pp.out.cell 4
  have uPp_5 := Pp.out.cell 5
  simp at uPp_0 uPp_1 uPp_2 uPp_3 uPp_4 uPp_5
  go_wp2_with fail
  refine (HPc _).mono ?_
  rintro e w9 ⟨A9, c9, rfl, hr9, hb⟩
  replace HB := Lib.hid (HB.out.trans (hb.mono HB.out.size))
  replace Pp := Lib.hid (Pp.out.below hb Pp.out.lt)
  have R9 := Lib.hid hr9
  clear hb hr9 HPc
  go_wp2_with fail
  refine (HNc _).mono ?_
  rintro e w103 ⟨rfl, hb⟩
  replace HB := Lib.hid (HB.out.trans (hb.mono HB.out.size))
  replace Pp := Lib.hid (Pp.out.below hb Pp.out.lt)
  replace R9 := Lib.hid ((R9.out.below hb).more hb.size)
  clear hb
  clear HNc
  simp only [List.length_nil]
  go_wp2_with fail
  clear hwN hwM hwM2
  go_loopw [11, 12] (fun all i wr => i = .int .i64 0 ∧ all = .string ⟨#[]⟩ ∧ Hid (Blk wr w.heap.size 27 #[.int .i64 5, .int .i64 ct, .int .u32 pg, .int .u32 lk, .int .u64 ty, .string bd]) ∧ Hid (Below w.heap.size w wr)) (fun _ _ _ => 0)
  case atStart => exact ⟨rfl, rfl, Pp, HB⟩
  case round =>
    clear Pp R9 HB
    obtain ⟨rfl, rfl, Pp, HB⟩ := hrel
    have tPp_0 := Pp.out.cell 0
    have tPp_1 := Pp.out.cell 1
    have tPp_2 := Pp.out.cell 2
    have tPp_3 := Pp.out.cell 3
    have tPp_4 := Pp.out.cell 4
    have tPp_5 := Pp.out.cell 5
    simp at tPp_0 tPp_1 tPp_2 tPp_3 tPp_4 tPp_5
    rcases hv0 : v.toList.isEmpty with _ | _
    · have hv2 : ¬ v.toList = [] := fun h => by rw [h] at hv0; simp at hv0
      go_wp2_with (go_at_call 19; refine (HM _).mono ?_; rintro e w' ⟨rfl, rfl⟩)
      refine (HOp _).mono ?_
      rintro e w7 ⟨rfl, hb⟩
      replace HB := Lib.hid (HB.out.trans (hb.mono HB.out.size))
      replace Pp := Lib.hid (Pp.out.below hb Pp.out.lt)
      clear hb HOp
      have gPp_0 := Pp.out.cell 0
      have gPp_1 := Pp.out.cell 1
      have gPp_2 := Pp.out.cell 2
      have gPp_3 := Pp.out.cell 3
      have gPp_4 := Pp.out.cell 4
      have gPp_5 := Pp.out.cell 5
      simp at gPp_0 gPp_1 gPp_2 gPp_3 gPp_4 gPp_5
      go_wp2_with fail
      refine (HPy _).mono ?_
      rintro e w104 ⟨rfl, hb⟩
      replace HB := Lib.hid (HB.out.trans (hb.mono HB.out.size))
      replace Pp := Lib.hid (Pp.out.below hb Pp.out.lt)
      clear hb
      clear HPy
      obtain ⟨w105, hw105⟩ : ∃ x, x = w104.alloc (.cells #[.int .i64 5, .int .i64 ct, .int .u32 pg, .int .u32 lk, .int .u64 ty, .string bd] 27) := ⟨_, rfl⟩
      have saw105 : w104.heap.size = w104.heap.size := by first | rfl | omega
      have lt_Pp_Yy := Lib.hid (show w.heap.size < w104.heap.size from saw105 ▸ Pp.out.lt)
      replace Pp := Lib.hid (show Blk w105 w.heap.size 27 #[.int .i64 5, .int .i64 ct, .int .u32 pg, .int .u32 lk, .int .u64 ty, .string bd] by rw [hw105]; exact Pp.out.alloc _)
      have ge_Yy := Lib.hid (show w.heap.size ≤ w104.heap.size from saw105 ▸ HB.out.size)
      replace HB := Lib.hid (show Below w.heap.size w w105 by rw [hw105]; exact HB.out.alloc HB.out.size _)
      have Yy := Lib.hid (show Blk w105 w104.heap.size 27 #[.int .i64 5, .int .i64 ct, .int .u32 pg, .int .u32 lk, .int .u64 ty, .string bd] by rw [hw105, ← saw105]; exact Blk.new _ _ _)
      have szw105 : w105.heap.size = w104.heap.size + 1 := by rw [hw105]; simp
      clear saw105 szw105
      go_upto_region 27 with fail
      rw [← hw105]
      clear hw105
      generalize w104.heap.size = gYy at *
      have hPp_0 := Pp.out.cell 0
      have hPp_1 := Pp.out.cell 1
      have hPp_2 := Pp.out.cell 2
      have hPp_3 := Pp.out.cell 3
      have hPp_4 := Pp.out.cell 4
      have hPp_5 := Pp.out.cell 5
      have hYy_0 := Yy.out.cell 0
      have hYy_1 := Yy.out.cell 1
      have hYy_2 := Yy.out.cell 2
      have hYy_3 := Yy.out.cell 3
      have hYy_4 := Yy.out.cell 4
      have hYy_5 := Yy.out.cell 5
      simp at hPp_0 hPp_1 hPp_2 hPp_3 hPp_4 hPp_5 hYy_0 hYy_1 hYy_2 hYy_3 hYy_4 hYy_5
      go_wp2_with fail
      go_ret
      exact ⟨rfl, HB.out⟩
    · have hv2 : v.toList = [] := List.isEmpty_iff.1 hv0
      go_wp2_with (go_at_call 19; refine (HM _).mono ?_; rintro e w' ⟨rfl, rfl⟩)
      refine (HOp _).mono ?_
      rintro e w7 ⟨rfl, hb⟩
      replace HB := Lib.hid (HB.out.trans (hb.mono HB.out.size))
      replace Pp := Lib.hid (Pp.out.below hb Pp.out.lt)
      clear hb HOp
      have gPp_0 := Pp.out.cell 0
      have gPp_1 := Pp.out.cell 1
      have gPp_2 := Pp.out.cell 2
      have gPp_3 := Pp.out.cell 3
      have gPp_4 := Pp.out.cell 4
      have gPp_5 := Pp.out.cell 5
      simp at gPp_0 gPp_1 gPp_2 gPp_3 gPp_4 gPp_5
      go_wp2_with fail
      refine (HPy _).mono ?_
      rintro e w106 ⟨rfl, hb⟩
      replace HB := Lib.hid (HB.out.trans (hb.mono HB.out.size))
      replace Pp := Lib.hid (Pp.out.below hb Pp.out.lt)
      clear hb
      clear HPy
      obtain ⟨w107, hw107⟩ : ∃ x, x = w106.alloc (.cells #[.int .i64 5, .int .i64 ct, .int .u32 pg, .int .u32 lk, .int .u64 ty, .string bd] 27) := ⟨_, rfl⟩
      have saw107 : w106.heap.size = w106.heap.size := by first | rfl | omega
      have lt_Pp_Yy := Lib.hid (show w.heap.size < w106.heap.size from saw107 ▸ Pp.out.lt)
      replace Pp := Lib.hid (show Blk w107 w.heap.size 27 #[.int .i64 5, .int .i64 ct, .int .u32 pg, .int .u32 lk, .int .u64 ty, .string bd] by rw [hw107]; exact Pp.out.alloc _)
      have ge_Yy := Lib.hid (show w.heap.size ≤ w106.heap.size from saw107 ▸ HB.out.size)
      replace HB := Lib.hid (show Below w.heap.size w w107 by rw [hw107]; exact HB.out.alloc HB.out.size _)
      have Yy := Lib.hid (show Blk w107 w106.heap.size 27 #[.int .i64 5, .int .i64 ct, .int .u32 pg, .int .u32 lk, .int .u64 ty, .string bd] by rw [hw107, ← saw107]; exact Blk.new _ _ _)
      have szw107 : w107.heap.size = w106.heap.size + 1 := by rw [hw107]; simp
      clear saw107 szw107
      go_upto_region 27 with fail
      rw [← hw107]
      clear hw107
      generalize w106.heap.size = gYy at *
      have hPp_0 := Pp.out.cell 0
      have hPp_1 := Pp.out.cell 1
      have hPp_2 := Pp.out.cell 2
      have hPp_3 := Pp.out.cell 3
      have hPp_4 := Pp.out.cell 4
      have hPp_5 := Pp.out.cell 5
      have hYy_0 := Yy.out.cell 0
      have hYy_1 := Yy.out.cell 1
      have hYy_2 := Yy.out.cell 2
      have hYy_3 := Yy.out.cell 3
      have hYy_4 := Yy.out.cell 4
      have hYy_5 := Yy.out.cell 5
      simp at hPp_0 hPp_1 hPp_2 hPp_3 hPp_4 hPp_5 hYy_0 hYy_1 hYy_2 hYy_3 hYy_4 hYy_5
      go_wp2_with fail
      go_ret
      exact ⟨rfl, HB.out⟩
set_option maxRecDepth 100000 in
set_option maxHeartbeats 12800000 in
theorem ovback_b0 (z : Nat) (v : ByteArray) (n : Nat) (kd ct : Int) (pg lk ty : Nat) (bd : ByteArray) (w : World) (h1 : ¬ 4200 < v.size) (h2 : ¬ 4200 < bd.size) (hn9 : n ≤ 4294967295) (hg : goodSize z = true) (he : v.size = 0) (hk : readO kd ct pg lk ty bd = none) :
    Calls Try.prog 5 #[.int .i64 z, .string v, .int .u32 n, .agg #[.int .i64 kd, .int .i64 ct, .int .u32 pg, .int .u32 lk, .int .u64 ty, .string bd]] w fun e w' => e = .returned (.bool true) ∧ Below w.heap.size w w' := by
  have hdv : decide ((4200 : Int) < v.size) = false := by simp; omega
  have hev : decide (4200 < v.size) = false := by simp; omega
  have hdbd : decide ((4200 : Int) < bd.size) = false := by simp; omega
  have hebd : decide (4200 < bd.size) = false := by simp; omega
  obtain ⟨N, hN⟩ : ∃ N, N = 2 + n % 1000 := ⟨_, rfl⟩
  have hwN : IntKind.u32.wrap (2 + (n : Int) % 1000) = (N : Int) := by rw [IntKind.wrap_u32]; omega
  have hwM : Int.tmod (n : Int) 1000 = (n : Int) % 1000 := Int.tmod_eq_emod_of_nonneg (by omega)
  have hwM2 : IntKind.u32.wrap ((n : Int) % 1000) = (n : Int) % 1000 := by rw [IntKind.wrap_u32]; omega
  have HV9 := Lib.hid (show v.size ≤ 4200 by omega)
  have HBD9 := Lib.hid (show bd.size ≤ 4200 by omega)
  have hN2 : 2 ≤ N := by omega
  have hN9 : N ≤ 1001 := by omega
  have HPc := fun w => lparts_read z v w (by omega)
  have HNc := fun w => oneed_any z v.size w (by omega)
  rw [← parts_need] at HNc
  
  have hgz := good_nat hg
  obtain ⟨rr, hrr⟩ : ∃ rr, rr = z - 24 := ⟨_, rfl⟩
  have hgp := good_pos hg
  have hr0 : 0 < rr := by omega
  have HM : ∀ w : World, Calls Try.prog 19 #[.int .i64 z] w fun e w' => e = .returned (.int .i64 (rr : Int)) ∧ w = w' := fun w => (rroom_yes z w hg).mono (by rintro e w' ⟨rfl, rfl⟩; exact ⟨by rw [show (z : Int) - 24 = (rr : Int) by omega], rfl⟩)
  have hL : partsL z v = chunks rr v := by rw [partsL, hg, if_pos rfl]; congr 1; omega
  rw [hL] at HPc HNc
  have hL0 : chunks rr v = [] := by unfold chunks; rw [he, ceilD_zero hr0]; rfl
  rw [hL0] at HPc HNc
  have hemp : v.toList.isEmpty = true := by rw [List.isEmpty_iff_length_eq_zero, ByteArray.toList_eq, size_list]; omega
  have hemp2 : v.toList = [] := List.isEmpty_iff.1 hemp
  have HOp := fun w => oof9_any kd ct pg lk ty bd w (by omega)
  rw [hk] at HOp
  clear h1 h2 hn9 hk hg he hrr hL hL0 hgz hgp
  have HN := Lib.hid hN
  clear hN
  obtain ⟨hz, hi⟩ := zero_of_info infoPg
  have HI := Lib.hid hi
  clear hi
  have HB := Lib.hid (Below.refl w.heap.size w)
  go_enter Try.func5, Try.ntmps5
  obtain ⟨w101, hw101⟩ : ∃ x, x = w.alloc (.cells #[.int .i64 kd, .int .i64 ct, .int .u32 pg, .int .u32 lk, .int .u64 ty, .string bd] 27) := ⟨_, rfl⟩
  have saw101 : w.heap.size = w.heap.size := by first | rfl | omega
  have ge_Pp := Lib.hid (show w.heap.size ≤ w.heap.size from saw101 ▸ HB.out.size)
  replace HB := Lib.hid (show Below w.heap.size w w101 by rw [hw101]; exact HB.out.alloc HB.out.size _)
  have Pp := Lib.hid (show Blk w101 w.heap.size 27 #[.int .i64 kd, .int .i64 ct, .int .u32 pg, .int .u32 lk, .int .u64 ty, .string bd] by rw [hw101, ← saw101]; exact Blk.new _ _ _)
  have szw101 : w101.heap.size = w.heap.size + 1 := by rw [hw101]; simp
  clear saw101 szw101
  go_wp2_with fail
  rw [← hw101]
  clear hw101
  refine (lives9_any _).mono ?_
  rintro e w102 ⟨rfl, hb⟩
  replace HB := Lib.hid (HB.out.trans (hb.mono HB.out.size))
  replace Pp := Lib.hid (Pp.out.below hb Pp.out.lt)
  clear hb
  have uPp_0 := Pp.out.cell 0
  have uPp_1 := Pp.out.cell 1
  have uPp_2 := Pp.out.cell 2
  have uPp_3 := Pp.out.cell 3
  have uPp_4 := Pp.out.cell 4
  have uPp_5 := Pp.out.cell 5
  simp at uPp_0 uPp_1 uPp_2 uPp_3 uPp_4 uPp_5
  go_wp2_with fail
  refine (HPc _).mono ?_
  rintro e w9 ⟨A9, c9, rfl, hr9, hb⟩
  replace HB := Lib.hid (HB.out.trans (hb.mono HB.out.size))
  replace Pp := Lib.hid (Pp.out.below hb Pp.out.lt)
  have R9 := Lib.hid hr9
  clear hb hr9 HPc
  go_wp2_with fail
  refine (HNc _).mono ?_
  rintro e w103 ⟨rfl, hb⟩
  replace HB := Lib.hid (HB.out.trans (hb.mono HB.out.size))
  replace Pp := Lib.hid (Pp.out.below hb Pp.out.lt)
  replace R9 := Lib.hid ((R9.out.below hb).more hb.size)
  clear hb
  clear HNc
  simp only [List.length_nil]
  go_wp2_with fail
  clear hwN hwM hwM2
  go_loopw [11, 12] (fun all i wr => i = .int .i64 0 ∧ all = .string ⟨#[]⟩ ∧ Hid (Blk wr w.heap.size 27 #[.int .i64 kd, .int .i64 ct, .int .u32 pg, .int .u32 lk, .int .u64 ty, .string bd]) ∧ Hid (Below w.heap.size w wr)) (fun _ _ _ => 0)
  case atStart => exact ⟨rfl, rfl, Pp, HB⟩
  case round =>
    clear Pp R9 HB
    obtain ⟨rfl, rfl, Pp, HB⟩ := hrel
    have tPp_0 := Pp.out.cell 0
    have tPp_1 := Pp.out.cell 1
    have tPp_2 := Pp.out.cell 2
    have tPp_3 := Pp.out.cell 3
    have tPp_4 := Pp.out.cell 4
    have tPp_5 := Pp.out.cell 5
    simp at tPp_0 tPp_1 tPp_2 tPp_3 tPp_4 tPp_5
    go_wp2_with (go_at_call 19; refine (HM _).mono ?_; rintro e w' ⟨rfl, rfl⟩)
    refine (HOp _).mono ?_
    rintro e w7 ⟨rfl, hb⟩
    replace HB := Lib.hid (HB.out.trans (hb.mono HB.out.size))
    clear hb
    go_wp2_with fail
    go_ret
    exact ⟨rfl, HB.out⟩
set_option maxRecDepth 100000 in
set_option maxHeartbeats 12800000 in
theorem ovback_b1 (z : Nat) (v : ByteArray) (n : Nat) (kd ct : Int) (pg lk ty : Nat) (bd : ByteArray) (w : World) (h1 : ¬ 4200 < v.size) (h2 : ¬ 4200 < bd.size) (hn9 : n ≤ 4294967295) (hg : goodSize z = true) (he : v.size = 0) (k : ByteArray) (hk : readO kd ct pg lk ty bd = some k) :
    Calls Try.prog 5 #[.int .i64 z, .string v, .int .u32 n, .agg #[.int .i64 kd, .int .i64 ct, .int .u32 pg, .int .u32 lk, .int .u64 ty, .string bd]] w fun e w' => e = .returned (.bool true) ∧ Below w.heap.size w w' := by
  have hdv : decide ((4200 : Int) < v.size) = false := by simp; omega
  have hev : decide (4200 < v.size) = false := by simp; omega
  have hdbd : decide ((4200 : Int) < bd.size) = false := by simp; omega
  have hebd : decide (4200 < bd.size) = false := by simp; omega
  obtain ⟨N, hN⟩ : ∃ N, N = 2 + n % 1000 := ⟨_, rfl⟩
  have hwN : IntKind.u32.wrap (2 + (n : Int) % 1000) = (N : Int) := by rw [IntKind.wrap_u32]; omega
  have hwM : Int.tmod (n : Int) 1000 = (n : Int) % 1000 := Int.tmod_eq_emod_of_nonneg (by omega)
  have hwM2 : IntKind.u32.wrap ((n : Int) % 1000) = (n : Int) % 1000 := by rw [IntKind.wrap_u32]; omega
  have HV9 := Lib.hid (show v.size ≤ 4200 by omega)
  have HBD9 := Lib.hid (show bd.size ≤ 4200 by omega)
  have hN2 : 2 ≤ N := by omega
  have hN9 : N ≤ 1001 := by omega
  have HPc := fun w => lparts_read z v w (by omega)
  have HNc := fun w => oneed_any z v.size w (by omega)
  rw [← parts_need] at HNc
  
  have hgz := good_nat hg
  obtain ⟨rr, hrr⟩ : ∃ rr, rr = z - 24 := ⟨_, rfl⟩
  have hgp := good_pos hg
  have hr0 : 0 < rr := by omega
  have HM : ∀ w : World, Calls Try.prog 19 #[.int .i64 z] w fun e w' => e = .returned (.int .i64 (rr : Int)) ∧ w = w' := fun w => (rroom_yes z w hg).mono (by rintro e w' ⟨rfl, rfl⟩; exact ⟨by rw [show (z : Int) - 24 = (rr : Int) by omega], rfl⟩)
  have hL : partsL z v = chunks rr v := by rw [partsL, hg, if_pos rfl]; congr 1; omega
  rw [hL] at HPc HNc
  have hL0 : chunks rr v = [] := by unfold chunks; rw [he, ceilD_zero hr0]; rfl
  rw [hL0] at HPc HNc
  have hemp : v.toList.isEmpty = true := by rw [List.isEmpty_iff_length_eq_zero, ByteArray.toList_eq, size_list]; omega
  have hemp2 : v.toList = [] := List.isEmpty_iff.1 hemp
  have HOp := fun w => oof9_any kd ct pg lk ty bd w (by omega)
  rw [hk] at HOp
  obtain ⟨hm1, rfl, hct, hbd⟩ := readO_some hk
  obtain ⟨zz, hzz⟩ : ∃ zz, zz = bd.size + 24 := ⟨_, rfl⟩
  rw [← hzz] at hm1 hbd
  have hzi : (bd.size : Int) + 24 = (zz : Int) := by omega
  have hwz : wrap64 (zz : Int) = (zz : Int) := wrap64_nat zz (by omega)
  have HPy := fun (w : World) => opage9_yes zz pg lk ty k w hm1
  rw [← hbd, ← hct] at HPy
  have heq := fun w => page_eql_yes9b 5 ct pg lk ty bd w
  have HCT := Lib.hid hct
  clear hzz hm1 hbd hct
  clear h1 h2 hn9 hk hg he hrr hL hL0 hgz hgp
  have HN := Lib.hid hN
  clear hN
  obtain ⟨hz, hi⟩ := zero_of_info infoPg
  have HI := Lib.hid hi
  clear hi
  have HB := Lib.hid (Below.refl w.heap.size w)
  go_enter Try.func5, Try.ntmps5
  obtain ⟨w101, hw101⟩ : ∃ x, x = w.alloc (.cells #[.int .i64 5, .int .i64 ct, .int .u32 pg, .int .u32 lk, .int .u64 ty, .string bd] 27) := ⟨_, rfl⟩
  have saw101 : w.heap.size = w.heap.size := by first | rfl | omega
  have ge_Pp := Lib.hid (show w.heap.size ≤ w.heap.size from saw101 ▸ HB.out.size)
  replace HB := Lib.hid (show Below w.heap.size w w101 by rw [hw101]; exact HB.out.alloc HB.out.size _)
  have Pp := Lib.hid (show Blk w101 w.heap.size 27 #[.int .i64 5, .int .i64 ct, .int .u32 pg, .int .u32 lk, .int .u64 ty, .string bd] by rw [hw101, ← saw101]; exact Blk.new _ _ _)
  have szw101 : w101.heap.size = w.heap.size + 1 := by rw [hw101]; simp
  clear saw101 szw101
  go_wp2_with fail
  rw [← hw101]
  clear hw101
  refine (lives9_any _).mono ?_
  rintro e w102 ⟨rfl, hb⟩
  replace HB := Lib.hid (HB.out.trans (hb.mono HB.out.size))
  replace Pp := Lib.hid (Pp.out.below hb Pp.out.lt)
  clear hb
  have uPp_0 := Pp.out.cell 0
  have uPp_1 := Pp.out.cell 1
  have uPp_2 := Pp.out.cell 2
  have uPp_3 := Pp.out.cell 3
  have uPp_4 := Pp.out.cell 4
  have uPp_5 := Pp.out.cell 5
  simp at uPp_0 uPp_1 uPp_2 uPp_3 uPp_4 uPp_5
  go_wp2_with fail
  refine (HPc _).mono ?_
  rintro e w9 ⟨A9, c9, rfl, hr9, hb⟩
  replace HB := Lib.hid (HB.out.trans (hb.mono HB.out.size))
  replace Pp := Lib.hid (Pp.out.below hb Pp.out.lt)
  have R9 := Lib.hid hr9
  clear hb hr9 HPc
  go_wp2_with fail
  refine (HNc _).mono ?_
  rintro e w103 ⟨rfl, hb⟩
  replace HB := Lib.hid (HB.out.trans (hb.mono HB.out.size))
  replace Pp := Lib.hid (Pp.out.below hb Pp.out.lt)
  replace R9 := Lib.hid ((R9.out.below hb).more hb.size)
  clear hb
  clear HNc
  simp only [List.length_nil]
  go_wp2_with fail
  clear hwN hwM hwM2
  go_loopw [11, 12] (fun all i wr => i = .int .i64 0 ∧ all = .string ⟨#[]⟩ ∧ Hid (Blk wr w.heap.size 27 #[.int .i64 5, .int .i64 ct, .int .u32 pg, .int .u32 lk, .int .u64 ty, .string bd]) ∧ Hid (Below w.heap.size w wr)) (fun _ _ _ => 0)
  case atStart => exact ⟨rfl, rfl, Pp, HB⟩
  case round =>
    clear Pp R9 HB
    obtain ⟨rfl, rfl, Pp, HB⟩ := hrel
    have tPp_0 := Pp.out.cell 0
    have tPp_1 := Pp.out.cell 1
    have tPp_2 := Pp.out.cell 2
    have tPp_3 := Pp.out.cell 3
    have tPp_4 := Pp.out.cell 4
    have tPp_5 := Pp.out.cell 5
    simp at tPp_0 tPp_1 tPp_2 tPp_3 tPp_4 tPp_5
    go_wp2_with (go_at_call 19; refine (HM _).mono ?_; rintro e w' ⟨rfl, rfl⟩)
    refine (HOp _).mono ?_
    rintro e w7 ⟨rfl, hb⟩
    replace HB := Lib.hid (HB.out.trans (hb.mono HB.out.size))
    replace Pp := Lib.hid (Pp.out.below hb Pp.out.lt)
    clear hb HOp
    have gPp_0 := Pp.out.cell 0
    have gPp_1 := Pp.out.cell 1
    have gPp_2 := Pp.out.cell 2
    have gPp_3 := Pp.out.cell 3
    have gPp_4 := Pp.out.cell 4
    have gPp_5 := Pp.out.cell 5
    simp at gPp_0 gPp_1 gPp_2 gPp_3 gPp_4 gPp_5
    go_wp2_with fail
    refine (HPy _).mono ?_
    rintro e w104 ⟨rfl, hb⟩
    replace HB := Lib.hid (HB.out.trans (hb.mono HB.out.size))
    replace Pp := Lib.hid (Pp.out.below hb Pp.out.lt)
    clear hb
    clear HPy
    obtain ⟨w105, hw105⟩ : ∃ x, x = w104.alloc (.cells #[.int .i64 5, .int .i64 ct, .int .u32 pg, .int .u32 lk, .int .u64 ty, .string bd] 27) := ⟨_, rfl⟩
    have saw105 : w104.heap.size = w104.heap.size := by first | rfl | omega
    have lt_Pp_Yy := Lib.hid (show w.heap.size < w104.heap.size from saw105 ▸ Pp.out.lt)
    replace Pp := Lib.hid (show Blk w105 w.heap.size 27 #[.int .i64 5, .int .i64 ct, .int .u32 pg, .int .u32 lk, .int .u64 ty, .string bd] by rw [hw105]; exact Pp.out.alloc _)
    have ge_Yy := Lib.hid (show w.heap.size ≤ w104.heap.size from saw105 ▸ HB.out.size)
    replace HB := Lib.hid (show Below w.heap.size w w105 by rw [hw105]; exact HB.out.alloc HB.out.size _)
    have Yy := Lib.hid (show Blk w105 w104.heap.size 27 #[.int .i64 5, .int .i64 ct, .int .u32 pg, .int .u32 lk, .int .u64 ty, .string bd] by rw [hw105, ← saw105]; exact Blk.new _ _ _)
    have szw105 : w105.heap.size = w104.heap.size + 1 := by rw [hw105]; simp
    clear saw105 szw105
    go_upto_region 27 with fail
    rw [← hw105]
    clear hw105
    generalize w104.heap.size = gYy at *
    have hPp_0 := Pp.out.cell 0
    have hPp_1 := Pp.out.cell 1
    have hPp_2 := Pp.out.cell 2
    have hPp_3 := Pp.out.cell 3
    have hPp_4 := Pp.out.cell 4
    have hPp_5 := Pp.out.cell 5
    have hYy_0 := Yy.out.cell 0
    have hYy_1 := Yy.out.cell 1
    have hYy_2 := Yy.out.cell 2
    have hYy_3 := Yy.out.cell 3
    have hYy_4 := Yy.out.cell 4
    have hYy_5 := Yy.out.cell 5
    simp at hPp_0 hPp_1 hPp_2 hPp_3 hPp_4 hPp_5 hYy_0 hYy_1 hYy_2 hYy_3 hYy_4 hYy_5
    go_wp2_with fail
    go_ret
    exact ⟨rfl, HB.out⟩
set_option maxRecDepth 100000 in
set_option maxHeartbeats 12800000 in
theorem ovback_c0 (z : Nat) (v : ByteArray) (n : Nat) (kd ct : Int) (pg lk ty : Nat) (bd : ByteArray) (w : World) (h1 : ¬ 4200 < v.size) (h2 : ¬ 4200 < bd.size) (hn9 : n ≤ 4294967295) (hg : goodSize z = true) (he : 0 < v.size) (hk : readO kd ct pg lk ty bd = none) :
    Calls Try.prog 5 #[.int .i64 z, .string v, .int .u32 n, .agg #[.int .i64 kd, .int .i64 ct, .int .u32 pg, .int .u32 lk, .int .u64 ty, .string bd]] w fun e w' => e = .returned (.bool true) ∧ Below w.heap.size w w' := by
  have hdv : decide ((4200 : Int) < v.size) = false := by simp; omega
  have hev : decide (4200 < v.size) = false := by simp; omega
  have hdbd : decide ((4200 : Int) < bd.size) = false := by simp; omega
  have hebd : decide (4200 < bd.size) = false := by simp; omega
  obtain ⟨N, hN⟩ : ∃ N, N = 2 + n % 1000 := ⟨_, rfl⟩
  have hwN : IntKind.u32.wrap (2 + (n : Int) % 1000) = (N : Int) := by rw [IntKind.wrap_u32]; omega
  have hwM : Int.tmod (n : Int) 1000 = (n : Int) % 1000 := Int.tmod_eq_emod_of_nonneg (by omega)
  have hwM2 : IntKind.u32.wrap ((n : Int) % 1000) = (n : Int) % 1000 := by rw [IntKind.wrap_u32]; omega
  have HV9 := Lib.hid (show v.size ≤ 4200 by omega)
  have HBD9 := Lib.hid (show bd.size ≤ 4200 by omega)
  have hN2 : 2 ≤ N := by omega
  have hN9 : N ≤ 1001 := by omega
  have HPc := fun w => lparts_read z v w (by omega)
  have HNc := fun w => oneed_any z v.size w (by omega)
  rw [← parts_need] at HNc
  
  have hgz := good_nat hg
  obtain ⟨rr, hrr⟩ : ∃ rr, rr = z - 24 := ⟨_, rfl⟩
  have hgp := good_pos hg
  have hr0 : 0 < rr := by omega
  have HM : ∀ w : World, Calls Try.prog 19 #[.int .i64 z] w fun e w' => e = .returned (.int .i64 (rr : Int)) ∧ w = w' := fun w => (rroom_yes z w hg).mono (by rintro e w' ⟨rfl, rfl⟩; exact ⟨by rw [show (z : Int) - 24 = (rr : Int) by omega], rfl⟩)
  have hL : partsL z v = chunks rr v := by rw [partsL, hg, if_pos rfl]; congr 1; omega
  rw [hL] at HPc HNc
  obtain ⟨pn, hpn⟩ : ∃ pn, pn = ceilD v.size rr := ⟨_, rfl⟩
  rw [chunks_len, ← hpn] at HPc HNc
  have hp0 : 0 < pn := by rw [hpn, ceilD_pos hr0 he]; exact Nat.succ_pos _
  have hp9 : pn ≤ 4200 := by
    have h := piece_lt (n := v.size) (r := rr) (i := pn - 1) hr0 (by omega)
    have h2 : (pn - 1) * 1 ≤ (pn - 1) * rr := Nat.mul_le_mul_left _ hr0
    omega
  have hdp : decide ((0 : Int) < (pn : Int)) = true := by simp; omega
  have hdp2 : decide (0 < pn) = true := by simp; omega
  have HMay := fun i (hi : i < pn) => part_may (z := z) (n := N) (i := i) (v := v) hg (by omega) hN2 hN9 (by rw [← hrr, ← hpn]; exact hi)
  rw [← hrr, ← hpn] at HMay
  have HFull := Lib.hid (fun i (hi : i + 1 < pn) => piece_full (r := rr) (i := i) (v := v) hr0 (by rw [← hpn]; exact hi))
  have HPs := Lib.hid (fun i (hi : i < pn) => piece_size (r := rr) (i := i) (v := v) hr0 (by rw [← hpn]; exact hi))
  have hAt := fun i (hi : i < pn) => chunks_at (r := rr) (i := i) (v := v) (by rw [← hpn]; exact hi)
  have HFr := Lib.hid (fun i (hi : i < pn) => frontP_succ (r := rr) (k := i) (v := v) hr0 (by rw [← hpn]; exact hi))
  have HEnd := Lib.hid (show frontP rr v pn = v by rw [hpn]; exact frontP_end hr0)
  have HPN := Lib.hid hpn
  obtain ⟨L, hLL⟩ : ∃ L, L = chunks rr v := ⟨_, rfl⟩
  rw [← hLL] at HPc hAt
  have HAt := Lib.hid hAt
  replace HMay := Lib.hid HMay
  clear hAt
  have HOp := fun w => oof9_any kd ct pg lk ty bd w (by omega)
  rw [hk] at HOp
  clear h1 h2 hn9 hk hg he hrr hL hgz hgp hpn hLL
  have HN := Lib.hid hN
  clear hN
  obtain ⟨hz, hi⟩ := zero_of_info infoPg
  have HI := Lib.hid hi
  clear hi
  have HB := Lib.hid (Below.refl w.heap.size w)
  go_enter Try.func5, Try.ntmps5
  obtain ⟨w101, hw101⟩ : ∃ x, x = w.alloc (.cells #[.int .i64 kd, .int .i64 ct, .int .u32 pg, .int .u32 lk, .int .u64 ty, .string bd] 27) := ⟨_, rfl⟩
  have saw101 : w.heap.size = w.heap.size := by first | rfl | omega
  have ge_Pp := Lib.hid (show w.heap.size ≤ w.heap.size from saw101 ▸ HB.out.size)
  replace HB := Lib.hid (show Below w.heap.size w w101 by rw [hw101]; exact HB.out.alloc HB.out.size _)
  have Pp := Lib.hid (show Blk w101 w.heap.size 27 #[.int .i64 kd, .int .i64 ct, .int .u32 pg, .int .u32 lk, .int .u64 ty, .string bd] by rw [hw101, ← saw101]; exact Blk.new _ _ _)
  have szw101 : w101.heap.size = w.heap.size + 1 := by rw [hw101]; simp
  clear saw101 szw101
  go_wp2_with fail
  rw [← hw101]
  clear hw101
  refine (lives9_any _).mono ?_
  rintro e w102 ⟨rfl, hb⟩
  replace HB := Lib.hid (HB.out.trans (hb.mono HB.out.size))
  replace Pp := Lib.hid (Pp.out.below hb Pp.out.lt)
  clear hb
  have uPp_0 := Pp.out.cell 0
  have uPp_1 := Pp.out.cell 1
  have uPp_2 := Pp.out.cell 2
  have uPp_3 := Pp.out.cell 3
  have uPp_4 := Pp.out.cell 4
  have uPp_5 := Pp.out.cell 5
  simp at uPp_0 uPp_1 uPp_2 uPp_3 uPp_4 uPp_5
  go_wp2_with fail
  refine (HPc _).mono ?_
  rintro e w9 ⟨A9, c9, rfl, hr9, hb⟩
  replace HB := Lib.hid (HB.out.trans (hb.mono HB.out.size))
  replace Pp := Lib.hid (Pp.out.below hb Pp.out.lt)
  have R9 := Lib.hid hr9
  clear hb hr9 HPc
  go_wp2_with fail
  refine (HNc _).mono ?_
  rintro e w103 ⟨rfl, hb⟩
  replace HB := Lib.hid (HB.out.trans (hb.mono HB.out.size))
  replace Pp := Lib.hid (Pp.out.below hb Pp.out.lt)
  replace R9 := Lib.hid ((R9.out.below hb).more hb.size)
  clear hb
  clear HNc
  go_wp2_with fail
  clear hwN hwM hwM2
  go_loopw [11, 12] (fun all i wr => ∃ k : Nat, k ≤ pn ∧ i = .int .i64 k ∧ all = .string (frontP rr v k) ∧ Hid (Blk wr w.heap.size 27 #[.int .i64 kd, .int .i64 ct, .int .u32 pg, .int .u32 lk, .int .u64 ty, .string bd]) ∧ Hid (Reads wr wr.heap.size 1 A9 pn (strc L)) ∧ Hid (Below w.heap.size w wr)) (fun _ i _ => pn - (intOf i).toNat)
  case atStart => exact ⟨0, Nat.zero_le _, rfl, by rw [frontP_zero], Pp, R9, HB⟩
  case round =>
    clear Pp R9 HB
    obtain ⟨i, hi, rfl, rfl, Pp, R9, HB⟩ := hrel
    by_cases hlt : i < pn
    · skip
      obtain ⟨ad, u, rfl, -, -, -⟩ := R9.out.at_ hlt
      clear u
      have hat := HAt.out i hlt
      have hmy := HMay.out i hlt
      obtain ⟨s, hs⟩ : ∃ s, s = piece rr v i := ⟨_, rfl⟩
      have hfr := HFr.out i hlt
      have hpz := HPs.out i hlt
      rw [← hs] at hat hmy hfr hpz
      have hsr0 : i + 1 < pn → (s.size : Int) = (rr : Int) := fun h => by rw [hs, HFull.out i h]
      have HSR := Lib.hid hsr0
      clear hsr0
      have hfs : (frontP rr v i).size ≤ 4200 := by unfold frontP; rw [ByteArray.size_extract]; have := HV9.out; omega
      have hss : s.size ≤ 4200 := by have := HV9.out; rw [hpz]; omega
      obtain ⟨F, hF⟩ : ∃ F, F = frontP rr v i := ⟨_, rfl⟩
      rw [← hF] at hfr hfs ⊢
      have hFs : ¬ (9223372036854775807 < F.size + s.size) := by omega
      have HFR := Lib.hid hfr
      have HAT := Lib.hid hat
      have hi0 : (0 : Int) ≤ i := by omega
      have hi1 : (i : Int) < pn := by omega
      have hw1 : IntKind.u32.wrap (i : Int) = (i : Int) := by rw [IntKind.wrap_u32]; omega
      obtain ⟨a, ha⟩ : ∃ a, a = N + i := ⟨_, rfl⟩
      have ha1 : (N : Int) + (i : Int) = (a : Int) := by omega
      have ha2 : IntKind.u32.wrap (a : Int) = (a : Int) := by rw [IntKind.wrap_u32]; omega
      have ha3 : (a : Int) % 4294967296 = (a : Int) := by omega
      have HRD := fun (w : World) (h : mayP9 z a (nextP pn N i) 3 s = true) => oof9_any 5 s.size a (nextP pn N i) 3 (overBody z s) w (by rw [overBody_size _ _ (mayP9_parts h).2.2.1.1]; have := good_pos (mayP9_parts h).1; omega)
      rw [← ha] at hmy
      have HPG := fun (w : World) => opage9_yes z a (nextP pn N i) 3 s w hmy
      have HOF := fun (w : World) => HRD w hmy
      rw [readO_page hmy] at HOF
      obtain ⟨X, hX⟩ : ∃ X, X = overBody z s := ⟨_, rfl⟩
      rw [← hX] at HPG HOF
      obtain ⟨nx, hnx⟩ : ∃ nx, nx = nextP pn N i := ⟨_, rfl⟩
      rw [← hnx] at HPG HOF
      have HA := Lib.hid ha
      clear hat hmy hfr hfs HRD hX hs hF hpz ha
      by_cases hend : i + 1 < pn
      rotate_left
      · skip
        have hn0 : nx = 0 := by rw [hnx, nextP, if_neg hend]
        have hdl : ¬ ((i : Int) + 1 < (pn : Int)) := by omega
        have hdl2 : decide (((i : Int) + 1 < (pn : Int))) = false := decide_eq_false hdl
        clear hnx
        subst hn0
        have hc0 := strc_cell R9.out hlt HAT.out
        go_wp2_with fail
        refine (HPG _).mono ?_
        rintro e w204 ⟨rfl, hb⟩
        replace HB := Lib.hid (HB.out.trans (hb.mono HB.out.size))
        replace Pp := Lib.hid (Pp.out.below hb Pp.out.lt)
        replace R9 := Lib.hid ((R9.out.below hb).more hb.size)
        clear hb
        clear HPG hc0
        obtain ⟨w205, hw205⟩ : ∃ x, x = w204.alloc (.cells #[.int .i64 5, .int .i64 s.size, .int .u32 a, .int .u32 0, .int .u64 3, .string X] 27) := ⟨_, rfl⟩
        have saw205 : w204.heap.size = w204.heap.size := by first | rfl | omega
        have lt_Pp_Xx := Lib.hid (show w.heap.size < w204.heap.size from saw205 ▸ Pp.out.lt)
        replace Pp := Lib.hid (show Blk w205 w.heap.size 27 #[.int .i64 kd, .int .i64 ct, .int .u32 pg, .int .u32 lk, .int .u64 ty, .string bd] by rw [hw205]; exact Pp.out.alloc _)
        have ge_Xx := Lib.hid (show w.heap.size ≤ w204.heap.size from saw205 ▸ HB.out.size)
        replace HB := Lib.hid (show Below w.heap.size w w205 by rw [hw205]; exact HB.out.alloc HB.out.size _)
        replace R9 := Lib.hid (show Reads w205 w205.heap.size _ _ _ _ by rw [hw205]; exact (R9.out.alloc (Nat.le_refl _) _).more (by simp))
        have Xx := Lib.hid (show Blk w205 w204.heap.size 27 #[.int .i64 5, .int .i64 s.size, .int .u32 a, .int .u32 0, .int .u64 3, .string X] by rw [hw205, ← saw205]; exact Blk.new _ _ _)
        have szw205 : w205.heap.size = w204.heap.size + 1 := by rw [hw205]; simp
        clear saw205 szw205
        go_upto_region 17 with fail
        rw [← hw205]
        clear hw205
        generalize w204.heap.size = gXx at *
        have cXx_0 := Xx.out.cell 0
        have cXx_1 := Xx.out.cell 1
        have cXx_2 := Xx.out.cell 2
        have cXx_3 := Xx.out.cell 3
        have cXx_4 := Xx.out.cell 4
        have cXx_5 := Xx.out.cell 5
        simp at cXx_0 cXx_1 cXx_2 cXx_3 cXx_4 cXx_5
        go_wp2_with fail
        refine (HOF _).mono ?_
        rintro e w7 ⟨rfl, hb⟩
        replace HB := Lib.hid (HB.out.trans (hb.mono HB.out.size))
        replace Pp := Lib.hid (Pp.out.below hb Pp.out.lt)
        replace Xx := Lib.hid (Xx.out.below hb Xx.out.lt)
        replace R9 := Lib.hid ((R9.out.below hb).more hb.size)
        clear hb HOF
        have hc0 := strc_cell R9.out hlt HAT.out
        go_wp2_with fail
        go_roundw
        case rel =>
          first
            | exact ⟨i + 1, by omega, by go_num, by rw [HFR.out], Pp, R9, HB⟩
            | ((repeat apply Exists.intro); exact ⟨⟨i + 1, by omega, by go_num, by rw [HFR.out], Pp, R9, HB⟩, rfl⟩)
        case measure => simp [intOf]; omega
      have hn0 : nx = a + 1 := by rw [hnx, nextP, if_pos hend, HA.out]
      have hdl : ((i : Int) + 1 < (pn : Int)) := by omega
      have hdl2 : decide (((i : Int) + 1 < (pn : Int))) = true := decide_eq_true hdl
      have hsr := HSR.out hend
      have hb1 : (a : Int) + 1 = (nx : Int) := by omega
      have hb2 : IntKind.u32.wrap (nx : Int) = (nx : Int) := by rw [IntKind.wrap_u32]; omega
      have hb3 : (nx : Int) % 4294967296 = (nx : Int) := by omega
      have hb4 : ((nx : Int) != 0) = true := by simp; omega
      have hb5 : (nx != 0) = true := by simp; omega
      have HN0 := Lib.hid hn0
      have HRS := Lib.hid hsr
      clear hnx hn0 hsr
      have hc0 := strc_cell R9.out hlt HAT.out
      go_wp2_with fail
      refine (HPG _).mono ?_
      rintro e w154 ⟨rfl, hb⟩
      replace HB := Lib.hid (HB.out.trans (hb.mono HB.out.size))
      replace Pp := Lib.hid (Pp.out.below hb Pp.out.lt)
      replace R9 := Lib.hid ((R9.out.below hb).more hb.size)
      clear hb
      clear HPG hc0
      obtain ⟨w155, hw155⟩ : ∃ x, x = w154.alloc (.cells #[.int .i64 5, .int .i64 s.size, .int .u32 a, .int .u32 nx, .int .u64 3, .string X] 27) := ⟨_, rfl⟩
      have saw155 : w154.heap.size = w154.heap.size := by first | rfl | omega
      have lt_Pp_Xx := Lib.hid (show w.heap.size < w154.heap.size from saw155 ▸ Pp.out.lt)
      replace Pp := Lib.hid (show Blk w155 w.heap.size 27 #[.int .i64 kd, .int .i64 ct, .int .u32 pg, .int .u32 lk, .int .u64 ty, .string bd] by rw [hw155]; exact Pp.out.alloc _)
      have ge_Xx := Lib.hid (show w.heap.size ≤ w154.heap.size from saw155 ▸ HB.out.size)
      replace HB := Lib.hid (show Below w.heap.size w w155 by rw [hw155]; exact HB.out.alloc HB.out.size _)
      replace R9 := Lib.hid (show Reads w155 w155.heap.size _ _ _ _ by rw [hw155]; exact (R9.out.alloc (Nat.le_refl _) _).more (by simp))
      have Xx := Lib.hid (show Blk w155 w154.heap.size 27 #[.int .i64 5, .int .i64 s.size, .int .u32 a, .int .u32 nx, .int .u64 3, .string X] by rw [hw155, ← saw155]; exact Blk.new _ _ _)
      have szw155 : w155.heap.size = w154.heap.size + 1 := by rw [hw155]; simp
      clear saw155 szw155
      go_upto_region 17 with fail
      rw [← hw155]
      clear hw155
      generalize w154.heap.size = gXx at *
      have cXx_0 := Xx.out.cell 0
      have cXx_1 := Xx.out.cell 1
      have cXx_2 := Xx.out.cell 2
      have cXx_3 := Xx.out.cell 3
      have cXx_4 := Xx.out.cell 4
      have cXx_5 := Xx.out.cell 5
      simp at cXx_0 cXx_1 cXx_2 cXx_3 cXx_4 cXx_5
      go_wp2_with fail
      refine (HOF _).mono ?_
      rintro e w7 ⟨rfl, hb⟩
      replace HB := Lib.hid (HB.out.trans (hb.mono HB.out.size))
      replace Pp := Lib.hid (Pp.out.below hb Pp.out.lt)
      replace Xx := Lib.hid (Xx.out.below hb Xx.out.lt)
      replace R9 := Lib.hid ((R9.out.below hb).more hb.size)
      clear hb HOF
      have hc0 := strc_cell R9.out hlt HAT.out
      rw [← HRS.out] at HM
      go_wp2_with (go_at_call 19; refine (HM _).mono ?_; rintro e w' ⟨rfl, rfl⟩)
      go_roundw
      case rel =>
        first
          | exact ⟨i + 1, by omega, by go_num, by rw [HFR.out], Pp, R9, HB⟩
          | ((repeat apply Exists.intro); exact ⟨⟨i + 1, by omega, by go_num, by rw [HFR.out], Pp, R9, HB⟩, rfl⟩)
      case measure => simp [intOf]; omega
    · skip
      obtain rfl : i = pn := by omega
      rw [HEnd.out]
      clear hlt hi HFull HPs HAt HFr HMay
      have tPp_0 := Pp.out.cell 0
      have tPp_1 := Pp.out.cell 1
      have tPp_2 := Pp.out.cell 2
      have tPp_3 := Pp.out.cell 3
      have tPp_4 := Pp.out.cell 4
      have tPp_5 := Pp.out.cell 5
      simp at tPp_0 tPp_1 tPp_2 tPp_3 tPp_4 tPp_5
      go_wp2_with fail
      refine (HOp _).mono ?_
      rintro e w7 ⟨rfl, hb⟩
      replace HB := Lib.hid (HB.out.trans (hb.mono HB.out.size))
      clear hb
      go_wp2_with fail
      go_ret
      exact ⟨rfl, HB.out⟩
set_option maxRecDepth 100000 in
set_option maxHeartbeats 12800000 in
theorem ovback_c1 (z : Nat) (v : ByteArray) (n : Nat) (kd ct : Int) (pg lk ty : Nat) (bd : ByteArray) (w : World) (h1 : ¬ 4200 < v.size) (h2 : ¬ 4200 < bd.size) (hn9 : n ≤ 4294967295) (hg : goodSize z = true) (he : 0 < v.size) (k : ByteArray) (hk : readO kd ct pg lk ty bd = some k) :
    Calls Try.prog 5 #[.int .i64 z, .string v, .int .u32 n, .agg #[.int .i64 kd, .int .i64 ct, .int .u32 pg, .int .u32 lk, .int .u64 ty, .string bd]] w fun e w' => e = .returned (.bool true) ∧ Below w.heap.size w w' := by
  have hdv : decide ((4200 : Int) < v.size) = false := by simp; omega
  have hev : decide (4200 < v.size) = false := by simp; omega
  have hdbd : decide ((4200 : Int) < bd.size) = false := by simp; omega
  have hebd : decide (4200 < bd.size) = false := by simp; omega
  obtain ⟨N, hN⟩ : ∃ N, N = 2 + n % 1000 := ⟨_, rfl⟩
  have hwN : IntKind.u32.wrap (2 + (n : Int) % 1000) = (N : Int) := by rw [IntKind.wrap_u32]; omega
  have hwM : Int.tmod (n : Int) 1000 = (n : Int) % 1000 := Int.tmod_eq_emod_of_nonneg (by omega)
  have hwM2 : IntKind.u32.wrap ((n : Int) % 1000) = (n : Int) % 1000 := by rw [IntKind.wrap_u32]; omega
  have HV9 := Lib.hid (show v.size ≤ 4200 by omega)
  have HBD9 := Lib.hid (show bd.size ≤ 4200 by omega)
  have hN2 : 2 ≤ N := by omega
  have hN9 : N ≤ 1001 := by omega
  have HPc := fun w => lparts_read z v w (by omega)
  have HNc := fun w => oneed_any z v.size w (by omega)
  rw [← parts_need] at HNc
  
  have hgz := good_nat hg
  obtain ⟨rr, hrr⟩ : ∃ rr, rr = z - 24 := ⟨_, rfl⟩
  have hgp := good_pos hg
  have hr0 : 0 < rr := by omega
  have HM : ∀ w : World, Calls Try.prog 19 #[.int .i64 z] w fun e w' => e = .returned (.int .i64 (rr : Int)) ∧ w = w' := fun w => (rroom_yes z w hg).mono (by rintro e w' ⟨rfl, rfl⟩; exact ⟨by rw [show (z : Int) - 24 = (rr : Int) by omega], rfl⟩)
  have hL : partsL z v = chunks rr v := by rw [partsL, hg, if_pos rfl]; congr 1; omega
  rw [hL] at HPc HNc
  obtain ⟨pn, hpn⟩ : ∃ pn, pn = ceilD v.size rr := ⟨_, rfl⟩
  rw [chunks_len, ← hpn] at HPc HNc
  have hp0 : 0 < pn := by rw [hpn, ceilD_pos hr0 he]; exact Nat.succ_pos _
  have hp9 : pn ≤ 4200 := by
    have h := piece_lt (n := v.size) (r := rr) (i := pn - 1) hr0 (by omega)
    have h2 : (pn - 1) * 1 ≤ (pn - 1) * rr := Nat.mul_le_mul_left _ hr0
    omega
  have hdp : decide ((0 : Int) < (pn : Int)) = true := by simp; omega
  have hdp2 : decide (0 < pn) = true := by simp; omega
  have HMay := fun i (hi : i < pn) => part_may (z := z) (n := N) (i := i) (v := v) hg (by omega) hN2 hN9 (by rw [← hrr, ← hpn]; exact hi)
  rw [← hrr, ← hpn] at HMay
  have HFull := Lib.hid (fun i (hi : i + 1 < pn) => piece_full (r := rr) (i := i) (v := v) hr0 (by rw [← hpn]; exact hi))
  have HPs := Lib.hid (fun i (hi : i < pn) => piece_size (r := rr) (i := i) (v := v) hr0 (by rw [← hpn]; exact hi))
  have hAt := fun i (hi : i < pn) => chunks_at (r := rr) (i := i) (v := v) (by rw [← hpn]; exact hi)
  have HFr := Lib.hid (fun i (hi : i < pn) => frontP_succ (r := rr) (k := i) (v := v) hr0 (by rw [← hpn]; exact hi))
  have HEnd := Lib.hid (show frontP rr v pn = v by rw [hpn]; exact frontP_end hr0)
  have HPN := Lib.hid hpn
  obtain ⟨L, hLL⟩ : ∃ L, L = chunks rr v := ⟨_, rfl⟩
  rw [← hLL] at HPc hAt
  have HAt := Lib.hid hAt
  replace HMay := Lib.hid HMay
  clear hAt
  have HOp := fun w => oof9_any kd ct pg lk ty bd w (by omega)
  rw [hk] at HOp
  obtain ⟨hm1, rfl, hct, hbd⟩ := readO_some hk
  obtain ⟨zz, hzz⟩ : ∃ zz, zz = bd.size + 24 := ⟨_, rfl⟩
  rw [← hzz] at hm1 hbd
  have hzi : (bd.size : Int) + 24 = (zz : Int) := by omega
  have hwz : wrap64 (zz : Int) = (zz : Int) := wrap64_nat zz (by omega)
  have HPy := fun (w : World) => opage9_yes zz pg lk ty k w hm1
  rw [← hbd, ← hct] at HPy
  have heq := fun w => page_eql_yes9b 5 ct pg lk ty bd w
  have HCT := Lib.hid hct
  clear hzz hm1 hbd hct
  clear h1 h2 hn9 hk hg he hrr hL hgz hgp hpn hLL
  have HN := Lib.hid hN
  clear hN
  obtain ⟨hz, hi⟩ := zero_of_info infoPg
  have HI := Lib.hid hi
  clear hi
  have HB := Lib.hid (Below.refl w.heap.size w)
  go_enter Try.func5, Try.ntmps5
  obtain ⟨w101, hw101⟩ : ∃ x, x = w.alloc (.cells #[.int .i64 5, .int .i64 ct, .int .u32 pg, .int .u32 lk, .int .u64 ty, .string bd] 27) := ⟨_, rfl⟩
  have saw101 : w.heap.size = w.heap.size := by first | rfl | omega
  have ge_Pp := Lib.hid (show w.heap.size ≤ w.heap.size from saw101 ▸ HB.out.size)
  replace HB := Lib.hid (show Below w.heap.size w w101 by rw [hw101]; exact HB.out.alloc HB.out.size _)
  have Pp := Lib.hid (show Blk w101 w.heap.size 27 #[.int .i64 5, .int .i64 ct, .int .u32 pg, .int .u32 lk, .int .u64 ty, .string bd] by rw [hw101, ← saw101]; exact Blk.new _ _ _)
  have szw101 : w101.heap.size = w.heap.size + 1 := by rw [hw101]; simp
  clear saw101 szw101
  go_wp2_with fail
  rw [← hw101]
  clear hw101
  refine (lives9_any _).mono ?_
  rintro e w102 ⟨rfl, hb⟩
  replace HB := Lib.hid (HB.out.trans (hb.mono HB.out.size))
  replace Pp := Lib.hid (Pp.out.below hb Pp.out.lt)
  clear hb
  have uPp_0 := Pp.out.cell 0
  have uPp_1 := Pp.out.cell 1
  have uPp_2 := Pp.out.cell 2
  have uPp_3 := Pp.out.cell 3
  have uPp_4 := Pp.out.cell 4
  have uPp_5 := Pp.out.cell 5
  simp at uPp_0 uPp_1 uPp_2 uPp_3 uPp_4 uPp_5
  go_wp2_with fail
  refine (HPc _).mono ?_
  rintro e w9 ⟨A9, c9, rfl, hr9, hb⟩
  replace HB := Lib.hid (HB.out.trans (hb.mono HB.out.size))
  replace Pp := Lib.hid (Pp.out.below hb Pp.out.lt)
  have R9 := Lib.hid hr9
  clear hb hr9 HPc
  go_wp2_with fail
  refine (HNc _).mono ?_
  rintro e w103 ⟨rfl, hb⟩
  replace HB := Lib.hid (HB.out.trans (hb.mono HB.out.size))
  replace Pp := Lib.hid (Pp.out.below hb Pp.out.lt)
  replace R9 := Lib.hid ((R9.out.below hb).more hb.size)
  clear hb
  clear HNc
  go_wp2_with fail
  clear hwN hwM hwM2
  go_loopw [11, 12] (fun all i wr => ∃ k : Nat, k ≤ pn ∧ i = .int .i64 k ∧ all = .string (frontP rr v k) ∧ Hid (Blk wr w.heap.size 27 #[.int .i64 5, .int .i64 ct, .int .u32 pg, .int .u32 lk, .int .u64 ty, .string bd]) ∧ Hid (Reads wr wr.heap.size 1 A9 pn (strc L)) ∧ Hid (Below w.heap.size w wr)) (fun _ i _ => pn - (intOf i).toNat)
  case atStart => exact ⟨0, Nat.zero_le _, rfl, by rw [frontP_zero], Pp, R9, HB⟩
  case round =>
    clear Pp R9 HB
    obtain ⟨i, hi, rfl, rfl, Pp, R9, HB⟩ := hrel
    by_cases hlt : i < pn
    · skip
      obtain ⟨ad, u, rfl, -, -, -⟩ := R9.out.at_ hlt
      clear u
      have hat := HAt.out i hlt
      have hmy := HMay.out i hlt
      obtain ⟨s, hs⟩ : ∃ s, s = piece rr v i := ⟨_, rfl⟩
      have hfr := HFr.out i hlt
      have hpz := HPs.out i hlt
      rw [← hs] at hat hmy hfr hpz
      have hsr0 : i + 1 < pn → (s.size : Int) = (rr : Int) := fun h => by rw [hs, HFull.out i h]
      have HSR := Lib.hid hsr0
      clear hsr0
      have hfs : (frontP rr v i).size ≤ 4200 := by unfold frontP; rw [ByteArray.size_extract]; have := HV9.out; omega
      have hss : s.size ≤ 4200 := by have := HV9.out; rw [hpz]; omega
      obtain ⟨F, hF⟩ : ∃ F, F = frontP rr v i := ⟨_, rfl⟩
      rw [← hF] at hfr hfs ⊢
      have hFs : ¬ (9223372036854775807 < F.size + s.size) := by omega
      have HFR := Lib.hid hfr
      have HAT := Lib.hid hat
      have hi0 : (0 : Int) ≤ i := by omega
      have hi1 : (i : Int) < pn := by omega
      have hw1 : IntKind.u32.wrap (i : Int) = (i : Int) := by rw [IntKind.wrap_u32]; omega
      obtain ⟨a, ha⟩ : ∃ a, a = N + i := ⟨_, rfl⟩
      have ha1 : (N : Int) + (i : Int) = (a : Int) := by omega
      have ha2 : IntKind.u32.wrap (a : Int) = (a : Int) := by rw [IntKind.wrap_u32]; omega
      have ha3 : (a : Int) % 4294967296 = (a : Int) := by omega
      have HRD := fun (w : World) (h : mayP9 z a (nextP pn N i) 3 s = true) => oof9_any 5 s.size a (nextP pn N i) 3 (overBody z s) w (by rw [overBody_size _ _ (mayP9_parts h).2.2.1.1]; have := good_pos (mayP9_parts h).1; omega)
      rw [← ha] at hmy
      have HPG := fun (w : World) => opage9_yes z a (nextP pn N i) 3 s w hmy
      have HOF := fun (w : World) => HRD w hmy
      rw [readO_page hmy] at HOF
      obtain ⟨X, hX⟩ : ∃ X, X = overBody z s := ⟨_, rfl⟩
      rw [← hX] at HPG HOF
      obtain ⟨nx, hnx⟩ : ∃ nx, nx = nextP pn N i := ⟨_, rfl⟩
      rw [← hnx] at HPG HOF
      have HA := Lib.hid ha
      clear hat hmy hfr hfs HRD hX hs hF hpz ha
      by_cases hend : i + 1 < pn
      rotate_left
      · skip
        have hn0 : nx = 0 := by rw [hnx, nextP, if_neg hend]
        have hdl : ¬ ((i : Int) + 1 < (pn : Int)) := by omega
        have hdl2 : decide (((i : Int) + 1 < (pn : Int))) = false := decide_eq_false hdl
        clear hnx
        subst hn0
        have hc0 := strc_cell R9.out hlt HAT.out
        go_wp2_with fail
        refine (HPG _).mono ?_
        rintro e w204 ⟨rfl, hb⟩
        replace HB := Lib.hid (HB.out.trans (hb.mono HB.out.size))
        replace Pp := Lib.hid (Pp.out.below hb Pp.out.lt)
        replace R9 := Lib.hid ((R9.out.below hb).more hb.size)
        clear hb
        clear HPG hc0
        obtain ⟨w205, hw205⟩ : ∃ x, x = w204.alloc (.cells #[.int .i64 5, .int .i64 s.size, .int .u32 a, .int .u32 0, .int .u64 3, .string X] 27) := ⟨_, rfl⟩
        have saw205 : w204.heap.size = w204.heap.size := by first | rfl | omega
        have lt_Pp_Xx := Lib.hid (show w.heap.size < w204.heap.size from saw205 ▸ Pp.out.lt)
        replace Pp := Lib.hid (show Blk w205 w.heap.size 27 #[.int .i64 5, .int .i64 ct, .int .u32 pg, .int .u32 lk, .int .u64 ty, .string bd] by rw [hw205]; exact Pp.out.alloc _)
        have ge_Xx := Lib.hid (show w.heap.size ≤ w204.heap.size from saw205 ▸ HB.out.size)
        replace HB := Lib.hid (show Below w.heap.size w w205 by rw [hw205]; exact HB.out.alloc HB.out.size _)
        replace R9 := Lib.hid (show Reads w205 w205.heap.size _ _ _ _ by rw [hw205]; exact (R9.out.alloc (Nat.le_refl _) _).more (by simp))
        have Xx := Lib.hid (show Blk w205 w204.heap.size 27 #[.int .i64 5, .int .i64 s.size, .int .u32 a, .int .u32 0, .int .u64 3, .string X] by rw [hw205, ← saw205]; exact Blk.new _ _ _)
        have szw205 : w205.heap.size = w204.heap.size + 1 := by rw [hw205]; simp
        clear saw205 szw205
        go_upto_region 17 with fail
        rw [← hw205]
        clear hw205
        generalize w204.heap.size = gXx at *
        have cXx_0 := Xx.out.cell 0
        have cXx_1 := Xx.out.cell 1
        have cXx_2 := Xx.out.cell 2
        have cXx_3 := Xx.out.cell 3
        have cXx_4 := Xx.out.cell 4
        have cXx_5 := Xx.out.cell 5
        simp at cXx_0 cXx_1 cXx_2 cXx_3 cXx_4 cXx_5
        go_wp2_with fail
        refine (HOF _).mono ?_
        rintro e w7 ⟨rfl, hb⟩
        replace HB := Lib.hid (HB.out.trans (hb.mono HB.out.size))
        replace Pp := Lib.hid (Pp.out.below hb Pp.out.lt)
        replace Xx := Lib.hid (Xx.out.below hb Xx.out.lt)
        replace R9 := Lib.hid ((R9.out.below hb).more hb.size)
        clear hb HOF
        have hc0 := strc_cell R9.out hlt HAT.out
        go_wp2_with fail
        go_roundw
        case rel =>
          first
            | exact ⟨i + 1, by omega, by go_num, by rw [HFR.out], Pp, R9, HB⟩
            | ((repeat apply Exists.intro); exact ⟨⟨i + 1, by omega, by go_num, by rw [HFR.out], Pp, R9, HB⟩, rfl⟩)
        case measure => simp [intOf]; omega
      have hn0 : nx = a + 1 := by rw [hnx, nextP, if_pos hend, HA.out]
      have hdl : ((i : Int) + 1 < (pn : Int)) := by omega
      have hdl2 : decide (((i : Int) + 1 < (pn : Int))) = true := decide_eq_true hdl
      have hsr := HSR.out hend
      have hb1 : (a : Int) + 1 = (nx : Int) := by omega
      have hb2 : IntKind.u32.wrap (nx : Int) = (nx : Int) := by rw [IntKind.wrap_u32]; omega
      have hb3 : (nx : Int) % 4294967296 = (nx : Int) := by omega
      have hb4 : ((nx : Int) != 0) = true := by simp; omega
      have hb5 : (nx != 0) = true := by simp; omega
      have HN0 := Lib.hid hn0
      have HRS := Lib.hid hsr
      clear hnx hn0 hsr
      have hc0 := strc_cell R9.out hlt HAT.out
      go_wp2_with fail
      refine (HPG _).mono ?_
      rintro e w154 ⟨rfl, hb⟩
      replace HB := Lib.hid (HB.out.trans (hb.mono HB.out.size))
      replace Pp := Lib.hid (Pp.out.below hb Pp.out.lt)
      replace R9 := Lib.hid ((R9.out.below hb).more hb.size)
      clear hb
      clear HPG hc0
      obtain ⟨w155, hw155⟩ : ∃ x, x = w154.alloc (.cells #[.int .i64 5, .int .i64 s.size, .int .u32 a, .int .u32 nx, .int .u64 3, .string X] 27) := ⟨_, rfl⟩
      have saw155 : w154.heap.size = w154.heap.size := by first | rfl | omega
      have lt_Pp_Xx := Lib.hid (show w.heap.size < w154.heap.size from saw155 ▸ Pp.out.lt)
      replace Pp := Lib.hid (show Blk w155 w.heap.size 27 #[.int .i64 5, .int .i64 ct, .int .u32 pg, .int .u32 lk, .int .u64 ty, .string bd] by rw [hw155]; exact Pp.out.alloc _)
      have ge_Xx := Lib.hid (show w.heap.size ≤ w154.heap.size from saw155 ▸ HB.out.size)
      replace HB := Lib.hid (show Below w.heap.size w w155 by rw [hw155]; exact HB.out.alloc HB.out.size _)
      replace R9 := Lib.hid (show Reads w155 w155.heap.size _ _ _ _ by rw [hw155]; exact (R9.out.alloc (Nat.le_refl _) _).more (by simp))
      have Xx := Lib.hid (show Blk w155 w154.heap.size 27 #[.int .i64 5, .int .i64 s.size, .int .u32 a, .int .u32 nx, .int .u64 3, .string X] by rw [hw155, ← saw155]; exact Blk.new _ _ _)
      have szw155 : w155.heap.size = w154.heap.size + 1 := by rw [hw155]; simp
      clear saw155 szw155
      go_upto_region 17 with fail
      rw [← hw155]
      clear hw155
      generalize w154.heap.size = gXx at *
      have cXx_0 := Xx.out.cell 0
      have cXx_1 := Xx.out.cell 1
      have cXx_2 := Xx.out.cell 2
      have cXx_3 := Xx.out.cell 3
      have cXx_4 := Xx.out.cell 4
      have cXx_5 := Xx.out.cell 5
      simp at cXx_0 cXx_1 cXx_2 cXx_3 cXx_4 cXx_5
      go_wp2_with fail
      refine (HOF _).mono ?_
      rintro e w7 ⟨rfl, hb⟩
      replace HB := Lib.hid (HB.out.trans (hb.mono HB.out.size))
      replace Pp := Lib.hid (Pp.out.below hb Pp.out.lt)
      replace Xx := Lib.hid (Xx.out.below hb Xx.out.lt)
      replace R9 := Lib.hid ((R9.out.below hb).more hb.size)
      clear hb HOF
      have hc0 := strc_cell R9.out hlt HAT.out
      rw [← HRS.out] at HM
      go_wp2_with (go_at_call 19; refine (HM _).mono ?_; rintro e w' ⟨rfl, rfl⟩)
      go_roundw
      case rel =>
        first
          | exact ⟨i + 1, by omega, by go_num, by rw [HFR.out], Pp, R9, HB⟩
          | ((repeat apply Exists.intro); exact ⟨⟨i + 1, by omega, by go_num, by rw [HFR.out], Pp, R9, HB⟩, rfl⟩)
      case measure => simp [intOf]; omega
    · skip
      obtain rfl : i = pn := by omega
      rw [HEnd.out]
      clear hlt hi HFull HPs HAt HFr HMay
      have tPp_0 := Pp.out.cell 0
      have tPp_1 := Pp.out.cell 1
      have tPp_2 := Pp.out.cell 2
      have tPp_3 := Pp.out.cell 3
      have tPp_4 := Pp.out.cell 4
      have tPp_5 := Pp.out.cell 5
      simp at tPp_0 tPp_1 tPp_2 tPp_3 tPp_4 tPp_5
      go_wp2_with fail
      refine (HOp _).mono ?_
      rintro e w7 ⟨rfl, hb⟩
      replace HB := Lib.hid (HB.out.trans (hb.mono HB.out.size))
      replace Pp := Lib.hid (Pp.out.below hb Pp.out.lt)
      clear hb HOp
      have gPp_0 := Pp.out.cell 0
      have gPp_1 := Pp.out.cell 1
      have gPp_2 := Pp.out.cell 2
      have gPp_3 := Pp.out.cell 3
      have gPp_4 := Pp.out.cell 4
      have gPp_5 := Pp.out.cell 5
      simp at gPp_0 gPp_1 gPp_2 gPp_3 gPp_4 gPp_5
      go_wp2_with fail
      refine (HPy _).mono ?_
      rintro e w104 ⟨rfl, hb⟩
      replace HB := Lib.hid (HB.out.trans (hb.mono HB.out.size))
      replace Pp := Lib.hid (Pp.out.below hb Pp.out.lt)
      clear hb
      clear HPy
      obtain ⟨w105, hw105⟩ : ∃ x, x = w104.alloc (.cells #[.int .i64 5, .int .i64 ct, .int .u32 pg, .int .u32 lk, .int .u64 ty, .string bd] 27) := ⟨_, rfl⟩
      have saw105 : w104.heap.size = w104.heap.size := by first | rfl | omega
      have lt_Pp_Yy := Lib.hid (show w.heap.size < w104.heap.size from saw105 ▸ Pp.out.lt)
      replace Pp := Lib.hid (show Blk w105 w.heap.size 27 #[.int .i64 5, .int .i64 ct, .int .u32 pg, .int .u32 lk, .int .u64 ty, .string bd] by rw [hw105]; exact Pp.out.alloc _)
      have ge_Yy := Lib.hid (show w.heap.size ≤ w104.heap.size from saw105 ▸ HB.out.size)
      replace HB := Lib.hid (show Below w.heap.size w w105 by rw [hw105]; exact HB.out.alloc HB.out.size _)
      have Yy := Lib.hid (show Blk w105 w104.heap.size 27 #[.int .i64 5, .int .i64 ct, .int .u32 pg, .int .u32 lk, .int .u64 ty, .string bd] by rw [hw105, ← saw105]; exact Blk.new _ _ _)
      have szw105 : w105.heap.size = w104.heap.size + 1 := by rw [hw105]; simp
      clear saw105 szw105
      go_upto_region 27 with fail
      rw [← hw105]
      clear hw105
      generalize w104.heap.size = gYy at *
      have hPp_0 := Pp.out.cell 0
      have hPp_1 := Pp.out.cell 1
      have hPp_2 := Pp.out.cell 2
      have hPp_3 := Pp.out.cell 3
      have hPp_4 := Pp.out.cell 4
      have hPp_5 := Pp.out.cell 5
      have hYy_0 := Yy.out.cell 0
      have hYy_1 := Yy.out.cell 1
      have hYy_2 := Yy.out.cell 2
      have hYy_3 := Yy.out.cell 3
      have hYy_4 := Yy.out.cell 4
      have hYy_5 := Yy.out.cell 5
      simp at hPp_0 hPp_1 hPp_2 hPp_3 hPp_4 hPp_5 hYy_0 hYy_1 hYy_2 hYy_3 hYy_4 hYy_5
      go_wp2_with fail
      go_ret
      exact ⟨rfl, HB.out⟩
theorem ovback_walk (size : Int) (v : ByteArray) (n0 : Int) (kd ct : Int) (pg lk ty : Nat) (bd : ByteArray) (w : World) (_h0 : (Lit.int .i64 size).wf = true) (_h1 : v.size ≤ maxLen) (h2 : (Lit.int .u32 n0).wf = true) (_h3 : pg < 4294967296 ∧ lk < 4294967296 ∧ ty < 18446744073709551616 ∧ bd.size ≤ maxLen) :
    Calls Try.prog 5 #[.int .i64 size, .string v, .int .u32 n0, .agg #[.int .i64 kd, .int .i64 ct, .int .u32 pg, .int .u32 lk, .int .u64 ty, .string bd]] w fun e w' => e = .returned (.bool true) ∧ Below w.heap.size w w' := by
  obtain ⟨n, rfl⟩ := Int.eq_ofNat_of_zero_le (lit_u32' h2).1
  have hn9 : n ≤ 4294967295 := by have := (lit_u32' h2).2; omega
  by_cases h1 : 4200 < v.size
  · exact ovback_v size v n kd ct pg lk ty bd w h1
  by_cases h2 : 4200 < bd.size
  · exact ovback_bd size v n kd ct pg lk ty bd w h1 h2
  rcases hg : goodSize size with _ | _
  · rcases hk : readO kd ct pg lk ty bd with _ | k
    · exact ovback_a0 size v n kd ct pg lk ty bd w h1 h2 hn9 hg hk
    · exact ovback_a1 size v n kd ct pg lk ty bd w h1 h2 hn9 hg k hk
  obtain ⟨z, rfl, _, _, _⟩ := good_nat hg
  by_cases he : v.size = 0
  · rcases hk : readO kd ct pg lk ty bd with _ | k
    · exact ovback_b0 z v n kd ct pg lk ty bd w h1 h2 hn9 hg he hk
    · exact ovback_b1 z v n kd ct pg lk ty bd w h1 h2 hn9 hg he k hk
  · rcases hk : readO kd ct pg lk ty bd with _ | k
    · exact ovback_c0 z v n kd ct pg lk ty bd w h1 h2 hn9 hg (by omega) hk
    · exact ovback_c1 z v n kd ct pg lk ty bd w h1 h2 hn9 hg (by omega) k hk
end Go.Proofs.Ytihhchncglnbiaa
