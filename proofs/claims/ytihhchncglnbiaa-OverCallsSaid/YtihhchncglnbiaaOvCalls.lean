/-
  The walk of the statement OverCalls: from every start, at every argument, it returns true and changes no block that was there before.
-/
import Derived.Test.YtihhchncglnbiaaOvLaw
import Derived.Test.YtihhchncglnbiaaBkOpen
import Derived.Test.YtihhchncglnbiaaPgWords
import Derived.Deep.CutRange
namespace Go.Proofs.Ytihhchncglnbiaa
open Go.RowKit
open Go.Lib hiding intOf
set_option linter.unusedVariables false
set_option linter.unusedSimpArgs false
attribute [local go_sem ↓] Go.wp_at_zero Go.wp_at_succ

theorem page_eql_yes9 (a0 a1 a2 a3 a4 : Int) (a5 : ByteArray) (w : World) : (binOp .eql 27 (.agg #[.int .i64 a0, .int .i64 a1, .int .u32 a2, .int .u32 a3, .int .u64 a4, .string a5]) (.agg #[.int .i64 a0, .int .i64 a1, .int .u32 a2, .int .u32 a3, .int .u64 a4, .string a5])).run Try.prog w = .ok (.bool true) w := by
  simp [go_sem]
theorem ofpost9_any {o : Option ByteArray} {lk : Nat} {w : World} {e : Ending} {w' : World} (h : OfPost9 o lk w e w') : e = .returned (.tuple #[.string (o.getD ⟨#[]⟩), .int .u32 ((if o.isSome then lk else 0 : Nat) : Int), .int .i64 (if o.isSome then 0 else 4)]) ∧ Below w.heap.size w w' := by
  cases o with
  | none => obtain ⟨rfl, hb⟩ := h; exact ⟨rfl, hb⟩
  | some l => obtain ⟨rfl, hb⟩ := h; exact ⟨rfl, hb⟩

set_option maxRecDepth 100000 in
set_option maxHeartbeats 12800000 in
theorem ovcalls_bs (size : Int) (n nx tx : Nat) (bs : ByteArray) (kd ct : Int) (pg lk ty : Nat) (bd : ByteArray) (v : ByteArray) (mn : Int) (w : World) (h1 : 4200 < bs.size) :
    Calls Try.prog 4 #[.int .i64 size, .int .u32 n, .int .u32 nx, .int .u64 tx, .string bs, .agg #[.int .i64 kd, .int .i64 ct, .int .u32 pg, .int .u32 lk, .int .u64 ty, .string bd], .string v, .int .i64 mn] w fun e w' => e = .returned (.bool true) ∧ Below w.heap.size w w' := by
  have hdbs : decide ((4200 : Int) < bs.size) = true := by simp; omega
  have hebs : decide (4200 < bs.size) = true := by simp; omega
  clear h1
  have HB := Lib.hid (Below.refl w.heap.size w)
  go_enter Try.func4, Try.ntmps4
  obtain ⟨w101, hw101⟩ : ∃ x, x = w.alloc (.cells #[.int .i64 kd, .int .i64 ct, .int .u32 pg, .int .u32 lk, .int .u64 ty, .string bd] 27) := ⟨_, rfl⟩
  have saw101 : w.heap.size = w.heap.size := by first | rfl | omega
  have ge_Pp := Lib.hid (show w.heap.size ≤ w.heap.size from saw101 ▸ HB.out.size)
  replace HB := Lib.hid (show Below w.heap.size w w101 by rw [hw101]; exact HB.out.alloc HB.out.size _)
  have Pp := Lib.hid (show Blk w101 w.heap.size 27 #[.int .i64 kd, .int .i64 ct, .int .u32 pg, .int .u32 lk, .int .u64 ty, .string bd] by rw [hw101, ← saw101]; exact Blk.new _ _ _)
  have szw101 : w101.heap.size = w.heap.size + 1 := by rw [hw101]; simp
  clear saw101 szw101
  go_wp2_with fail
  rw [← hw101]
  clear hw101
  refine (lives9_any _).mono ?_
  rintro e w102 ⟨rfl, hb⟩
  replace HB := Lib.hid (HB.out.trans (hb.mono HB.out.size))
  replace Pp := Lib.hid (Pp.out.below hb Pp.out.lt)
  clear hb
  have uPp_0 := Pp.out.cell 0
  have uPp_1 := Pp.out.cell 1
  have uPp_2 := Pp.out.cell 2
  have uPp_3 := Pp.out.cell 3
  have uPp_4 := Pp.out.cell 4
  have uPp_5 := Pp.out.cell 5
  simp at uPp_0 uPp_1 uPp_2 uPp_3 uPp_4 uPp_5
  go_wp2_with fail
  go_ret
  exact ⟨rfl, HB.out⟩
set_option maxRecDepth 100000 in
set_option maxHeartbeats 12800000 in
theorem ovcalls_bd (size : Int) (n nx tx : Nat) (bs : ByteArray) (kd ct : Int) (pg lk ty : Nat) (bd : ByteArray) (v : ByteArray) (mn : Int) (w : World) (h1 : ¬ 4200 < bs.size) (h2 : 4200 < bd.size) :
    Calls Try.prog 4 #[.int .i64 size, .int .u32 n, .int .u32 nx, .int .u64 tx, .string bs, .agg #[.int .i64 kd, .int .i64 ct, .int .u32 pg, .int .u32 lk, .int .u64 ty, .string bd], .string v, .int .i64 mn] w fun e w' => e = .returned (.bool true) ∧ Below w.heap.size w w' := by
  have hdbs : decide ((4200 : Int) < bs.size) = false := by simp; omega
  have hebs : decide (4200 < bs.size) = false := by simp; omega
  have hdbd : decide ((4200 : Int) < bd.size) = true := by simp; omega
  have hebd : decide (4200 < bd.size) = true := by simp; omega
  clear h1 h2
  have HB := Lib.hid (Below.refl w.heap.size w)
  go_enter Try.func4, Try.ntmps4
  obtain ⟨w101, hw101⟩ : ∃ x, x = w.alloc (.cells #[.int .i64 kd, .int .i64 ct, .int .u32 pg, .int .u32 lk, .int .u64 ty, .string bd] 27) := ⟨_, rfl⟩
  have saw101 : w.heap.size = w.heap.size := by first | rfl | omega
  have ge_Pp := Lib.hid (show w.heap.size ≤ w.heap.size from saw101 ▸ HB.out.size)
  replace HB := Lib.hid (show Below w.heap.size w w101 by rw [hw101]; exact HB.out.alloc HB.out.size _)
  have Pp := Lib.hid (show Blk w101 w.heap.size 27 #[.int .i64 kd, .int .i64 ct, .int .u32 pg, .int .u32 lk, .int .u64 ty, .string bd] by rw [hw101, ← saw101]; exact Blk.new _ _ _)
  have szw101 : w101.heap.size = w.heap.size + 1 := by rw [hw101]; simp
  clear saw101 szw101
  go_wp2_with fail
  rw [← hw101]
  clear hw101
  refine (lives9_any _).mono ?_
  rintro e w102 ⟨rfl, hb⟩
  replace HB := Lib.hid (HB.out.trans (hb.mono HB.out.size))
  replace Pp := Lib.hid (Pp.out.below hb Pp.out.lt)
  clear hb
  have uPp_0 := Pp.out.cell 0
  have uPp_1 := Pp.out.cell 1
  have uPp_2 := Pp.out.cell 2
  have uPp_3 := Pp.out.cell 3
  have uPp_4 := Pp.out.cell 4
  have uPp_5 := Pp.out.cell 5
  simp at uPp_0 uPp_1 uPp_2 uPp_3 uPp_4 uPp_5
  go_wp2_with fail
  go_ret
  exact ⟨rfl, HB.out⟩
set_option maxRecDepth 100000 in
set_option maxHeartbeats 12800000 in
theorem ovcalls_v (size : Int) (n nx tx : Nat) (bs : ByteArray) (kd ct : Int) (pg lk ty : Nat) (bd : ByteArray) (v : ByteArray) (mn : Int) (w : World) (h1 : ¬ 4200 < bs.size) (h2 : ¬ 4200 < bd.size) (h3 : 4200 < v.size) :
    Calls Try.prog 4 #[.int .i64 size, .int .u32 n, .int .u32 nx, .int .u64 tx, .string bs, .agg #[.int .i64 kd, .int .i64 ct, .int .u32 pg, .int .u32 lk, .int .u64 ty, .string bd], .string v, .int .i64 mn] w fun e w' => e = .returned (.bool true) ∧ Below w.heap.size w w' := by
  have hdbs : decide ((4200 : Int) < bs.size) = false := by simp; omega
  have hebs : decide (4200 < bs.size) = false := by simp; omega
  have hdbd : decide ((4200 : Int) < bd.size) = false := by simp; omega
  have hebd : decide (4200 < bd.size) = false := by simp; omega
  have hdv : decide ((4200 : Int) < v.size) = true := by simp; omega
  have hev : decide (4200 < v.size) = true := by simp; omega
  clear h1 h2 h3
  have HB := Lib.hid (Below.refl w.heap.size w)
  go_enter Try.func4, Try.ntmps4
  obtain ⟨w101, hw101⟩ : ∃ x, x = w.alloc (.cells #[.int .i64 kd, .int .i64 ct, .int .u32 pg, .int .u32 lk, .int .u64 ty, .string bd] 27) := ⟨_, rfl⟩
  have saw101 : w.heap.size = w.heap.size := by first | rfl | omega
  have ge_Pp := Lib.hid (show w.heap.size ≤ w.heap.size from saw101 ▸ HB.out.size)
  replace HB := Lib.hid (show Below w.heap.size w w101 by rw [hw101]; exact HB.out.alloc HB.out.size _)
  have Pp := Lib.hid (show Blk w101 w.heap.size 27 #[.int .i64 kd, .int .i64 ct, .int .u32 pg, .int .u32 lk, .int .u64 ty, .string bd] by rw [hw101, ← saw101]; exact Blk.new _ _ _)
  have szw101 : w101.heap.size = w.heap.size + 1 := by rw [hw101]; simp
  clear saw101 szw101
  go_wp2_with fail
  rw [← hw101]
  clear hw101
  refine (lives9_any _).mono ?_
  rintro e w102 ⟨rfl, hb⟩
  replace HB := Lib.hid (HB.out.trans (hb.mono HB.out.size))
  replace Pp := Lib.hid (Pp.out.below hb Pp.out.lt)
  clear hb
  have uPp_0 := Pp.out.cell 0
  have uPp_1 := Pp.out.cell 1
  have uPp_2 := Pp.out.cell 2
  have uPp_3 := Pp.out.cell 3
  have uPp_4 := Pp.out.cell 4
  have uPp_5 := Pp.out.cell 5
  simp at uPp_0 uPp_1 uPp_2 uPp_3 uPp_4 uPp_5
  go_wp2_with fail
  go_ret
  exact ⟨rfl, HB.out⟩
set_option maxRecDepth 100000 in
set_option maxHeartbeats 12800000 in
theorem ovcalls_main (size : Int) (n nx tx : Nat) (bs : ByteArray) (kd ct : Int) (pg lk ty : Nat) (bd : ByteArray) (v : ByteArray) (mn : Int) (w : World) (h1 : ¬ 4200 < bs.size) (h2 : ¬ 4200 < bd.size) (h3 : ¬ 4200 < v.size) (hm : mn ≤ 9223372036854775807) :
    Calls Try.prog 4 #[.int .i64 size, .int .u32 n, .int .u32 nx, .int .u64 tx, .string bs, .agg #[.int .i64 kd, .int .i64 ct, .int .u32 pg, .int .u32 lk, .int .u64 ty, .string bd], .string v, .int .i64 mn] w fun e w' => e = .returned (.bool true) ∧ Below w.heap.size w w' := by
  have hdbs : decide ((4200 : Int) < bs.size) = false := by simp; omega
  have hebs : decide (4200 < bs.size) = false := by simp; omega
  have hdbd : decide ((4200 : Int) < bd.size) = false := by simp; omega
  have hebd : decide (4200 < bd.size) = false := by simp; omega
  have hdv : decide ((4200 : Int) < v.size) = false := by simp; omega
  have hev : decide (4200 < v.size) = false := by simp; omega
  obtain ⟨a0, a1, a2, a3, a4, a5, ea, HA, HA2⟩ : ∃ (a0 a1 : Int) (a2 a3 a4 : Nat) (a5 : ByteArray) (ea : Int), (∀ w' : World, Calls Try.prog 10 #[.int .i64 size, .int .u32 n, .int .u32 nx, .int .u64 tx, .string bs] w' fun e w'' => e = .returned (.tuple #[.agg #[.int .i64 a0, .int .i64 a1, .int .u32 a2, .int .u32 a3, .int .u64 a4, .string a5], .int .i64 ea]) ∧ Below w'.heap.size w' w'') ∧ (∀ w' : World, Calls Try.prog 15 #[.int .i64 size, .int .u32 n, .int .u32 nx, .int .u64 tx, .string bs] w' fun e w'' => e = .returned (.tuple #[.agg #[.int .i64 a0, .int .i64 a1, .int .u32 a2, .int .u32 a3, .int .u64 a4, .string a5], .int .i64 ea]) ∧ Below w'.heap.size w' w'') := by
    rcases hy : mayP9 size n nx tx bs with _ | _
    · exact ⟨0, 0, 0, 0, 0, ByteArray.empty, 2, fun w' => opage9_no size n nx tx bs w' (by omega) hy, fun w' => rpage9_no size n nx tx bs w' (by omega) hy⟩
    · obtain ⟨z, rfl, _, _, _⟩ := good_nat (by simp only [mayP9, Bool.and_eq_true] at hy; exact hy.1 : goodSize size = true)
      exact ⟨_, _, _, _, _, _, _, fun w' => opage9_yes z n nx tx bs w' hy, fun w' => rpage9_yes z n nx tx bs w' hy⟩
  have HOc := fun w => oof9_any kd ct pg lk ty bd w (by omega)
  have HOr := fun w => rof9_any kd ct pg lk ty bd w (by omega)
  obtain ⟨o, ho⟩ : ∃ o, o = readO kd ct pg lk ty bd := ⟨_, rfl⟩
  rw [← ho] at HOc HOr
  obtain ⟨os, hos⟩ : ∃ x, x = o.getD ⟨#[]⟩ := ⟨_, rfl⟩
  obtain ⟨ol, hol⟩ : ∃ x : Nat, x = (if o.isSome then lk else 0) := ⟨_, rfl⟩
  obtain ⟨oe, hoe⟩ : ∃ x : Int, x = (if o.isSome then 0 else 4) := ⟨_, rfl⟩
  have HOS := Lib.hid hos
  have HOL := Lib.hid hol
  have HOE := Lib.hid hoe
  have HPc := fun w => lparts_read size v w (by omega)
  have HPr := fun w => rparts9_any size v w (by omega)
  obtain ⟨PL, hPL⟩ : ∃ x, x = partsL size v := ⟨_, rfl⟩
  have HLen := Lib.hid (show PL.length ≤ 1000000 by
    rw [hPL]
    unfold partsL
    split
    · rename_i hg
      obtain ⟨z, rfl, hz1, _⟩ := good_nat hg
      rw [chunks_len]
      have := ceilD_le (n := v.size) (r := ((z : Int) - 24).toNat) (by omega)
      omega
    · simp)
  rw [← hPL] at HPc HPr
  obtain ⟨pn, hpn⟩ : ∃ x, x = PL.length := ⟨_, rfl⟩
  rw [← hpn] at HPc HLen
  have HPN := Lib.hid hpn
  have HNc := fun w => oneed_any size mn w hm
  have HNr := fun w => rneed9_any size mn w hm
  obtain ⟨nn, hnn⟩ : ∃ x, x = needN size mn := ⟨_, rfl⟩
  rw [← hnn] at HNc HNr
  have heq := fun w => page_eql_yes9 a0 a1 a2 a3 a4 a5 w
  clear h1 h2 h3 hm ho hos hol hoe hPL hpn hnn
  obtain ⟨hz, hi⟩ := zero_of_info infoPg
  have HI := Lib.hid hi
  clear hi
  have HB := Lib.hid (Below.refl w.heap.size w)
  go_enter Try.func4, Try.ntmps4
  obtain ⟨w101, hw101⟩ : ∃ x, x = w.alloc (.cells #[.int .i64 kd, .int .i64 ct, .int .u32 pg, .int .u32 lk, .int .u64 ty, .string bd] 27) := ⟨_, rfl⟩
  have saw101 : w.heap.size = w.heap.size := by first | rfl | omega
  have ge_Pp := Lib.hid (show w.heap.size ≤ w.heap.size from saw101 ▸ HB.out.size)
  replace HB := Lib.hid (show Below w.heap.size w w101 by rw [hw101]; exact HB.out.alloc HB.out.size _)
  have Pp := Lib.hid (show Blk w101 w.heap.size 27 #[.int .i64 kd, .int .i64 ct, .int .u32 pg, .int .u32 lk, .int .u64 ty, .string bd] by rw [hw101, ← saw101]; exact Blk.new _ _ _)
  have szw101 : w101.heap.size = w.heap.size + 1 := by rw [hw101]; simp
  clear saw101 szw101
  go_wp2_with fail
  rw [← hw101]
  clear hw101
  refine (lives9_any _).mono ?_
  rintro e w102 ⟨rfl, hb⟩
  replace HB := Lib.hid (HB.out.trans (hb.mono HB.out.size))
  replace Pp := Lib.hid (Pp.out.below hb Pp.out.lt)
  clear hb
  have uPp_0 := Pp.out.cell 0
  have uPp_1 := Pp.out.cell 1
  have uPp_2 := Pp.out.cell 2
  have uPp_3 := Pp.out.cell 3
  have uPp_4 := Pp.out.cell 4
  have uPp_5 := Pp.out.cell 5
  simp at uPp_0 uPp_1 uPp_2 uPp_3 uPp_4 uPp_5
  go_wp2_with fail
  refine (HA _).mono ?_
  rintro e w103 ⟨rfl, hb⟩
  replace HB := Lib.hid (HB.out.trans (hb.mono HB.out.size))
  replace Pp := Lib.hid (Pp.out.below hb Pp.out.lt)
  clear hb
  clear HA
  obtain ⟨w104, hw104⟩ : ∃ x, x = w103.alloc (.cells #[.int .i64 a0, .int .i64 a1, .int .u32 a2, .int .u32 a3, .int .u64 a4, .string a5] 27) := ⟨_, rfl⟩
  have saw104 : w103.heap.size = w103.heap.size := by first | rfl | omega
  have lt_Pp_X1 := Lib.hid (show w.heap.size < w103.heap.size from saw104 ▸ Pp.out.lt)
  replace Pp := Lib.hid (show Blk w104 w.heap.size 27 #[.int .i64 kd, .int .i64 ct, .int .u32 pg, .int .u32 lk, .int .u64 ty, .string bd] by rw [hw104]; exact Pp.out.alloc _)
  have ge_X1 := Lib.hid (show w.heap.size ≤ w103.heap.size from saw104 ▸ HB.out.size)
  replace HB := Lib.hid (show Below w.heap.size w w104 by rw [hw104]; exact HB.out.alloc HB.out.size _)
  have X1 := Lib.hid (show Blk w104 w103.heap.size 27 #[.int .i64 a0, .int .i64 a1, .int .u32 a2, .int .u32 a3, .int .u64 a4, .string a5] by rw [hw104, ← saw104]; exact Blk.new _ _ _)
  have szw104 : w104.heap.size = w103.heap.size + 1 := by rw [hw104]; simp
  clear saw104 szw104
  go_wp2_with fail
  rw [← hw104]
  clear hw104
  generalize w103.heap.size = gX1 at *
  refine (HA2 _).mono ?_
  rintro e w105 ⟨rfl, hb⟩
  replace HB := Lib.hid (HB.out.trans (hb.mono HB.out.size))
  replace Pp := Lib.hid (Pp.out.below hb Pp.out.lt)
  replace X1 := Lib.hid (X1.out.below hb X1.out.lt)
  clear hb
  clear HA2
  have lzPp := Pp.out.lt
  have dPp_0 := Pp.out.cell 0
  have dPp_1 := Pp.out.cell 1
  have dPp_2 := Pp.out.cell 2
  have dPp_3 := Pp.out.cell 3
  have dPp_4 := Pp.out.cell 4
  have dPp_5 := Pp.out.cell 5
  simp at dPp_0 dPp_1 dPp_2 dPp_3 dPp_4 dPp_5
  obtain ⟨w106, hw106⟩ : ∃ x, x = w105.alloc (.cells #[.int .i64 a0, .int .i64 a1, .int .u32 a2, .int .u32 a3, .int .u64 a4, .string a5] 27) := ⟨_, rfl⟩
  have saw106 : w105.heap.size = w105.heap.size := by first | rfl | omega
  have lt_Pp_X2 := Lib.hid (show w.heap.size < w105.heap.size from saw106 ▸ Pp.out.lt)
  replace Pp := Lib.hid (show Blk w106 w.heap.size 27 #[.int .i64 kd, .int .i64 ct, .int .u32 pg, .int .u32 lk, .int .u64 ty, .string bd] by rw [hw106]; exact Pp.out.alloc _)
  have lt_X1_X2 := Lib.hid (show gX1 < w105.heap.size from saw106 ▸ X1.out.lt)
  replace X1 := Lib.hid (show Blk w106 gX1 27 #[.int .i64 a0, .int .i64 a1, .int .u32 a2, .int .u32 a3, .int .u64 a4, .string a5] by rw [hw106]; exact X1.out.alloc _)
  have ge_X2 := Lib.hid (show w.heap.size ≤ w105.heap.size from saw106 ▸ HB.out.size)
  replace HB := Lib.hid (show Below w.heap.size w w106 by rw [hw106]; exact HB.out.alloc HB.out.size _)
  have X2 := Lib.hid (show Blk w106 w105.heap.size 27 #[.int .i64 a0, .int .i64 a1, .int .u32 a2, .int .u32 a3, .int .u64 a4, .string a5] by rw [hw106, ← saw106]; exact Blk.new _ _ _)
  have szw106 : w106.heap.size = w105.heap.size + 1 := by rw [hw106]; simp
  clear saw106 szw106
  have cPp_0 := Pp.out.cell 0
  have cPp_1 := Pp.out.cell 1
  have cPp_2 := Pp.out.cell 2
  have cPp_3 := Pp.out.cell 3
  have cPp_4 := Pp.out.cell 4
  have cPp_5 := Pp.out.cell 5
  rw [hw106] at cPp_0 cPp_1 cPp_2 cPp_3 cPp_4 cPp_5
  simp at cPp_0 cPp_1 cPp_2 cPp_3 cPp_4 cPp_5
  go_wp2_with fail
  rw [← hw106]
  clear hw106 lzPp dPp_0 dPp_1 dPp_2 dPp_3 dPp_4 dPp_5 cPp_0 cPp_1 cPp_2 cPp_3 cPp_4 cPp_5
  generalize w105.heap.size = gX2 at *
  have yPp_0 := Pp.out.cell 0
  have yPp_1 := Pp.out.cell 1
  have yPp_2 := Pp.out.cell 2
  have yPp_3 := Pp.out.cell 3
  have yPp_4 := Pp.out.cell 4
  have yPp_5 := Pp.out.cell 5
  simp at yPp_0 yPp_1 yPp_2 yPp_3 yPp_4 yPp_5
  refine (HOc _).mono ?_
  intro e w7 hpost
  obtain ⟨rfl, hb⟩ := ofpost9_any hpost
  rw [← HOS.out, ← HOL.out, ← HOE.out]
  replace HB := Lib.hid (HB.out.trans (hb.mono HB.out.size))
  replace Pp := Lib.hid (Pp.out.below hb Pp.out.lt)
  replace X1 := Lib.hid (X1.out.below hb X1.out.lt)
  replace X2 := Lib.hid (X2.out.below hb X2.out.lt)
  clear hb hpost HOc
  have v7Pp_0 := Pp.out.cell 0
  have v7Pp_1 := Pp.out.cell 1
  have v7Pp_2 := Pp.out.cell 2
  have v7Pp_3 := Pp.out.cell 3
  have v7Pp_4 := Pp.out.cell 4
  have v7Pp_5 := Pp.out.cell 5
  simp at v7Pp_0 v7Pp_1 v7Pp_2 v7Pp_3 v7Pp_4 v7Pp_5
  go_wp2_with fail
  refine (HOr _).mono ?_
  intro e w8 hpost
  obtain ⟨rfl, hb⟩ := ofpost9_any hpost
  rw [← HOS.out, ← HOL.out, ← HOE.out]
  replace HB := Lib.hid (HB.out.trans (hb.mono HB.out.size))
  replace Pp := Lib.hid (Pp.out.below hb Pp.out.lt)
  replace X1 := Lib.hid (X1.out.below hb X1.out.lt)
  replace X2 := Lib.hid (X2.out.below hb X2.out.lt)
  clear hb hpost HOr
  go_wp2_with fail
  clear Pp
  refine (HPc _).mono ?_
  rintro e w9 ⟨A9, c9, rfl, hr9, hb⟩
  replace HB := Lib.hid (HB.out.trans (hb.mono HB.out.size))
  replace X1 := Lib.hid (X1.out.below hb X1.out.lt)
  replace X2 := Lib.hid (X2.out.below hb X2.out.lt)
  have R9 := Lib.hid hr9
  clear hb hr9 HPc
  have zX1_0 := X1.out.cell 0
  have zX1_1 := X1.out.cell 1
  have zX1_2 := X1.out.cell 2
  have zX1_3 := X1.out.cell 3
  have zX1_4 := X1.out.cell 4
  have zX1_5 := X1.out.cell 5
  have zX2_0 := X2.out.cell 0
  have zX2_1 := X2.out.cell 1
  have zX2_2 := X2.out.cell 2
  have zX2_3 := X2.out.cell 3
  have zX2_4 := X2.out.cell 4
  have zX2_5 := X2.out.cell 5
  simp at zX1_0 zX1_1 zX1_2 zX1_3 zX1_4 zX1_5 zX2_0 zX2_1 zX2_2 zX2_3 zX2_4 zX2_5
  go_wp2_with fail
  refine (HPr _).mono ?_
  rintro e w10 ⟨A10, n10, c10, rfl, hr10, _, _, hb⟩
  replace HB := Lib.hid (HB.out.trans (hb.mono HB.out.size))
  replace R9 := Lib.hid ((R9.out.below hb).more hb.size)
  obtain rfl : pn = n10 := by have := hr10.1; simp [strc] at this; rw [HPN.out]; exact this
  have R10 := Lib.hid hr10
  clear hb hr10 HPr
  go_wp2_with fail
  refine (sameS_yes A9 pn c9 A10 c10 PL _ R9.out R10.out (Nat.le_trans HLen.out (by decide))).mono ?_
  rintro e wa ⟨rfl, q, hq⟩
  replace HB := Lib.hid (show Below w.heap.size w wa by rw [hq]; exact below_drewN HB.out q)
  clear hq R9 R10
  go_wp2_with fail
  refine (HNc _).mono ?_
  rintro e w107 ⟨rfl, hb⟩
  replace HB := Lib.hid (HB.out.trans (hb.mono HB.out.size))
  clear hb
  clear HNc
  go_wp2_with fail
  refine (HNr _).mono ?_
  rintro e wz ⟨rfl, rfl⟩
  go_wp2_with fail
  go_ret
  exact ⟨rfl, HB.out⟩
theorem ovcalls_walk (size n0 nx0 tx0 : Int) (bs : ByteArray) (kd ct : Int) (pg lk ty : Nat) (bd : ByteArray) (v : ByteArray) (mn : Int) (w : World) (_h0 : (Lit.int .i64 size).wf = true) (h1 : (Lit.int .u32 n0).wf = true) (h2 : (Lit.int .u32 nx0).wf = true) (h3 : (Lit.int .u64 tx0).wf = true) (_h4 : bs.size ≤ maxLen) (_h5 : pg < 4294967296 ∧ lk < 4294967296 ∧ ty < 18446744073709551616 ∧ bd.size ≤ maxLen) (_h6 : v.size ≤ maxLen) (h7 : (Lit.int .i64 mn).wf = true) :
    Calls Try.prog 4 #[.int .i64 size, .int .u32 n0, .int .u32 nx0, .int .u64 tx0, .string bs, .agg #[.int .i64 kd, .int .i64 ct, .int .u32 pg, .int .u32 lk, .int .u64 ty, .string bd], .string v, .int .i64 mn] w fun e w' => e = .returned (.bool true) ∧ Below w.heap.size w w' := by
  obtain ⟨n, rfl⟩ := Int.eq_ofNat_of_zero_le (lit_u32' h1).1
  obtain ⟨nx, rfl⟩ := Int.eq_ofNat_of_zero_le (lit_u32' h2).1
  obtain ⟨tx, rfl⟩ := Int.eq_ofNat_of_zero_le (bounds_u64 h3).1
  by_cases h1 : 4200 < bs.size
  · exact ovcalls_bs size n nx tx bs kd ct pg lk ty bd v mn w h1
  by_cases h2 : 4200 < bd.size
  · exact ovcalls_bd size n nx tx bs kd ct pg lk ty bd v mn w h1 h2
  by_cases h3 : 4200 < v.size
  · exact ovcalls_v size n nx tx bs kd ct pg lk ty bd v mn w h1 h2 h3
  exact ovcalls_main size n nx tx bs kd ct pg lk ty bd v mn w h1 h2 h3 (lit_i64' h7).2
end Go.Proofs.Ytihhchncglnbiaa
