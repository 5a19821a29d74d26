/-
  Contracts of the reference's On and Pages of layer 11: the pages of a value. (Written by wip/tools/gen_ref11o.py.)
-/
import Derived.Test.YtmmjckokjmpfpaaGreatJ15
import Derived.Test.YtmmjckokjmpfpaaGreatJ16
set_option linter.unusedVariables false
set_option linter.unusedSimpArgs false
namespace Go.Proofs.YtmmjckokjmpfpaaGreat
open Go.RowKit
open Go.Lib hiding intOf
attribute [local go_sem ↓] Go.wp_at_zero Go.wp_at_succ

def PgsPost (o : Option (List Pg)) (w : World) (e : Ending) (w' : World) : Prop :=
 match o with
 | none => e = .returned (.tuple #[.slice none 0 0, .int .i64 2]) ∧ Below w.heap.size w w'
 | some L => ∃ A n c, e = .returned (.tuple #[.slice A n c, .int .i64 0]) ∧ Reads w' w'.heap.size 6 A n (pgcs L) ∧ Below w.heap.size w w'
theorem onL_no {size : Int} {tx : Nat} {ps : List Nat} {v : ByteArray} (h : goodSize size = false ∨ v.size = 0 ∨ 4096 < v.size ∨ (partsL size v).length ≠ ps.length ∨ fineL ps = false ∨ 4611686018427387904 < tx) : onL size tx ps v = none := by
 unfold onL
 rw [if_neg]
 simp only [Bool.and_eq_true, decide_eq_true_eq]
 rintro ⟨h1, h2, h3, h4, h5, h6⟩
 rcases h with h | h | h | h | h | h
 ·rw [h1] at h; cases h
 ·omega
 ·omega
 ·exact h h4
 ·rw [h5] at h; cases h
 ·omega
theorem onL_yes {size : Int} {tx : Nat} {ps : List Nat} {v : ByteArray} (h1 : goodSize size = true) (h2 : 0 < v.size) (h3 : v.size ≤ 4096) (h4 : (partsL size v).length = ps.length) (h5 : fineL ps = true) (h6 : tx ≤ 4611686018427387904) : onL size tx ps v = some ((List.range ps.length).map (onPg size.toNat tx ps v)) := by
 obtain ⟨z, rfl, _⟩ := good_nat h1
 unfold onL
 rw [h1, decide_eq_true h2, decide_eq_true h3, decide_eq_true h4, h5, decide_eq_true h6]
 rfl
theorem strc_at {w : World} {B n k : Nat} {A : Option Addr} {l : List ByteArray} (h : Reads w B 1 A n (strc l)) (hk : k < n) : ∃ ad, A = some ad ∧ ad.block < B ∧ w.cell? (ad.add k) = some (.string (l.getD k ⟨#[]⟩)) := by
 obtain ⟨ad, u, ha, hb, hx, hc⟩ := h.at_ hk
 refine ⟨ad, ha, hb, ?_⟩
 rw [hc]
 unfold strc at hx
 rw [List.getElem?_map, Option.map_eq_some_iff] at hx
 obtain ⟨b, hb, rfl⟩ := hx
 rw [List.getD, hb]
 rfl

set_option maxRecDepth 100000 in
set_option maxHeartbeats 12800000 in
theorem ron_0 (size : Int) (tx : Nat) (A : Option Addr) (n c : Nat) (ps : List Nat) (v : ByteArray) (w : World) (hr : Reads w w.heap.size 1 A n (ucells ps)) (hn : n ≤ 1000000) (hv : v.size ≤ 1000000) (hg : goodSize size = false) : Calls Tryz.prog 93 #[.int .i64 size, .int .u64 tx, .slice A n c, .string v] w (PgsPost (onL size tx ps v) w) := by
 rw [onL_no (size := size) (tx := tx) (ps := ps) (v := v) (.inl hg)]
 have HG := fun w => rgood_any size w
 rw [hg] at HG
 clear hg
 have hl := ulen hr
 go_enter Tryz.func93, Tryz.ntmps93
 go_wp2_with fail
 refine (rparts9_any size v w hv).mono ?_
 rintro e w1 ⟨Ap, np, cp, rfl, hrp, _, _, hb⟩
 have hnp : np = (partsL size v).length := by have := hrp.1; simpa [strc] using this.symm
 have HB := Lib.hid hb
 have HR := Lib.hid ((hr.below hb).more hb.size)
 have HRp := Lib.hid hrp
 clear hb hrp hr
 clear hnp
 go_wp2_with (go_at_call 32; refine (HG _).mono ?_; rintro e w' ⟨rfl, rfl⟩)
 go_ret2
 exact ⟨rfl, HB.out⟩
set_option maxRecDepth 100000 in
set_option maxHeartbeats 12800000 in
theorem ron_1 (size : Int) (tx : Nat) (A : Option Addr) (n c : Nat) (ps : List Nat) (v : ByteArray) (w : World) (hr : Reads w w.heap.size 1 A n (ucells ps)) (hn : n ≤ 1000000) (hv : v.size ≤ 1000000) (hg : goodSize size = true) (h1 : v.size = 0) : Calls Tryz.prog 93 #[.int .i64 size, .int .u64 tx, .slice A n c, .string v] w (PgsPost (onL size tx ps v) w) := by
 rw [onL_no (size := size) (tx := tx) (ps := ps) (v := v) (.inr (.inl h1))]
 have HG := fun w => rgood_any size w
 rw [hg] at HG
 have he : (v.toList == []) = true := by rw [List.eq_nil_of_length_eq_zero (show v.toList.length = 0 by rw [ByteArray.toList_eq, size_list]; exact h1)]; rfl
 clear hg h1
 have hl := ulen hr
 go_enter Tryz.func93, Tryz.ntmps93
 go_wp2_with fail
 refine (rparts9_any size v w hv).mono ?_
 rintro e w1 ⟨Ap, np, cp, rfl, hrp, _, _, hb⟩
 have hnp : np = (partsL size v).length := by have := hrp.1; simpa [strc] using this.symm
 have HB := Lib.hid hb
 have HR := Lib.hid ((hr.below hb).more hb.size)
 have HRp := Lib.hid hrp
 clear hb hrp hr
 clear hnp
 go_wp2_with (go_at_call 32; refine (HG _).mono ?_; rintro e w' ⟨rfl, rfl⟩)
 go_ret2
 exact ⟨rfl, HB.out⟩
set_option maxRecDepth 100000 in
set_option maxHeartbeats 12800000 in
theorem ron_2 (size : Int) (tx : Nat) (A : Option Addr) (n c : Nat) (ps : List Nat) (v : ByteArray) (w : World) (hr : Reads w w.heap.size 1 A n (ucells ps)) (hn : n ≤ 1000000) (hv : v.size ≤ 1000000) (hg : goodSize size = true) (h1 : 0 < v.size) (h2 : 4096 < v.size) : Calls Tryz.prog 93 #[.int .i64 size, .int .u64 tx, .slice A n c, .string v] w (PgsPost (onL size tx ps v) w) := by
 rw [onL_no (size := size) (tx := tx) (ps := ps) (v := v) (.inr (.inr (.inl h2)))]
 have HG := fun w => rgood_any size w
 rw [hg] at HG
 have he : (v.toList == []) = false := by rw [Bool.eq_false_iff]; intro h; rw [beq_iff_eq] at h; have h2 := size_list v; rw [← ByteArray.toList_eq, h] at h2; simp at h2; omega
 have hbg : decide ((4096 : Int) < (v.size : Int)) = true := by simp; omega
 have hbg2 : decide (4096 < v.size) = true := by simp; omega
 clear hg h1 h2
 have hl := ulen hr
 go_enter Tryz.func93, Tryz.ntmps93
 go_wp2_with fail
 refine (rparts9_any size v w hv).mono ?_
 rintro e w1 ⟨Ap, np, cp, rfl, hrp, _, _, hb⟩
 have hnp : np = (partsL size v).length := by have := hrp.1; simpa [strc] using this.symm
 have HB := Lib.hid hb
 have HR := Lib.hid ((hr.below hb).more hb.size)
 have HRp := Lib.hid hrp
 clear hb hrp hr
 clear hnp
 go_wp2_with (go_at_call 32; refine (HG _).mono ?_; rintro e w' ⟨rfl, rfl⟩)
 go_ret2
 exact ⟨rfl, HB.out⟩
set_option maxRecDepth 100000 in
set_option maxHeartbeats 12800000 in
theorem ron_3 (size : Int) (tx : Nat) (A : Option Addr) (n c : Nat) (ps : List Nat) (v : ByteArray) (w : World) (hr : Reads w w.heap.size 1 A n (ucells ps)) (hn : n ≤ 1000000) (hv : v.size ≤ 1000000) (hg : goodSize size = true) (h1 : 0 < v.size) (h2 : v.size ≤ 4096) (h3 : (partsL size v).length ≠ ps.length) : Calls Tryz.prog 93 #[.int .i64 size, .int .u64 tx, .slice A n c, .string v] w (PgsPost (onL size tx ps v) w) := by
 rw [onL_no (size := size) (tx := tx) (ps := ps) (v := v) (.inr (.inr (.inr (.inl h3))))]
 have HG := fun w => rgood_any size w
 rw [hg] at HG
 have he : (v.toList == []) = false := by rw [Bool.eq_false_iff]; intro h; rw [beq_iff_eq] at h; have h2 := size_list v; rw [← ByteArray.toList_eq, h] at h2; simp at h2; omega
 have hbg : decide ((4096 : Int) < (v.size : Int)) = false := by simp; omega
 have hbg2 : decide (4096 < v.size) = false := by simp; omega
 clear hg h1 h2
 have hl := ulen hr
 go_enter Tryz.func93, Tryz.ntmps93
 go_wp2_with fail
 refine (rparts9_any size v w hv).mono ?_
 rintro e w1 ⟨Ap, np, cp, rfl, hrp, _, _, hb⟩
 have hnp : np = (partsL size v).length := by have := hrp.1; simpa [strc] using this.symm
 have HB := Lib.hid hb
 have HR := Lib.hid ((hr.below hb).more hb.size)
 have HRp := Lib.hid hrp
 clear hb hrp hr
 have hne : ((np : Int) != (n : Int)) = true := by simp; omega
 have hne2 : (np != n) = true := by simp; omega
 clear hnp
 go_wp2_with (go_at_call 32; refine (HG _).mono ?_; rintro e w' ⟨rfl, rfl⟩)
 go_ret2
 exact ⟨rfl, HB.out⟩
set_option maxRecDepth 100000 in
set_option maxHeartbeats 12800000 in
theorem ron_4 (size : Int) (tx : Nat) (A : Option Addr) (n c : Nat) (ps : List Nat) (v : ByteArray) (w : World) (hr : Reads w w.heap.size 1 A n (ucells ps)) (hn : n ≤ 1000000) (hv : v.size ≤ 1000000) (hg : goodSize size = true) (h1 : 0 < v.size) (h2 : v.size ≤ 4096) (h3 : (partsL size v).length = ps.length) (h4 : fineL ps = false) : Calls Tryz.prog 93 #[.int .i64 size, .int .u64 tx, .slice A n c, .string v] w (PgsPost (onL size tx ps v) w) := by
 rw [onL_no (size := size) (tx := tx) (ps := ps) (v := v) (.inr (.inr (.inr (.inr (.inl h4)))))]
 have HG := fun w => rgood_any size w
 rw [hg] at HG
 have he : (v.toList == []) = false := by rw [Bool.eq_false_iff]; intro h; rw [beq_iff_eq] at h; have h2 := size_list v; rw [← ByteArray.toList_eq, h] at h2; simp at h2; omega
 have hbg : decide ((4096 : Int) < (v.size : Int)) = false := by simp; omega
 have hbg2 : decide (4096 < v.size) = false := by simp; omega
 have HFi := Lib.hid h4
 clear hg h1 h2
 have hl := ulen hr
 go_enter Tryz.func93, Tryz.ntmps93
 go_wp2_with fail
 refine (rparts9_any size v w hv).mono ?_
 rintro e w1 ⟨Ap, np, cp, rfl, hrp, _, _, hb⟩
 have hnp : np = (partsL size v).length := by have := hrp.1; simpa [strc] using this.symm
 have HB := Lib.hid hb
 have HR := Lib.hid ((hr.below hb).more hb.size)
 have HRp := Lib.hid hrp
 clear hb hrp hr
 have hne : ((np : Int) != (n : Int)) = false := by simp; omega
 have hne2 : (np != n) = false := by simp; omega
 clear hnp
 go_wp2_with (go_at_call 32; refine (HG _).mono ?_; rintro e w' ⟨rfl, rfl⟩)
 refine (rfine_any A n c ps _ HR.out hn).mono ?_
 rw [HFi.out]
 rintro e w2 ⟨rfl, q, hq⟩
 have HB2 := Lib.hid (show Below w.heap.size w w2 by rw [hq]; exact below_drewN HB.out q)
 clear hq
 go_wp2_with fail
 go_ret2
 exact ⟨rfl, HB2.out⟩
set_option maxRecDepth 100000 in
set_option maxHeartbeats 12800000 in
theorem ron_5 (size : Int) (tx : Nat) (A : Option Addr) (n c : Nat) (ps : List Nat) (v : ByteArray) (w : World) (hr : Reads w w.heap.size 1 A n (ucells ps)) (hn : n ≤ 1000000) (hv : v.size ≤ 1000000) (hg : goodSize size = true) (h1 : 0 < v.size) (h2 : v.size ≤ 4096) (h3 : (partsL size v).length = ps.length) (h4 : fineL ps = true) (h5 : 4611686018427387904 < tx) : Calls Tryz.prog 93 #[.int .i64 size, .int .u64 tx, .slice A n c, .string v] w (PgsPost (onL size tx ps v) w) := by
 rw [onL_no (size := size) (tx := tx) (ps := ps) (v := v) (.inr (.inr (.inr (.inr (.inr h5)))))]
 have HG := fun w => rgood_any size w
 rw [hg] at HG
 have he : (v.toList == []) = false := by rw [Bool.eq_false_iff]; intro h; rw [beq_iff_eq] at h; have h2 := size_list v; rw [← ByteArray.toList_eq, h] at h2; simp at h2; omega
 have hbg : decide ((4096 : Int) < (v.size : Int)) = false := by simp; omega
 have hbg2 : decide (4096 < v.size) = false := by simp; omega
 have HFi := Lib.hid h4
 have htx : decide ((4611686018427387904 : Int) < tx) = true := by simp; omega
 clear hg h1 h2
 have hl := ulen hr
 go_enter Tryz.func93, Tryz.ntmps93
 go_wp2_with fail
 refine (rparts9_any size v w hv).mono ?_
 rintro e w1 ⟨Ap, np, cp, rfl, hrp, _, _, hb⟩
 have hnp : np = (partsL size v).length := by have := hrp.1; simpa [strc] using this.symm
 have HB := Lib.hid hb
 have HR := Lib.hid ((hr.below hb).more hb.size)
 have HRp := Lib.hid hrp
 clear hb hrp hr
 have hne : ((np : Int) != (n : Int)) = false := by simp; omega
 have hne2 : (np != n) = false := by simp; omega
 clear hnp
 go_wp2_with (go_at_call 32; refine (HG _).mono ?_; rintro e w' ⟨rfl, rfl⟩)
 refine (rfine_any A n c ps _ HR.out hn).mono ?_
 rw [HFi.out]
 rintro e w2 ⟨rfl, q, hq⟩
 have HB2 := Lib.hid (show Below w.heap.size w w2 by rw [hq]; exact below_drewN HB.out q)
 clear hq
 go_wp2_with fail
 go_ret2
 exact ⟨rfl, HB2.out⟩
end Go.Proofs.YtmmjckokjmpfpaaGreat

