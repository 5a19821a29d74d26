/-
  Contracts of leaf.Page.
-/
import Derived.Test.YtgnpldlgdapehaaJ24
import Derived.Test.YtgnpldlgdapehaaJ26
import Derived.Test.YtgnpldlgdapehaaJ2
set_option linter.unusedVariables false
set_option linter.unusedSimpArgs false
namespace Go.Proofs.Ytgnpldlgdapehaa
open Go.RowKit
open Go.Lib hiding intOf
attribute [local go_sem ↓] Go.wp_at_zero Go.wp_at_succ

set_option maxRecDepth 100000 in
set_option maxHeartbeats 6400000 in
theorem lpage8_no (size : Int) (n tx : Nat) (A : Option Addr) (m c : Nat) (l : List It) (w : World) (hr : Reads w w.heap.size 5 A m (itc l)) (hm : m ≤ 2513169434916) (hx : NearI l) (h : mayP8 size n tx l = false) :
  Calls Try.prog 49 #[.int .i64 size, .int .u32 n, .int .u64 tx, .slice A m c] w fun e w' => e = .returned (.tuple #[.agg #[.int .i64 0, .int .i64 0, .int .u32 0, .int .u32 0, .int .u64 0, .string ByteArray.empty], .int .i64 2]) ∧ Below w.heap.size w w' := by
 have HM := fun (w' : World) (hb : Below w.heap.size w w') => lvalid_any A m c l w' ((hr.below hb).more hb.size) hm
 have HN := fun w => lnum_any n w
 have hl := it_len hr
 have h5 := three_le l
 obtain ⟨hz, hi⟩ := zero_of_info infoPg
 have HI := Lib.hid hi
 obtain ⟨w0, hw0⟩ : ∃ x, x = w.alloc (.cells #[.int .i64 0, .int .i64 0, .int .u32 0, .int .u32 0, .int .u64 0, .string ByteArray.empty] 65) := ⟨_, rfl⟩
 have R0 := Lib.hid (show Blk w0 w.heap.size 65 #[.int .i64 0, .int .i64 0, .int .u32 0, .int .u32 0, .int .u64 0, .string ByteArray.empty] by rw [hw0]; exact Blk.new _ _ _)
 have HB := Lib.hid (show Below w.heap.size w w0 by rw [hw0]; exact (Below.refl _ _).alloc (Nat.le_refl _) _)
 rcases hmf : mayI l with _ | _
 ·rw [hmf] at HM
  clear h hi hr hl h5 hmf
  go_enter Try.func49, Try.ntmps49
  go_wp2_with fail
  rw [← hw0]
  clear hw0
  refine (HM _ HB.out).mono ?_
  rintro e w1 ⟨rfl, hb⟩
  replace R0 := Lib.hid (R0.out.below hb R0.out.lt)
  replace HB := Lib.hid (HB.out.trans (hb.mono HB.out.size))
  clear hb HM
  have k0 := R0.out.cell 0
  have k1 := R0.out.cell 1
  have k2 := R0.out.cell 2
  have k3 := R0.out.cell 3
  have k4 := R0.out.cell 4
  have k5 := R0.out.cell 5
  have f0 := R0.out.frozen 0
  have f1 := R0.out.frozen 1
  have f2 := R0.out.frozen 2
  have f3 := R0.out.frozen 3
  have f4 := R0.out.frozen 4
  have f5 := R0.out.frozen 5
  simp at k0 k1 k2 k3 k4 k5
  go_wp2_with fail
  exact bodyPost_ret (read_row rfl _ _ _ w.heap.size #[.int .i64 0, .int .i64 0, .int .u32 0, .int .u32 0, .int .u64 0, .string ByteArray.empty] rfl (load_page (six_at R0.out))) rfl ⟨rfl, six_below HB.out (Nat.le_refl _)⟩
 rw [hmf] at HM
 have hall : allOkI l = true := by simp only [mayI, Bool.and_eq_true] at hmf; exact hmf.1
 have hpos : 0 < l.length := by simp only [mayI, Bool.and_eq_true, decide_eq_true_eq] at hmf; exact hmf.2
 have h45 := sizeI_all hall
 have hnear := allOkI_near hall
 have HS := fun (w' : World) (hb : Below w.heap.size w w') => lsize_big A m c l w' ((hr.below hb).more hb.size) hm hnear (by omega)
 obtain ⟨Z, hZ⟩ : ∃ Z : Nat, Z = sizeI l := ⟨_, rfl⟩
 rw [← hZ] at HS
 obtain ⟨r, HRo, hrr⟩ : ∃ r : Int, (∀ w : World, Calls Try.prog 46 #[.int .i64 size] w fun e w' => e = .returned (.int .i64 r) ∧ w' = w) ∧ ((Z : Int) ≤ r → goodSize size = true ∧ r = size - 24) := by
  rcases hg : goodSize size with _ | _
  ·exact ⟨0, fun w => (room_no size w hg).mono (by rintro e w' ⟨rfl, rfl⟩; exact ⟨rfl, rfl⟩), fun h => by omega⟩
  ·exact ⟨size - 24, fun w => (room_yes size w hg).mono (by rintro e w' ⟨rfl, rfl⟩; exact ⟨rfl, rfl⟩), fun _ => ⟨rfl, rfl⟩⟩
 go_enter Try.func49, Try.ntmps49
 clear hi hr hl h5 hall hpos h45
 go_wp2_with fail
 rw [← hw0]
 clear hw0
 refine (HM _ HB.out).mono ?_
 rintro e w1 ⟨rfl, hb⟩
 replace R0 := Lib.hid (R0.out.below hb R0.out.lt)
 replace HB := Lib.hid (HB.out.trans (hb.mono HB.out.size))
 clear hb HM
 go_wp2_with fail
 refine (HS _ HB.out).mono ?_
 rintro e w2 ⟨rfl, hb⟩
 replace R0 := Lib.hid (R0.out.below hb R0.out.lt)
 replace HB := Lib.hid (HB.out.trans (hb.mono HB.out.size))
 clear hb HS
 have k0 := R0.out.cell 0
 have k1 := R0.out.cell 1
 have k2 := R0.out.cell 2
 have k3 := R0.out.cell 3
 have k4 := R0.out.cell 4
 have k5 := R0.out.cell 5
 have f0 := R0.out.frozen 0
 have f1 := R0.out.frozen 1
 have f2 := R0.out.frozen 2
 have f3 := R0.out.frozen 3
 have f4 := R0.out.frozen 4
 have f5 := R0.out.frozen 5
 simp at k0 k1 k2 k3 k4 k5
 by_cases hlt : r < Z
 ·have hdl : decide ((r : Int) < (Z : Int)) = true := decide_eq_true hlt
  clear h hrr hmf hZ
  go_wp2_with (go_at_call 46; refine (HRo _).mono ?_; rintro e w' ⟨rfl, rfl⟩)
  exact bodyPost_ret (read_row rfl _ _ _ w.heap.size #[.int .i64 0, .int .i64 0, .int .u32 0, .int .u32 0, .int .u64 0, .string ByteArray.empty] rfl (load_page (six_at R0.out))) rfl ⟨rfl, six_below HB.out (Nat.le_refl _)⟩
 have hdl : decide ((r : Int) < (Z : Int)) = false := decide_eq_false hlt
 rcases hnb : numB n with _ | _
 ·rw [hnb] at HN
  clear h hrr hmf hZ
  go_wp2_with (first | (go_at_call 46; refine (HRo _).mono ?_; rintro e w' ⟨rfl, rfl⟩) | (go_at_call 75; refine (HN _).mono ?_; rintro e w' ⟨rfl, rfl⟩))
  exact bodyPost_ret (read_row rfl _ _ _ w.heap.size #[.int .i64 0, .int .i64 0, .int .u32 0, .int .u32 0, .int .u64 0, .string ByteArray.empty] rfl (load_page (six_at R0.out))) rfl ⟨rfl, six_below HB.out (Nat.le_refl _)⟩
 ·rw [hnb] at HN
  have hd : decide ((4611686018427387904 : Int) < tx) = true := by
   obtain ⟨g1, g2⟩ := hrr (by omega)
   rw [mayP8, g1, hmf, hnb, ← hZ, decide_eq_true (show (Z : Int) ≤ size - 24 by omega)] at h
   simp at h
   simp
   omega
  clear h hrr hmf hZ
  go_wp2_with (first | (go_at_call 46; refine (HRo _).mono ?_; rintro e w' ⟨rfl, rfl⟩) | (go_at_call 75; refine (HN _).mono ?_; rintro e w' ⟨rfl, rfl⟩))
  exact bodyPost_ret (read_row rfl _ _ _ w.heap.size #[.int .i64 0, .int .i64 0, .int .u32 0, .int .u32 0, .int .u64 0, .string ByteArray.empty] rfl (load_page (six_at R0.out))) rfl ⟨rfl, six_below HB.out (Nat.le_refl _)⟩
set_option maxRecDepth 100000 in
set_option maxHeartbeats 12800000 in
theorem lpage8_yes (z n tx : Nat) (A : Option Addr) (m c : Nat) (l : List It) (w : World) (hr : Reads w w.heap.size 5 A m (itc l)) (hm : m ≤ 2513169434916) (h : mayP8 z n tx l = true) :
  Calls Try.prog 49 #[.int .i64 z, .int .u32 n, .int .u64 tx, .slice A m c] w fun e w' => e = .returned (.tuple #[.agg #[.int .i64 4, .int .i64 m, .int .u32 n, .int .u32 0, .int .u64 tx, .string (itemBody z l)], .int .i64 0]) ∧ Below w.heap.size w w' := by
 obtain ⟨hall, hpos, hg, hroom, hnb, htx⟩ := mayP8_parts h
 have hnear := allOkI_near hall
 have hm2 : m ≤ 2000 := by
  have h1 := three_le l
  rw [it_len hr] at h1
  have h2 := good_pos hg
  omega
 have hmf : mayI l = true := by simp only [mayI, hall, Bool.true_and, decide_eq_true_eq]; exact hpos
 have hnb' : numB n = true := by simp [numB, hnb]
 have HM := fun (w' : World) (hb : Below w.heap.size w w') => lvalid_any A m c l w' ((hr.below hb).more hb.size) hm
 rw [hmf] at HM
 have HN := fun w => lnum_any n w
 rw [hnb'] at HN
 have hd : decide ((4611686018427387904 : Int) < tx) = false := by simp; omega
 have hs1 : sizeI l ≤ 1000000 := by have := good_pos hg; omega
 have HS := fun (w' : World) (hb : Below w.heap.size w w') => lsize_big A m c l w' ((hr.below hb).more hb.size) hm hnear (by omega)
 have HRo := fun w => room_yes z w hg
 have hdl : decide ((z : Int) - 24 < (sizeI l : Int)) = false := decide_eq_false (by omega)
 have HLs := fun (w' : World) (hb : Below w.heap.size w w') => llisted_any A m c l w' ((hr.below hb).more hb.size) hall hs1
 have HBd := fun (A' : Option Addr) (c' : Nat) (w' : World) (h' : Reads w' w'.heap.size 1 A' (sizeI l) (bcells (bytesI l))) => fbody_ok z A' (sizeI l) c' (bytesI l) w' hg h' hroom.1
 have hcb : (⟨(bytesI l ++ List.replicate (z - 24 - sizeI l) 0).toArray⟩ : ByteArray) = itemBody z l := rfl
 rw [hcb] at HBd
 obtain ⟨B, hB⟩ : ∃ B, B = itemBody z l := ⟨_, rfl⟩
 rw [← hB] at HBd ⊢
 clear hB
 obtain ⟨hz, hi⟩ := zero_of_info infoPg
 have HI := Lib.hid hi
 clear hi hr hall hg hpos hnb hnb' htx hroom hmf h hs1 hcb
 obtain ⟨w0, hw0⟩ : ∃ x, x = w.alloc (.cells #[.int .i64 0, .int .i64 0, .int .u32 0, .int .u32 0, .int .u64 0, .string ByteArray.empty] 65) := ⟨_, rfl⟩
 have R0 := Lib.hid (show Blk w0 w.heap.size 65 #[.int .i64 0, .int .i64 0, .int .u32 0, .int .u32 0, .int .u64 0, .string ByteArray.empty] by rw [hw0]; exact Blk.new _ _ _)
 have HB := Lib.hid (show Below w.heap.size w w0 by rw [hw0]; exact (Below.refl _ _).alloc (Nat.le_refl _) _)
 go_enter Try.func49, Try.ntmps49
 go_wp2_with fail
 rw [← hw0]
 clear hw0
 refine (HM _ HB.out).mono ?_
 rintro e w1 ⟨rfl, hb⟩
 replace R0 := Lib.hid (R0.out.below hb R0.out.lt)
 replace HB := Lib.hid (HB.out.trans (hb.mono HB.out.size))
 clear hb HM
 go_wp2_with fail
 refine (HS _ HB.out).mono ?_
 rintro e w2 ⟨rfl, hb⟩
 replace R0 := Lib.hid (R0.out.below hb R0.out.lt)
 replace HB := Lib.hid (HB.out.trans (hb.mono HB.out.size))
 clear hb HS
 go_wp2_with (first | (go_at_call 46; refine (HRo _).mono ?_; rintro e w' ⟨rfl, rfl⟩) | (go_at_call 75; refine (HN _).mono ?_; rintro e w' ⟨rfl, rfl⟩))
 clear HN hd HRo hdl
 refine (HLs _ HB.out).mono ?_
 rintro e w2 ⟨A', c', rfl, hrd, hb⟩
 replace R0 := Lib.hid (R0.out.below hb R0.out.lt)
 replace HB := Lib.hid (HB.out.trans (hb.mono HB.out.size))
 clear hb HLs
 go_wp2_with fail
 refine (HBd A' c' _ hrd).mono ?_
 rintro e w3 ⟨rfl, hb⟩
 replace R0 := Lib.hid (R0.out.below hb R0.out.lt)
 replace HB := Lib.hid (HB.out.trans (hb.mono HB.out.size))
 clear hb HBd hrd
 have k0 := R0.out.cell 0
 have k1 := R0.out.cell 1
 have k2 := R0.out.cell 2
 have k3 := R0.out.cell 3
 have k4 := R0.out.cell 4
 have k5 := R0.out.cell 5
 have f0 := R0.out.frozen 0
 have f1 := R0.out.frozen 1
 have f2 := R0.out.frozen 2
 have f3 := R0.out.frozen 3
 have f4 := R0.out.frozen 4
 have f5 := R0.out.frozen 5
 simp at k0 k1 k2 k3 k4 k5
 go_wp2_with fail
 exact bodyPost_ret (read_row rfl _ _ _ w.heap.size #[.int .i64 4, .int .i64 m, .int .u32 n, .int .u32 0, .int .u64 tx, .string B] rfl (load_page (six_at R0.out))) rfl ⟨rfl, six_below HB.out (Nat.le_refl _)⟩
end Go.Proofs.Ytgnpldlgdapehaa

