/-
  Contracts of branch.listed and branch.Page.
-/
import Derived.Test.YtgnpldlgdapehaaJ32
import Derived.Test.YtgnpldlgdapehaaJ12
import Derived.Test.YtgnpldlgdapehaaJ3
import Derived.Lib.AppendStr
import Derived.Deep.CutRange
set_option linter.unusedVariables false
set_option linter.unusedSimpArgs false
namespace Go.Proofs.Ytgnpldlgdapehaa
open Go.RowKit
open Go.Lib hiding intOf
attribute [local go_sem ↓] Go.wp_at_zero Go.wp_at_succ

set_option maxRecDepth 100000 in
set_option maxHeartbeats 12800000 in
theorem blisted_any (A : Option Addr) (m c : Nat) (l : List Fk) (w : World) (hr : Reads w w.heap.size 2 A m (fkc l)) (hall : allOkF l = true) (hs : sizeF l ≤ 1000000) :
  Calls Try.prog 85 #[.slice A m c] w fun e w' => ∃ A' c', e = .returned (.slice A' (sizeF l) c') ∧ Reads w' w'.heap.size 1 A' (sizeF l) (bcells (bytesF l)) ∧ Below w.heap.size w w' := by
 obtain ⟨i0, hi0, hz0, hz1, hz2⟩ := info_parts infoU8
 have hm : m ≤ 1000000 := by
  have h1 := five_le l
  rw [fk_len hr] at h1
  omega
 have HALL := Lib.hid hall
 have HL := Lib.hid (fk_len hr)
 have HR := Lib.hid hr
 have HS := Lib.hid hs
 clear hr hall hs
 go_enter Try.func85, Try.ntmps85
 go_wp2_with fail
 go_loopw [3, 5, 8] (fun b _ i wr => ∃ (k : Nat) (A' : Option Addr) (c' : Nat), k ≤ m ∧ i = .int .i64 k ∧ b = .slice A' (sizeF (l.take k)) c' ∧ Hid (wr.ownsRow w.heap.size 5 1 (.slice A' (sizeF (l.take k)) c') (sizeF (l.take k)) (bcells (bytesF (l.take k)))) ∧ Hid (Below w.heap.size w wr)) (fun _ _ i _ => m - (intOf i).toNat)
 case atStart => exact ⟨0, none, 0, Nat.zero_le _, rfl, rfl, Lib.hid (World.ownsRow_nil _ _ _ _), Lib.hid (Below.refl _ _)⟩
 case round =>
  obtain ⟨k, A', c', hk, rfl, rfl, HO, HB⟩ := hrel
  by_cases hlt : k < m
  ·obtain ⟨ad, x, rfl, _, hp, hx, hc⟩ := fk_at HR.out hlt
   have hk0 : (0 : Int) ≤ k := by omega
   have hk1 : (k : Int) < m := by omega
   have hok := allOkF_ok HALL.out hx
   have hnm : x.nm.size ≤ 40 := by
    simp only [okFk, keyF, Bool.and_eq_true, decide_eq_true_eq] at hok
    exact hok.1
   have hrt : x.rt ≤ 2147483647 := by
    simp only [okFk, numB, Bool.and_eq_true, decide_eq_true_eq] at hok
    exact hok.2.2
   have hsz : sizeF (l.take k) ≤ 1000000 := Nat.le_trans (sizeF_take_le l k) HS.out
   have HX := Lib.hid hx
   obtain ⟨c0, c1⟩ := hc.below HB.out hp
   have e1 := u64_nat x.nm.size (by omega)
   have e2 := u64_nat x.rt (by omega)
   obtain ⟨w1, hw1⟩ : ∃ x1, x1 = wr.alloc (.cells #[.string x.nm, .int .u32 x.rt] 29) := ⟨_, rfl⟩
   have M := Lib.hid (show Blk w1 wr.heap.size 29 #[.string x.nm, .int .u32 x.rt] by rw [hw1]; exact Blk.new _ _ _)
   replace HB := Lib.hid (show Below w.heap.size w w1 by rw [hw1]; exact HB.out.alloc HB.out.size _)
   replace HO := Lib.hid (show w1.ownsRow w.heap.size 5 1 (.slice A' (sizeF (l.take k)) c') (sizeF (l.take k)) (bcells (bytesF (l.take k))) by rw [hw1]; exact HO.out.alloc _)
   obtain ⟨N, hN⟩ : ∃ N, N = sizeF (l.take k) := ⟨_, rfl⟩
   obtain ⟨LB, hLB⟩ : ∃ N, N = bytesF (l.take k) := ⟨_, rfl⟩
   have HN := Lib.hid hN
   have HLB := Lib.hid hLB
   rw [← hN] at HO hsz
   rw [← hLB] at HO
   clear hx hc hp hok
   go_upto_region 5 with fail
   rw [← hw1]
   rw [← hN]
   clear hw1 c0 c1 hN hLB
   generalize wr.heap.size = gM at *
   have m0 := M.out.cell 0
   simp at m0
   go_wp2_with fail
   refine (put_reads none 0 0 x.nm.size 1 [] _ (reads_nil _) (by omega) (by omega) (by omega)).mono ?_
   rintro e w2 ⟨A2, c2, rfl, hr2, hb⟩
   rw [List.nil_append] at hr2
   replace M := Lib.hid (M.out.below hb M.out.lt)
   replace HB := Lib.hid (HB.out.trans (hb.mono HB.out.size))
   replace HO := Lib.hid (own_below HO.out hb)
   have HR2 := Lib.hid hr2
   clear hb hr2 m0
   go_upto_region 6 with (at_builtin; refine wpList_append_any _ rfl (.tmp 12) (.tmp 17) _ rfl w.heap.size 5 i0 _ 1 1 Try.underlying118 hi0 hz0 hz1 hz2 rfl (by omega) _ N _ rfl HO.out w2.heap.size A2 1 c2 _ rfl HR2.out (bcells_one _) (by unfold maxLen; omega) (by omega) HB.out.size ?_; intro v3 w3 hown3 hg3 _)
   replace M := Lib.hid (M.out.grown hg3 (own_type HO.out M.out (by decide)))
   replace HB := Lib.hid (HB.out.grown hg3 HB.out.size (fun g h => (HO.out.lt g h).1))
   rw [← bcells_append] at hown3
   obtain ⟨A3, c3, rfl, _, _, _⟩ := own_form hown3
   replace HO := Lib.hid hown3
   clear hg3 hown3 HR2
   have m0 := M.out.cell 0
   simp at m0
   go_upto_region 7 with (at_builtin; refine Lib.wpList_append_own_string _ rfl (.tmp 19) (.tmp 21) _ _ rfl w.heap.size 5 i0 Try.underlying118 Try.underlying9 hi0 hz0 hz1 hz2 _ (N + 1) _ rfl HO.out x.nm rfl (by unfold maxLen; omega) (by omega) HB.out.size ?_; intro v4 w4 hown4 hg4 _)
   replace M := Lib.hid (M.out.grown hg4 (own_type HO.out M.out (by decide)))
   replace HB := Lib.hid (HB.out.grown hg4 HB.out.size (fun g h => (HO.out.lt g h).1))
   have hown4' : w4.ownsRow w.heap.size 5 1 v4 (N + 1 + x.nm.size) (bcells (LB ++ Go.leBytes 1 x.nm.size ++ x.nm.data.toList)) := by
    rw [bcells_append (LB ++ Go.leBytes 1 x.nm.size)]; exact hown4
   obtain ⟨A4, c4, rfl, _, _, _⟩ := own_form hown4'
   replace HO := Lib.hid hown4'
   clear hg4 hown4 hown4' m0
   have m1 := M.out.cell 1
   simp at m1
   go_wp2_with fail
   refine (put_reads none 0 0 x.rt 4 [] _ (reads_nil _) (by omega) (by omega) (by omega)).mono ?_
   rintro e w5 ⟨A5, c5, rfl, hr5, hb⟩
   rw [List.nil_append] at hr5
   replace HB := Lib.hid (HB.out.trans (hb.mono HB.out.size))
   replace HO := Lib.hid (own_below HO.out hb)
   have HR5 := Lib.hid hr5
   clear hb hr5 m1 M
   go_upto_region 8 with (at_builtin; refine wpList_append_any _ rfl (.tmp 23) (.tmp 27) _ rfl w.heap.size 5 i0 _ 1 1 Try.underlying118 hi0 hz0 hz1 hz2 rfl (by omega) _ (N + 1 + x.nm.size) _ rfl HO.out w5.heap.size A5 4 c5 _ rfl HR5.out (bcells_one _) (by unfold maxLen; omega) (by omega) HB.out.size ?_; intro v6 w6 hown6 hg6 _)
   replace HB := Lib.hid (HB.out.grown hg6 HB.out.size (fun g h => (HO.out.lt g h).1))
   rw [← bcells_append] at hown6
   have hby : LB ++ Go.leBytes 1 x.nm.size ++ x.nm.data.toList ++ Go.leBytes 4 x.rt = bytesF (l.take (k + 1)) := by
    rw [bytesF_take_succ HX.out, Fk.bytes, HLB.out]
    simp
   have hse : N + 1 + x.nm.size + 4 = sizeF (l.take (k + 1)) := by
    have := sizeF_take_succ HX.out
    rw [← HN.out] at this
    omega
   rw [hby] at hown6
   obtain ⟨A8, c8, rfl, _, _, _⟩ := own_form hown6
   replace HO := Lib.hid (show w6.ownsRow w.heap.size 5 1 (.slice A8 (sizeF (l.take (k + 1))) c8) (sizeF (l.take (k + 1))) (bcells (bytesF (l.take (k + 1)))) from hse ▸ hown6)
   have HSE := Lib.hid hse
   clear hg6 hown6 HR5 hby hse e1 e2
   go_wp2_with fail
   go_roundw
   case rel =>
    first
     | exact ⟨k + 1, A8, c8, by omega, by go_num, by rw [HSE.out], HO, HB⟩
     | ((repeat apply Exists.intro); exact ⟨⟨k + 1, A8, c8, by omega, by go_num, by rw [HSE.out], HO, HB⟩, rfl⟩)
   case measure => simp [intOf]; omega
  ·obtain rfl : k = m := by omega
   have ht : l.take k = l := List.take_of_length_le (by rw [HL.out]; exact Nat.le_refl _)
   rw [ht] at HO
   rw [ht]
   clear hlt ht
   go_wp2_with fail
   go_ret
   exact ⟨A', c', rfl, Reads.of_own HO.out, HB.out⟩
theorem sizeF_all {l : List Fk} (h : allOkF l = true) : sizeF l ≤ 45 * l.length := by
 have := sizeF_ok (l := l) (k := l.length) (fun j hj => allOkF_at h hj) (Nat.le_refl _)
 rwa [List.take_length] at this
set_option maxRecDepth 100000 in
set_option maxHeartbeats 6400000 in
theorem bpage7_no (size : Int) (n tx : Nat) (A : Option Addr) (m c : Nat) (l : List Fk) (w : World) (hr : Reads w w.heap.size 2 A m (fkc l)) (hm : m ≤ 5864062014805) (h : mayP7 size n tx l = false) :
  Calls Try.prog 55 #[.int .i64 size, .int .u32 n, .int .u64 tx, .slice A m c] w fun e w' => e = .returned (.tuple #[.agg #[.int .i64 0, .int .i64 0, .int .u32 0, .int .u32 0, .int .u64 0, .string ByteArray.empty], .int .i64 2]) ∧ Below w.heap.size w w' := by
 have HM := fun (w' : World) (hb : Below w.heap.size w w') => bvalid_any A m c l w' ((hr.below hb).more hb.size) hm
 have HN := fun w => bnum_any n w
 have hl := fk_len hr
 have h5 := five_le l
 obtain ⟨hz, hi⟩ := zero_of_info infoPg
 have HI := Lib.hid hi
 obtain ⟨w0, hw0⟩ : ∃ x, x = w.alloc (.cells #[.int .i64 0, .int .i64 0, .int .u32 0, .int .u32 0, .int .u64 0, .string ByteArray.empty] 65) := ⟨_, rfl⟩
 have R0 := Lib.hid (show Blk w0 w.heap.size 65 #[.int .i64 0, .int .i64 0, .int .u32 0, .int .u32 0, .int .u64 0, .string ByteArray.empty] by rw [hw0]; exact Blk.new _ _ _)
 have HB := Lib.hid (show Below w.heap.size w w0 by rw [hw0]; exact (Below.refl _ _).alloc (Nat.le_refl _) _)
 rcases hmf : mayF l with _ | _
 ·rw [hmf] at HM
  clear h hi hr hl h5 hmf
  go_enter Try.func55, Try.ntmps55
  go_wp2_with fail
  rw [← hw0]
  clear hw0
  refine (HM _ HB.out).mono ?_
  rintro e w1 ⟨rfl, hb⟩
  replace R0 := Lib.hid (R0.out.below hb R0.out.lt)
  replace HB := Lib.hid (HB.out.trans (hb.mono HB.out.size))
  clear hb HM
  have k0 := R0.out.cell 0
  have k1 := R0.out.cell 1
  have k2 := R0.out.cell 2
  have k3 := R0.out.cell 3
  have k4 := R0.out.cell 4
  have k5 := R0.out.cell 5
  have f0 := R0.out.frozen 0
  have f1 := R0.out.frozen 1
  have f2 := R0.out.frozen 2
  have f3 := R0.out.frozen 3
  have f4 := R0.out.frozen 4
  have f5 := R0.out.frozen 5
  simp at k0 k1 k2 k3 k4 k5
  go_wp2_with fail
  exact bodyPost_ret (read_row rfl _ _ _ w.heap.size #[.int .i64 0, .int .i64 0, .int .u32 0, .int .u32 0, .int .u64 0, .string ByteArray.empty] rfl (load_page (six_at R0.out))) rfl ⟨rfl, six_below HB.out (Nat.le_refl _)⟩
 rw [hmf] at HM
 have hall : allOkF l = true := by simp only [mayF, Bool.and_eq_true] at hmf; exact hmf.1
 have hpos : 0 < l.length := by simp only [mayF, Bool.and_eq_true, decide_eq_true_eq] at hmf; exact hmf.2
 have h45 := sizeF_all hall
 have HS := fun (w' : World) (hb : Below w.heap.size w w') => bsize_big A m c l w' ((hr.below hb).more hb.size) hm (by omega)
 obtain ⟨Z, hZ⟩ : ∃ Z : Nat, Z = sizeF l := ⟨_, rfl⟩
 rw [← hZ] at HS
 obtain ⟨r, HRo, hrr⟩ : ∃ r : Int, (∀ w : World, Calls Try.prog 46 #[.int .i64 size] w fun e w' => e = .returned (.int .i64 r) ∧ w' = w) ∧ ((Z : Int) ≤ r → goodSize size = true ∧ r = size - 24) := by
  rcases hg : goodSize size with _ | _
  ·exact ⟨0, fun w => (room_no size w hg).mono (by rintro e w' ⟨rfl, rfl⟩; exact ⟨rfl, rfl⟩), fun h => by omega⟩
  ·exact ⟨size - 24, fun w => (room_yes size w hg).mono (by rintro e w' ⟨rfl, rfl⟩; exact ⟨rfl, rfl⟩), fun _ => ⟨rfl, rfl⟩⟩
 go_enter Try.func55, Try.ntmps55
 clear hi hr hl h5 hall hpos h45
 go_wp2_with fail
 rw [← hw0]
 clear hw0
 refine (HM _ HB.out).mono ?_
 rintro e w1 ⟨rfl, hb⟩
 replace R0 := Lib.hid (R0.out.below hb R0.out.lt)
 replace HB := Lib.hid (HB.out.trans (hb.mono HB.out.size))
 clear hb HM
 go_wp2_with fail
 refine (HS _ HB.out).mono ?_
 rintro e w2 ⟨rfl, hb⟩
 replace R0 := Lib.hid (R0.out.below hb R0.out.lt)
 replace HB := Lib.hid (HB.out.trans (hb.mono HB.out.size))
 clear hb HS
 have k0 := R0.out.cell 0
 have k1 := R0.out.cell 1
 have k2 := R0.out.cell 2
 have k3 := R0.out.cell 3
 have k4 := R0.out.cell 4
 have k5 := R0.out.cell 5
 have f0 := R0.out.frozen 0
 have f1 := R0.out.frozen 1
 have f2 := R0.out.frozen 2
 have f3 := R0.out.frozen 3
 have f4 := R0.out.frozen 4
 have f5 := R0.out.frozen 5
 simp at k0 k1 k2 k3 k4 k5
 by_cases hlt : r < Z
 ·have hdl : decide ((r : Int) < (Z : Int)) = true := decide_eq_true hlt
  clear h hrr hmf hZ
  go_wp2_with (go_at_call 46; refine (HRo _).mono ?_; rintro e w' ⟨rfl, rfl⟩)
  exact bodyPost_ret (read_row rfl _ _ _ w.heap.size #[.int .i64 0, .int .i64 0, .int .u32 0, .int .u32 0, .int .u64 0, .string ByteArray.empty] rfl (load_page (six_at R0.out))) rfl ⟨rfl, six_below HB.out (Nat.le_refl _)⟩
 have hdl : decide ((r : Int) < (Z : Int)) = false := decide_eq_false hlt
 rcases hnb : numB n with _ | _
 ·rw [hnb] at HN
  clear h hrr hmf hZ
  go_wp2_with (first | (go_at_call 46; refine (HRo _).mono ?_; rintro e w' ⟨rfl, rfl⟩) | (go_at_call 84; refine (HN _).mono ?_; rintro e w' ⟨rfl, rfl⟩))
  exact bodyPost_ret (read_row rfl _ _ _ w.heap.size #[.int .i64 0, .int .i64 0, .int .u32 0, .int .u32 0, .int .u64 0, .string ByteArray.empty] rfl (load_page (six_at R0.out))) rfl ⟨rfl, six_below HB.out (Nat.le_refl _)⟩
 ·rw [hnb] at HN
  have hd : decide ((4611686018427387904 : Int) < tx) = true := by
   obtain ⟨g1, g2⟩ := hrr (by omega)
   rw [mayP7, g1, hmf, hnb, ← hZ, decide_eq_true (show (Z : Int) ≤ size - 24 by omega)] at h
   simp at h
   simp
   omega
  clear h hrr hmf hZ
  go_wp2_with (first | (go_at_call 46; refine (HRo _).mono ?_; rintro e w' ⟨rfl, rfl⟩) | (go_at_call 84; refine (HN _).mono ?_; rintro e w' ⟨rfl, rfl⟩))
  exact bodyPost_ret (read_row rfl _ _ _ w.heap.size #[.int .i64 0, .int .i64 0, .int .u32 0, .int .u32 0, .int .u64 0, .string ByteArray.empty] rfl (load_page (six_at R0.out))) rfl ⟨rfl, six_below HB.out (Nat.le_refl _)⟩
set_option maxRecDepth 100000 in
set_option maxHeartbeats 12800000 in
theorem bpage7_yes (z n tx : Nat) (A : Option Addr) (m c : Nat) (l : List Fk) (w : World) (hr : Reads w w.heap.size 2 A m (fkc l)) (hm : m ≤ 5864062014805) (h : mayP7 z n tx l = true) :
  Calls Try.prog 55 #[.int .i64 z, .int .u32 n, .int .u64 tx, .slice A m c] w fun e w' => e = .returned (.tuple #[.agg #[.int .i64 3, .int .i64 m, .int .u32 n, .int .u32 0, .int .u64 tx, .string (forkBody z l)], .int .i64 0]) ∧ Below w.heap.size w w' := by
 obtain ⟨hall, hpos, hg, hroom, hnb, htx⟩ := mayP7_parts h
 have hm2 : m ≤ 1000 := by
  have h1 := five_le l
  rw [fk_len hr] at h1
  have h2 := good_pos hg
  omega
 have hmf : mayF l = true := by simp only [mayF, hall, Bool.true_and, decide_eq_true_eq]; exact hpos
 have hnb' : numB n = true := by simp [numB, hnb]
 have HM := fun (w' : World) (hb : Below w.heap.size w w') => bvalid_any A m c l w' ((hr.below hb).more hb.size) hm
 rw [hmf] at HM
 have HN := fun w => bnum_any n w
 rw [hnb'] at HN
 have hd : decide ((4611686018427387904 : Int) < tx) = false := by simp; omega
 have hs1 : sizeF l ≤ 1000000 := by have := good_pos hg; omega
 have HS := fun (w' : World) (hb : Below w.heap.size w w') => bsize_big A m c l w' ((hr.below hb).more hb.size) hm (by omega)
 have HRo := fun w => room_yes z w hg
 have hdl : decide ((z : Int) - 24 < (sizeF l : Int)) = false := decide_eq_false (by omega)
 have HLs := fun (w' : World) (hb : Below w.heap.size w w') => blisted_any A m c l w' ((hr.below hb).more hb.size) hall hs1
 have HBd := fun (A' : Option Addr) (c' : Nat) (w' : World) (h' : Reads w' w'.heap.size 1 A' (sizeF l) (bcells (bytesF l))) => fbody_ok z A' (sizeF l) c' (bytesF l) w' hg h' hroom.1
 have hcb : (⟨(bytesF l ++ List.replicate (z - 24 - sizeF l) 0).toArray⟩ : ByteArray) = forkBody z l := rfl
 rw [hcb] at HBd
 obtain ⟨B, hB⟩ : ∃ B, B = forkBody z l := ⟨_, rfl⟩
 rw [← hB] at HBd ⊢
 clear hB
 obtain ⟨hz, hi⟩ := zero_of_info infoPg
 have HI := Lib.hid hi
 clear hi hr hall hg hpos hnb hnb' htx hroom hmf h hs1 hcb
 obtain ⟨w0, hw0⟩ : ∃ x, x = w.alloc (.cells #[.int .i64 0, .int .i64 0, .int .u32 0, .int .u32 0, .int .u64 0, .string ByteArray.empty] 65) := ⟨_, rfl⟩
 have R0 := Lib.hid (show Blk w0 w.heap.size 65 #[.int .i64 0, .int .i64 0, .int .u32 0, .int .u32 0, .int .u64 0, .string ByteArray.empty] by rw [hw0]; exact Blk.new _ _ _)
 have HB := Lib.hid (show Below w.heap.size w w0 by rw [hw0]; exact (Below.refl _ _).alloc (Nat.le_refl _) _)
 go_enter Try.func55, Try.ntmps55
 go_wp2_with fail
 rw [← hw0]
 clear hw0
 refine (HM _ HB.out).mono ?_
 rintro e w1 ⟨rfl, hb⟩
 replace R0 := Lib.hid (R0.out.below hb R0.out.lt)
 replace HB := Lib.hid (HB.out.trans (hb.mono HB.out.size))
 clear hb HM
 go_wp2_with fail
 refine (HS _ HB.out).mono ?_
 rintro e w2 ⟨rfl, hb⟩
 replace R0 := Lib.hid (R0.out.below hb R0.out.lt)
 replace HB := Lib.hid (HB.out.trans (hb.mono HB.out.size))
 clear hb HS
 go_wp2_with (first | (go_at_call 46; refine (HRo _).mono ?_; rintro e w' ⟨rfl, rfl⟩) | (go_at_call 84; refine (HN _).mono ?_; rintro e w' ⟨rfl, rfl⟩))
 clear HN hd HRo hdl
 refine (HLs _ HB.out).mono ?_
 rintro e w2 ⟨A', c', rfl, hrd, hb⟩
 replace R0 := Lib.hid (R0.out.below hb R0.out.lt)
 replace HB := Lib.hid (HB.out.trans (hb.mono HB.out.size))
 clear hb HLs
 go_wp2_with fail
 refine (HBd A' c' _ hrd).mono ?_
 rintro e w3 ⟨rfl, hb⟩
 replace R0 := Lib.hid (R0.out.below hb R0.out.lt)
 replace HB := Lib.hid (HB.out.trans (hb.mono HB.out.size))
 clear hb HBd hrd
 have k0 := R0.out.cell 0
 have k1 := R0.out.cell 1
 have k2 := R0.out.cell 2
 have k3 := R0.out.cell 3
 have k4 := R0.out.cell 4
 have k5 := R0.out.cell 5
 have f0 := R0.out.frozen 0
 have f1 := R0.out.frozen 1
 have f2 := R0.out.frozen 2
 have f3 := R0.out.frozen 3
 have f4 := R0.out.frozen 4
 have f5 := R0.out.frozen 5
 simp at k0 k1 k2 k3 k4 k5
 go_wp2_with fail
 exact bodyPost_ret (read_row rfl _ _ _ w.heap.size #[.int .i64 3, .int .i64 m, .int .u32 n, .int .u32 0, .int .u64 tx, .string B] rfl (load_page (six_at R0.out))) rfl ⟨rfl, six_below HB.out (Nat.le_refl _)⟩
end Go.Proofs.Ytgnpldlgdapehaa

