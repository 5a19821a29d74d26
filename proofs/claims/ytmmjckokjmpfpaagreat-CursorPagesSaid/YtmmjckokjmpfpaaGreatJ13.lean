/-
  Texts that the main proof rests on, put together: Ref9Parts, Ref9Page, Kit11, TwoRows, Ref11O. No statement is proved here.
-/
import Derived.Test.YtmmjckokjmpfpaaGreatJ12
import Derived.Test.YtmmjckokjmpfpaaGreatJ3
import Derived.Test.YtmmjckokjmpfpaaGreatJ1
import Derived.Deep.RegionHeld3
import Derived.Test.YtmmjckokjmpfpaaGreatJ7
import Derived.Test.YtmmjckokjmpfpaaGreatJ11
import Derived.Deep.DrawnRows
import Derived.Deep.QuietTactic
import Derived.BigQuiet
import Derived.Lib.Hide
set_option linter.unusedVariables false
set_option linter.unusedSimpArgs false
namespace Go.Proofs.YtmmjckokjmpfpaaGreat
open Go.RowKit
open Go.Lib hiding intOf
attribute [local go_sem ↓] Go.wp_at_zero Go.wp_at_succ

theorem infoS9 : (Tryz.prog.info? 9).map (fun i => (i.zero, i.size, i.bytes)) = some (some (.string ByteArray.empty), 1, 16) := by kernel_rfl
theorem extdrop9 (t : ByteArray) (k : Nat) : (t.extract k t.size).data.toList = t.data.toList.drop k := by
 have h : t.data.size = t.data.toList.length := by simp
 rw [ByteArray.data_extract, Array.toList_extract, List.extract_eq_take_drop, List.take_of_length_le]
 rw [List.length_drop]
 show _ ≤ t.data.size - k
 omega
theorem piece_front {v R : ByteArray} {k r q : Nat} (hr0 : 0 < r) (hR : R = v.extract (k * r) v.size) (hkl : k * r < v.size) (hq : q = min R.size r) : R.extract 0 q = piece r v k ∧ R.extract q R.size = v.extract ((k + 1) * r) v.size := by
 have hRs : R.size = v.size - k * r := by rw [hR, ByteArray.size_extract]; omega
 constructor
 ·apply bytes_ext
  rw [hR]
  unfold piece
  simp only [ByteArray.data_extract, Array.toList_extract, List.extract_eq_take_drop, List.drop_zero, Nat.sub_zero]
  rw [List.take_take]
  congr 1
  rw [Nat.add_mul, Nat.one_mul]
  omega
 ·apply bytes_ext
  rw [hR]
  have e1 : (v.extract (k * r) v.size).data.toList = v.data.toList.drop (k * r) := extdrop9 v (k * r)
  have e2 : (v.extract ((k + 1) * r) v.size).data.toList = v.data.toList.drop ((k + 1) * r) := extdrop9 v ((k + 1) * r)
  have e3 : ((v.extract (k * r) v.size).extract q (v.extract (k * r) v.size).size).data.toList = ((v.extract (k * r) v.size).data.toList).drop q := extdrop9 _ q
  rw [e3, e1, e2, List.drop_drop]
  by_cases hq2 : q = r
  ·rw [hq2, Nat.add_mul, Nat.one_mul]
  ·have hlen : v.data.toList.length = v.size := size_list v
   rw [List.drop_eq_nil_of_le (by omega), List.drop_eq_nil_of_le (by rw [Nat.add_mul, Nat.one_mul]; omega)]
theorem chunks_take_succ {v : ByteArray} {r k : Nat} (hlt : k < ceilD v.size r) : (chunks r v).take (k + 1) = (chunks r v).take k ++ [piece r v k] := by
 have : (chunks r v)[k]? = some (piece r v k) := by
  unfold chunks
  rw [List.getElem?_map, List.getElem?_range hlt]
  rfl
 obtain ⟨h1, h2⟩ := List.getElem?_eq_some_iff.1 this
 rw [List.take_succ_eq_append_getElem h1, h2]
def strLenV : Value → Nat
 | .string s => s.size
 | _ => 0
theorem ceilD_le {n r : Nat} (hr : 0 < r) : ceilD n r ≤ n := by
 rcases Nat.lt_or_ge 0 (ceilD n r) with h | h
 ·have h2 := piece_lt (n := n) (r := r) (i := ceilD n r - 1) hr (by omega)
  have h3 : (ceilD n r - 1) * 1 ≤ (ceilD n r - 1) * r := Nat.mul_le_mul_left _ hr
  omega
 ·omega
set_option maxRecDepth 100000 in
set_option maxHeartbeats 6400000 in
theorem rparts9_any (size : Int) (v : ByteArray) (w : World) (hv : v.size ≤ 1000000) :
  Calls Tryz.prog 112 #[.int .i64 size, .string v] w fun e w' => ∃ A n c, e = .returned (.slice A n c) ∧ Reads w' w'.heap.size 1 A n (strc (partsL size v)) ∧ n ≤ c ∧ c ≤ maxLen ∧ Below w.heap.size w w' := by
 have HG := fun w => rgood_any size w
 rcases hg : goodSize size with _ | _
 ·rw [hg] at HG
  have HE := Lib.hid (show partsL size v = [] by rw [partsL, hg]; rfl)
  clear hg
  go_enter Tryz.func112, Tryz.ntmps112
  go_wp2_with (go_at_call 32; refine (HG _).mono ?_; rintro e w' ⟨rfl, rfl⟩)
  go_ret
  rw [HE.out]
  exact ⟨none, 0, 0, rfl, Reads.none_, Nat.le_refl _, by simp [maxLen], Below.refl _ _⟩
 obtain ⟨i0, hi0, hz0, hz1, hz2⟩ := info_parts infoS9
 obtain ⟨z, rfl, hz1', hz2', _⟩ := good_nat hg
 obtain ⟨r, hr⟩ : ∃ r, r = z - 24 := ⟨_, rfl⟩
 have HM : ∀ w : World, Calls Tryz.prog 49 #[.int .i64 z] w fun e w' => e = .returned (.int .i64 (r : Int)) ∧ w = w' := fun w => by
  have h := rroom_yes z w hg
  rwa [show (z : Int) - 24 = (r : Int) by omega] at h
 have hr0 : 0 < r := by omega
 have hr9 : r ≤ 4096 := by omega
 have HE := Lib.hid (show partsL z v = chunks r v by rw [partsL, hg, if_pos rfl]; congr 1; omega)
 rw [hg] at HG
 have HB0 := Lib.hid (Below.refl w.heap.size w)
 clear hg hz1' hz2' hr
 go_enter Tryz.func112, Tryz.ntmps112
 go_wp2_with (go_at_call 32; refine (HG _).mono ?_; rintro e w' ⟨rfl, rfl⟩)
 go_loopw [1, 5, 6] (fun p o _ wr => ∃ (k : Nat) (A : Option Addr) (c : Nat), k ≤ ceilD v.size r ∧ p = .string (v.extract (k * r) v.size) ∧ o = .slice A k c ∧ Hid (wr.ownsRow w.heap.size 9 1 (.slice A k c) k (strc ((chunks r v).take k))) ∧ Hid (Below w.heap.size w wr)) (fun p _ _ _ => strLenV p)
 case atStart => exact ⟨0, none, 0, Nat.zero_le _, by simp, rfl, Lib.hid (World.ownsRow_nil _ _ _ _), HB0⟩
 case round =>
  clear HB0
  obtain ⟨k, A, c, hk, rfl, rfl, HO, HB⟩ := hrel
  obtain ⟨R, hR⟩ : ∃ R, R = v.extract (k * r) v.size := ⟨_, rfl⟩
  have hRs : R.size = v.size - k * r := by rw [hR, ByteArray.size_extract]; omega
  rw [← hR]
  have hk9 : k ≤ 1000000 := by have := ceilD_le (n := v.size) hr0; omega
  by_cases hlt : k < ceilD v.size r
  ·have hkl := piece_lt hr0 hlt
   obtain ⟨q, hq⟩ : ∃ q, q = min R.size r := ⟨_, rfl⟩
   have hmin : min (R.size : Int) (r : Int) = (q : Int) := by omega
   have hemp : R.toList.isEmpty = false := by
    rw [Bool.eq_false_iff]
    intro h
    rw [List.isEmpty_iff_length_eq_zero, ByteArray.toList_eq, size_list] at h
    omega
   have hql : q ≤ R.size := by omega
   have hqi : (q : Int) ≤ (R.size : Int) := by omega
   have hq0 : 0 < q := by omega
   have HPN := Lib.hid (piece_front hr0 hR hkl hq)
   have HT := Lib.hid (chunks_take_succ hlt)
   have HRs := Lib.hid hRs
   have HQ := Lib.hid hq
   clear hq hR hkl hRs
   go_wp2_with (go_at_call 49; refine (HM _).mono ?_; rintro e w' ⟨rfl, rfl⟩)
   clear hmin
   obtain ⟨w0, hw0⟩ : ∃ w0, w0 = wr.drew := ⟨_, rfl⟩
   replace HO := Lib.hid (show w0.ownsRow w.heap.size 9 1 (.slice A k c) k (strc ((chunks r v).take k)) by rw [hw0]; exact HO.out.drew)
   replace HB := Lib.hid (show Below w.heap.size w w0 by rw [hw0]; exact HB.out.drew)
   refine wp_region_held_drew (S := (fun _ => True)) (by kernel_rfl) trivial (fun hHeld => ?_)
   rw [← hw0]
   clear hw0
   refine tkA (i := 0) ?_
   try simp only [tkP]
   refine tkA (i := 1) ?_
   try simp only [tkP]
   refine tkA (i := 2) ?_
   try simp only [tkP]
   refine tkA (i := 3) ?_
   try simp only [tkP]
   refine tkA (i := 6) ?_
   try simp only [tkP]
   refine tkA (i := 7) ?_
   try simp only [tkP]
   refine tkA (i := 8) ?_
   try simp only [tkP]
   refine wpAnyH_ready (rs := [4]) (by kernel_rfl) (by simp) ?_
   refine tkC (fun K hK => ?_)
   go_simp
   refine hK.out _ _ (trivial) (fun hHeld => ?_)
   clear hK K
   try simp only [tkP]
   refine wpAnyH_ready (rs := [5]) (by kernel_rfl) (by simp) ?_
   refine tkC (fun K hK => ?_)
   refine wp_append_any _ (.tmp 17) (.tmp 21) _ rfl w.heap.size 9 i0 _ 1 16 Tryz.underlying181 hi0 hz0 hz1 hz2 rfl (by omega) _ k _ rfl (HO.out.alloc _) (w0.heap.size + 1) (some ⟨w0.heap.size, 0, none⟩) 1 1 [.string (R.extract 0 q)] rfl (reads_new _ _ _ _) (oneCell_one rfl) (by unfold maxLen; omega) (by omega) (by have := HB.out.size; simp; omega) ?_
   intro v5 w5 hown5 hg5 hat
   clear hat
   refine hK.out _ _ (trivial) (fun hHeld => ?_)
   clear hK K
   try simp only [tkP]
   refine tkA (i := 9) ?_
   try simp only [tkP]
   refine tkA (i := 10) ?_
   try simp only [tkP]
   refine wpAnyH_done (by kernel_rfl) ?_ _
   have hown6 : w5.ownsRow w.heap.size 9 1 v5 (k + 1) (strc ((chunks r v).take (k + 1))) := by
    rw [HT.out, ← HPN.out.1]
    simpa [strc] using hown5
   obtain ⟨A5, c5, rfl, _, _, _⟩ := own_form hown6
   have HO5 := Lib.hid hown6
   have HB5 := Lib.hid ((HB.out.alloc HB.out.size (.cells #[.string (R.extract 0 q)] 9)).grown hg5 (by have := HB.out.size; simp; omega) (fun j hj => (HO.out.lt j hj).1))
   clear hown5 hown6 hg5 HO HB hHeld
   go_wp2_with fail
   go_roundw
   case rel =>
    have hnx := HPN.out.2
    first
     | exact ⟨k + 1, A5, c5, by omega, by rw [hnx], rfl, HO5, HB5⟩
     | ((repeat apply Exists.intro); exact ⟨⟨k + 1, A5, c5, by omega, by rw [hnx], rfl, HO5, HB5⟩, rfl⟩)
   case measure =>
    simp only [strLenV]
    first
     | (rw [ByteArray.size_extract]; omega)
     | omega
  ·have hkc : k = ceilD v.size r := by omega
   have hend := piece_end hr0 hlt
   have hemp : R.toList.isEmpty = true := by
    rw [List.isEmpty_iff_length_eq_zero, ByteArray.toList_eq, size_list]
    omega
   have hemp2 : R.toList = [] := List.isEmpty_iff.1 hemp
   have HT := Lib.hid (show strc ((chunks r v).take k) = strc (partsL z v) by rw [HE.out, List.take_of_length_le (by rw [chunks_len]; omega)])
   clear hRs hR hend hkc hlt
   go_wp2_with fail
   go_ret
   obtain ⟨A', c', he, h1, h2, _⟩ := own_form HO.out
   injection he with e1 e2 e3
   subst e1
   subst e3
   rw [← HT.out]
   exact ⟨A, k, c, rfl, Reads.of_own HO.out, h1, h2, HB.out⟩
end Go.Proofs.YtmmjckokjmpfpaaGreat

namespace Go.Proofs.YtmmjckokjmpfpaaGreat
open Go.RowKit
open Go.Lib hiding intOf
attribute [local go_sem ↓] Go.wp_at_zero Go.wp_at_succ

set_option maxRecDepth 100000 in
set_option maxHeartbeats 6400000 in
theorem rpage9_no3 (size : Int) (n next tx : Nat) (s : ByteArray) (w : World) (hs9 : s.size ≤ 1000000) (hg : goodSize size = true) (h1 : 1 ≤ s.size) (h2 : (s.size : Int) ≤ size - 24) (hn : numB n = false) :
  Calls Tryz.prog 110 #[.int .i64 size, .int .u32 n, .int .u32 next, .int .u64 tx, .string s] w fun e w' => e = .returned (.tuple #[.agg #[.int .i64 0, .int .i64 0, .int .u32 0, .int .u32 0, .int .u64 0, .string ByteArray.empty], .int .i64 2]) ∧ Below w.heap.size w w' := by
 obtain ⟨hzp, hi⟩ := zero_of_info infoPg
 have HI := Lib.hid hi
 obtain ⟨w0, hw0⟩ : ∃ x, x = w.alloc (.cells #[.int .i64 0, .int .i64 0, .int .u32 0, .int .u32 0, .int .u64 0, .string ByteArray.empty] 41) := ⟨_, rfl⟩
 have R0 := Lib.hid (show Blk w0 w.heap.size 41 #[.int .i64 0, .int .i64 0, .int .u32 0, .int .u32 0, .int .u64 0, .string ByteArray.empty] by rw [hw0]; exact Blk.new _ _ _)
 have HB := Lib.hid (show Below w.heap.size w w0 by rw [hw0]; exact (Below.refl _ _).alloc (Nat.le_refl _) _)
 obtain ⟨z, rfl, hz1, hz2, _⟩ := good_nat hg
 obtain ⟨r, hr⟩ : ∃ r, r = z - 24 := ⟨_, rfl⟩
 have HM : ∀ w : World, Calls Tryz.prog 49 #[.int .i64 z] w fun e w' => e = .returned (.int .i64 (r : Int)) ∧ w = w' := fun w => by
  have h := rroom_yes z w hg
  rwa [show (z : Int) - 24 = (r : Int) by omega] at h
 have hr0 : ((r : Int) == 0) = false := by simp; omega
 have hem : s.toList.isEmpty = false := by
  rw [Bool.eq_false_iff]; intro h; rw [List.isEmpty_iff_length_eq_zero, ByteArray.toList_eq, size_list] at h; omega
 have hem2 : ¬ s.toList = [] := fun h => by rw [h] at hem; simp at hem
 have hlo : decide ((r : Int) < (s.size : Int)) = false := by simp; omega
 have hlo2 : decide (r < s.size) = false := by simp; omega
 have HN := fun w => (rnumB_any n w).mono (R' := fun e w' => e = .returned (.bool (numB n)) ∧ w = w') fun _ _ ⟨a, b⟩ => ⟨a, b.symm⟩
 rw [hn] at HN
 clear hg hr hz1 hz2 h1 h2 hn
 clear hi
 go_enter Tryz.func110, Tryz.ntmps110
 go_upto_region 1 with fail
 rw [← hw0]
 clear hw0
 have k0 := R0.out.cell 0
 have k1 := R0.out.cell 1
 have k2 := R0.out.cell 2
 have k3 := R0.out.cell 3
 have k4 := R0.out.cell 4
 have k5 := R0.out.cell 5
 have f0 := R0.out.frozen 0
 have f1 := R0.out.frozen 1
 have f2 := R0.out.frozen 2
 have f3 := R0.out.frozen 3
 have f4 := R0.out.frozen 4
 have f5 := R0.out.frozen 5
 simp at k0 k1 k2 k3 k4 k5
 go_wp2_with (first | (go_at_call 49; refine (HM _).mono ?_; rintro e w' ⟨rfl, rfl⟩) | (go_at_call 50; with_reducible refine (HN _).mono ?_; rintro e w' ⟨rfl, rfl⟩))
 exact bodyPost_ret (read_row rfl _ _ _ w.heap.size #[.int .i64 0, .int .i64 0, .int .u32 0, .int .u32 0, .int .u64 0, .string ByteArray.empty] rfl (load_page (six_at R0.out))) rfl ⟨rfl, six_below HB.out (Nat.le_refl _)⟩
set_option maxRecDepth 100000 in
set_option maxHeartbeats 6400000 in
theorem rpage9_yesa (z n next tx : Nat) (s B : ByteArray) (w : World) (hg : goodSize z = true) (h1 : 1 ≤ s.size) (h2 : s.size ≤ z - 24) (hn : numB n = true) (h4 : tx ≤ 4611686018427387904) (hB : B = overBody z s) (h0 : next = 0) :
  Calls Tryz.prog 110 #[.int .i64 z, .int .u32 n, .int .u32 next, .int .u64 tx, .string s] w fun e w' => e = .returned (.tuple #[.agg #[.int .i64 5, .int .i64 s.size, .int .u32 n, .int .u32 next, .int .u64 tx, .string B], .int .i64 0]) ∧ Below w.heap.size w w' := by
 have hgp := good_pos hg
 obtain ⟨r, hr⟩ : ∃ r, r = z - 24 := ⟨_, rfl⟩
 have HM : ∀ w : World, Calls Tryz.prog 49 #[.int .i64 z] w fun e w' => e = .returned (.int .i64 (r : Int)) ∧ w = w' := fun w => by
  have h := rroom_yes z w hg
  rwa [show (z : Int) - 24 = (r : Int) by omega] at h
 have hr0 : ((r : Int) == 0) = false := by simp; omega
 have HBd := fun (A : Option Addr) (c : Nat) (w : World) (hr : Reads w w.heap.size 1 A s.data.toList.length (bcells s.data.toList)) => rbody_ok z A s.data.toList.length c s.data.toList B w hg hr (by rw [size_list]; exact h2) (by rw [hB, size_list]; rfl)
 rw [size_list] at HBd
 have hem : s.toList.isEmpty = false := by
  rw [Bool.eq_false_iff]; intro h; rw [List.isEmpty_iff_length_eq_zero, ByteArray.toList_eq, size_list] at h; omega
 have hem2 : ¬ s.toList = [] := fun h => by rw [h] at hem; simp at hem
 have hlo : decide ((r : Int) < (s.size : Int)) = false := by simp; omega
 have hlo2 : decide (r < s.size) = false := by simp; omega
 have HN := fun w => (rnumB_any n w).mono (R' := fun e w' => e = .returned (.bool (numB n)) ∧ w = w') fun _ _ ⟨a, b⟩ => ⟨a, b.symm⟩
 rw [hn] at HN
 have htx : decide ((4611686018427387904 : Int) < tx) = false := by simp; omega
 have hx0 : ((next : Int) != 0) = false := by simp; omega
 have hx1 : (next != 0) = false := by simp; omega
 have hx2 : ((next : Int) == 0) = true := by simp; omega
 clear h0
 have hcv0 := fun w => run_bytes_of_string (P := Tryz.prog) w 9 102 5 s Tryz.underlying9 Tryz.underlying102 Tryz.underlying5
 obtain ⟨hzp, hi⟩ := zero_of_info infoPg
 have HI := Lib.hid hi
 obtain ⟨w0, hw0⟩ : ∃ x, x = w.alloc (.cells #[.int .i64 0, .int .i64 0, .int .u32 0, .int .u32 0, .int .u64 0, .string ByteArray.empty] 41) := ⟨_, rfl⟩
 have R0 := Lib.hid (show Blk w0 w.heap.size 41 #[.int .i64 0, .int .i64 0, .int .u32 0, .int .u32 0, .int .u64 0, .string ByteArray.empty] by rw [hw0]; exact Blk.new _ _ _)
 have HB := Lib.hid (show Below w.heap.size w w0 by rw [hw0]; exact (Below.refl _ _).alloc (Nat.le_refl _) _)
 clear hi hg h1 h2 hn h4 hB hgp hr
 go_enter Tryz.func110, Tryz.ntmps110
 go_upto_region 1 with fail
 rw [← hw0]
 clear hw0
 have r0 := MRow.of_bytes w0 5 s (grownCap w0 s.size 0 5)
 have RB := Lib.hid (show Blk ((w0.alloc (.cells (bytesRow s (grownCap w0 s.size 0 5)) 5 ((bytesRow s (grownCap w0 s.size 0 5)).size, (bytesRow s (grownCap w0 s.size 0 5)).size + 1))).drew) w.heap.size 41 #[.int .i64 0, .int .i64 0, .int .u32 0, .int .u32 0, .int .u64 0, .string ByteArray.empty] from (R0.out.alloc _).drew)
 have HBB := Lib.hid (show Below w.heap.size w ((w0.alloc (.cells (bytesRow s (grownCap w0 s.size 0 5)) 5 ((bytesRow s (grownCap w0 s.size 0 5)).size, (bytesRow s (grownCap w0 s.size 0 5)).size + 1))).drew) from (HB.out.alloc HB.out.size _).drew)
 have RR := Lib.hid (show MRow (w0.alloc (.cells (bytesRow s (grownCap w0 s.size 0 5)) 5 ((bytesRow s (grownCap w0 s.size 0 5)).size, (bytesRow s (grownCap w0 s.size 0 5)).size + 1))).drew w0.heap.size s.data.toList from r0)
 clear r0 R0 HB
 go_wp2_with (first | (go_at_call 49; refine (HM _).mono ?_; rintro e w' ⟨rfl, rfl⟩) | (go_at_call 50; with_reducible refine (HN _).mono ?_; rintro e w' ⟨rfl, rfl⟩))
 generalize grownCap w0 s.size 0 5 = cap at *
 obtain ⟨w1, hw1⟩ : ∃ w1, w1 = (w0.alloc (.cells (bytesRow s cap) 5 ((bytesRow s cap).size, (bytesRow s cap).size + 1))).drew := ⟨_, rfl⟩
 rw [← hw1] at RB HBB RR ⊢
 clear hw1 hcv0
 refine (HBd (some ⟨w0.heap.size, 0, none⟩) _ _ (by have h := RR.out.reads; rwa [size_list] at h)).mono ?_
 rintro e w2 ⟨rfl, hb⟩
 have R0 := Lib.hid (RB.out.below hb RB.out.lt)
 have HB := Lib.hid (HBB.out.trans (hb.mono HBB.out.size))
 clear hb RB HBB RR HBd
 have k0 := R0.out.cell 0
 have k1 := R0.out.cell 1
 have k2 := R0.out.cell 2
 have k3 := R0.out.cell 3
 have k4 := R0.out.cell 4
 have k5 := R0.out.cell 5
 have f0 := R0.out.frozen 0
 have f1 := R0.out.frozen 1
 have f2 := R0.out.frozen 2
 have f3 := R0.out.frozen 3
 have f4 := R0.out.frozen 4
 have f5 := R0.out.frozen 5
 simp at k0 k1 k2 k3 k4 k5
 go_wp2_with fail
 exact bodyPost_ret (read_row rfl _ _ _ w.heap.size #[.int .i64 5, .int .i64 s.size, .int .u32 n, .int .u32 next, .int .u64 tx, .string B] rfl (load_page (six_at R0.out))) rfl ⟨rfl, six_below HB.out (Nat.le_refl _)⟩
set_option maxRecDepth 100000 in
set_option maxHeartbeats 6400000 in
theorem rpage9_yesb (z n next tx : Nat) (s B : ByteArray) (w : World) (hg : goodSize z = true) (h1 : 1 ≤ s.size) (h2 : s.size ≤ z - 24) (hn : numB n = true) (h4 : tx ≤ 4611686018427387904) (hB : B = overBody z s) (h0 : next ≠ 0) (hnx : numB next = true) (h3 : (z : Int) - 24 ≤ (s.size : Int)) :
  Calls Tryz.prog 110 #[.int .i64 z, .int .u32 n, .int .u32 next, .int .u64 tx, .string s] w fun e w' => e = .returned (.tuple #[.agg #[.int .i64 5, .int .i64 s.size, .int .u32 n, .int .u32 next, .int .u64 tx, .string B], .int .i64 0]) ∧ Below w.heap.size w w' := by
 have hgp := good_pos hg
 obtain ⟨r, hr⟩ : ∃ r, r = z - 24 := ⟨_, rfl⟩
 have HM : ∀ w : World, Calls Tryz.prog 49 #[.int .i64 z] w fun e w' => e = .returned (.int .i64 (r : Int)) ∧ w = w' := fun w => by
  have h := rroom_yes z w hg
  rwa [show (z : Int) - 24 = (r : Int) by omega] at h
 have hr0 : ((r : Int) == 0) = false := by simp; omega
 have HBd := fun (A : Option Addr) (c : Nat) (w : World) (hr : Reads w w.heap.size 1 A s.data.toList.length (bcells s.data.toList)) => rbody_ok z A s.data.toList.length c s.data.toList B w hg hr (by rw [size_list]; exact h2) (by rw [hB, size_list]; rfl)
 rw [size_list] at HBd
 have hem : s.toList.isEmpty = false := by
  rw [Bool.eq_false_iff]; intro h; rw [List.isEmpty_iff_length_eq_zero, ByteArray.toList_eq, size_list] at h; omega
 have hem2 : ¬ s.toList = [] := fun h => by rw [h] at hem; simp at hem
 have hlo : decide ((r : Int) < (s.size : Int)) = false := by simp; omega
 have hlo2 : decide (r < s.size) = false := by simp; omega
 have HN := fun w => (rnumB_any n w).mono (R' := fun e w' => e = .returned (.bool (numB n)) ∧ w = w') fun _ _ ⟨a, b⟩ => ⟨a, b.symm⟩
 rw [hn] at HN
 have htx : decide ((4611686018427387904 : Int) < tx) = false := by simp; omega
 have HX := fun w => (rnumB_any next w).mono (R' := fun e w' => e = .returned (.bool (numB next)) ∧ w = w') fun _ _ ⟨a, b⟩ => ⟨a, b.symm⟩
 rw [hnx] at HX
 have hx0 : ((next : Int) != 0) = true := by simp; omega
 have hx1 : (next != 0) = true := by simp; omega
 have hx2 : ((next : Int) == 0) = false := by simp; omega
 have hsh : decide ((s.size : Int) < (r : Int)) = false := by simp; omega
 have hsh2 : decide (s.size < r) = false := by simp; omega
 clear h0 hnx h3
 have hcv0 := fun w => run_bytes_of_string (P := Tryz.prog) w 9 102 5 s Tryz.underlying9 Tryz.underlying102 Tryz.underlying5
 obtain ⟨hzp, hi⟩ := zero_of_info infoPg
 have HI := Lib.hid hi
 obtain ⟨w0, hw0⟩ : ∃ x, x = w.alloc (.cells #[.int .i64 0, .int .i64 0, .int .u32 0, .int .u32 0, .int .u64 0, .string ByteArray.empty] 41) := ⟨_, rfl⟩
 have R0 := Lib.hid (show Blk w0 w.heap.size 41 #[.int .i64 0, .int .i64 0, .int .u32 0, .int .u32 0, .int .u64 0, .string ByteArray.empty] by rw [hw0]; exact Blk.new _ _ _)
 have HB := Lib.hid (show Below w.heap.size w w0 by rw [hw0]; exact (Below.refl _ _).alloc (Nat.le_refl _) _)
 clear hi hg h1 h2 hn h4 hB hgp hr
 go_enter Tryz.func110, Tryz.ntmps110
 go_upto_region 1 with fail
 rw [← hw0]
 clear hw0
 have r0 := MRow.of_bytes w0 5 s (grownCap w0 s.size 0 5)
 have RB := Lib.hid (show Blk ((w0.alloc (.cells (bytesRow s (grownCap w0 s.size 0 5)) 5 ((bytesRow s (grownCap w0 s.size 0 5)).size, (bytesRow s (grownCap w0 s.size 0 5)).size + 1))).drew) w.heap.size 41 #[.int .i64 0, .int .i64 0, .int .u32 0, .int .u32 0, .int .u64 0, .string ByteArray.empty] from (R0.out.alloc _).drew)
 have HBB := Lib.hid (show Below w.heap.size w ((w0.alloc (.cells (bytesRow s (grownCap w0 s.size 0 5)) 5 ((bytesRow s (grownCap w0 s.size 0 5)).size, (bytesRow s (grownCap w0 s.size 0 5)).size + 1))).drew) from (HB.out.alloc HB.out.size _).drew)
 have RR := Lib.hid (show MRow (w0.alloc (.cells (bytesRow s (grownCap w0 s.size 0 5)) 5 ((bytesRow s (grownCap w0 s.size 0 5)).size, (bytesRow s (grownCap w0 s.size 0 5)).size + 1))).drew w0.heap.size s.data.toList from r0)
 clear r0 R0 HB
 go_wp2_with (first | (go_at_call 49; refine (HM _).mono ?_; rintro e w' ⟨rfl, rfl⟩) | (go_at_call 50; (first | (with_reducible refine (HN _).mono ?_) | (with_reducible refine (HX _).mono ?_)); rintro e w' ⟨rfl, rfl⟩))
 generalize grownCap w0 s.size 0 5 = cap at *
 obtain ⟨w1, hw1⟩ : ∃ w1, w1 = (w0.alloc (.cells (bytesRow s cap) 5 ((bytesRow s cap).size, (bytesRow s cap).size + 1))).drew := ⟨_, rfl⟩
 rw [← hw1] at RB HBB RR ⊢
 clear hw1 hcv0
 refine (HBd (some ⟨w0.heap.size, 0, none⟩) _ _ (by have h := RR.out.reads; rwa [size_list] at h)).mono ?_
 rintro e w2 ⟨rfl, hb⟩
 have R0 := Lib.hid (RB.out.below hb RB.out.lt)
 have HB := Lib.hid (HBB.out.trans (hb.mono HBB.out.size))
 clear hb RB HBB RR HBd
 have k0 := R0.out.cell 0
 have k1 := R0.out.cell 1
 have k2 := R0.out.cell 2
 have k3 := R0.out.cell 3
 have k4 := R0.out.cell 4
 have k5 := R0.out.cell 5
 have f0 := R0.out.frozen 0
 have f1 := R0.out.frozen 1
 have f2 := R0.out.frozen 2
 have f3 := R0.out.frozen 3
 have f4 := R0.out.frozen 4
 have f5 := R0.out.frozen 5
 simp at k0 k1 k2 k3 k4 k5
 go_wp2_with fail
 exact bodyPost_ret (read_row rfl _ _ _ w.heap.size #[.int .i64 5, .int .i64 s.size, .int .u32 n, .int .u32 next, .int .u64 tx, .string B] rfl (load_page (six_at R0.out))) rfl ⟨rfl, six_below HB.out (Nat.le_refl _)⟩
theorem rpage9_yes (z n next tx : Nat) (s : ByteArray) (w : World) (h : mayP9 z n next tx s = true) :
  Calls Tryz.prog 110 #[.int .i64 z, .int .u32 n, .int .u32 next, .int .u64 tx, .string s] w fun e w' => e = .returned (.tuple #[.agg #[.int .i64 5, .int .i64 s.size, .int .u32 n, .int .u32 next, .int .u64 tx, .string (overBody z s)], .int .i64 0]) ∧ Below w.heap.size w w' := by
 obtain ⟨hg, h1, h2, hn, h5, h4⟩ := mayP9_parts h
 by_cases h0 : next = 0
 ·exact rpage9_yesa z n next tx s _ w hg h1 h2.1 hn h4 rfl h0
 ·rcases h5 with h5 | ⟨h5, h6⟩
  ·exact absurd h5 h0
  ·exact rpage9_yesb z n next tx s _ w hg h1 h2.1 hn h4 rfl h0 h5 (by omega)
end Go.Proofs.YtmmjckokjmpfpaaGreat

namespace Go.Proofs.YtmmjckokjmpfpaaGreat
open Go.RowKit
open Go.Lib hiding intOf
attribute [local go_sem ↓] Go.wp_at_zero Go.wp_at_succ

theorem infoPg11 : (Tryz.prog.info? 41).map (fun i => (i.zero, i.size, i.bytes)) = some (some (.agg #[.int .i64 0, .int .i64 0, .int .u32 0, .int .u32 0, .int .u64 0, .string ByteArray.empty]), 6, 48) := by kernel_rfl
theorem pgcs_one (l : List Pg) : ∀ u ∈ pgcs l, u.oneCell' = true := by
 intro u hu
 unfold pgcs rowsOf at hu
 obtain ⟨b, _, hb⟩ := List.mem_flatMap.1 hu
 simp [Pg.cells] at hb
 rcases hb with rfl | rfl | rfl | rfl | rfl | rfl <;> rfl
end Go.Proofs.YtmmjckokjmpfpaaGreat

namespace Go.Proofs.YtmmjckokjmpfpaaGreat
open Go.RowKit
open Go.Lib

end Go.Proofs.YtmmjckokjmpfpaaGreat

namespace Go.Proofs.YtmmjckokjmpfpaaGreat
open Go.RowKit
open Go.Lib hiding intOf
attribute [local go_sem ↓] Go.wp_at_zero Go.wp_at_succ

def PgsPost (o : Option (List Pg)) (w : World) (e : Ending) (w' : World) : Prop :=
 match o with
 | none => e = .returned (.tuple #[.slice none 0 0, .int .i64 2]) ∧ Below w.heap.size w w'
 | some L => ∃ A n c, e = .returned (.tuple #[.slice A n c, .int .i64 0]) ∧ Reads w' w'.heap.size 6 A n (pgcs L) ∧ Below w.heap.size w w'
theorem onL_no {size : Int} {tx : Nat} {ps : List Nat} {v : ByteArray} (h : goodSize size = false ∨ v.size = 0 ∨ 4096 < v.size ∨ (partsL size v).length ≠ ps.length ∨ fineL ps = false ∨ 4611686018427387904 < tx) : onL size tx ps v = none := by
 unfold onL
 rw [if_neg]
 simp only [Bool.and_eq_true, decide_eq_true_eq]
 rintro ⟨h1, h2, h3, h4, h5, h6⟩
 rcases h with h | h | h | h | h | h
 ·rw [h1] at h; cases h
 ·omega
 ·omega
 ·exact h h4
 ·rw [h5] at h; cases h
 ·omega
theorem onL_yes {size : Int} {tx : Nat} {ps : List Nat} {v : ByteArray} (h1 : goodSize size = true) (h2 : 0 < v.size) (h3 : v.size ≤ 4096) (h4 : (partsL size v).length = ps.length) (h5 : fineL ps = true) (h6 : tx ≤ 4611686018427387904) : onL size tx ps v = some ((List.range ps.length).map (onPg size.toNat tx ps v)) := by
 obtain ⟨z, rfl, _⟩ := good_nat h1
 unfold onL
 rw [h1, decide_eq_true h2, decide_eq_true h3, decide_eq_true h4, h5, decide_eq_true h6]
 rfl
theorem strc_at {w : World} {B n k : Nat} {A : Option Addr} {l : List ByteArray} (h : Reads w B 1 A n (strc l)) (hk : k < n) : ∃ ad, A = some ad ∧ ad.block < B ∧ w.cell? (ad.add k) = some (.string (l.getD k ⟨#[]⟩)) := by
 obtain ⟨ad, u, ha, hb, hx, hc⟩ := h.at_ hk
 refine ⟨ad, ha, hb, ?_⟩
 rw [hc]
 unfold strc at hx
 rw [List.getElem?_map, Option.map_eq_some_iff] at hx
 obtain ⟨b, hb, rfl⟩ := hx
 rw [List.getD, hb]
 rfl

set_option maxRecDepth 100000 in
set_option maxHeartbeats 12800000 in
theorem ron_0 (size : Int) (tx : Nat) (A : Option Addr) (n c : Nat) (ps : List Nat) (v : ByteArray) (w : World) (hr : Reads w w.heap.size 1 A n (ucells ps)) (hn : n ≤ 1000000) (hv : v.size ≤ 1000000) (hg : goodSize size = false) : Calls Tryz.prog 93 #[.int .i64 size, .int .u64 tx, .slice A n c, .string v] w (PgsPost (onL size tx ps v) w) := by
 rw [onL_no (size := size) (tx := tx) (ps := ps) (v := v) (.inl hg)]
 have HG := fun w => rgood_any size w
 rw [hg] at HG
 clear hg
 have hl := ulen hr
 go_enter Tryz.func93, Tryz.ntmps93
 go_wp2_with fail
 refine (rparts9_any size v w hv).mono ?_
 rintro e w1 ⟨Ap, np, cp, rfl, hrp, _, _, hb⟩
 have hnp : np = (partsL size v).length := by have := hrp.1; simpa [strc] using this.symm
 have HB := Lib.hid hb
 have HR := Lib.hid ((hr.below hb).more hb.size)
 have HRp := Lib.hid hrp
 clear hb hrp hr
 clear hnp
 go_wp2_with (go_at_call 32; refine (HG _).mono ?_; rintro e w' ⟨rfl, rfl⟩)
 go_ret2
 exact ⟨rfl, HB.out⟩
set_option maxRecDepth 100000 in
set_option maxHeartbeats 12800000 in
theorem ron_1 (size : Int) (tx : Nat) (A : Option Addr) (n c : Nat) (ps : List Nat) (v : ByteArray) (w : World) (hr : Reads w w.heap.size 1 A n (ucells ps)) (hn : n ≤ 1000000) (hv : v.size ≤ 1000000) (hg : goodSize size = true) (h1 : v.size = 0) : Calls Tryz.prog 93 #[.int .i64 size, .int .u64 tx, .slice A n c, .string v] w (PgsPost (onL size tx ps v) w) := by
 rw [onL_no (size := size) (tx := tx) (ps := ps) (v := v) (.inr (.inl h1))]
 have HG := fun w => rgood_any size w
 rw [hg] at HG
 have he : (v.toList == []) = true := by rw [List.eq_nil_of_length_eq_zero (show v.toList.length = 0 by rw [ByteArray.toList_eq, size_list]; exact h1)]; rfl
 clear hg h1
 have hl := ulen hr
 go_enter Tryz.func93, Tryz.ntmps93
 go_wp2_with fail
 refine (rparts9_any size v w hv).mono ?_
 rintro e w1 ⟨Ap, np, cp, rfl, hrp, _, _, hb⟩
 have hnp : np = (partsL size v).length := by have := hrp.1; simpa [strc] using this.symm
 have HB := Lib.hid hb
 have HR := Lib.hid ((hr.below hb).more hb.size)
 have HRp := Lib.hid hrp
 clear hb hrp hr
 clear hnp
 go_wp2_with (go_at_call 32; refine (HG _).mono ?_; rintro e w' ⟨rfl, rfl⟩)
 go_ret2
 exact ⟨rfl, HB.out⟩
set_option maxRecDepth 100000 in
set_option maxHeartbeats 12800000 in
theorem ron_2 (size : Int) (tx : Nat) (A : Option Addr) (n c : Nat) (ps : List Nat) (v : ByteArray) (w : World) (hr : Reads w w.heap.size 1 A n (ucells ps)) (hn : n ≤ 1000000) (hv : v.size ≤ 1000000) (hg : goodSize size = true) (h1 : 0 < v.size) (h2 : 4096 < v.size) : Calls Tryz.prog 93 #[.int .i64 size, .int .u64 tx, .slice A n c, .string v] w (PgsPost (onL size tx ps v) w) := by
 rw [onL_no (size := size) (tx := tx) (ps := ps) (v := v) (.inr (.inr (.inl h2)))]
 have HG := fun w => rgood_any size w
 rw [hg] at HG
 have he : (v.toList == []) = false := by rw [Bool.eq_false_iff]; intro h; rw [beq_iff_eq] at h; have h2 := size_list v; rw [← ByteArray.toList_eq, h] at h2; simp at h2; omega
 have hbg : decide ((4096 : Int) < (v.size : Int)) = true := by simp; omega
 have hbg2 : decide (4096 < v.size) = true := by simp; omega
 clear hg h1 h2
 have hl := ulen hr
 go_enter Tryz.func93, Tryz.ntmps93
 go_wp2_with fail
 refine (rparts9_any size v w hv).mono ?_
 rintro e w1 ⟨Ap, np, cp, rfl, hrp, _, _, hb⟩
 have hnp : np = (partsL size v).length := by have := hrp.1; simpa [strc] using this.symm
 have HB := Lib.hid hb
 have HR := Lib.hid ((hr.below hb).more hb.size)
 have HRp := Lib.hid hrp
 clear hb hrp hr
 clear hnp
 go_wp2_with (go_at_call 32; refine (HG _).mono ?_; rintro e w' ⟨rfl, rfl⟩)
 go_ret2
 exact ⟨rfl, HB.out⟩
set_option maxRecDepth 100000 in
set_option maxHeartbeats 12800000 in
theorem ron_3 (size : Int) (tx : Nat) (A : Option Addr) (n c : Nat) (ps : List Nat) (v : ByteArray) (w : World) (hr : Reads w w.heap.size 1 A n (ucells ps)) (hn : n ≤ 1000000) (hv : v.size ≤ 1000000) (hg : goodSize size = true) (h1 : 0 < v.size) (h2 : v.size ≤ 4096) (h3 : (partsL size v).length ≠ ps.length) : Calls Tryz.prog 93 #[.int .i64 size, .int .u64 tx, .slice A n c, .string v] w (PgsPost (onL size tx ps v) w) := by
 rw [onL_no (size := size) (tx := tx) (ps := ps) (v := v) (.inr (.inr (.inr (.inl h3))))]
 have HG := fun w => rgood_any size w
 rw [hg] at HG
 have he : (v.toList == []) = false := by rw [Bool.eq_false_iff]; intro h; rw [beq_iff_eq] at h; have h2 := size_list v; rw [← ByteArray.toList_eq, h] at h2; simp at h2; omega
 have hbg : decide ((4096 : Int) < (v.size : Int)) = false := by simp; omega
 have hbg2 : decide (4096 < v.size) = false := by simp; omega
 clear hg h1 h2
 have hl := ulen hr
 go_enter Tryz.func93, Tryz.ntmps93
 go_wp2_with fail
 refine (rparts9_any size v w hv).mono ?_
 rintro e w1 ⟨Ap, np, cp, rfl, hrp, _, _, hb⟩
 have hnp : np = (partsL size v).length := by have := hrp.1; simpa [strc] using this.symm
 have HB := Lib.hid hb
 have HR := Lib.hid ((hr.below hb).more hb.size)
 have HRp := Lib.hid hrp
 clear hb hrp hr
 have hne : ((np : Int) != (n : Int)) = true := by simp; omega
 have hne2 : (np != n) = true := by simp; omega
 clear hnp
 go_wp2_with (go_at_call 32; refine (HG _).mono ?_; rintro e w' ⟨rfl, rfl⟩)
 go_ret2
 exact ⟨rfl, HB.out⟩
set_option maxRecDepth 100000 in
set_option maxHeartbeats 12800000 in
theorem ron_4 (size : Int) (tx : Nat) (A : Option Addr) (n c : Nat) (ps : List Nat) (v : ByteArray) (w : World) (hr : Reads w w.heap.size 1 A n (ucells ps)) (hn : n ≤ 1000000) (hv : v.size ≤ 1000000) (hg : goodSize size = true) (h1 : 0 < v.size) (h2 : v.size ≤ 4096) (h3 : (partsL size v).length = ps.length) (h4 : fineL ps = false) : Calls Tryz.prog 93 #[.int .i64 size, .int .u64 tx, .slice A n c, .string v] w (PgsPost (onL size tx ps v) w) := by
 rw [onL_no (size := size) (tx := tx) (ps := ps) (v := v) (.inr (.inr (.inr (.inr (.inl h4)))))]
 have HG := fun w => rgood_any size w
 rw [hg] at HG
 have he : (v.toList == []) = false := by rw [Bool.eq_false_iff]; intro h; rw [beq_iff_eq] at h; have h2 := size_list v; rw [← ByteArray.toList_eq, h] at h2; simp at h2; omega
 have hbg : decide ((4096 : Int) < (v.size : Int)) = false := by simp; omega
 have hbg2 : decide (4096 < v.size) = false := by simp; omega
 have HFi := Lib.hid h4
 clear hg h1 h2
 have hl := ulen hr
 go_enter Tryz.func93, Tryz.ntmps93
 go_wp2_with fail
 refine (rparts9_any size v w hv).mono ?_
 rintro e w1 ⟨Ap, np, cp, rfl, hrp, _, _, hb⟩
 have hnp : np = (partsL size v).length := by have := hrp.1; simpa [strc] using this.symm
 have HB := Lib.hid hb
 have HR := Lib.hid ((hr.below hb).more hb.size)
 have HRp := Lib.hid hrp
 clear hb hrp hr
 have hne : ((np : Int) != (n : Int)) = false := by simp; omega
 have hne2 : (np != n) = false := by simp; omega
 clear hnp
 go_wp2_with (go_at_call 32; refine (HG _).mono ?_; rintro e w' ⟨rfl, rfl⟩)
 refine (rfine_any A n c ps _ HR.out hn).mono ?_
 rw [HFi.out]
 rintro e w2 ⟨rfl, q, hq⟩
 have HB2 := Lib.hid (show Below w.heap.size w w2 by rw [hq]; exact below_drewN HB.out q)
 clear hq
 go_wp2_with fail
 go_ret2
 exact ⟨rfl, HB2.out⟩
set_option maxRecDepth 100000 in
set_option maxHeartbeats 12800000 in
theorem ron_5 (size : Int) (tx : Nat) (A : Option Addr) (n c : Nat) (ps : List Nat) (v : ByteArray) (w : World) (hr : Reads w w.heap.size 1 A n (ucells ps)) (hn : n ≤ 1000000) (hv : v.size ≤ 1000000) (hg : goodSize size = true) (h1 : 0 < v.size) (h2 : v.size ≤ 4096) (h3 : (partsL size v).length = ps.length) (h4 : fineL ps = true) (h5 : 4611686018427387904 < tx) : Calls Tryz.prog 93 #[.int .i64 size, .int .u64 tx, .slice A n c, .string v] w (PgsPost (onL size tx ps v) w) := by
 rw [onL_no (size := size) (tx := tx) (ps := ps) (v := v) (.inr (.inr (.inr (.inr (.inr h5)))))]
 have HG := fun w => rgood_any size w
 rw [hg] at HG
 have he : (v.toList == []) = false := by rw [Bool.eq_false_iff]; intro h; rw [beq_iff_eq] at h; have h2 := size_list v; rw [← ByteArray.toList_eq, h] at h2; simp at h2; omega
 have hbg : decide ((4096 : Int) < (v.size : Int)) = false := by simp; omega
 have hbg2 : decide (4096 < v.size) = false := by simp; omega
 have HFi := Lib.hid h4
 have htx : decide ((4611686018427387904 : Int) < tx) = true := by simp; omega
 clear hg h1 h2
 have hl := ulen hr
 go_enter Tryz.func93, Tryz.ntmps93
 go_wp2_with fail
 refine (rparts9_any size v w hv).mono ?_
 rintro e w1 ⟨Ap, np, cp, rfl, hrp, _, _, hb⟩
 have hnp : np = (partsL size v).length := by have := hrp.1; simpa [strc] using this.symm
 have HB := Lib.hid hb
 have HR := Lib.hid ((hr.below hb).more hb.size)
 have HRp := Lib.hid hrp
 clear hb hrp hr
 have hne : ((np : Int) != (n : Int)) = false := by simp; omega
 have hne2 : (np != n) = false := by simp; omega
 clear hnp
 go_wp2_with (go_at_call 32; refine (HG _).mono ?_; rintro e w' ⟨rfl, rfl⟩)
 refine (rfine_any A n c ps _ HR.out hn).mono ?_
 rw [HFi.out]
 rintro e w2 ⟨rfl, q, hq⟩
 have HB2 := Lib.hid (show Below w.heap.size w w2 by rw [hq]; exact below_drewN HB.out q)
 clear hq
 go_wp2_with fail
 go_ret2
 exact ⟨rfl, HB2.out⟩
end Go.Proofs.YtmmjckokjmpfpaaGreat

