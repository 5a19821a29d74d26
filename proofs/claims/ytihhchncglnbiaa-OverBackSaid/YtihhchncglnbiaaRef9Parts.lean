/-
  Contract of the reference's Parts of layer 9: the parts of a value. (Written by wip/tools/gen_ref9parts.py.)
-/
import Derived.Test.YtihhchncglnbiaaRef9
import Derived.Test.YtihhchncglnbiaaOrder
import Derived.Test.YtihhchncglnbiaaOctet
import Derived.Deep.RegionHeld3
namespace Go.Proofs.Ytihhchncglnbiaa
open Go.RowKit
open Go.Lib hiding intOf
set_option linter.unusedVariables false
set_option linter.unusedSimpArgs false
attribute [local go_sem ↓] Go.wp_at_zero Go.wp_at_succ

theorem infoS9 : (Try.prog.info? 9).map (fun i => (i.zero, i.size, i.bytes)) = some (some (.string ByteArray.empty), 1, 16) := by kernel_rfl
theorem extdrop9 (t : ByteArray) (k : Nat) : (t.extract k t.size).data.toList = t.data.toList.drop k := by
  have h : t.data.size = t.data.toList.length := by simp
  rw [ByteArray.data_extract, Array.toList_extract, List.extract_eq_take_drop, List.take_of_length_le]
  rw [List.length_drop]
  show _ ≤ t.data.size - k
  omega
/-- One piece off the front. -/
theorem piece_front {v R : ByteArray} {k r q : Nat} (hr0 : 0 < r) (hR : R = v.extract (k * r) v.size) (hkl : k * r < v.size) (hq : q = min R.size r) : R.extract 0 q = piece r v k ∧ R.extract q R.size = v.extract ((k + 1) * r) v.size := by
  have hRs : R.size = v.size - k * r := by rw [hR, ByteArray.size_extract]; omega
  constructor
  · apply bytes_ext
    rw [hR]
    unfold piece
    simp only [ByteArray.data_extract, Array.toList_extract, List.extract_eq_take_drop, List.drop_zero, Nat.sub_zero]
    rw [List.take_take]
    congr 1
    rw [Nat.add_mul, Nat.one_mul]
    omega
  · apply bytes_ext
    rw [hR]
    have e1 : (v.extract (k * r) v.size).data.toList = v.data.toList.drop (k * r) := extdrop9 v (k * r)
    have e2 : (v.extract ((k + 1) * r) v.size).data.toList = v.data.toList.drop ((k + 1) * r) := extdrop9 v ((k + 1) * r)
    have e3 : ((v.extract (k * r) v.size).extract q (v.extract (k * r) v.size).size).data.toList = ((v.extract (k * r) v.size).data.toList).drop q := extdrop9 _ q
    rw [e3, e1, e2, List.drop_drop]
    by_cases hq2 : q = r
    · rw [hq2, Nat.add_mul, Nat.one_mul]
    · have hlen : v.data.toList.length = v.size := size_list v
      rw [List.drop_eq_nil_of_le (by omega), List.drop_eq_nil_of_le (by rw [Nat.add_mul, Nat.one_mul]; omega)]
theorem chunks_take_succ {v : ByteArray} {r k : Nat} (hlt : k < ceilD v.size r) : (chunks r v).take (k + 1) = (chunks r v).take k ++ [piece r v k] := by
  have : (chunks r v)[k]? = some (piece r v k) := by
    unfold chunks
    rw [List.getElem?_map, List.getElem?_range hlt]
    rfl
  obtain ⟨h1, h2⟩ := List.getElem?_eq_some_iff.1 this
  rw [List.take_succ_eq_append_getElem h1, h2]
def strLenV : Value → Nat
  | .string s => s.size
  | _ => 0
theorem ceilD_le {n r : Nat} (hr : 0 < r) : ceilD n r ≤ n := by
  rcases Nat.lt_or_ge 0 (ceilD n r) with h | h
  · have h2 := piece_lt (n := n) (r := r) (i := ceilD n r - 1) hr (by omega)
    have h3 : (ceilD n r - 1) * 1 ≤ (ceilD n r - 1) * r := Nat.mul_le_mul_left _ hr
    omega
  · omega
set_option maxRecDepth 100000 in
set_option maxHeartbeats 6400000 in
theorem rparts9_any (size : Int) (v : ByteArray) (w : World) (hv : v.size ≤ 1000000) :
    Calls Try.prog 17 #[.int .i64 size, .string v] w fun e w' => ∃ A n c, e = .returned (.slice A n c) ∧ Reads w' w'.heap.size 1 A n (strc (partsL size v)) ∧ n ≤ c ∧ c ≤ maxLen ∧ Below w.heap.size w w' := by
  have HG := fun w => rgood_any size w
  rcases hg : goodSize size with _ | _
  · rw [hg] at HG
    have HE := Lib.hid (show partsL size v = [] by rw [partsL, hg]; rfl)
    clear hg
    go_enter Try.func17, Try.ntmps17
    go_wp2_with (go_at_call 28; refine (HG _).mono ?_; rintro e w' ⟨rfl, rfl⟩)
    go_ret
    rw [HE.out]
    exact ⟨none, 0, 0, rfl, Reads.none_, Nat.le_refl _, by simp [maxLen], Below.refl _ _⟩
  obtain ⟨i0, hi0, hz0, hz1, hz2⟩ := info_parts infoS9
  obtain ⟨z, rfl, hz1', hz2', _⟩ := good_nat hg
  obtain ⟨r, hr⟩ : ∃ r, r = z - 24 := ⟨_, rfl⟩
  have HM : ∀ w : World, Calls Try.prog 19 #[.int .i64 z] w fun e w' => e = .returned (.int .i64 (r : Int)) ∧ w = w' := fun w => by
    have h := rroom_yes z w hg
    rwa [show (z : Int) - 24 = (r : Int) by omega] at h
  have hr0 : 0 < r := by omega
  have hr9 : r ≤ 4096 := by omega
  have HE := Lib.hid (show partsL z v = chunks r v by rw [partsL, hg, if_pos rfl]; congr 1; omega)
  rw [hg] at HG
  have HB0 := Lib.hid (Below.refl w.heap.size w)
  clear hg hz1' hz2' hr
  go_enter Try.func17, Try.ntmps17
  go_wp2_with (go_at_call 28; refine (HG _).mono ?_; rintro e w' ⟨rfl, rfl⟩)
  go_loopw [1, 5, 6] (fun p o _ wr => ∃ (k : Nat) (A : Option Addr) (c : Nat), k ≤ ceilD v.size r ∧ p = .string (v.extract (k * r) v.size) ∧ o = .slice A k c ∧ Hid (wr.ownsRow w.heap.size 9 1 (.slice A k c) k (strc ((chunks r v).take k))) ∧ Hid (Below w.heap.size w wr)) (fun p _ _ _ => strLenV p)
  case atStart => exact ⟨0, none, 0, Nat.zero_le _, by simp, rfl, Lib.hid (World.ownsRow_nil _ _ _ _), HB0⟩
  case round =>
    clear HB0
    obtain ⟨k, A, c, hk, rfl, rfl, HO, HB⟩ := hrel
    obtain ⟨R, hR⟩ : ∃ R, R = v.extract (k * r) v.size := ⟨_, rfl⟩
    have hRs : R.size = v.size - k * r := by rw [hR, ByteArray.size_extract]; omega
    rw [← hR]
    have hk9 : k ≤ 1000000 := by have := ceilD_le (n := v.size) hr0; omega
    by_cases hlt : k < ceilD v.size r
    · have hkl := piece_lt hr0 hlt
      obtain ⟨q, hq⟩ : ∃ q, q = min R.size r := ⟨_, rfl⟩
      have hmin : min (R.size : Int) (r : Int) = (q : Int) := by omega
      have hemp : R.toList.isEmpty = false := by
        rw [Bool.eq_false_iff]
        intro h
        rw [List.isEmpty_iff_length_eq_zero, ByteArray.toList_eq, size_list] at h
        omega
      have hql : q ≤ R.size := by omega
      have hqi : (q : Int) ≤ (R.size : Int) := by omega
      have hq0 : 0 < q := by omega
      have HPN := Lib.hid (piece_front hr0 hR hkl hq)
      have HT := Lib.hid (chunks_take_succ hlt)
      have HRs := Lib.hid hRs
      have HQ := Lib.hid hq
      clear hq hR hkl hRs
      go_wp2_with (go_at_call 19; refine (HM _).mono ?_; rintro e w' ⟨rfl, rfl⟩)
      clear hmin
      obtain ⟨w0, hw0⟩ : ∃ w0, w0 = wr.drew := ⟨_, rfl⟩
      replace HO := Lib.hid (show w0.ownsRow w.heap.size 9 1 (.slice A k c) k (strc ((chunks r v).take k)) by rw [hw0]; exact HO.out.drew)
      replace HB := Lib.hid (show Below w.heap.size w w0 by rw [hw0]; exact HB.out.drew)
      refine wp_region_held_drew (S := (fun _ => True)) (by kernel_rfl) trivial (fun hHeld => ?_)
      rw [← hw0]
      clear hw0
      refine wpAnyH_takeL (i := 0) (v := ?_) rfl (by kernel_rfl) (by kernel_rfl) (by kernel_rfl) (fun _ _ _ h => h) (Or.inl ⟨by rfl, ?_⟩) (by first | exact hHeld | trivial | assumption) ?_
      rotate_left
      · intro wz hSz; (try dsimp only at hSz); go_simp; (try with_reducible rfl)
      try simp only [Act.put, List.setIfInBounds_toArray, List.set_cons_zero, List.set_cons_succ]
      refine wpAnyH_takeL (i := 1) (v := ?_) rfl (by kernel_rfl) (by kernel_rfl) (by kernel_rfl) (fun _ _ _ h => h) (Or.inl ⟨by rfl, ?_⟩) (by first | exact hHeld | trivial | assumption) ?_
      rotate_left
      · intro wz hSz; (try dsimp only at hSz); go_simp; (try with_reducible rfl)
      try simp only [Act.put, List.setIfInBounds_toArray, List.set_cons_zero, List.set_cons_succ]
      refine wpAnyH_takeL (i := 2) (v := ?_) rfl (by kernel_rfl) (by kernel_rfl) (by kernel_rfl) (fun _ _ _ h => h) (Or.inl ⟨by rfl, ?_⟩) (by first | exact hHeld | trivial | assumption) ?_
      rotate_left
      · intro wz hSz; (try dsimp only at hSz); go_simp; (try with_reducible rfl)
      try simp only [Act.put, List.setIfInBounds_toArray, List.set_cons_zero, List.set_cons_succ]
      refine wpAnyH_takeL (i := 3) (v := ?_) rfl (by kernel_rfl) (by kernel_rfl) (by kernel_rfl) (fun _ _ _ h => h) (Or.inl ⟨by rfl, ?_⟩) (by first | exact hHeld | trivial | assumption) ?_
      rotate_left
      · intro wz hSz; (try dsimp only at hSz); go_simp; (try with_reducible rfl)
      try simp only [Act.put, List.setIfInBounds_toArray, List.set_cons_zero, List.set_cons_succ]
      refine wpAnyH_takeL (i := 6) (v := ?_) rfl (by kernel_rfl) (by kernel_rfl) (by kernel_rfl) (fun _ _ _ h => h) (Or.inl ⟨by rfl, ?_⟩) (by first | exact hHeld | trivial | assumption) ?_
      rotate_left
      · intro wz hSz; (try dsimp only at hSz); go_simp; (try with_reducible rfl)
      try simp only [Act.put, List.setIfInBounds_toArray, List.set_cons_zero, List.set_cons_succ]
      refine wpAnyH_takeL (i := 7) (v := ?_) rfl (by kernel_rfl) (by kernel_rfl) (by kernel_rfl) (fun _ _ _ h => h) (Or.inl ⟨by rfl, ?_⟩) (by first | exact hHeld | trivial | assumption) ?_
      rotate_left
      · intro wz hSz; (try dsimp only at hSz); go_simp; (try with_reducible rfl)
      try simp only [Act.put, List.setIfInBounds_toArray, List.set_cons_zero, List.set_cons_succ]
      refine wpAnyH_takeL (i := 8) (v := ?_) rfl (by kernel_rfl) (by kernel_rfl) (by kernel_rfl) (fun _ _ _ h => h) (Or.inl ⟨by rfl, ?_⟩) (by first | exact hHeld | trivial | assumption) ?_
      rotate_left
      · intro wz hSz; (try dsimp only at hSz); go_simp; (try with_reducible rfl)
      try simp only [Act.put, List.setIfInBounds_toArray, List.set_cons_zero, List.set_cons_succ]
      refine wpAnyH_ready (rs := [4]) (by kernel_rfl) (by simp) ?_
      refine AllReadyH.consL rfl (fun K hK => ?_) AllReadyH.nil
      go_simp
      refine hK.out _ _ (trivial) (fun hHeld => ?_)
      clear hK K
      try simp only [Act.put, List.setIfInBounds_toArray, List.set_cons_zero, List.set_cons_succ]
      refine wpAnyH_ready (rs := [5]) (by kernel_rfl) (by simp) ?_
      refine AllReadyH.consL rfl (fun K hK => ?_) AllReadyH.nil
      refine wp_append_any _ (.tmp 17) (.tmp 21) _ rfl w.heap.size 9 i0 _ 1 16 Try.underlying33 hi0 hz0 hz1 hz2 rfl (by omega) _ k _ rfl (HO.out.alloc _) (w0.heap.size + 1) (some ⟨w0.heap.size, 0, none⟩) 1 1 [.string (R.extract 0 q)] rfl (reads_new _ _ _ _) (oneCell_one rfl) (by unfold maxLen; omega) (by omega) (by have := HB.out.size; simp; omega) ?_
      intro v5 w5 hown5 hg5 hat
      clear hat
      refine hK.out _ _ (trivial) (fun hHeld => ?_)
      clear hK K
      try simp only [Act.put, List.setIfInBounds_toArray, List.set_cons_zero, List.set_cons_succ]
      refine wpAnyH_takeL (i := 9) (v := ?_) rfl (by kernel_rfl) (by kernel_rfl) (by kernel_rfl) (fun _ _ _ h => h) (Or.inl ⟨by rfl, ?_⟩) (by first | exact hHeld | trivial | assumption) ?_
      rotate_left
      · intro wz hSz; (try dsimp only at hSz); go_simp; (try with_reducible rfl)
      try simp only [Act.put, List.setIfInBounds_toArray, List.set_cons_zero, List.set_cons_succ]
      refine wpAnyH_takeL (i := 10) (v := ?_) rfl (by kernel_rfl) (by kernel_rfl) (by kernel_rfl) (fun _ _ _ h => h) (Or.inl ⟨by rfl, ?_⟩) (by first | exact hHeld | trivial | assumption) ?_
      rotate_left
      · intro wz hSz; (try dsimp only at hSz); go_simp; (try with_reducible rfl)
      try simp only [Act.put, List.setIfInBounds_toArray, List.set_cons_zero, List.set_cons_succ]
      refine wpAnyH_done (by kernel_rfl) ?_ _
      have hown6 : w5.ownsRow w.heap.size 9 1 v5 (k + 1) (strc ((chunks r v).take (k + 1))) := by
        rw [HT.out, ← HPN.out.1]
        simpa [strc] using hown5
      obtain ⟨A5, c5, rfl, _, _, _⟩ := own_form hown6
      have HO5 := Lib.hid hown6
      have HB5 := Lib.hid ((HB.out.alloc HB.out.size (.cells #[.string (R.extract 0 q)] 9)).grown hg5 (by have := HB.out.size; simp; omega) (fun j hj => (HO.out.lt j hj).1))
      clear hown5 hown6 hg5 HO HB hHeld
      go_wp2_with fail
      go_roundw
      case rel =>
        have hnx := HPN.out.2
        first
          | exact ⟨k + 1, A5, c5, by omega, by rw [hnx], rfl, HO5, HB5⟩
          | ((repeat apply Exists.intro); exact ⟨⟨k + 1, A5, c5, by omega, by rw [hnx], rfl, HO5, HB5⟩, rfl⟩)
      case measure =>
        simp only [strLenV]
        first
          | (rw [ByteArray.size_extract]; omega)
          | omega
    · have hkc : k = ceilD v.size r := by omega
      have hend := piece_end hr0 hlt
      have hemp : R.toList.isEmpty = true := by
        rw [List.isEmpty_iff_length_eq_zero, ByteArray.toList_eq, size_list]
        omega
      have hemp2 : R.toList = [] := List.isEmpty_iff.1 hemp
      have HT := Lib.hid (show strc ((chunks r v).take k) = strc (partsL z v) by rw [HE.out, List.take_of_length_le (by rw [chunks_len]; omega)])
      clear hRs hR hend hkc hlt
      go_wp2_with fail
      go_ret
      obtain ⟨A', c', he, h1, h2, _⟩ := own_form HO.out
      injection he with e1 e2 e3
      subst e1
      subst e3
      rw [← HT.out]
      exact ⟨A, k, c, rfl, Reads.of_own HO.out, h1, h2, HB.out⟩
end Go.Proofs.Ytihhchncglnbiaa
