/-
  Texts that the main proof rests on, put together: Ref9Parts, Kit11, Ref11O. No statement is proved here.
-/
import Derived.Test.YtabhhccdbfjigaaJ17
import Derived.Test.YtabhhccdbfjigaaJ7
import Derived.Test.YtabhhccdbfjigaaJ2
import Derived.Deep.RegionHeld3
import Derived.Test.YtabhhccdbfjigaaJ12
import Derived.Test.YtabhhccdbfjigaaJ16
import Derived.Deep.DrawnRows
import Derived.Deep.QuietTactic
import Derived.BigQuiet
import Derived.Lib.Hide
import Derived.Test.YtabhhccdbfjigaaJ23
import Derived.Test.YtabhhccdbfjigaaJ18
import Derived.Test.YtabhhccdbfjigaaJ21
namespace Go.Proofs.Ytabhhccdbfjigaa
open Go.RowKit
open Go.Lib hiding intOf
set_option linter.unusedVariables false
set_option linter.unusedSimpArgs false
attribute [local go_sem ↓] Go.wp_at_zero Go.wp_at_succ

theorem infoS9 : (Try.prog.info? 9).map (fun i => (i.zero, i.size, i.bytes)) = some (some (.string ByteArray.empty), 1, 16) := by kernel_rfl
theorem extdrop9 (t : ByteArray) (k : Nat) : (t.extract k t.size).data.toList = t.data.toList.drop k := by
  have h : t.data.size = t.data.toList.length := by simp
  rw [ByteArray.data_extract, Array.toList_extract, List.extract_eq_take_drop, List.take_of_length_le]
  rw [List.length_drop]
  show _ ≤ t.data.size - k
  omega
/-- One piece off the front. -/
theorem piece_front {v R : ByteArray} {k r q : Nat} (hr0 : 0 < r) (hR : R = v.extract (k * r) v.size) (hkl : k * r < v.size) (hq : q = min R.size r) : R.extract 0 q = piece r v k ∧ R.extract q R.size = v.extract ((k + 1) * r) v.size := by
  have hRs : R.size = v.size - k * r := by rw [hR, ByteArray.size_extract]; omega
  constructor
  · apply bytes_ext
    rw [hR]
    unfold piece
    simp only [ByteArray.data_extract, Array.toList_extract, List.extract_eq_take_drop, List.drop_zero, Nat.sub_zero]
    rw [List.take_take]
    congr 1
    rw [Nat.add_mul, Nat.one_mul]
    omega
  · apply bytes_ext
    rw [hR]
    have e1 : (v.extract (k * r) v.size).data.toList = v.data.toList.drop (k * r) := extdrop9 v (k * r)
    have e2 : (v.extract ((k + 1) * r) v.size).data.toList = v.data.toList.drop ((k + 1) * r) := extdrop9 v ((k + 1) * r)
    have e3 : ((v.extract (k * r) v.size).extract q (v.extract (k * r) v.size).size).data.toList = ((v.extract (k * r) v.size).data.toList).drop q := extdrop9 _ q
    rw [e3, e1, e2, List.drop_drop]
    by_cases hq2 : q = r
    · rw [hq2, Nat.add_mul, Nat.one_mul]
    · have hlen : v.data.toList.length = v.size := size_list v
      rw [List.drop_eq_nil_of_le (by omega), List.drop_eq_nil_of_le (by rw [Nat.add_mul, Nat.one_mul]; omega)]
theorem chunks_take_succ {v : ByteArray} {r k : Nat} (hlt : k < ceilD v.size r) : (chunks r v).take (k + 1) = (chunks r v).take k ++ [piece r v k] := by
  have : (chunks r v)[k]? = some (piece r v k) := by
    unfold chunks
    rw [List.getElem?_map, List.getElem?_range hlt]
    rfl
  obtain ⟨h1, h2⟩ := List.getElem?_eq_some_iff.1 this
  rw [List.take_succ_eq_append_getElem h1, h2]
def strLenV : Value → Nat
  | .string s => s.size
  | _ => 0
theorem ceilD_le {n r : Nat} (hr : 0 < r) : ceilD n r ≤ n := by
  rcases Nat.lt_or_ge 0 (ceilD n r) with h | h
  · have h2 := piece_lt (n := n) (r := r) (i := ceilD n r - 1) hr (by omega)
    have h3 : (ceilD n r - 1) * 1 ≤ (ceilD n r - 1) * r := Nat.mul_le_mul_left _ hr
    omega
  · omega
set_option maxRecDepth 100000 in
set_option maxHeartbeats 6400000 in
theorem rparts9_any (size : Int) (v : ByteArray) (w : World) (hv : v.size ≤ 1000000) :
    Calls Try.prog 48 #[.int .i64 size, .string v] w fun e w' => ∃ A n c, e = .returned (.slice A n c) ∧ Reads w' w'.heap.size 1 A n (strc (partsL size v)) ∧ n ≤ c ∧ c ≤ maxLen ∧ Below w.heap.size w w' := by
  have HG := fun w => rgood_any size w
  rcases hg : goodSize size with _ | _
  · rw [hg] at HG
    have HE := Lib.hid (show partsL size v = [] by rw [partsL, hg]; rfl)
    clear hg
    go_enter Try.func48, Try.ntmps48
    go_wp2_with (go_at_call 49; refine (HG _).mono ?_; rintro e w' ⟨rfl, rfl⟩)
    go_ret
    rw [HE.out]
    exact ⟨none, 0, 0, rfl, Reads.none_, Nat.le_refl _, by simp [maxLen], Below.refl _ _⟩
  obtain ⟨i0, hi0, hz0, hz1, hz2⟩ := info_parts infoS9
  obtain ⟨z, rfl, hz1', hz2', _⟩ := good_nat hg
  obtain ⟨r, hr⟩ : ∃ r, r = z - 24 := ⟨_, rfl⟩
  have HM : ∀ w : World, Calls Try.prog 23 #[.int .i64 z] w fun e w' => e = .returned (.int .i64 (r : Int)) ∧ w = w' := fun w => by
    have h := rroom_yes z w hg
    rwa [show (z : Int) - 24 = (r : Int) by omega] at h
  have hr0 : 0 < r := by omega
  have hr9 : r ≤ 4096 := by omega
  have HE := Lib.hid (show partsL z v = chunks r v by rw [partsL, hg, if_pos rfl]; congr 1; omega)
  rw [hg] at HG
  have HB0 := Lib.hid (Below.refl w.heap.size w)
  clear hg hz1' hz2' hr
  go_enter Try.func48, Try.ntmps48
  go_wp2_with (go_at_call 49; refine (HG _).mono ?_; rintro e w' ⟨rfl, rfl⟩)
  go_loopw [1, 5, 6] (fun p o _ wr => ∃ (k : Nat) (A : Option Addr) (c : Nat), k ≤ ceilD v.size r ∧ p = .string (v.extract (k * r) v.size) ∧ o = .slice A k c ∧ Hid (wr.ownsRow w.heap.size 9 1 (.slice A k c) k (strc ((chunks r v).take k))) ∧ Hid (Below w.heap.size w wr)) (fun p _ _ _ => strLenV p)
  case atStart => exact ⟨0, none, 0, Nat.zero_le _, by simp, rfl, Lib.hid (World.ownsRow_nil _ _ _ _), HB0⟩
  case round =>
    clear HB0
    obtain ⟨k, A, c, hk, rfl, rfl, HO, HB⟩ := hrel
    obtain ⟨R, hR⟩ : ∃ R, R = v.extract (k * r) v.size := ⟨_, rfl⟩
    have hRs : R.size = v.size - k * r := by rw [hR, ByteArray.size_extract]; omega
    rw [← hR]
    have hk9 : k ≤ 1000000 := by have := ceilD_le (n := v.size) hr0; omega
    by_cases hlt : k < ceilD v.size r
    · have hkl := piece_lt hr0 hlt
      obtain ⟨q, hq⟩ : ∃ q, q = min R.size r := ⟨_, rfl⟩
      have hmin : min (R.size : Int) (r : Int) = (q : Int) := by omega
      have hemp : R.toList.isEmpty = false := by
        rw [Bool.eq_false_iff]
        intro h
        rw [List.isEmpty_iff_length_eq_zero, ByteArray.toList_eq, size_list] at h
        omega
      have hql : q ≤ R.size := by omega
      have hqi : (q : Int) ≤ (R.size : Int) := by omega
      have hq0 : 0 < q := by omega
      have HPN := Lib.hid (piece_front hr0 hR hkl hq)
      have HT := Lib.hid (chunks_take_succ hlt)
      have HRs := Lib.hid hRs
      have HQ := Lib.hid hq
      clear hq hR hkl hRs
      go_wp2_with (go_at_call 23; refine (HM _).mono ?_; rintro e w' ⟨rfl, rfl⟩)
      clear hmin
      obtain ⟨w0, hw0⟩ : ∃ w0, w0 = wr.drew := ⟨_, rfl⟩
      replace HO := Lib.hid (show w0.ownsRow w.heap.size 9 1 (.slice A k c) k (strc ((chunks r v).take k)) by rw [hw0]; exact HO.out.drew)
      replace HB := Lib.hid (show Below w.heap.size w w0 by rw [hw0]; exact HB.out.drew)
      refine wp_region_held_drew (S := (fun _ => True)) (by kernel_rfl) trivial (fun hHeld => ?_)
      rw [← hw0]
      clear hw0
      refine wpAnyH_takeL (i := 0) (v := ?_) rfl (by kernel_rfl) (by kernel_rfl) (by kernel_rfl) (fun _ _ _ h => h) (Or.inl ⟨by rfl, ?_⟩) (by first | exact hHeld | trivial | assumption) ?_
      rotate_left
      · intro wz hSz; (try dsimp only at hSz); go_simp; (try with_reducible rfl)
      try simp only [Act.put, List.setIfInBounds_toArray, List.set_cons_zero, List.set_cons_succ]
      refine wpAnyH_takeL (i := 1) (v := ?_) rfl (by kernel_rfl) (by kernel_rfl) (by kernel_rfl) (fun _ _ _ h => h) (Or.inl ⟨by rfl, ?_⟩) (by first | exact hHeld | trivial | assumption) ?_
      rotate_left
      · intro wz hSz; (try dsimp only at hSz); go_simp; (try with_reducible rfl)
      try simp only [Act.put, List.setIfInBounds_toArray, List.set_cons_zero, List.set_cons_succ]
      refine wpAnyH_takeL (i := 2) (v := ?_) rfl (by kernel_rfl) (by kernel_rfl) (by kernel_rfl) (fun _ _ _ h => h) (Or.inl ⟨by rfl, ?_⟩) (by first | exact hHeld | trivial | assumption) ?_
      rotate_left
      · intro wz hSz; (try dsimp only at hSz); go_simp; (try with_reducible rfl)
      try simp only [Act.put, List.setIfInBounds_toArray, List.set_cons_zero, List.set_cons_succ]
      refine wpAnyH_takeL (i := 3) (v := ?_) rfl (by kernel_rfl) (by kernel_rfl) (by kernel_rfl) (fun _ _ _ h => h) (Or.inl ⟨by rfl, ?_⟩) (by first | exact hHeld | trivial | assumption) ?_
      rotate_left
      · intro wz hSz; (try dsimp only at hSz); go_simp; (try with_reducible rfl)
      try simp only [Act.put, List.setIfInBounds_toArray, List.set_cons_zero, List.set_cons_succ]
      refine wpAnyH_takeL (i := 6) (v := ?_) rfl (by kernel_rfl) (by kernel_rfl) (by kernel_rfl) (fun _ _ _ h => h) (Or.inl ⟨by rfl, ?_⟩) (by first | exact hHeld | trivial | assumption) ?_
      rotate_left
      · intro wz hSz; (try dsimp only at hSz); go_simp; (try with_reducible rfl)
      try simp only [Act.put, List.setIfInBounds_toArray, List.set_cons_zero, List.set_cons_succ]
      refine wpAnyH_takeL (i := 7) (v := ?_) rfl (by kernel_rfl) (by kernel_rfl) (by kernel_rfl) (fun _ _ _ h => h) (Or.inl ⟨by rfl, ?_⟩) (by first | exact hHeld | trivial | assumption) ?_
      rotate_left
      · intro wz hSz; (try dsimp only at hSz); go_simp; (try with_reducible rfl)
      try simp only [Act.put, List.setIfInBounds_toArray, List.set_cons_zero, List.set_cons_succ]
      refine wpAnyH_takeL (i := 8) (v := ?_) rfl (by kernel_rfl) (by kernel_rfl) (by kernel_rfl) (fun _ _ _ h => h) (Or.inl ⟨by rfl, ?_⟩) (by first | exact hHeld | trivial | assumption) ?_
      rotate_left
      · intro wz hSz; (try dsimp only at hSz); go_simp; (try with_reducible rfl)
      try simp only [Act.put, List.setIfInBounds_toArray, List.set_cons_zero, List.set_cons_succ]
      refine wpAnyH_ready (rs := [4]) (by kernel_rfl) (by simp) ?_
      refine AllReadyH.consL rfl (fun K hK => ?_) AllReadyH.nil
      go_simp
      refine hK.out _ _ (trivial) (fun hHeld => ?_)
      clear hK K
      try simp only [Act.put, List.setIfInBounds_toArray, List.set_cons_zero, List.set_cons_succ]
      refine wpAnyH_ready (rs := [5]) (by kernel_rfl) (by simp) ?_
      refine AllReadyH.consL rfl (fun K hK => ?_) AllReadyH.nil
      refine wp_append_any _ (.tmp 17) (.tmp 21) _ rfl w.heap.size 9 i0 _ 1 16 Try.underlying57 hi0 hz0 hz1 hz2 rfl (by omega) _ k _ rfl (HO.out.alloc _) (w0.heap.size + 1) (some ⟨w0.heap.size, 0, none⟩) 1 1 [.string (R.extract 0 q)] rfl (reads_new _ _ _ _) (oneCell_one rfl) (by unfold maxLen; omega) (by omega) (by have := HB.out.size; simp; omega) ?_
      intro v5 w5 hown5 hg5 hat
      clear hat
      refine hK.out _ _ (trivial) (fun hHeld => ?_)
      clear hK K
      try simp only [Act.put, List.setIfInBounds_toArray, List.set_cons_zero, List.set_cons_succ]
      refine wpAnyH_takeL (i := 9) (v := ?_) rfl (by kernel_rfl) (by kernel_rfl) (by kernel_rfl) (fun _ _ _ h => h) (Or.inl ⟨by rfl, ?_⟩) (by first | exact hHeld | trivial | assumption) ?_
      rotate_left
      · intro wz hSz; (try dsimp only at hSz); go_simp; (try with_reducible rfl)
      try simp only [Act.put, List.setIfInBounds_toArray, List.set_cons_zero, List.set_cons_succ]
      refine wpAnyH_takeL (i := 10) (v := ?_) rfl (by kernel_rfl) (by kernel_rfl) (by kernel_rfl) (fun _ _ _ h => h) (Or.inl ⟨by rfl, ?_⟩) (by first | exact hHeld | trivial | assumption) ?_
      rotate_left
      · intro wz hSz; (try dsimp only at hSz); go_simp; (try with_reducible rfl)
      try simp only [Act.put, List.setIfInBounds_toArray, List.set_cons_zero, List.set_cons_succ]
      refine wpAnyH_done (by kernel_rfl) ?_ _
      have hown6 : w5.ownsRow w.heap.size 9 1 v5 (k + 1) (strc ((chunks r v).take (k + 1))) := by
        rw [HT.out, ← HPN.out.1]
        simpa [strc] using hown5
      obtain ⟨A5, c5, rfl, _, _, _⟩ := own_form hown6
      have HO5 := Lib.hid hown6
      have HB5 := Lib.hid ((HB.out.alloc HB.out.size (.cells #[.string (R.extract 0 q)] 9)).grown hg5 (by have := HB.out.size; simp; omega) (fun j hj => (HO.out.lt j hj).1))
      clear hown5 hown6 hg5 HO HB hHeld
      go_wp2_with fail
      go_roundw
      case rel =>
        have hnx := HPN.out.2
        first
          | exact ⟨k + 1, A5, c5, by omega, by rw [hnx], rfl, HO5, HB5⟩
          | ((repeat apply Exists.intro); exact ⟨⟨k + 1, A5, c5, by omega, by rw [hnx], rfl, HO5, HB5⟩, rfl⟩)
      case measure =>
        simp only [strLenV]
        first
          | (rw [ByteArray.size_extract]; omega)
          | omega
    · have hkc : k = ceilD v.size r := by omega
      have hend := piece_end hr0 hlt
      have hemp : R.toList.isEmpty = true := by
        rw [List.isEmpty_iff_length_eq_zero, ByteArray.toList_eq, size_list]
        omega
      have hemp2 : R.toList = [] := List.isEmpty_iff.1 hemp
      have HT := Lib.hid (show strc ((chunks r v).take k) = strc (partsL z v) by rw [HE.out, List.take_of_length_le (by rw [chunks_len]; omega)])
      clear hRs hR hend hkc hlt
      go_wp2_with fail
      go_ret
      obtain ⟨A', c', he, h1, h2, _⟩ := own_form HO.out
      injection he with e1 e2 e3
      subst e1
      subst e3
      rw [← HT.out]
      exact ⟨A, k, c, rfl, Reads.of_own HO.out, h1, h2, HB.out⟩
end Go.Proofs.Ytabhhccdbfjigaa
namespace Go.Proofs.Ytabhhccdbfjigaa
open Go.RowKit
open Go.Lib hiding intOf
set_option linter.unusedVariables false
set_option linter.unusedSimpArgs false
attribute [local go_sem ↓] Go.wp_at_zero Go.wp_at_succ

theorem pg_noteq (a0 a1 a2 a3 a4 : Int) (a5 : ByteArray) (w : World) : (binOp .neq 40 (.agg #[.int .i64 a0, .int .i64 a1, .int .u32 a2, .int .u32 a3, .int .u64 a4, .string a5]) (.agg #[.int .i64 a0, .int .i64 a1, .int .u32 a2, .int .u32 a3, .int .u64 a4, .string a5])).run Try.prog w = .ok (.bool false) w := by
  simp [go_sem]
theorem lk_noteq (a0 a1 a2 a3 a4 : Int) (a5 : ByteArray) (a6 : Int) (w : World) : (binOp .neq 46 (.agg #[.int .i64 a0, .int .i64 a1, .int .u32 a2, .int .u32 a3, .int .u64 a4, .string a5, .int .i64 a6]) (.agg #[.int .i64 a0, .int .i64 a1, .int .u32 a2, .int .u32 a3, .int .u64 a4, .string a5, .int .i64 a6])).run Try.prog w = .ok (.bool false) w := by
  simp [go_sem]
set_option maxRecDepth 300000 in
set_option maxHeartbeats 3200000 in
theorem samePg_yes (A : Option Addr) (n c : Nat) (A' : Option Addr) (c' : Nat) (l : List Pg) (w : World) {B B' : Nat} (hr : Reads w B 6 A n (pgcs l)) (hr' : Reads w B' 6 A' n (pgcs l)) (hn : n ≤ maxLen) :
    Calls Try.prog 21 #[.slice A n c, .slice A' n c'] w fun e w' => e = .returned (.bool true) ∧ ∃ q, w' = w.drewN q := by
  have HR := Lib.hid hr
  have HR' := Lib.hid hr'
  unfold maxLen at hn
  clear hr hr'
  go_enter Try.func21, Try.ntmps21
  go_wp2_with fail
  go_loopw [5] (fun i wr => ∃ k : Nat, k ≤ n ∧ i = .int .i64 k ∧ ∃ q, wr = w.drewN q) (fun i _ => n - (intOf i).toNat)
  case atStart => exact ⟨0, Nat.zero_le _, rfl, 0, rfl⟩
  case round =>
    obtain ⟨k, hk, rfl, q, hq⟩ := hrel
    by_cases hlt : k < n
    · obtain ⟨ad, x, rfl, _, hx, hc⟩ := page_at HR.out hlt
      obtain ⟨ad', x', rfl, _, hx', hc'⟩ := page_at HR'.out hlt
      rw [hx] at hx'
      injection hx' with hx'
      subst hx'
      have hc : PgAt wr (ad.add (k * 6)) x := by rw [hq]; exact hc
      have hc' : PgAt wr (ad'.add (k * 6)) x := by rw [hq]; exact hc'
      obtain ⟨c0, c1, c2, c3, c4, c5⟩ := hc
      obtain ⟨d0, d1, d2, d3, d4, d5⟩ := hc'
      have hk0 : (0 : Int) ≤ k := by omega
      have hk1 : (k : Int) < n := by omega
      have HQ := Lib.hid hq
      have he := fun w => pg_noteq x.kd x.ct x.pg x.lk x.tx x.bd w
      clear hq hx
      go_wp2_with fail
      go_quiet (fail)
      go_wp2_with fail
      go_roundw
      case rel =>
        have hqq : ∃ q', wr.drewN nq = w.drewN q' := ⟨q + nq, by rw [HQ.out, World.drewN_drewN]⟩
        first
          | exact ⟨k + 1, by omega, by go_num, hqq⟩
          | ((repeat apply Exists.intro); exact ⟨⟨k + 1, by omega, by go_num, hqq⟩, rfl⟩)
      case measure => simp [intOf]; omega
    · obtain rfl : k = n := by omega
      clear hlt hk
      have HQ := Lib.hid hq
      clear hq
      go_wp2_with fail
      go_ret
      exact ⟨rfl, q, HQ.out⟩
theorem infoPg11 : (Try.prog.info? 40).map (fun i => (i.zero, i.size, i.bytes)) = some (some (.agg #[.int .i64 0, .int .i64 0, .int .u32 0, .int .u32 0, .int .u64 0, .string ByteArray.empty]), 6, 48) := by kernel_rfl
theorem pgcs_one (l : List Pg) : ∀ u ∈ pgcs l, u.oneCell' = true := by
  intro u hu
  unfold pgcs rowsOf at hu
  obtain ⟨b, _, hb⟩ := List.mem_flatMap.1 hu
  simp [Pg.cells] at hb
  rcases hb with rfl | rfl | rfl | rfl | rfl | rfl <;> rfl
set_option maxRecDepth 100000 in
theorem ownPg_any {w : World} {A : Option Addr} {n : Nat} {l : List Pg} (c : Nat) (hr : Reads w w.heap.size 6 A n (pgcs l)) (hn : n ≤ 1000000000) :
    Calls Try.prog 25 #[.slice A n c] w fun e w' => ∃ A' c', e = .returned (.slice A' n c') ∧ w'.ownsRow w.heap.size 40 6 (.slice A' n c') n (pgcs l) ∧ Below w.heap.size w w' := by
  obtain ⟨i0, hi0, hz0, hz1, hz2⟩ := info_parts infoPg11
  go_enter Try.func25, Try.ntmps25
  go_wp2_with (at_builtin; refine wpList_append_any _ rfl (.tmp 3) (.tmp 4) _ rfl w.heap.size 40 i0 _ 6 48 Try.underlying24 hi0 hz0 hz1 hz2 rfl (by omega) _ 0 [] rfl (World.ownsRow_made w #[] 0 (Nat.le_refl _) (Nat.zero_le _) rfl) (w.heap.size + 1) A n c (pgcs l) rfl ((hr.alloc (Nat.le_refl _) _).more (by omega)) (pgcs_one _) (by unfold maxLen; omega) (by omega) (by simp) ?_; intro v2 w2 hown2 hg2 hat2)
  go_ret
  have hown3 : w2.ownsRow w.heap.size 40 6 v2 n (pgcs l) := by simpa using hown2
  obtain ⟨A', c', rfl, _⟩ := own_form hown3
  exact ⟨A', c', rfl, hown3, ((Below.refl _ _).alloc (Nat.le_refl _) _).grown hg2 (by simp) (by rintro k ⟨⟩; exact Nat.le_refl _)⟩
end Go.Proofs.Ytabhhccdbfjigaa
namespace Go.Proofs.Ytabhhccdbfjigaa
open Go.RowKit
open Go.Lib hiding intOf
set_option linter.unusedVariables false
set_option linter.unusedSimpArgs false
attribute [local go_sem ↓] Go.wp_at_zero Go.wp_at_succ

/-- What a call returns that makes pages, or refuses. -/
def PgsPost (o : Option (List Pg)) (w : World) (e : Ending) (w' : World) : Prop :=
  match o with
  | none => e = .returned (.tuple #[.slice none 0 0, .int .i64 2]) ∧ Below w.heap.size w w'
  | some L => ∃ A n c, e = .returned (.tuple #[.slice A n c, .int .i64 0]) ∧ Reads w' w'.heap.size 6 A n (pgcs L) ∧ Below w.heap.size w w'
theorem onL_no {size : Int} {tx : Nat} {ps : List Nat} {v : ByteArray} (h : goodSize size = false ∨ v.size = 0 ∨ 4096 < v.size ∨ (partsL size v).length ≠ ps.length ∨ fineL ps = false ∨ 4611686018427387904 < tx) : onL size tx ps v = none := by
  unfold onL
  rw [if_neg]
  simp only [Bool.and_eq_true, decide_eq_true_eq]
  rintro ⟨h1, h2, h3, h4, h5, h6⟩
  rcases h with h | h | h | h | h | h
  · rw [h1] at h; cases h
  · omega
  · omega
  · exact h h4
  · rw [h5] at h; cases h
  · omega
theorem onL_yes {size : Int} {tx : Nat} {ps : List Nat} {v : ByteArray} (h1 : goodSize size = true) (h2 : 0 < v.size) (h3 : v.size ≤ 4096) (h4 : (partsL size v).length = ps.length) (h5 : fineL ps = true) (h6 : tx ≤ 4611686018427387904) : onL size tx ps v = some ((List.range ps.length).map (onPg size.toNat tx ps v)) := by
  obtain ⟨z, rfl, _⟩ := good_nat h1
  unfold onL
  rw [h1, decide_eq_true h2, decide_eq_true h3, decide_eq_true h4, h5, decide_eq_true h6]
  rfl
theorem strc_at {w : World} {B n k : Nat} {A : Option Addr} {l : List ByteArray} (h : Reads w B 1 A n (strc l)) (hk : k < n) : ∃ ad, A = some ad ∧ ad.block < B ∧ w.cell? (ad.add k) = some (.string (l.getD k ⟨#[]⟩)) := by
  obtain ⟨ad, u, ha, hb, hx, hc⟩ := h.at_ hk
  refine ⟨ad, ha, hb, ?_⟩
  rw [hc]
  unfold strc at hx
  rw [List.getElem?_map, Option.map_eq_some_iff] at hx
  obtain ⟨b, hb, rfl⟩ := hx
  rw [List.getD, hb]
  rfl

set_option maxRecDepth 100000 in
set_option maxHeartbeats 12800000 in
theorem ron_0 (size : Int) (tx : Nat) (A : Option Addr) (n c : Nat) (ps : List Nat) (v : ByteArray) (w : World) (hr : Reads w w.heap.size 1 A n (ucells ps)) (hn : n ≤ 1000000) (hv : v.size ≤ 1000000) (hg : goodSize size = false) : Calls Try.prog 17 #[.int .i64 size, .int .u64 tx, .slice A n c, .string v] w (PgsPost (onL size tx ps v) w) := by
  rw [onL_no (size := size) (tx := tx) (ps := ps) (v := v) (.inl hg)]
  have HG := fun w => rgood_any size w
  rw [hg] at HG
  clear hg
  have hl := ulen hr
  go_enter Try.func17, Try.ntmps17
  go_wp2_with fail
  refine (rparts9_any size v w hv).mono ?_
  rintro e w1 ⟨Ap, np, cp, rfl, hrp, _, _, hb⟩
  have hnp : np = (partsL size v).length := by have := hrp.1; simpa [strc] using this.symm
  have HB := Lib.hid hb
  have HR := Lib.hid ((hr.below hb).more hb.size)
  have HRp := Lib.hid hrp
  clear hb hrp hr
  clear hnp
  go_wp2_with (go_at_call 49; refine (HG _).mono ?_; rintro e w' ⟨rfl, rfl⟩)
  go_ret2
  exact ⟨rfl, HB.out⟩
set_option maxRecDepth 100000 in
set_option maxHeartbeats 12800000 in
theorem ron_1 (size : Int) (tx : Nat) (A : Option Addr) (n c : Nat) (ps : List Nat) (v : ByteArray) (w : World) (hr : Reads w w.heap.size 1 A n (ucells ps)) (hn : n ≤ 1000000) (hv : v.size ≤ 1000000) (hg : goodSize size = true) (h1 : v.size = 0) : Calls Try.prog 17 #[.int .i64 size, .int .u64 tx, .slice A n c, .string v] w (PgsPost (onL size tx ps v) w) := by
  rw [onL_no (size := size) (tx := tx) (ps := ps) (v := v) (.inr (.inl h1))]
  have HG := fun w => rgood_any size w
  rw [hg] at HG
  have he : (v.toList == []) = true := by rw [List.eq_nil_of_length_eq_zero (show v.toList.length = 0 by rw [ByteArray.toList_eq, size_list]; exact h1)]; rfl
  clear hg h1
  have hl := ulen hr
  go_enter Try.func17, Try.ntmps17
  go_wp2_with fail
  refine (rparts9_any size v w hv).mono ?_
  rintro e w1 ⟨Ap, np, cp, rfl, hrp, _, _, hb⟩
  have hnp : np = (partsL size v).length := by have := hrp.1; simpa [strc] using this.symm
  have HB := Lib.hid hb
  have HR := Lib.hid ((hr.below hb).more hb.size)
  have HRp := Lib.hid hrp
  clear hb hrp hr
  clear hnp
  go_wp2_with (go_at_call 49; refine (HG _).mono ?_; rintro e w' ⟨rfl, rfl⟩)
  go_ret2
  exact ⟨rfl, HB.out⟩
set_option maxRecDepth 100000 in
set_option maxHeartbeats 12800000 in
theorem ron_2 (size : Int) (tx : Nat) (A : Option Addr) (n c : Nat) (ps : List Nat) (v : ByteArray) (w : World) (hr : Reads w w.heap.size 1 A n (ucells ps)) (hn : n ≤ 1000000) (hv : v.size ≤ 1000000) (hg : goodSize size = true) (h1 : 0 < v.size) (h2 : 4096 < v.size) : Calls Try.prog 17 #[.int .i64 size, .int .u64 tx, .slice A n c, .string v] w (PgsPost (onL size tx ps v) w) := by
  rw [onL_no (size := size) (tx := tx) (ps := ps) (v := v) (.inr (.inr (.inl h2)))]
  have HG := fun w => rgood_any size w
  rw [hg] at HG
  have he : (v.toList == []) = false := by rw [Bool.eq_false_iff]; intro h; rw [beq_iff_eq] at h; have h2 := size_list v; rw [← ByteArray.toList_eq, h] at h2; simp at h2; omega
  have hbg : decide ((4096 : Int) < (v.size : Int)) = true := by simp; omega
  have hbg2 : decide (4096 < v.size) = true := by simp; omega
  clear hg h1 h2
  have hl := ulen hr
  go_enter Try.func17, Try.ntmps17
  go_wp2_with fail
  refine (rparts9_any size v w hv).mono ?_
  rintro e w1 ⟨Ap, np, cp, rfl, hrp, _, _, hb⟩
  have hnp : np = (partsL size v).length := by have := hrp.1; simpa [strc] using this.symm
  have HB := Lib.hid hb
  have HR := Lib.hid ((hr.below hb).more hb.size)
  have HRp := Lib.hid hrp
  clear hb hrp hr
  clear hnp
  go_wp2_with (go_at_call 49; refine (HG _).mono ?_; rintro e w' ⟨rfl, rfl⟩)
  go_ret2
  exact ⟨rfl, HB.out⟩
set_option maxRecDepth 100000 in
set_option maxHeartbeats 12800000 in
theorem ron_3 (size : Int) (tx : Nat) (A : Option Addr) (n c : Nat) (ps : List Nat) (v : ByteArray) (w : World) (hr : Reads w w.heap.size 1 A n (ucells ps)) (hn : n ≤ 1000000) (hv : v.size ≤ 1000000) (hg : goodSize size = true) (h1 : 0 < v.size) (h2 : v.size ≤ 4096) (h3 : (partsL size v).length ≠ ps.length) : Calls Try.prog 17 #[.int .i64 size, .int .u64 tx, .slice A n c, .string v] w (PgsPost (onL size tx ps v) w) := by
  rw [onL_no (size := size) (tx := tx) (ps := ps) (v := v) (.inr (.inr (.inr (.inl h3))))]
  have HG := fun w => rgood_any size w
  rw [hg] at HG
  have he : (v.toList == []) = false := by rw [Bool.eq_false_iff]; intro h; rw [beq_iff_eq] at h; have h2 := size_list v; rw [← ByteArray.toList_eq, h] at h2; simp at h2; omega
  have hbg : decide ((4096 : Int) < (v.size : Int)) = false := by simp; omega
  have hbg2 : decide (4096 < v.size) = false := by simp; omega
  clear hg h1 h2
  have hl := ulen hr
  go_enter Try.func17, Try.ntmps17
  go_wp2_with fail
  refine (rparts9_any size v w hv).mono ?_
  rintro e w1 ⟨Ap, np, cp, rfl, hrp, _, _, hb⟩
  have hnp : np = (partsL size v).length := by have := hrp.1; simpa [strc] using this.symm
  have HB := Lib.hid hb
  have HR := Lib.hid ((hr.below hb).more hb.size)
  have HRp := Lib.hid hrp
  clear hb hrp hr
  have hne : ((np : Int) != (n : Int)) = true := by simp; omega
  have hne2 : (np != n) = true := by simp; omega
  clear hnp
  go_wp2_with (go_at_call 49; refine (HG _).mono ?_; rintro e w' ⟨rfl, rfl⟩)
  go_ret2
  exact ⟨rfl, HB.out⟩
set_option maxRecDepth 100000 in
set_option maxHeartbeats 12800000 in
theorem ron_4 (size : Int) (tx : Nat) (A : Option Addr) (n c : Nat) (ps : List Nat) (v : ByteArray) (w : World) (hr : Reads w w.heap.size 1 A n (ucells ps)) (hn : n ≤ 1000000) (hv : v.size ≤ 1000000) (hg : goodSize size = true) (h1 : 0 < v.size) (h2 : v.size ≤ 4096) (h3 : (partsL size v).length = ps.length) (h4 : fineL ps = false) : Calls Try.prog 17 #[.int .i64 size, .int .u64 tx, .slice A n c, .string v] w (PgsPost (onL size tx ps v) w) := by
  rw [onL_no (size := size) (tx := tx) (ps := ps) (v := v) (.inr (.inr (.inr (.inr (.inl h4)))))]
  have HG := fun w => rgood_any size w
  rw [hg] at HG
  have he : (v.toList == []) = false := by rw [Bool.eq_false_iff]; intro h; rw [beq_iff_eq] at h; have h2 := size_list v; rw [← ByteArray.toList_eq, h] at h2; simp at h2; omega
  have hbg : decide ((4096 : Int) < (v.size : Int)) = false := by simp; omega
  have hbg2 : decide (4096 < v.size) = false := by simp; omega
  have HFi := Lib.hid h4
  clear hg h1 h2
  have hl := ulen hr
  go_enter Try.func17, Try.ntmps17
  go_wp2_with fail
  refine (rparts9_any size v w hv).mono ?_
  rintro e w1 ⟨Ap, np, cp, rfl, hrp, _, _, hb⟩
  have hnp : np = (partsL size v).length := by have := hrp.1; simpa [strc] using this.symm
  have HB := Lib.hid hb
  have HR := Lib.hid ((hr.below hb).more hb.size)
  have HRp := Lib.hid hrp
  clear hb hrp hr
  have hne : ((np : Int) != (n : Int)) = false := by simp; omega
  have hne2 : (np != n) = false := by simp; omega
  clear hnp
  go_wp2_with (go_at_call 49; refine (HG _).mono ?_; rintro e w' ⟨rfl, rfl⟩)
  refine (rfine_any A n c ps _ HR.out hn).mono ?_
  rw [HFi.out]
  rintro e w2 ⟨rfl, q, hq⟩
  have HB2 := Lib.hid (show Below w.heap.size w w2 by rw [hq]; exact below_drewN HB.out q)
  clear hq
  go_wp2_with fail
  go_ret2
  exact ⟨rfl, HB2.out⟩
set_option maxRecDepth 100000 in
set_option maxHeartbeats 12800000 in
theorem ron_5 (size : Int) (tx : Nat) (A : Option Addr) (n c : Nat) (ps : List Nat) (v : ByteArray) (w : World) (hr : Reads w w.heap.size 1 A n (ucells ps)) (hn : n ≤ 1000000) (hv : v.size ≤ 1000000) (hg : goodSize size = true) (h1 : 0 < v.size) (h2 : v.size ≤ 4096) (h3 : (partsL size v).length = ps.length) (h4 : fineL ps = true) (h5 : 4611686018427387904 < tx) : Calls Try.prog 17 #[.int .i64 size, .int .u64 tx, .slice A n c, .string v] w (PgsPost (onL size tx ps v) w) := by
  rw [onL_no (size := size) (tx := tx) (ps := ps) (v := v) (.inr (.inr (.inr (.inr (.inr h5)))))]
  have HG := fun w => rgood_any size w
  rw [hg] at HG
  have he : (v.toList == []) = false := by rw [Bool.eq_false_iff]; intro h; rw [beq_iff_eq] at h; have h2 := size_list v; rw [← ByteArray.toList_eq, h] at h2; simp at h2; omega
  have hbg : decide ((4096 : Int) < (v.size : Int)) = false := by simp; omega
  have hbg2 : decide (4096 < v.size) = false := by simp; omega
  have HFi := Lib.hid h4
  have htx : decide ((4611686018427387904 : Int) < tx) = true := by simp; omega
  clear hg h1 h2
  have hl := ulen hr
  go_enter Try.func17, Try.ntmps17
  go_wp2_with fail
  refine (rparts9_any size v w hv).mono ?_
  rintro e w1 ⟨Ap, np, cp, rfl, hrp, _, _, hb⟩
  have hnp : np = (partsL size v).length := by have := hrp.1; simpa [strc] using this.symm
  have HB := Lib.hid hb
  have HR := Lib.hid ((hr.below hb).more hb.size)
  have HRp := Lib.hid hrp
  clear hb hrp hr
  have hne : ((np : Int) != (n : Int)) = false := by simp; omega
  have hne2 : (np != n) = false := by simp; omega
  clear hnp
  go_wp2_with (go_at_call 49; refine (HG _).mono ?_; rintro e w' ⟨rfl, rfl⟩)
  refine (rfine_any A n c ps _ HR.out hn).mono ?_
  rw [HFi.out]
  rintro e w2 ⟨rfl, q, hq⟩
  have HB2 := Lib.hid (show Below w.heap.size w w2 by rw [hq]; exact below_drewN HB.out q)
  clear hq
  go_wp2_with fail
  go_ret2
  exact ⟨rfl, HB2.out⟩
end Go.Proofs.Ytabhhccdbfjigaa
