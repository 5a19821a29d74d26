/-
  Contract of the reference's Page of layer 6: the page of buckets.
-/
import Derived.Test.YtgljmcameeeaiaaCatPlain
import Derived.Test.YtgljmcameeeaiaaRef4Body
import Derived.Lib.AppendStr
import Derived.Deep.CutRange
namespace Go.Proofs.Ytgljmcameeeaiaa
open Go.RowKit
open Go.Lib hiding intOf
set_option linter.unusedVariables false
set_option linter.unusedSimpArgs false
attribute [local go_sem ↓] Go.wp_at_zero Go.wp_at_succ

theorem nine_le0 (l : List Bk) : l.length * 9 ≤ sizeB l := by
  induction l with
  | nil => simp [sizeB]
  | cons b l ih => simp only [sizeB, List.length_cons]; omega
def mayC (size : Int) (n tx : Nat) (l : List Bk) : Bool := mayL size l && (numB n && decide (tx ≤ 4611686018427387904))
set_option maxRecDepth 100000 in
set_option maxHeartbeats 6400000 in
theorem rpage6_no (size : Int) (n tx : Nat) (A : Option Addr) (m c : Nat) (l : List Bk) (w : World) (hr : Reads w w.heap.size 3 A m (bkc l)) (hm : m ≤ 4398046511104) (h : mayC size n tx l = false) :
    Calls Try.prog 20 #[.int .i64 size, .int .u32 n, .int .u64 tx, .slice A m c] w fun e w' => e = .returned (.tuple #[.agg #[.int .i64 0, .int .i64 0, .int .u32 0, .int .u32 0, .int .u64 0, .string ByteArray.empty], .int .i64 2]) ∧ Below w.heap.size w w' := by
  have HM := fun (w' : World) (hb : Below w.heap.size w w') => rmay6_any size A m c l w' ((hr.below hb).more hb.size) hm
  have HN := fun w => rnumB_any n w
  obtain ⟨hz, hi⟩ := zero_of_info infoPg
  have HI := Lib.hid hi
  clear hi hr
  obtain ⟨w0, hw0⟩ : ∃ x, x = w.alloc (.cells #[.int .i64 0, .int .i64 0, .int .u32 0, .int .u32 0, .int .u64 0, .string ByteArray.empty] 26) := ⟨_, rfl⟩
  have R0 := Lib.hid (show Blk w0 w.heap.size 26 #[.int .i64 0, .int .i64 0, .int .u32 0, .int .u32 0, .int .u64 0, .string ByteArray.empty] by rw [hw0]; exact Blk.new _ _ _)
  have HB := Lib.hid (show Below w.heap.size w w0 by rw [hw0]; exact (Below.refl _ _).alloc (Nat.le_refl _) _)
  go_enter Try.func20, Try.ntmps20
  go_wp2_with fail
  rw [← hw0]
  clear hw0
  refine (HM _ HB.out).mono ?_
  rintro e w1 ⟨rfl, hb⟩
  replace R0 := Lib.hid (R0.out.below hb R0.out.lt)
  replace HB := Lib.hid (HB.out.trans (hb.mono HB.out.size))
  clear hb HM
  have k0 := R0.out.cell 0
  have k1 := R0.out.cell 1
  have k2 := R0.out.cell 2
  have k3 := R0.out.cell 3
  have k4 := R0.out.cell 4
  have k5 := R0.out.cell 5
  have f0 := R0.out.frozen 0
  have f1 := R0.out.frozen 1
  have f2 := R0.out.frozen 2
  have f3 := R0.out.frozen 3
  have f4 := R0.out.frozen 4
  have f5 := R0.out.frozen 5
  simp at k0 k1 k2 k3 k4 k5
  rcases hml : mayL size l with _ | _
  · clear h
    go_wp2_with fail
    exact bodyPost_ret (read_row rfl _ _ _ w.heap.size #[.int .i64 0, .int .i64 0, .int .u32 0, .int .u32 0, .int .u64 0, .string ByteArray.empty] rfl (load_page (six_at R0.out))) rfl ⟨rfl, six_below HB.out (Nat.le_refl _)⟩
  rcases hnb : numB n with _ | _
  · rw [hnb] at HN
    clear h
    go_wp2_with (go_at_call 42; refine (HN _).mono ?_; rintro e w' ⟨rfl, rfl⟩)
    exact bodyPost_ret (read_row rfl _ _ _ w.heap.size #[.int .i64 0, .int .i64 0, .int .u32 0, .int .u32 0, .int .u64 0, .string ByteArray.empty] rfl (load_page (six_at R0.out))) rfl ⟨rfl, six_below HB.out (Nat.le_refl _)⟩
  · rw [hnb] at HN
    have hd : decide ((4611686018427387904 : Int) < tx) = true := by
      rw [mayC, hml, hnb] at h
      simp at h
      simp
      omega
    clear h
    go_wp2_with (go_at_call 42; refine (HN _).mono ?_; rintro e w' ⟨rfl, rfl⟩)
    exact bodyPost_ret (read_row rfl _ _ _ w.heap.size #[.int .i64 0, .int .i64 0, .int .u32 0, .int .u32 0, .int .u64 0, .string ByteArray.empty] rfl (load_page (six_at R0.out))) rfl ⟨rfl, six_below HB.out (Nat.le_refl _)⟩
theorem mayC_parts {z n tx : Nat} {l : List Bk} (h : mayC z n tx l = true) : allOk l = true ∧ goodSize z = true ∧ (sumB l : Int) ≤ (z : Int) - 43 ∧ (2 ≤ n ∧ n ≤ 2147483647) ∧ tx ≤ 4611686018427387904 ∧ sizeB l ≤ z - 24 := by
  simp only [mayC, mayL, numB, Bool.and_eq_true, decide_eq_true_eq] at h
  obtain ⟨⟨h1, h2, h3⟩, h4, h5⟩ := h
  have := sizeB_sumB (allOk_asc h1)
  exact ⟨h1, h2, h3, h4, h5, by omega⟩
set_option maxRecDepth 100000 in
set_option maxHeartbeats 12800000 in
theorem rpage6_yes (z n tx : Nat) (A : Option Addr) (m c : Nat) (l : List Bk) (w : World) (hr : Reads w w.heap.size 3 A m (bkc l)) (hm : m ≤ 4398046511104) (h : mayC z n tx l = true) :
    Calls Try.prog 20 #[.int .i64 z, .int .u32 n, .int .u64 tx, .slice A m c] w fun e w' => e = .returned (.tuple #[.agg #[.int .i64 2, .int .i64 m, .int .u32 n, .int .u32 0, .int .u64 tx, .string (catBody z l)], .int .i64 0]) ∧ Below w.heap.size w w' := by
  obtain ⟨hall, hg, hsum, hnb, htx, hroom⟩ := mayC_parts h
  have hm2 : m ≤ 1000 := by
    have h1 := nine_le0 l
    rw [bk_len hr] at h1
    have h2 := good_pos hg
    omega
  have hml : mayL z l = true := by simp only [mayC, Bool.and_eq_true] at h; exact h.1
  have hnb' : numB n = true := by simp [numB, hnb]
  have HM := fun (w' : World) (hb : Below w.heap.size w w') => rmay6_any z A m c l w' ((hr.below hb).more hb.size) hm
  rw [hml] at HM
  have HN := fun w => rnumB_any n w
  rw [hnb'] at HN
  have hd : decide ((4611686018427387904 : Int) < tx) = false := by simp; omega
  have HALL := Lib.hid hall
  have HL := Lib.hid (bk_len hr)
  have HR := Lib.hid hr
  have HG := Lib.hid hg
  have HRoom := Lib.hid hroom
  obtain ⟨i0, hi0, hz0, hz1, hz2⟩ := info_parts infoU8
  obtain ⟨hz, hi⟩ := zero_of_info infoPg
  have HI := Lib.hid hi
  clear hi hr hall hg hsum hnb hnb' htx hroom hml h
  obtain ⟨w0, hw0⟩ : ∃ x, x = w.alloc (.cells #[.int .i64 0, .int .i64 0, .int .u32 0, .int .u32 0, .int .u64 0, .string ByteArray.empty] 26) := ⟨_, rfl⟩
  have R0 := Lib.hid (show Blk w0 w.heap.size 26 #[.int .i64 0, .int .i64 0, .int .u32 0, .int .u32 0, .int .u64 0, .string ByteArray.empty] by rw [hw0]; exact Blk.new _ _ _)
  have HB := Lib.hid (show Below w.heap.size w w0 by rw [hw0]; exact (Below.refl _ _).alloc (Nat.le_refl _) _)
  go_enter Try.func20, Try.ntmps20
  go_wp2_with fail
  rw [← hw0]
  clear hw0
  refine (HM _ HB.out).mono ?_
  rintro e w1 ⟨rfl, hb⟩
  replace R0 := Lib.hid (R0.out.below hb R0.out.lt)
  replace HB := Lib.hid (HB.out.trans (hb.mono HB.out.size))
  clear hb HM
  go_wp2_with (go_at_call 42; refine (HN _).mono ?_; rintro e w' ⟨rfl, rfl⟩)
  clear HN hd
  go_loopw [10, 11] (fun b i wr => ∃ (k : Nat) (A' : Option Addr) (c' : Nat), k ≤ m ∧ i = .int .i64 k ∧ b = .slice A' (sizeB (l.take k)) c' ∧ Hid (Reads wr wr.heap.size 1 A' (sizeB (l.take k)) (bcells (bytesB (l.take k)))) ∧ Hid (Blk wr w.heap.size 26 #[.int .i64 0, .int .i64 0, .int .u32 0, .int .u32 0, .int .u64 0, .string ByteArray.empty]) ∧ Hid (Below w.heap.size w wr)) (fun _ i _ => m - (intOf i).toNat)
  case atStart => exact ⟨0, none, 0, Nat.zero_le _, rfl, rfl, Lib.hid Reads.none_, R0, HB⟩
  case round =>
    clear R0 HB
    obtain ⟨k, A', c', hk, rfl, rfl, HRd, R0, HB⟩ := hrel
    by_cases hlt : k < m
    · obtain ⟨ad, x, rfl, _, hp, hx, hc⟩ := bk_at HR.out hlt
      have hk0 : (0 : Int) ≤ k := by omega
      have hk1 : (k : Int) < m := by omega
      have hok := allOk_ok HALL.out hx
      have hnm : x.nm.size ≤ 16 := by
        simp only [okBk, nameB, Bool.and_eq_true, decide_eq_true_eq] at hok
        exact hok.1.2
      obtain ⟨kn, hkn⟩ : ∃ kn : Nat, x.ks = kn := by
        simp only [okBk, emptyB, fullB, Bool.and_eq_true, Bool.or_eq_true, decide_eq_true_eq] at hok
        exact ⟨x.ks.toNat, by omega⟩
      have hkl : kn ≤ 2147483647 := by
        simp only [okBk, emptyB, fullB, Bool.and_eq_true, Bool.or_eq_true, decide_eq_true_eq] at hok
        omega
      have hrt : x.rt ≤ 2147483647 := by
        simp only [okBk, emptyB, fullB, Bool.and_eq_true, Bool.or_eq_true, decide_eq_true_eq] at hok
        omega
      have hrt2 : (x.rt : Int) < 18446744073709551616 := by omega
      have hsz : sizeB (l.take k) ≤ 1000000 := by
        have h1 := sizeB_take_le l k
        have h2 := HRoom.out
        have h3 := good_pos HG.out
        omega
      have HX := Lib.hid hx
      have HC := Lib.hid (show BkAt w (ad.add (k * 3)) x from hc)
      have HP := Lib.hid hp
      have hk2 : kn < 18446744073709551616 := by omega
      obtain ⟨c0, _, _⟩ := HC.out.below HB.out HP.out
      have HR0lt := Lib.hid R0.out.lt
      clear hx hc hp hok
      go_wp2_with fail
      refine (rput_yes A' (sizeB (l.take k)) c' x.nm.size 1 (bytesB (l.take k)) _ HRd.out (by omega) (by decide) (by decide)).mono ?_
      rintro e w2 ⟨v2, rfl, hown2, hb⟩
      have hwr := HB.out.size
      have HB2 := Lib.hid (HB.out.trans (hb.mono HB.out.size))
      replace R0 := Lib.hid (R0.out.below hb R0.out.lt)
      have hb2s := hb.size
      obtain ⟨A2, c2, rfl, _, _, _⟩ := own_form hown2
      have HO2 := Lib.hid hown2
      obtain ⟨c0, _, _⟩ := HC.out.below HB2.out HP.out
      clear hb hown2
      go_upto_region 9 with (at_builtin; refine Lib.wpList_append_own_string _ rfl (.tmp 43) (.tmp 48) _ _ rfl wr.heap.size 5 i0 Try.underlying55 Try.underlying9 hi0 hz0 hz1 hz2 _ (sizeB (l.take k) + 1) _ rfl HO2.out x.nm rfl (by unfold maxLen; omega) (by omega) hb2s ?_; intro v3 w3 hown3 hg3 _)
      have hbg : Below w.heap.size w2 w3 := (Below.refl _ _).grown hg3 HB2.out.size (fun g hg => Nat.le_trans hwr (HO2.out.lt g hg).1)
      have HB3 := Lib.hid (HB2.out.trans hbg)
      have hR3 : Blk w3 w.heap.size 26 #[.int .i64 0, .int .i64 0, .int .u32 0, .int .u32 0, .int .u64 0, .string ByteArray.empty] := (hg3.block _ R0.out.lt (fun he => by
        have h1 := (HO2.out.lt _ he.symm).1
        have h2 := HR0lt.out
        omega)).trans R0.out
      have hown3' : w3.ownsRow wr.heap.size 5 1 v3 (sizeB (l.take k) + 1 + x.nm.size) (bcells (bytesB (l.take k) ++ leBytes 1 x.nm.size ++ x.nm.data.toList)) := by
        rw [bcells_append]; exact hown3
      obtain ⟨A3, c3, rfl, _, _, _⟩ := own_form hown3'
      have HRd3 := Lib.hid (Reads.of_own hown3')
      have HR3 := Lib.hid hR3
      obtain ⟨_, c1, _⟩ := HC.out.below HB3.out HP.out
      clear hown3 hown3' hg3 hbg hR3 HO2 HB2 R0 c0 HRd
      go_wp2_with fail
      refine (rput_yes A3 (sizeB (l.take k) + 1 + x.nm.size) c3 x.rt 4 (bytesB (l.take k) ++ leBytes 1 x.nm.size ++ x.nm.data.toList) _ HRd3.out (by omega) (by decide) (by decide)).mono ?_
      rintro e w4 ⟨v4, rfl, hown4, hb⟩
      have HB4 := Lib.hid (HB3.out.trans (hb.mono HB3.out.size))
      have HR4 := Lib.hid (HR3.out.below hb HR3.out.lt)
      obtain ⟨A4, c4, rfl, _, _, _⟩ := own_form hown4
      have HRd4 := Lib.hid (Reads.of_own hown4)
      obtain ⟨_, _, c2⟩ := HC.out.below HB4.out HP.out
      rw [hkn] at c2
      clear hown4 hb HB3 HR3 HRd3 c1
      go_wp2_with fail
      refine (rput_yes A4 (sizeB (l.take k) + 1 + x.nm.size + 4) c4 kn 4 (bytesB (l.take k) ++ leBytes 1 x.nm.size ++ x.nm.data.toList ++ leBytes 4 x.rt) _ HRd4.out (by omega) (by decide) (by decide)).mono ?_
      rintro e w5 ⟨v5, rfl, hown5, hb⟩
      have HB5 := Lib.hid (HB4.out.trans (hb.mono HB4.out.size))
      have HR5 := Lib.hid (HR4.out.below hb HR4.out.lt)
      obtain ⟨A5, c5, rfl, _, _, _⟩ := own_form hown5
      have HRd5 := Lib.hid (Reads.of_own hown5)
      clear hown5 hb HB4 HR4 HRd4 c2
      have hse := sizeB_take_succ HX.out
      have hby : bytesB (l.take k) ++ leBytes 1 x.nm.size ++ x.nm.data.toList ++ leBytes 4 x.rt ++ leBytes 4 kn = bytesB (l.take (k + 1)) := by
        rw [bytesB_take_succ HX.out, Bk.bytes, hkn]
        simp
      rw [hby, show sizeB (l.take k) + 1 + x.nm.size + 4 + 4 = sizeB (l.take (k + 1)) by omega] at HRd5
      have HSE := Lib.hid (show sizeB (l.take k) + 1 + x.nm.size + 4 + 4 = sizeB (l.take (k + 1)) by omega)
      clear hse hby hkn
      go_wp2_with fail
      go_roundw
      case rel =>
        first
          | exact ⟨k + 1, A5, c5, by omega, by go_num, by rw [HSE.out], HRd5, HR5, HB5⟩
          | ((repeat apply Exists.intro); exact ⟨⟨k + 1, A5, c5, by omega, by go_num, by rw [HSE.out], HRd5, HR5, HB5⟩, rfl⟩)
      case measure => simp [intOf]; omega
    · obtain rfl : k = m := by omega
      have ht : l.take k = l := List.take_of_length_le (by rw [HL.out]; exact Nat.le_refl _)
      rw [ht] at HRd
      rw [ht]
      have hgp := good_pos HG.out
      have HBd := rbody_ok z A' (sizeB l) c' (bytesB l) (catBody z l) wr HG.out HRd.out HRoom.out rfl
      have hk9 : (k : Int) ≤ 1000000 := by omega
      clear hgp hlt ht
      go_wp2_with fail
      refine HBd.mono ?_
      rintro e w2 ⟨rfl, hb⟩
      clear HBd
      replace R0 := Lib.hid (R0.out.below hb R0.out.lt)
      replace HB := Lib.hid (HB.out.trans (hb.mono HB.out.size))
      have k0 := R0.out.cell 0
      have k1 := R0.out.cell 1
      have k2 := R0.out.cell 2
      have k3 := R0.out.cell 3
      have k4 := R0.out.cell 4
      have k5 := R0.out.cell 5
      have f0 := R0.out.frozen 0
      have f1 := R0.out.frozen 1
      have f2 := R0.out.frozen 2
      have f3 := R0.out.frozen 3
      have f4 := R0.out.frozen 4
      have f5 := R0.out.frozen 5
      simp at k0 k1 k2 k3 k4 k5
      go_wp2_with fail
      exact bodyPost_ret (read_row rfl _ _ _ w.heap.size #[.int .i64 2, .int .i64 k, .int .u32 n, .int .u32 0, .int .u64 tx, .string (catBody z l)] rfl (load_page (six_at R0.out))) rfl ⟨rfl, six_below HB.out (Nat.le_refl _)⟩
end Go.Proofs.Ytgljmcameeeaiaa
