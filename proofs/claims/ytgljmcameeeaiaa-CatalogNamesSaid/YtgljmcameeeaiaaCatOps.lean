/-
  Contracts of catalog.Set and catalog.Del.
-/
import Derived.Test.YtgljmcameeeaiaaCatSet
namespace Go.Proofs.Ytgljmcameeeaiaa
open Go.RowKit
open Go.Lib hiding intOf
set_option linter.unusedVariables false
set_option linter.unusedSimpArgs false
attribute [local go_sem ↓] Go.wp_at_zero Go.wp_at_succ

set_option maxRecDepth 100000 in
set_option maxHeartbeats 3200000 in
theorem cdel_big (A : Option Addr) (n c : Nat) (l : List Bk) (nm : ByteArray) (w : World) (hr : Reads w w.heap.size 3 A n (bkc l)) (hn : n ≤ 4398046511104) :
    Calls Try.prog 17 #[.slice A n c, .string nm] w fun e w' => ∃ A' n' c', e = .returned (.slice A' n' c') ∧ Reads w' w'.heap.size 3 A' n' (bkc (delB l nm)) ∧ n' ≤ c' ∧ c' ≤ maxLen ∧ Below w.heap.size w w' := by
  have hl := bk_len hr
  obtain ⟨k, hk⟩ : ∃ k, k = fI l nm := ⟨_, rfl⟩
  have HR := Lib.hid hr
  have HF := cfind_big A n c l nm w hr (by omega)
  rw [← hk] at HF
  have HL := Lib.hid hl
  have HK := Lib.hid hk
  clear hr hl hk
  go_enter Try.func17, Try.ntmps17
  go_wp2_with fail
  refine HF.mono ?_
  rintro e w1 ⟨rfl, hb1⟩
  clear HF
  go_wp2_with fail
  refine (clone6_any A n c l w1 ((HR.out.below hb1).more hb1.size) hn).mono ?_
  rintro e w2 ⟨v, rfl, hown, hb2⟩
  have HB := hb1.trans (hb2.mono hb1.size)
  rcases hI : isI l nm with _ | _
  · go_wp2_with fail
    go_ret
    have e : delB l nm = l := by simp [delB, hI]
    rw [e]
    obtain ⟨A2, c2, rfl, h1, h2, _⟩ := own_form hown
    exact ⟨A2, n, c2, rfl, Reads.of_own hown, h1, h2, HB⟩
  · have hkl : k < n := by rw [HK.out, ← HL.out]; exact fI_lt hI
    rcases hown.2 with ⟨_, h0⟩ | ⟨g, cap, cur, rfl, hbg, hblk, hnc, hcm, hs, ht⟩
    · omega
    · have hw1 : IntKind.i64.wrap ((k : Int) + 1) = (k : Int) + 1 := by rw [IntKind.wrap_i64]; omega
      have HD := sdel_any g n cap k cur l w2 hblk hs ht hnc hcm hkl
      clear hblk hs ht hown
      go_wp2_with fail
      refine HD.mono ?_
      rintro e w3 ⟨cur', rfl, hB, hs', ht', hg⟩
      go_wp2_with fail
      go_ret
      have e : delB l nm = l.take k ++ l.drop (k + 1) := by simp [delB, hI, ← HK.out]
      rw [e]
      have hown3 : w3.ownsRow w1.heap.size 33 3 (.slice (some ⟨g, 0, none⟩) (n - 1) cap) (n - 1) (bkc (l.take k ++ l.drop (k + 1))) :=
        ⟨by rw [bkc_length, List.length_append, List.length_take, List.length_drop, HL.out]; omega, .inr ⟨g, cap, cur', rfl, hbg, hB, by omega, hcm, hs', ht'⟩⟩
      exact ⟨_, _, _, rfl, Reads.of_own hown3, by omega, hcm, HB.grown hg (Nat.le_trans hb1.size hb2.size) (by rintro j ⟨⟩; exact Nat.le_trans hb1.size hbg)⟩
theorem cdel_any (A : Option Addr) (n c : Nat) (l : List Bk) (nm : ByteArray) (w : World) (hr : Reads w w.heap.size 3 A n (bkc l)) (hn : n ≤ 1000000) (hc : n ≤ c) (hcm : c ≤ maxLen) :
    Calls Try.prog 17 #[.slice A n c, .string nm] w fun e w' => ∃ A' n' c', e = .returned (.slice A' n' c') ∧ Reads w' w'.heap.size 3 A' n' (bkc (delB l nm)) ∧ n' ≤ c' ∧ c' ≤ maxLen ∧ Below w.heap.size w w' := cdel_big A n c l nm w hr (by omega)
theorem set3_seg (l : List Value) (o : Nat) (v0 v1 v2 : Value) (h : o + 3 ≤ l.length) : ((l.set o v0).set (o + 1) v1).set (o + 2) v2 = seg l o [v0, v1, v2] := by
  apply List.ext_getElem?
  intro j
  simp only [seg, List.length_cons, List.length_nil, List.getElem?_set, List.getElem?_append, List.length_append, List.length_take, List.getElem?_take, List.getElem?_drop, List.length_set]
  rw [Nat.min_eq_left (by omega)]
  rcases Nat.lt_or_ge j o with h1 | h1
  · simp [show ¬ o + 2 = j by omega, show ¬ o + 1 = j by omega, show ¬ o = j by omega, h1, show j < o + 3 by omega]
  · rcases Nat.lt_or_ge j (o + 3) with h2 | h2
    · have h3 : j = o ∨ j = o + 1 ∨ j = o + 2 := by omega
      rcases h3 with rfl | rfl | rfl
      · simp; omega
      · simp [show o + 1 < l.length by omega]
        omega
      · simp [show o + 2 < l.length by omega]
        omega
    · simp [show ¬ o + 2 = j by omega, show ¬ o + 1 = j by omega, show ¬ o = j by omega, show ¬ j < o + 3 by omega]
      congr 1
      omega
theorem seg_take {l : List Value} {o m : Nat} {cs : List Value} (h1 : o + cs.length ≤ m) (h2 : m ≤ l.length) : (seg l o cs).take m = seg (l.take m) o cs := by
  rw [seg, seg, List.take_append, List.take_of_length_le (by simp only [List.length_append, List.length_take]; omega), List.take_take, Nat.min_eq_left (by omega), List.drop_take]
  simp only [List.length_append, List.length_take]
  rw [show m - (min o l.length + cs.length) = m - (o + cs.length) by omega]
theorem seg_bk (l : List Bk) (k : Nat) (b : Bk) : seg (bkc l) (k * 3) b.cells = bkc (l.take k ++ b :: l.drop (k + 1)) := by
  rw [seg, show k * 3 + b.cells.length = (k + 1) * 3 by show k * 3 + 3 = _; omega, bkc_take, bkc_drop, List.append_assoc, bkc_snoc']
set_option maxRecDepth 100000 in
set_option maxHeartbeats 3200000 in
theorem cset_any (A : Option Addr) (n c : Nat) (l : List Bk) (b : Bk) (w : World) (hr : Reads w w.heap.size 3 A n (bkc l)) (hn : n ≤ 1000000) (hc : n ≤ c) (hcm : c ≤ maxLen) :
    Calls Try.prog 16 #[.slice A n c, .agg #[.string b.nm, .int .u32 b.rt, .int .i64 b.ks]] w fun e w' => ∃ A' n' c', e = .returned (.slice A' n' c') ∧ Reads w' w'.heap.size 3 A' n' (bkc (setB l b)) ∧ n' ≤ c' ∧ c' ≤ maxLen ∧ Below w.heap.size w w' := by
  have hl := bk_len hr
  obtain ⟨k, hk⟩ : ∃ k, k = fI l b.nm := ⟨_, rfl⟩
  have hkn : k ≤ n := by rw [hk, ← hl]; exact fI_le _ _
  obtain ⟨w0, hw0⟩ : ∃ x, x = w.alloc (.cells #[.string b.nm, .int .u32 b.rt, .int .i64 b.ks] 33) := ⟨_, rfl⟩
  have M := Lib.hid (show Blk w0 w.heap.size 33 #[.string b.nm, .int .u32 b.rt, .int .i64 b.ks] by rw [hw0]; exact Blk.new _ _ _)
  have HB := Lib.hid (show Below w.heap.size w w0 by rw [hw0]; exact (Below.refl _ _).alloc (Nat.le_refl _) _)
  have HR := Lib.hid ((hr.below HB.out).more HB.out.size)
  have HF := cfind_any A n c l b.nm w0 HR.out hn
  rw [← hk] at HF
  have HL := Lib.hid hl
  have HK := Lib.hid hk
  clear hr hl hk
  go_enter Try.func16, Try.ntmps16
  go_wp2_with fail
  rw [← hw0]
  clear hw0
  refine HF.mono ?_
  rintro e w1 ⟨rfl, hb1⟩
  clear HF
  go_wp2_with fail
  refine (clone6_any A n c l w1 ((HR.out.below hb1).more hb1.size) (by omega)).mono ?_
  rintro e w2 ⟨v, rfl, hown, hb2⟩
  replace HB := Lib.hid (HB.out.trans ((hb1.trans (hb2.mono hb1.size)).mono HB.out.size))
  have hlt1 := Nat.lt_of_lt_of_le M.out.lt hb1.size
  replace M := Lib.hid ((M.out.below hb1 M.out.lt).below hb2 hlt1)
  have m0 := M.out.cell 0
  have m1 := M.out.cell 1
  have m2 := M.out.cell 2
  simp at m0 m1 m2
  rcases hI : isI l b.nm with _ | _
  · have HI := fun (vb : Nat) (w3 : World) (ho : w3.ownsRow w1.heap.size 33 3 v n (bkc l)) (hv : Blk w3 vb 33 b.cells.toArray) (hne : v.ownBlock ≠ some vb) (hb : w1.heap.size ≤ w3.heap.size) => sins_any w1.heap.size v n k l b vb w3 ho hv hne hkn (by omega) hb
    have hne2 : v.ownBlock ≠ some w2.heap.size := fun h => by have := (hown.lt _ h).2; omega
    have HI2 := HI w2.heap.size (w2.alloc (.cells #[.string b.nm, .int .u32 b.rt, .int .i64 b.ks] 33)) (hown.alloc _) (Blk.new _ _ _) hne2 (by have := hb2.size; simp; omega)
    have HG := Lib.hid (fun g (h : v.ownBlock = some g) => (hown.lt g h).1)
    clear HI hne2 hown
    go_wp2_with fail
    refine HI2.mono ?_
    rintro e w3 ⟨v3, rfl, hown3, hg3⟩
    go_wp2_with fail
    go_ret
    have e : setB l b = l.take k ++ b :: l.drop k := by simp [setB, hI, ← HK.out]
    rw [e]
    obtain ⟨A3, c3, rfl, h1, h2, _⟩ := own_form hown3
    have hs2 : w.heap.size ≤ w1.heap.size := Nat.le_of_lt hlt1
    exact ⟨A3, _, c3, rfl, Reads.of_own hown3, h1, h2, (HB.out.alloc HB.out.size _).grown hg3 (by have := HB.out.size; simp; omega) (fun g h => Nat.le_trans hs2 (HG.out g h))⟩
  · have hkl : k < n := by rw [HK.out, ← HL.out]; exact fI_lt hI
    rcases hown.2 with ⟨_, h0⟩ | ⟨g, cap, cur, rfl, hbg, hblk, hnc, hcm2, hs, ht⟩
    · omega
    · have hblk : Blk w2 g 33 cur := hblk
      have f0 := hblk.frozen (k * 3)
      have f1 := hblk.frozen (k * 3 + 1)
      have f2 := hblk.frozen (k * 3 + 2)
      have k0 := hblk.cell (k * 3)
      have k1 := hblk.cell (k * 3 + 1)
      have k2 := hblk.cell (k * 3 + 2)
      rw [Array.getElem?_eq_getElem (by omega)] at k0 k1 k2
      have hk0 : (0 : Int) ≤ k := by omega
      have hk1 : (k : Int) < n := by omega
      have HBk := Lib.hid hblk
      clear hown hblk
      go_wp2_with fail
      go_ret
      have e : setB l b = l.take k ++ b :: l.drop (k + 1) := by simp [setB, hI, ← HK.out]
      rw [e]
      have hwg : w.heap.size ≤ g := Nat.le_trans (Nat.le_of_lt hlt1) hbg
      have hB := ((HBk.out.set_ (k * 3) (.string b.nm)).set_ (k * 3 + 1) (.int .u32 b.rt)).set_ (k * 3 + 2) (.int .i64 b.ks)
      have hown3 : (((w2.setCell ⟨g, k * 3, none⟩ (.string b.nm)).setCell ⟨g, k * 3 + 1, none⟩ (.int .u32 b.rt)).setCell ⟨g, k * 3 + 2, none⟩ (.int .i64 b.ks)).ownsRow w1.heap.size 33 3 (.slice (some ⟨g, 0, none⟩) n cap) n (bkc (l.take k ++ b :: l.drop (k + 1))) := by
        refine ⟨by rw [bkc_length, List.length_append, List.length_cons, List.length_take, List.length_drop, HL.out]; omega, .inr ⟨g, cap, _, rfl, hbg, hB, hnc, hcm2, by simp [hs], ?_⟩⟩
        rw [Array.toList_setIfInBounds, Array.toList_setIfInBounds, Array.toList_setIfInBounds, set3_seg _ _ _ _ _ (by rw [Array.length_toList, hs]; omega)]
        show (seg cur.toList (k * 3) b.cells).take (n * 3) = _
        rw [seg_take (by show k * 3 + 3 ≤ _; omega) (by rw [Array.length_toList, hs]; omega), ht, seg_bk]
      exact ⟨_, _, _, rfl, Reads.of_own hown3, hnc, hcm2, ((HB.out.setCell hwg _).setCell hwg _).setCell hwg _⟩
end Go.Proofs.Ytgljmcameeeaiaa
