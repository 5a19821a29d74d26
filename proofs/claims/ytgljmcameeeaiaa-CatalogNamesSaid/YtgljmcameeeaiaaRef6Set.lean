/-
  Contracts of the reference of layer 6: Set, Del; and of the kit's Own over buckets.
-/
import Derived.Test.YtgljmcameeeaiaaRef6Find
import Derived.Deep.CutRange
import Derived.Deep.RegionLaw
import Derived.Deep.DrawnRows
namespace Go.Proofs.Ytgljmcameeeaiaa
open Go.RowKit
open Go.Lib hiding intOf
set_option linter.unusedVariables false
set_option linter.unusedSimpArgs false
attribute [local go_sem ↓] Go.wp_at_zero Go.wp_at_succ

theorem infoBk : (Try.prog.info? 33).map (fun i => (i.zero, i.size, i.bytes)) = some (some (.agg #[.string ByteArray.empty, .int .u32 0, .int .i64 0]), 3, 32) := by kernel_rfl
theorem bkc_one (l : List Bk) : ∀ u ∈ bkc l, u.oneCell' = true := by
  intro u hu
  obtain ⟨b, _, hb⟩ := List.mem_flatMap.1 hu
  simp only [Bk.cells, List.mem_cons, List.not_mem_nil, or_false] at hb
  rcases hb with rfl | rfl | rfl <;> rfl
theorem bk_one (b : Bk) : ∀ u ∈ b.cells, u.oneCell' = true := fun u hu => bkc_one [b] u (by simpa [bkc, rowsOf] using hu)
/-- A block of the call's own, read as rows. -/
theorem reads_own {w : World} {g k n : Nat} {t : TypeId} {cs : Array Value} (h : Blk w g t cs) (hs : cs.size = n * k) : Reads w (g + 1) k (some ⟨g, 0, none⟩) n cs.toList := by
  refine ⟨by simp [hs], fun _ => ⟨_, rfl, Nat.lt_succ_self _, fun j u hu => ?_⟩⟩
  have e : (⟨g, 0, none⟩ : Addr).add j = ⟨g, j, none⟩ := by unfold Addr.add; split <;> simp_all
  rw [e, h.cell j]
  simpa using hu
theorem own6_any (A : Option Addr) (n c : Nat) (l : List Bk) (w : World) (hr : Reads w w.heap.size 3 A n (bkc l)) (hn : n ≤ 1000000) :
    Calls Try.prog 12 #[.slice A n c] w fun e w' => ∃ A' c', e = .returned (.slice A' n c') ∧ Reads w' w'.heap.size 3 A' n (bkc l) ∧ n ≤ c' ∧ c' ≤ maxLen ∧ Below w.heap.size w w' := by
  obtain ⟨i0, hi0, hz0, hz1, hz2⟩ := info_parts infoBk
  have hown1 : (w.alloc (.cells #[] 33)).ownsRow w.heap.size 33 3 (.slice (some ⟨w.heap.size, 0, none⟩) 0 0) 0 [] := World.ownsRow_made w #[] 0 (Nat.le_refl _) (by simp [maxLen]) rfl
  have hb1 : Below w.heap.size w (w.alloc (.cells #[] 33)) := (Below.refl _ _).alloc (Nat.le_refl _) _
  have HO := Lib.hid hown1
  have HB := Lib.hid hb1
  clear hown1 hb1
  go_enter Try.func12, Try.ntmps12
  go_wp2_with (at_builtin; refine wpList_append_any _ rfl (.tmp 3) (.tmp 4) _ rfl w.heap.size 33 i0 _ 3 32 Try.underlying30 hi0 hz0 hz1 hz2 rfl (by omega) _ 0 [] rfl HO.out w.heap.size A n c _ rfl (hr.below HB.out) (bkc_one _) (by unfold maxLen; omega) (by omega) HB.out.size ?_; intro v2 w2 hown2 hg2 hat2)
  go_ret
  have hb2 : Below w.heap.size w w2 := HB.out.grown hg2 HB.out.size (by rintro g ⟨⟩; exact Nat.le_refl _)
  simp only [Nat.zero_add, List.nil_append] at hown2
  obtain ⟨A', c', rfl, hc, hcm, _⟩ := own_form hown2
  exact ⟨A', c', rfl, Reads.of_own hown2, hc, hcm, hb2⟩
theorem cellsBk : Try.prog.cellsOf 33 = 3 := by kernel_rfl
/-- l[k:] of a slice of buckets, its address under one name. -/
theorem slice_tail (A : Option Addr) (n c k : Nat) (z : Int) (hz : z = k) (hk : k ≤ n) : ∃ X, X = (if c = k then A else A.map (·.add (k * 3))) ∧ ∀ w : World, (Instr.sliceAt 30 (.slice A n c) (some (.int .i64 z)) none none).run Try.prog w = .ok (.slice X (n - k) (c - k)) w := by
  refine ⟨_, rfl, fun w => ?_⟩
  obtain ⟨i0, hi0, hz0, hz1, hz2⟩ := info_parts infoBk
  have he : Try.prog.elem 30 = 33 := by kernel_rfl
  have hu : Try.prog.underlying 30 = some (.slice (Try.prog.elem 30)) := by rw [he]; exact Try.underlying30
  rw [run_sliceAt_slice w _ _ _ _ _ hu, run_slice_l w _ A n c hu .i64 z (by omega) (by omega), he]
  simp [sizeOf, typeInfo, hi0, hz1, sliced, hz]
set_option maxRecDepth 100000 in
set_option maxHeartbeats 3200000 in
theorem rset_any (A : Option Addr) (n c : Nat) (l : List Bk) (b : Bk) (w : World) (hr : Reads w w.heap.size 3 A n (bkc l)) (hn : n ≤ 1000000) (hc : n ≤ c) (hcm : c ≤ maxLen) :
    Calls Try.prog 26 #[.slice A n c, .agg #[.string b.nm, .int .u32 b.rt, .int .i64 b.ks]] w fun e w' => ∃ A' n' c', e = .returned (.slice A' n' c') ∧ Reads w' w'.heap.size 3 A' n' (bkc (setB l b)) ∧ n' ≤ c' ∧ c' ≤ maxLen ∧ Below w.heap.size w w' := by
  obtain ⟨i0, hi0, hz0, hz1, hz2⟩ := info_parts infoBk
  have hl := bk_len hr
  obtain ⟨k, hk⟩ : ∃ k, k = fI l b.nm := ⟨_, rfl⟩
  have hkn : k ≤ n := by rw [hk, ← hl]; exact fI_le _ _
  have HR := Lib.hid hr
  have HF : ∀ w : World, Reads w w.heap.size 3 A n (bkc l) → Calls Try.prog 22 #[.slice A n c, .string b.nm] w fun e w' => e = .returned (.tuple #[.int .i64 k, .bool (isI l b.nm)]) ∧ w' = w := fun w h => by rw [hk]; exact rfind_any A n c l b.nm w h (by unfold maxLen; omega)
  obtain ⟨w0, hw0⟩ : ∃ x, x = w.alloc (.cells #[.string b.nm, .int .u32 b.rt, .int .i64 b.ks] 33) := ⟨_, rfl⟩
  have M := Lib.hid (show Blk w0 w.heap.size 33 #[.string b.nm, .int .u32 b.rt, .int .i64 b.ks] by rw [hw0]; exact Blk.new _ _ _)
  have HB := Lib.hid (show Below w.heap.size w w0 by rw [hw0]; exact (Below.refl _ _).alloc (Nat.le_refl _) _)
  go_enter Try.func26, Try.ntmps26
  go_wp2_with fail
  rw [← hw0]
  clear hw0
  refine (HF _ ((HR.out.below HB.out).more HB.out.size)).mono ?_
  rintro e w1 ⟨rfl, rfl⟩
  have hki : (k : Int) ≤ c := by omega
  have hki0 : (0 : Int) ≤ k := by omega
  have HK := Lib.hid hk
  have HL := Lib.hid hl
  have hkb : k ≤ 1000000 := by omega
  clear hk hl HF
  have HO := Lib.hid (World.ownsRow_made (e := 33) (size := 3) w1 #[] 0 (Nat.le_refl w1.heap.size) (by simp [maxLen]) rfl)
  have B1 := Lib.hid ((Below.refl w1.heap.size w1).alloc (Nat.le_refl _) (.cells #[] 33))
  have HR1 := Lib.hid ((bk_take HR.out hkn).below HB.out)
  go_upto_region 3 with (at_builtin; refine wpList_append_any _ rfl (.tmp 15) (.tmp 18) _ rfl w1.heap.size 33 i0 _ 3 32 Try.underlying30 hi0 hz0 hz1 hz2 rfl (by omega) _ 0 [] rfl HO.out w.heap.size A k c _ rfl (HR1.out.below (B1.out.mono HB.out.size)) (bkc_one _) (by unfold maxLen; omega) (by omega) B1.out.size ?_; intro v2 w2 hown2 hg2 hat2)
  have B2 := Lib.hid (B1.out.grown hg2 B1.out.size (by rintro g ⟨⟩; exact Nat.le_refl _))
  replace M := Lib.hid (M.out.below B2.out M.out.lt)
  simp only [Nat.zero_add, List.nil_append] at hown2
  obtain ⟨A2, c2, rfl, _, _, _⟩ := own_form hown2
  have HO2 := Lib.hid hown2
  clear hown2 hg2 hat2 HO B1 HR1
  have m0 := M.out.cell 0
  have m1 := M.out.cell 1
  have m2 := M.out.cell 2
  simp at m0 m1 m2
  have hA2 := fun (cs : Array Value) => HO2.out.alloc (.cells cs 33)
  have HA2 := Lib.hid hA2
  clear hA2
  go_upto_region 4 with (at_builtin; refine wpList_append_any _ rfl (.tmp 20) (.tmp 22) _ rfl w1.heap.size 33 i0 _ 3 32 Try.underlying30 hi0 hz0 hz1 hz2 rfl (by omega) _ k _ rfl (HA2.out _) (w2.heap.size + 1) (some ⟨w2.heap.size, 0, none⟩) 1 1 b.cells rfl (reads_own (n := 1) (Blk.new _ _ _) rfl) (bk_one b) (by unfold maxLen; omega) (by omega) (by have := B2.out.size; simp; omega) ?_; intro v3 w3 hown3 hg3 hat3)
  have B3 := Lib.hid ((B2.out.alloc B2.out.size (.cells b.cells.toArray 33)).grown hg3 (by have := B2.out.size; simp; omega) (fun g hg => (HO2.out.lt g hg).1))
  rw [bkc_snoc] at hown3
  obtain ⟨A3, c3, rfl, _, _, _⟩ := own_form hown3
  have HO3 := Lib.hid hown3
  have HB1 := HB
  replace HB := Lib.hid (HB.out.trans (B3.out.mono HB.out.size))
  clear hown3 hg3 hat3 HA2 m0 m1 m2 M HO2 B2
  have hkn2 : (k : Int) + 1 ≤ 1000001 := by omega
  rcases hI : isI l b.nm with _ | _
  · skip
    obtain ⟨X, hX, hsl⟩ := slice_tail A n c k k rfl hkn
    have HD := Lib.hid (show Reads w3 w.heap.size 3 X (n - k) (bkc (l.drop k)) by rw [hX]; exact (bk_drop HR.out hkn hc).below HB.out)
    clear hX hki hki0 hcm hkn2
    go_wp2_with (at_builtin; refine wpList_append_any _ rfl (.tmp 27) (.tmp 30) _ rfl w1.heap.size 33 i0 _ 3 32 Try.underlying30 hi0 hz0 hz1 hz2 rfl (by omega) _ (k + 1) _ rfl HO3.out w.heap.size X (n - k) (c - k) _ rfl HD.out (bkc_one _) (by unfold maxLen; omega) (by omega) B3.out.size ?_; intro v4 w4 hown4 hg4 hat4)
    go_ret
    rw [← bkc_append] at hown4
    obtain ⟨A4, c4, rfl, h1, h2, _⟩ := own_form hown4
    have B4 := B3.out.grown hg4 B3.out.size (fun g hg => (HO3.out.lt g hg).1)
    refine ⟨A4, _, c4, rfl, ?_, h1, h2, HB1.out.trans (B4.mono HB1.out.size)⟩
    have e : setB l b = l.take k ++ [b] ++ l.drop k := by simp [setB, hI, ← HK.out]
    rw [e]
    exact Reads.of_own hown4
  · have hkl : k < n := by rw [HK.out, ← HL.out]; exact fI_lt hI
    have hkn3 : k + 1 ≤ n := hkl
    obtain ⟨X, hX, hsl⟩ := slice_tail A n c (k + 1) (k + 1) rfl hkn3
    have HD := Lib.hid (show Reads w3 w.heap.size 3 X (n - (k + 1)) (bkc (l.drop (k + 1))) by rw [hX]; exact (bk_drop HR.out hkn3 hc).below HB.out)
    clear hX hki hki0 hcm
    go_wp2_with (at_builtin; refine wpList_append_any _ rfl (.tmp 27) (.tmp 30) _ rfl w1.heap.size 33 i0 _ 3 32 Try.underlying30 hi0 hz0 hz1 hz2 rfl (by omega) _ (k + 1) _ rfl HO3.out w.heap.size X (n - (k + 1)) (c - (k + 1)) _ rfl HD.out (bkc_one _) (by unfold maxLen; omega) (by omega) B3.out.size ?_; intro v4 w4 hown4 hg4 hat4)
    go_ret
    rw [← bkc_append] at hown4
    obtain ⟨A4, c4, rfl, h1, h2, _⟩ := own_form hown4
    have B4 := B3.out.grown hg4 B3.out.size (fun g hg => (HO3.out.lt g hg).1)
    refine ⟨A4, _, c4, rfl, ?_, h1, h2, HB1.out.trans (B4.mono HB1.out.size)⟩
    have e : setB l b = l.take k ++ [b] ++ l.drop (k + 1) := by simp [setB, hI, ← HK.out]
    rw [e]
    exact Reads.of_own hown4
set_option maxRecDepth 100000 in
set_option maxHeartbeats 3200000 in
theorem rdel_any (A : Option Addr) (n c : Nat) (l : List Bk) (nm : ByteArray) (w : World) (hr : Reads w w.heap.size 3 A n (bkc l)) (hn : n ≤ 1000000) (hc : n ≤ c) (hcm : c ≤ maxLen) :
    Calls Try.prog 27 #[.slice A n c, .string nm] w fun e w' => ∃ A' n' c', e = .returned (.slice A' n' c') ∧ Reads w' w'.heap.size 3 A' n' (bkc (delB l nm)) ∧ n' ≤ c' ∧ c' ≤ maxLen ∧ Below w.heap.size w w' := by
  obtain ⟨i0, hi0, hz0, hz1, hz2⟩ := info_parts infoBk
  have hl := bk_len hr
  obtain ⟨k, hk⟩ : ∃ k, k = fI l nm := ⟨_, rfl⟩
  have hkn : k ≤ n := by rw [hk, ← hl]; exact fI_le _ _
  have HR := Lib.hid hr
  have HF : Calls Try.prog 22 #[.slice A n c, .string nm] w fun e w' => e = .returned (.tuple #[.int .i64 k, .bool (isI l nm)]) ∧ w' = w := by rw [hk]; exact rfind_any A n c l nm w hr (by unfold maxLen; omega)
  have HK := Lib.hid hk
  have HL := Lib.hid hl
  clear hr hk hl
  go_enter Try.func27, Try.ntmps27
  go_wp2_with fail
  refine HF.mono ?_
  rintro e w1 ⟨rfl, rfl⟩
  clear HF
  have HO := Lib.hid (World.ownsRow_made (e := 33) (size := 3) w1 #[] 0 (Nat.le_refl w1.heap.size) (by simp [maxLen]) rfl)
  have B1 := Lib.hid ((Below.refl w1.heap.size w1).alloc (Nat.le_refl _) (.cells #[] 33))
  rcases hI : isI l nm with _ | _
  · clear hcm
    go_wp2_with (at_builtin; refine wpList_append_any _ rfl (.tmp 15) (.tmp 16) _ rfl w1.heap.size 33 i0 _ 3 32 Try.underlying30 hi0 hz0 hz1 hz2 rfl (by omega) _ 0 [] rfl HO.out w1.heap.size A n c _ rfl (HR.out.below B1.out) (bkc_one _) (by unfold maxLen; omega) (by omega) B1.out.size ?_; intro v2 w2 hown2 hg2 hat2)
    go_ret
    simp only [Nat.zero_add, List.nil_append] at hown2
    obtain ⟨A2, c2, rfl, h1, h2, _⟩ := own_form hown2
    refine ⟨A2, n, c2, rfl, ?_, h1, h2, B1.out.grown hg2 B1.out.size (by rintro g ⟨⟩; exact Nat.le_refl _)⟩
    have e : delB l nm = l := by simp [delB, hI]
    rw [e]
    exact Reads.of_own hown2
  · have hkl : k < n := by rw [HK.out, ← HL.out]; exact fI_lt hI
    have hkn3 : k + 1 ≤ n := hkl
    obtain ⟨X, hX, hsl⟩ := slice_tail A n c (k + 1) (k + 1) rfl hkn3
    have HD := Lib.hid (show Reads w1 w1.heap.size 3 X (n - (k + 1)) (bkc (l.drop (k + 1))) by rw [hX]; exact (bk_drop HR.out hkn3 hc))
    have HT := Lib.hid (bk_take HR.out hkn)
    have hki : (k : Int) ≤ c := by omega
    have hki0 : (0 : Int) ≤ k := by omega
    have hw1 : IntKind.i64.wrap ((k : Int) + 1) = (k : Int) + 1 := by rw [IntKind.wrap_i64]; omega
    clear hX hcm hkl hkn3
    go_wp2_with fail
    go_region_law
      (first
       | (refine step_append_any (by rfl) _ _ _ (by rfl) w1.heap.size 33 i0 _ 3 32 Try.underlying30 hi0 hz0 hz1 hz2 rfl (by omega) (.slice (some ⟨w1.heap.size, 0, none⟩) 0 0) 0 [] (by rfl) HO.out.drew w1.heap.size A k c _ (by rfl) (HT.out.below B1.out).drew (bkc_one _) (by unfold maxLen; omega) (by omega) B1.out.size ?_; intro v2 w2 hown2 hg2 hat2)
       | (refine step_append_any (by rfl) _ _ _ (by rfl) w1.heap.size 33 i0 _ 3 32 Try.underlying30 hi0 hz0 hz1 hz2 rfl (by omega) v2 (0 + k) ([] ++ bkc (l.take k)) (by rfl) hown2 w1.heap.size X (n - (k + 1)) (c - (k + 1)) _ (by rfl) (HD.out.below (B1.out.drew.grown hg2 B1.out.size (by rintro g ⟨⟩; exact Nat.le_refl _))) (bkc_one _) (by unfold maxLen; omega) (by omega) (B1.out.drew.grown hg2 B1.out.size (by rintro g ⟨⟩; exact Nat.le_refl _)).size ?_; intro v3 w3 hown3 hg3 hat3))
    have B2 := B1.out.drew.grown hg2 B1.out.size (by rintro g ⟨⟩; exact Nat.le_refl _)
    have B3 := B2.grown hg3 B2.size (fun g hg => (hown2.lt g hg).1)
    go_wp2_with fail
    go_ret
    rw [List.nil_append, ← bkc_append] at hown3
    obtain ⟨A3, c3, rfl, h1, h2, _⟩ := own_form hown3
    refine ⟨A3, _, c3, rfl, ?_, h1, h2, B3⟩
    have e : delB l nm = l.take k ++ l.drop (k + 1) := by simp [delB, hI, ← HK.out]
    rw [e]
    exact Reads.of_own hown3
end Go.Proofs.Ytgljmcameeeaiaa
