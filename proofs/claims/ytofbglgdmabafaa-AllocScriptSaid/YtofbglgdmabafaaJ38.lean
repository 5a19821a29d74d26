/-
  Contracts of the reference's Place, without and With of layer 14, each with its conditions in its own statement.
-/
import Derived.Test.YtofbglgdmabafaaJ37
import Derived.Deep.RegionLaw
import Derived.Deep.RegionLawGrows
import Derived.RegionTactic
namespace Go.Proofs.Ytofbglgdmabafaa
open Go.RowKit
open Go.Lib hiding intOf
set_option linter.unusedVariables false
set_option linter.unusedSimpArgs false
attribute [local go_sem ↓] Go.wp_at_zero Go.wp_at_succ

set_option maxRecDepth 100000 in
set_option maxHeartbeats 1600000 in
theorem rplace_any {w : World} {B : Nat} {A : Option Addr} {n : Nat} (c : Nat) {l : List Nat} (x : Nat) (hr : Reads w B 1 A n (ucells l)) (hl : RiseU l) (hn : n ≤ 10000000) :
    Calls Try.prog 46 #[.slice A n c, .int .u32 x] w fun e w' => e = .returned (.tuple #[.int .i64 ((placeU l x : Nat) : Int), .bool (inU l x)]) ∧ ∃ q, w' = w.drewN q := by
  have HL := Lib.hid (ulen hr)
  have HR := Lib.hid hr
  have HP := Lib.hid (place_in hl x)
  have HPL := Lib.hid (placeU_le l x)
  have HLT := Lib.hid (placeU_lt l x)
  have HGE := Lib.hid (placeU_ge l x)
  obtain ⟨pl, hpl⟩ : ∃ pl, pl = placeU l x := ⟨_, rfl⟩
  rw [← hpl] at HP HPL HLT HGE ⊢
  clear hr hpl
  go_enter Try.func46, Try.ntmps46
  go_wp2_with fail
  go_loop [6] (fun s6 => ∃ i : Nat, i ≤ pl ∧ s6 = .int .i64 i) (fun s6 => n - (intOf s6).toNat)
  case atStart => exact ⟨0, Nat.zero_le _, rfl⟩
  case round =>
    obtain ⟨i, hi, rfl⟩ := hrel
    have hpn : pl ≤ n := by rw [← HL.out]; exact HPL.out
    by_cases hlt : i < pl
    · obtain ⟨ad, hA, _, hc⟩ := ureads_at HR.out (k := i) (by omega)
      subst hA
      have hv : ((nthU l i : Nat) : Int) < (x : Int) := by have := HLT.out i hlt; omega
      have hin : (i : Int) < (n : Int) := by omega
      generalize nthU l i = v at hc hv
      go_wp2_with fail
      go_round
      case rel => exact ⟨i + 1, by omega, by go_num⟩
      case measure => simp [intOf]; omega
    · obtain rfl : i = pl := by omega
      by_cases hin : i < n
      · obtain ⟨ad, hA, _, hc⟩ := ureads_at HR.out hin
        subst hA
        have hv : ¬ ((nthU l i : Nat) : Int) < (x : Int) := by have := HGE.out (by rw [HL.out]; exact hin); omega
        have E : Hid (inU l x = decide (nthU l i = x)) := Lib.hid (by rw [HP.out, decide_eq_true (show i < l.length by rw [HL.out]; exact hin), Bool.true_and])
        generalize nthU l i = v at hc hv E
        by_cases hvx : v = x
        · have e1 : inU l x = true := by rw [E.out, decide_eq_true hvx]
          have E1 := Lib.hid e1
          subst hvx
          clear e1
          have hdi : decide ((i : Int) < (n : Int)) = true := decide_eq_true (by omega)
          go_wp2_with fail
          go_quiet (fail)
          go_wp2_with fail
          go_ret2
          exact ⟨by rw [E1.out]; first | rfl | simp, _, rfl⟩
        · have e1 : inU l x = false := by rw [E.out, decide_eq_false hvx]
          have E1 := Lib.hid e1
          have hvi : ¬ ((v : Int) = (x : Int)) := by omega
          clear e1 hvx
          go_wp2_with fail
          go_quiet (fail)
          go_wp2_with fail
          go_ret2
          exact ⟨by rw [E1.out]; first | rfl | simp [hvi], _, rfl⟩
      · have e1 : inU l x = false := by rw [HP.out, decide_eq_false (show ¬ i < l.length by rw [HL.out]; exact hin), Bool.false_and]
        have E1 := Lib.hid e1
        have hin2 : ¬ (i : Int) < (n : Int) := by omega
        have hdi : decide ((i : Int) < (n : Int)) = false := decide_eq_false hin2
        clear e1
        go_wp2_with fail
        go_quiet (fail)
        go_wp2_with fail
        go_ret2
        exact ⟨by rw [E1.out]; first | rfl | simp, _, rfl⟩
set_option maxRecDepth 100000 in
set_option maxHeartbeats 3200000 in
theorem rwithout_any {w : World} {A : Option Addr} {n c : Nat} {l : List Nat} (x : Nat) (hr : Reads w w.heap.size 1 A n (ucells l)) (hl : RiseU l) (hn : n ≤ 10000000) (hc : n ≤ c) (hcm : c ≤ maxLen) (hx : x ∈ l) :
    Calls Try.prog 44 #[.slice A n c, .int .u32 x] w (RowPost (lessU1 l x) w) := by
  obtain ⟨i0, hi0, hz0, hz1, hz2⟩ := info_parts infoU32b
  have hlen := ulen hr
  have HF := Lib.hid (rplace_any c x hr hl hn)
  have hin := place_in hl x
  rw [inU_iff.2 hx] at hin
  obtain ⟨hk1, _⟩ := Bool.and_eq_true_iff.1 hin.symm
  rw [decide_eq_true_iff] at hk1
  obtain ⟨k, hk⟩ : ∃ k, k = placeU l x := ⟨_, rfl⟩
  rw [← hk] at hk1 HF
  have hkn3 : k + 1 ≤ n := by omega
  obtain ⟨X, hX, hsl⟩ := usliced A n c (k + 1) ((k : Int) + 1) (by omega) hkn3
  have hdr := udrop hr hkn3 hc
  rw [← hX] at hdr
  have HD := Lib.hid hdr
  have HT := Lib.hid (utake hr (k := k) (by omega))
  have hki : (k : Int) ≤ c := by omega
  have hki0 : (0 : Int) ≤ k := by omega
  have hw1 : IntKind.i64.wrap ((k : Int) + 1) = (k : Int) + 1 := by rw [IntKind.wrap_i64]; omega
  have HK := Lib.hid hk
  have E : lessU1 l x = l.take k ++ l.drop (k + 1) := by unfold lessU1; rw [← hk]
  rw [E]
  clear hin hk hX hcm hk1 hdr hl hx hr E
  go_enter Try.func44, Try.ntmps44
  go_wp2_with fail
  refine HF.out.mono ?_
  rintro e wp ⟨rfl, q, rfl⟩
  clear HF
  obtain ⟨w1, hw1'⟩ : ∃ w1, w1 = w.drewN q := ⟨_, rfl⟩
  rw [← hw1']
  have HS : Hid (w1.heap.size = w.heap.size) := Lib.hid (by rw [hw1']; rfl)
  have HBq : Hid (Below w.heap.size w w1) := Lib.hid (by rw [hw1']; exact below_drewN (Below.refl _ _) q)
  have HT1 : Hid (Reads w1 w1.heap.size 1 A k (ucells (l.take k))) := Lib.hid (by rw [hw1']; exact HT.out.drewN q)
  have HD1 : Hid (Reads w1 w1.heap.size 1 X (n - (k + 1)) (ucells (l.drop (k + 1)))) := Lib.hid (by rw [hw1']; exact HD.out.drewN q)
  clear hw1' HT HD
  have HO := Lib.hid (World.ownsRow_made (e := 27) (size := 1) w1 #[] 0 (Nat.le_refl w1.heap.size) (by simp [maxLen]) rfl)
  have B1 := Lib.hid ((Below.refl w1.heap.size w1).alloc (Nat.le_refl _) (.cells #[] 27))
  go_wp2_with fail
  go_region_law
    (first
     | (refine step_append_any (by rfl) _ _ _ (by rfl) w1.heap.size 27 i0 _ 1 4 Try.underlying28 hi0 hz0 hz1 hz2 rfl (by omega) (.slice (some ⟨w1.heap.size, 0, none⟩) 0 0) 0 [] (by rfl) HO.out.drew w1.heap.size A k c _ (by rfl) (HT1.out.below B1.out).drew (ucells_one _) (by unfold maxLen; omega) (by omega) B1.out.size ?_; intro v2 w2 hown2 hg2 hat2)
     | (refine step_append_any (by rfl) _ _ _ (by rfl) w1.heap.size 27 i0 _ 1 4 Try.underlying28 hi0 hz0 hz1 hz2 rfl (by omega) v2 (0 + k) ([] ++ ucells (l.take k)) (by rfl) hown2 w1.heap.size X (n - (k + 1)) (c - (k + 1)) _ (by rfl) (HD1.out.below (B1.out.drew.grown hg2 B1.out.size (by rintro g ⟨⟩; exact Nat.le_refl _))) (ucells_one _) (by unfold maxLen; omega) (by omega) (B1.out.drew.grown hg2 B1.out.size (by rintro g ⟨⟩; exact Nat.le_refl _)).size ?_; intro v3 w3 hown3 hg3 hat3))
  have B2 := B1.out.drew.grown hg2 B1.out.size (by rintro g ⟨⟩; exact Nat.le_refl _)
  have B3 := B2.grown hg3 B2.size (fun g hg => (hown2.lt g hg).1)
  go_wp2_with fail
  go_ret
  rw [List.nil_append, ← ucells_append] at hown3
  obtain ⟨A3, c3, rfl, h1, h2, _⟩ := own_form hown3
  exact ⟨A3, _, c3, rfl, by rw [← HS.out]; exact hown3, HBq.out.trans (B3.mono (by rw [HS.out]; exact Nat.le_refl _))⟩
set_option maxRecDepth 100000 in
set_option maxHeartbeats 6400000 in
theorem rwith_any {w : World} {A : Option Addr} {n c : Nat} {l : List Nat} (x : Nat) (hr : Reads w w.heap.size 1 A n (ucells l)) (hl : RiseU l) (hn : n ≤ 10000000) (hc : n ≤ c) :
    Calls Try.prog 45 #[.slice A n c, .int .u32 x] w (RowPost (withU l x) w) := by
  obtain ⟨i0, hi0, hz0, hz1, hz2⟩ := info_parts infoU32b
  have hlen := ulen hr
  have HF := Lib.hid (rplace_any c x hr hl hn)
  have hk0 := placeU_le l x
  obtain ⟨k, hk⟩ : ∃ k, k = placeU l x := ⟨_, rfl⟩
  rw [← hk] at hk0 HF
  have hkn : k ≤ n := by omega
  obtain ⟨X, hX, hsl⟩ := usliced A n c k k rfl hkn
  have hdr := udrop hr hkn hc
  rw [← hX] at hdr
  have HD := Lib.hid hdr
  have HT := Lib.hid (utake hr (k := k) hkn)
  have hki : (k : Int) ≤ c := by omega
  have hki0 : (0 : Int) ≤ k := by omega
  have E : withU l x = l.take k ++ [x] ++ l.drop k := by unfold withU; rw [← hk]; simp
  rw [E]
  clear hk hX hk0 hdr hl hr E hlen
  go_enter Try.func45, Try.ntmps45
  go_wp2_with fail
  refine HF.out.mono ?_
  rintro e wp ⟨rfl, q, rfl⟩
  clear HF
  obtain ⟨w1, hw1'⟩ : ∃ w1, w1 = w.drewN q := ⟨_, rfl⟩
  rw [← hw1']
  have HS : Hid (w1.heap.size = w.heap.size) := Lib.hid (by rw [hw1']; rfl)
  have HBq : Hid (Below w.heap.size w w1) := Lib.hid (by rw [hw1']; exact below_drewN (Below.refl _ _) q)
  have HT1 : Hid (Reads w1 w1.heap.size 1 A k (ucells (l.take k))) := Lib.hid (by rw [hw1']; exact HT.out.drewN q)
  have HD1 : Hid (Reads w1 w1.heap.size 1 X (n - k) (ucells (l.drop k))) := Lib.hid (by rw [hw1']; exact HD.out.drewN q)
  clear hw1' HT HD
  -- the empty row, and the row of one, in whatever order they are made
  have HE1 : Hid ((w1.alloc (.cells #[] 27)).ownsRow w1.heap.size 27 1 (.slice (some ⟨w1.heap.size, 0, none⟩) 0 0) 0 []) := Lib.hid (World.ownsRow_made (e := 27) (size := 1) w1 #[] 0 (Nat.le_refl w1.heap.size) (by simp [maxLen]) rfl)
  have HE2 : Hid (((w1.alloc (.cells #[.int .u32 x] 27)).alloc (.cells #[] 27)).ownsRow w1.heap.size 27 1 (.slice (some ⟨w1.heap.size + 1, 0, none⟩) 0 0) 0 []) := Lib.hid (by
    have h := World.ownsRow_made (base := w1.heap.size) (e := 27) (size := 1) (w1.alloc (.cells #[.int .u32 x] 27)) #[] 0 (by simp) (by simp [maxLen]) rfl
    rw [show (w1.alloc (.cells #[.int .u32 x] 27)).heap.size = w1.heap.size + 1 by simp] at h
    exact h)
  have B1 := Lib.hid ((Below.refl w1.heap.size w1).alloc (Nat.le_refl _) (.cells #[] 27))
  have B2a := Lib.hid (((Below.refl w1.heap.size w1).alloc (Nat.le_refl _) (.cells #[] 27)).alloc (by simp) (.cells #[.int .u32 x] 27))
  have B2b := Lib.hid (((Below.refl w1.heap.size w1).alloc (Nat.le_refl _) (.cells #[.int .u32 x] 27)).alloc (by simp) (.cells #[] 27))
  go_wp2_with fail
  go_region_law
    (first
      | (refine step_append_any (by rfl) _ _ _ (by rfl) w1.heap.size 27 i0 _ 1 4 Try.underlying28 hi0 hz0 hz1 hz2 rfl (by omega) (.slice (some ⟨w1.heap.size, 0, none⟩) 0 0) 0 [] (by rfl) HE1.out.drew w1.heap.size A k c _ (by rfl) (HT1.out.below B1.out).drew (ucells_one _) (by unfold maxLen; omega) (by omega) B1.out.size ?_
         intro v2 w2 hown2 hg2 hat2
         have hb2 : Below w1.heap.size w1 w2 := B1.out.drew.grown hg2 B1.out.size (by rintro g ⟨⟩; first | exact Nat.le_refl _ | exact Nat.le_succ _)
         skip)
      | (refine step_append_any (by rfl) _ _ _ (by rfl) w1.heap.size 27 i0 _ 1 4 Try.underlying28 hi0 hz0 hz1 hz2 rfl (by omega) (.slice (some ⟨w1.heap.size, 0, none⟩) 0 0) 0 [] (by rfl) (HE1.out.alloc _).drew w1.heap.size A k c _ (by rfl) (HT1.out.below B2a.out).drew (ucells_one _) (by unfold maxLen; omega) (by omega) B2a.out.size ?_
         intro v2 w2 hown2 hg2 hat2
         have hb2 : Below w1.heap.size w1 w2 := B2a.out.drew.grown hg2 B2a.out.size (by rintro g ⟨⟩; first | exact Nat.le_refl _ | exact Nat.le_succ _)
         have hx2 : Blk w2 (w1.heap.size + 1) 27 #[.int .u32 x] := Blk.grown (w := ((w1.alloc (.cells #[] 27)).alloc (.cells #[.int .u32 x] 27)).drew) (by have h := Blk.new (w1.alloc (.cells #[] 27)) 27 #[.int .u32 x]; rw [show (w1.alloc (.cells #[] 27)).heap.size = w1.heap.size + 1 by simp] at h; exact h.drew) hg2 (by intro e; simp [Value.ownBlock] at e))
      | (refine step_append_any (by rfl) _ _ _ (by rfl) w1.heap.size 27 i0 _ 1 4 Try.underlying28 hi0 hz0 hz1 hz2 rfl (by omega) (.slice (some ⟨w1.heap.size + 1, 0, none⟩) 0 0) 0 [] (by rfl) HE2.out.drew w1.heap.size A k c _ (by rfl) (HT1.out.below B2b.out).drew (ucells_one _) (by unfold maxLen; omega) (by omega) B2b.out.size ?_
         intro v2 w2 hown2 hg2 hat2
         have hb2 : Below w1.heap.size w1 w2 := B2b.out.drew.grown hg2 B2b.out.size (by rintro g ⟨⟩; first | exact Nat.le_refl _ | exact Nat.le_succ _)
         have hx2 : Blk w2 w1.heap.size 27 #[.int .u32 x] := Blk.grown (w := ((w1.alloc (.cells #[.int .u32 x] 27)).alloc (.cells #[] 27)).drew) ((Blk.new w1 27 #[.int .u32 x]).alloc _).drew hg2 (by intro e; simp [Value.ownBlock] at e))
      | (refine step_append_any (by rfl) _ _ _ (by rfl) w1.heap.size 27 i0 _ 1 4 Try.underlying28 hi0 hz0 hz1 hz2 rfl (by omega) v2 (0 + k) ([] ++ ucells (l.take k)) (by rfl) (hown2.alloc _) _ _ 1 1 [.int .u32 x] (by rfl) (reads_own (n := 1) (Blk.new w2 27 #[.int .u32 x]) rfl) (by simp [Value.oneCell']) (by unfold maxLen; omega) (by omega) (hb2.alloc hb2.size (.cells #[.int .u32 x] 27)).size ?_
         intro v3 w3 hown3 hg3 hat3
         have hb3 : Below w1.heap.size w1 w3 := (hb2.alloc hb2.size (.cells #[.int .u32 x] 27)).grown hg3 (hb2.alloc hb2.size (.cells #[.int .u32 x] 27)).size (fun g hg => (hown2.lt g hg).1))
      | (refine step_append_any (by rfl) _ _ _ (by rfl) w1.heap.size 27 i0 _ 1 4 Try.underlying28 hi0 hz0 hz1 hz2 rfl (by omega) v2 (0 + k) ([] ++ ucells (l.take k)) (by rfl) hown2 _ _ 1 1 [.int .u32 x] (by rfl) (reads_own (n := 1) hx2 rfl) (by simp [Value.oneCell']) (by unfold maxLen; omega) (by omega) hb2.size ?_
         intro v3 w3 hown3 hg3 hat3
         have hb3 : Below w1.heap.size w1 w3 := hb2.grown hg3 hb2.size (fun g hg => (hown2.lt g hg).1))
      | (refine step_append_any (by rfl) _ _ _ (by rfl) w1.heap.size 27 i0 _ 1 4 Try.underlying28 hi0 hz0 hz1 hz2 rfl (by omega) v3 (0 + k + 1) ([] ++ ucells (l.take k) ++ [.int .u32 x]) (by rfl) hown3 w1.heap.size X (n - k) (c - k) _ (by rfl) (HD1.out.below hb3) (ucells_one _) (by unfold maxLen; omega) (by omega) hb3.size ?_
         intro v4 w4 hown4 hg4 hat4
         have hb4 : Below w1.heap.size w1 w4 := hb3.grown hg4 hb3.size (fun g hg => (hown3.lt g hg).1)))
  all_goals
    go_wp2_with fail
    go_ret
    rw [List.nil_append, show ucells (l.take k) ++ [Value.int .u32 (x : Int)] ++ ucells (l.drop k) = ucells (l.take k ++ [x] ++ l.drop k) by simp [ucells]] at hown4
    obtain ⟨A4, c4, rfl, _, _, _⟩ := own_form hown4
    exact ⟨A4, _, c4, rfl, by rw [← HS.out]; exact hown4, HBq.out.trans (hb4.mono (by rw [HS.out]; exact Nat.le_refl _))⟩
end Go.Proofs.Ytofbglgdmabafaa

