/-
  Contracts of the reference of layer 8: In, One, Size, may, May, Find.
-/
import Derived.Test.YtinojpcjbjjlbaaJ17
import Derived.Test.YtinojpcjbjjlbaaJ18
import Derived.Test.YtinojpcjbjjlbaaJ10
import Derived.Test.YtinojpcjbjjlbaaJ11
import Derived.Test.YtinojpcjbjjlbaaJ21
import Derived.Deep.CutRange
import Derived.Deep.DrawnRows
import Derived.Deep.QuietTactic
import Derived.BigQuiet
import Derived.Lib.MinMax
namespace Go.Proofs.Ytinojpcjbjjlbaa
open Go.RowKit
open Go.Lib hiding intOf
set_option linter.unusedVariables false
set_option linter.unusedSimpArgs false
attribute [local go_sem ↓] Go.wp_at_zero Go.wp_at_succ

/-- Is a value of so many bytes stored in place in pages of a size? -/
def inB (z : Nat) (n : Int) : Bool := decide (0 ≤ n) && decide (n ≤ ((min (z / 8) 255 : Nat) : Int))
theorem rin_any (z : Nat) (n : Int) (w : World) (hz : (z : Int) ≤ 9223372036854775807) : Calls Try.prog 22 #[.int .i64 z, .int .i64 n] w fun e w' => e = .returned (.bool (inB z n)) ∧ w' = w := by
  by_cases h1 : 0 ≤ n
  · have hm : ((min (z / 8) 255 : Nat) : Int) = min ((z : Int) / 8) 255 := by omega
    have hq : (z : Int).tdiv 8 = (z : Int) / 8 := by rw [Int.tdiv_eq_ediv_of_nonneg (by omega)]
    have hw : wrap64 ((z : Int) / 8) = (z : Int) / 8 := by
      have := wrap64_nat (z / 8) (by omega)
      simpa using this
    have HE := Lib.hid (show inB z n = decide (n ≤ min ((z : Int) / 8) 255) by rw [inB, hm, decide_eq_true h1, Bool.true_and])
    clear hm
    go_enter Try.func22, Try.ntmps22
    go_wp2
    go_ret
    exact ⟨by rw [HE.out]; rfl, rfl⟩
  · have HE := Lib.hid (show inB z n = false by simp [inB, h1])
    go_enter Try.func22, Try.ntmps22
    go_wp2
    go_ret
    exact ⟨by rw [HE.out]; rfl, rfl⟩
theorem rone8_any (b : It) (w : World) (hs : b.ky.size ≤ 140737488351232) (hv : b.vl.size ≤ 140737488351232) : Calls Try.prog 43 #[.agg #[.string b.ky, .string b.vl, .bool b.ov, .int .i64 b.ln, .int .u32 b.hd]] w fun e w' => e = .returned (.int .i64 (oneI b)) ∧ Below w.heap.size w w' := by
  obtain ⟨ky, vl, ov, ln, hd⟩ := b
  cases ov
  · have HE := Lib.hid (show ((oneI ⟨ky, vl, false, ln, hd⟩ : Nat) : Int) = 3 + (ky.size : Int) + (vl.size : Int) by simp [oneI])
    dsimp only at hs hv
    go_enter Try.func43, Try.ntmps43
    go_wp2
    go_ret
    exact ⟨by rw [HE.out]; rfl, (Below.refl _ _).alloc (Nat.le_refl _) _⟩
  · have HE := Lib.hid (show ((oneI ⟨ky, vl, true, ln, hd⟩ : Nat) : Int) = 10 + (ky.size : Int) by simp [oneI])
    dsimp only at hs hv
    go_enter Try.func43, Try.ntmps43
    go_wp2
    go_ret
    exact ⟨by rw [HE.out]; rfl, (Below.refl _ _).alloc (Nat.le_refl _) _⟩
set_option maxRecDepth 100000 in
set_option maxHeartbeats 3200000 in
theorem rsize8_any (A : Option Addr) (n c : Nat) (l : List It) (w : World) (hr : Reads w w.heap.size 5 A n (itc l)) (hn : n ≤ maxLen) (hx : NearI l) (hs : sizeI l ≤ 9007199254740992) :
    Calls Try.prog 21 #[.slice A n c] w fun e w' => e = .returned (.int .i64 (sizeI l)) ∧ Below w.heap.size w w' := by
  have hl := it_len hr
  have HR := Lib.hid hr
  have HL := Lib.hid hl
  have HX := Lib.hid hx
  unfold maxLen at hn
  clear hr hl hx
  go_enter Try.func21, Try.ntmps21
  go_wp2_with fail
  go_loopw [3, 4] (fun s i wr => ∃ k : Nat, k ≤ n ∧ i = .int .i64 k ∧ s = .int .i64 (sizeI (l.take k)) ∧ Hid (Below w.heap.size w wr)) (fun _ i _ => n - (intOf i).toNat)
  case atStart => exact ⟨0, Nat.zero_le _, rfl, by simp [sizeI], Lib.hid (Below.refl _ _)⟩
  case round =>
    obtain ⟨k, hk, rfl, rfl, HB⟩ := hrel
    by_cases hlt : k < n
    · obtain ⟨ad, x, rfl, _, hp, hx, hc⟩ := it_at HR.out hlt
      obtain ⟨hc0, hc1, hc2, hc3, hc4⟩ := hc.below HB.out hp
      have hk0 : (0 : Int) ≤ k := by omega
      have hk1 : (k : Int) < n := by omega
      have hsz := sizeI_take_succ hx
      have hle := sizeI_take_le l (k + 1)
      have hxx := HX.out x (List.mem_of_getElem? hx)
      have HS := Lib.hid hsz
      have hks : sizeI (l.take k) + oneI x ≤ 9007199254740992 := by omega
      have HO := fun w => rone8_any x w hxx.1 hxx.2
      clear hx hsz hle hxx
      go_wp2_with fail
      refine (HO _).mono ?_
      rintro e w1 ⟨rfl, hb⟩
      replace HB := Lib.hid (HB.out.trans (hb.mono HB.out.size))
      clear hb hc hc0 hc1 hc2 hc3 hc4 HO
      have hadd : ((sizeI (l.take k) : Nat) : Int) + ((oneI x : Nat) : Int) = ((sizeI (l.take (k + 1)) : Nat) : Int) := by rw [HS.out]; omega
      go_wp2
      go_roundw
      case rel =>
        first
          | exact ⟨k + 1, by omega, by go_num, by first | rfl | (rw [← hadd]; go_num), HB⟩
          | ((repeat apply Exists.intro); exact ⟨⟨k + 1, by omega, by go_num, by first | rfl | (rw [← hadd]; go_num), HB⟩, rfl⟩)
      case measure => simp [intOf]; omega
    · obtain rfl : k = n := by omega
      have ht : l.take k = l := List.take_of_length_le (by rw [HL.out]; exact Nat.le_refl _)
      rw [ht]
      clear hlt
      go_wp2
      go_ret
      exact ⟨rfl, HB.out⟩
theorem okIt_in {b : It} (h : b.ov = false) : okIt b = (keyF b.ky && (decide (b.vl.size ≤ 255) && (decide (b.ln = 0) && decide (b.hd = 0)))) := by rw [okIt, if_neg (by rw [h]; decide)]
theorem okIt_ov {b : It} (h : b.ov = true) : okIt b = (keyF b.ky && (decide (b.vl.size = 0) && (decide (1 ≤ b.ln) && (decide (b.ln ≤ 4096) && numB b.hd)))) := by rw [okIt, if_pos h]
set_option maxRecDepth 100000 in
set_option maxHeartbeats 3200000 in
theorem rmayone_any (b : It) (w : World) : Calls Try.prog 54 #[.agg #[.string b.ky, .string b.vl, .bool b.ov, .int .i64 b.ln, .int .u32 b.hd]] w fun e w' => e = .returned (.bool (okIt b)) ∧ Below w.heap.size w w' := by
  obtain ⟨ky, vl, ov, ln, hd⟩ := b
  have HK := fun w => rkey_any ky w
  have HN := fun w => rnumB_any hd w
  have HB := Lib.hid ((Below.refl w.heap.size w).alloc (Nat.le_refl _) (.cells #[.string ky, .string vl, .bool ov, .int .i64 ln, .int .u32 hd] 35))
  have hvz : vl.toList.isEmpty = decide (vl.size = 0) := by
    rw [Bool.eq_iff_iff, List.isEmpty_iff_length_eq_zero, ByteArray.toList_eq, size_list, decide_eq_true_eq]
  cases ov
  · clear hvz
    have hE := okIt_in (b := ⟨ky, vl, false, ln, hd⟩) rfl
    dsimp only at hE
    rcases hk : keyF ky with _ | _
    · rw [hk] at HK hE
      have HE := Lib.hid hE
      clear hE hk
      go_enter Try.func54, Try.ntmps54
      go_wp2_with (go_at_call 60; refine (HK _).mono ?_; rintro e w' ⟨rfl, rfl⟩)
      go_ret
      exact ⟨by rw [HE.out]; rfl, HB.out⟩
    rw [hk] at HK hE
    by_cases h1 : vl.size ≤ 255
    rotate_left
    · have h1' : decide ((vl.size : Int) ≤ 255) = false := by simp; omega
      rw [decide_eq_false h1] at hE
      have HE := Lib.hid hE
      clear hE hk h1
      go_enter Try.func54, Try.ntmps54
      go_wp2_with (go_at_call 60; refine (HK _).mono ?_; rintro e w' ⟨rfl, rfl⟩)
      go_ret
      exact ⟨by rw [HE.out]; rfl, HB.out⟩
    have h1' : decide ((vl.size : Int) ≤ 255) = true := by simp; omega
    rw [decide_eq_true h1] at hE
    by_cases h2 : ln = 0
    rotate_left
    · have h2' : (ln == 0) = false := by simpa using h2
      rw [decide_eq_false h2] at hE
      have HE := Lib.hid hE
      clear hE hk h1 h2
      go_enter Try.func54, Try.ntmps54
      go_wp2_with (go_at_call 60; refine (HK _).mono ?_; rintro e w' ⟨rfl, rfl⟩)
      go_ret
      exact ⟨by rw [HE.out]; rfl, HB.out⟩
    have h2' : (ln == 0) = true := by simpa using h2
    rw [decide_eq_true h2] at hE
    have h3' : ((hd : Int) == 0) = decide (hd = 0) := by
      by_cases h3 : hd = 0
      · simp [h3]
      · simp [h3]
    have HE := Lib.hid hE
    have H3 := Lib.hid h3'
    clear hE hk h1 h2 h3'
    go_enter Try.func54, Try.ntmps54
    go_wp2_with (go_at_call 60; refine (HK _).mono ?_; rintro e w' ⟨rfl, rfl⟩)
    go_ret
    exact ⟨by rw [HE.out, ← H3.out]; rfl, HB.out⟩
  · have hE := okIt_ov (b := ⟨ky, vl, true, ln, hd⟩) rfl
    dsimp only at hE
    rcases hk : keyF ky with _ | _
    · rw [hk] at HK hE
      have HE := Lib.hid hE
      clear hE hk hvz
      go_enter Try.func54, Try.ntmps54
      go_wp2_with (go_at_call 60; refine (HK _).mono ?_; rintro e w' ⟨rfl, rfl⟩)
      go_ret
      exact ⟨by rw [HE.out]; rfl, HB.out⟩
    rw [hk] at HK hE
    by_cases h1 : vl.size = 0
    rotate_left
    · rw [decide_eq_false h1] at hE hvz
      have HE := Lib.hid hE
      clear hE hk h1
      go_enter Try.func54, Try.ntmps54
      go_wp2_with (go_at_call 60; refine (HK _).mono ?_; rintro e w' ⟨rfl, rfl⟩)
      go_ret
      exact ⟨by rw [HE.out]; rfl, HB.out⟩
    rw [decide_eq_true h1] at hE hvz
    have hvn : vl.toList = [] := List.isEmpty_iff.1 hvz
    clear hvz
    by_cases h2 : 1 ≤ ln
    rotate_left
    · have h2' : decide (1 ≤ ln) = false := decide_eq_false h2
      rw [h2'] at hE
      have HE := Lib.hid hE
      clear hE hk h1 h2
      go_enter Try.func54, Try.ntmps54
      go_wp2_with (go_at_call 60; refine (HK _).mono ?_; rintro e w' ⟨rfl, rfl⟩)
      go_ret
      exact ⟨by rw [HE.out]; rfl, HB.out⟩
    rw [decide_eq_true h2] at hE
    by_cases h3 : ln ≤ 4096
    rotate_left
    · have h3' : decide (ln ≤ 4096) = false := decide_eq_false h3
      rw [h3'] at hE
      have HE := Lib.hid hE
      clear hE hk h1
      go_enter Try.func54, Try.ntmps54
      go_wp2_with (go_at_call 60; refine (HK _).mono ?_; rintro e w' ⟨rfl, rfl⟩)
      go_ret
      exact ⟨by rw [HE.out]; rfl, HB.out⟩
    rw [decide_eq_true h3] at hE
    have HE := Lib.hid hE
    clear hE hk h1
    go_enter Try.func54, Try.ntmps54
    go_wp2_with (first | (go_at_call 60; refine (HK _).mono ?_; rintro e w' ⟨rfl, rfl⟩) | (go_at_call 37; refine (HN _).mono ?_; rintro e w' ⟨rfl, rfl⟩))
    go_ret
    exact ⟨by rw [HE.out]; rfl, HB.out⟩
set_option maxRecDepth 100000 in
set_option maxHeartbeats 3200000 in
theorem rfind8_any (A : Option Addr) (n c : Nat) (l : List It) (key : ByteArray) (w : World) {B : Nat} (hr : Reads w B 5 A n (itc l)) (hn : n ≤ 2513169434916) :
    Calls Try.prog 20 #[.slice A n c, .string key] w fun e w' => e = .returned (.tuple #[.int .i64 (findN l key), .bool (findB l key)]) ∧ ∃ q, w' = w.drewN q := by
  have HL := Lib.hid (it_len hr)
  have HR := Lib.hid hr
  clear hr
  go_enter Try.func20, Try.ntmps20
  go_wp2_with fail
  go_loop [6] (fun i => ∃ k : Nat, k ≤ n ∧ i = .int .i64 k ∧ Hid (∀ j y, j < k → l[j]? = some y → Op.bytesLess y.ky.toList key.toList = true)) (fun i => n - (intOf i).toNat)
  case atStart => exact ⟨0, Nat.zero_le _, rfl, Lib.hid fun j y hj => absurd hj (by omega)⟩
  case round =>
    obtain ⟨k, hk, rfl, HF⟩ := hrel
    by_cases hlt : k < n
    · obtain ⟨ad, x, rfl, _, _, hx, hc0, _⟩ := it_at HR.out hlt
      have hk0 : (0 : Int) ≤ k := by omega
      have hk1 : (k : Int) < n := by omega
      have HX := Lib.hid hx
      clear hx
      rcases he : Op.bytesLess x.ky.toList key.toList with _ | _
      · have hN : findN l key = k := takeWhile_at HF.out (by rw [HL.out]; omega) (fun y hy => by rw [HX.out] at hy; injection hy with hy; subst hy; exact he)
        have HE := Lib.hid hN
        have HE2 := Lib.hid (show findB l key = (x.ky.toList == key.toList) by rw [findB, hN, HX.out])
        clear hN
        go_wp2_with fail
        go_quiet (fail)
        go_wp2_with fail
        go_ret2
        refine ⟨?_, _, rfl⟩
        rw [HE.out, HE2.out]
        rfl
      · go_wp2_with fail
        go_round
        case rel =>
          refine ⟨k + 1, by omega, by go_num, Lib.hid fun i y hi hy => ?_⟩
          by_cases hjk : i < k
          · exact HF.out i y hjk hy
          · obtain rfl : i = k := by omega
            rw [HX.out] at hy
            injection hy with hy
            subst hy
            exact he
        case measure => simp [intOf]; omega
    · obtain rfl : k = n := by omega
      have hnone : l[k]? = none := List.getElem?_eq_none (by rw [HL.out]; exact Nat.le_refl _)
      have hN : findN l key = k := takeWhile_at HF.out (by rw [HL.out]; exact Nat.le_refl _) (fun y hy => by rw [hnone] at hy; cases hy)
      have HE := Lib.hid hN
      have HE2 := Lib.hid (show findB l key = false by rw [findB, hN, hnone])
      have hnl : ¬ ((k : Int) < k) := by omega
      clear hN hlt hnone
      go_wp2_with fail
      go_quiet (fail)
      go_wp2_with fail
      go_ret2
      refine ⟨?_, _, rfl⟩
      rw [HE.out, HE2.out]
      rfl
end Go.Proofs.Ytinojpcjbjjlbaa
