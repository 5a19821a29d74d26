/-
  Contracts of the reference of layer 6: Name, Size, Find.
-/
import Derived.Test.YtgljmcameeeaiaaBk
import Derived.Deep.DrawnRows
import Derived.Lib.Hide
namespace Go.Proofs.Ytgljmcameeeaiaa
open Go.RowKit
open Go.Lib hiding intOf
set_option linter.unusedVariables false
set_option linter.unusedSimpArgs false
attribute [local go_sem ↓] Go.wp_at_zero Go.wp_at_succ

theorem rname_any (s : ByteArray) (w : World) : Calls Try.prog 25 #[.string s] w fun e w' => e = .returned (.bool (decide (1 ≤ s.size ∧ s.size ≤ 16))) ∧ w' = w := by
  by_cases h1 : 1 ≤ s.size
  · have h1' : (1 : Int) ≤ s.size := by omega
    by_cases h2 : s.size ≤ 16
    · have h2' : (s.size : Int) ≤ 16 := by omega
      go_enter Try.func25, Try.ntmps25
      go_wp2
      go_ret
      exact ⟨by simp [h1, h2], rfl⟩
    · have h2' : ¬ (s.size : Int) ≤ 16 := by omega
      go_enter Try.func25, Try.ntmps25
      go_wp2
      go_ret
      exact ⟨by simp [h1, h2], rfl⟩
  · have h1' : ¬ (1 : Int) ≤ s.size := by omega
    go_enter Try.func25, Try.ntmps25
    go_wp2
    go_ret
    exact ⟨by simp [h1], rfl⟩
set_option maxRecDepth 100000 in
set_option maxHeartbeats 3200000 in
theorem rfind_any (A : Option Addr) (n c : Nat) (l : List Bk) (nm : ByteArray) (w : World) (hr : Reads w w.heap.size 3 A n (bkc l)) (hn : n ≤ maxLen) :
    Calls Try.prog 22 #[.slice A n c, .string nm] w fun e w' => e = .returned (.tuple #[.int .i64 (fI l nm), .bool (isI l nm)]) ∧ w' = w := by
  have hl := bk_len hr
  have HR := Lib.hid hr
  have HL := Lib.hid hl
  unfold maxLen at hn
  clear hr hl
  go_enter Try.func22, Try.ntmps22
  go_wp2_with fail
  go_loop [6] (fun i => ∃ k : Nat, k ≤ n ∧ i = .int .i64 k ∧ Hid (∀ j y, j < k → l[j]? = some y → (y.nm.toList == nm.toList) = false)) (fun i => n - (intOf i).toNat)
  case atStart => exact ⟨0, Nat.zero_le _, rfl, Lib.hid fun j y hj => absurd hj (by omega)⟩
  case round =>
    obtain ⟨k, hk, rfl, HF⟩ := hrel
    by_cases hlt : k < n
    · obtain ⟨ad, x, rfl, _, _, hx, hc0, _, _⟩ := bk_at HR.out hlt
      have hk0 : (0 : Int) ≤ k := by omega
      have hk1 : (k : Int) < n := by omega
      have HX := Lib.hid hx
      clear hx
      rcases he : (x.nm.toList == nm.toList) with _ | _
      · go_wp2_with fail
        go_round
        case rel =>
          refine ⟨k + 1, by omega, by go_num, Lib.hid fun j y hj hy => ?_⟩
          by_cases hjk : j < k
          · exact HF.out j y hjk hy
          · obtain rfl : j = k := by omega
            rw [HX.out] at hy
            injection hy with hy
            subst hy
            exact he
        case measure => simp [intOf]; omega
      · have hE : eqI l nm = k := findIdx_is HX.out he HF.out
        have hF : fI l nm = k := by unfold fI; rw [hE, if_pos (by rw [HL.out]; exact hlt)]
        have hI : isI l nm = true := by unfold isI; rw [hE, HL.out]; exact decide_eq_true hlt
        have HF2 := Lib.hid hF
        have HI := Lib.hid hI
        clear hE hF hI
        go_wp2_with fail
        go_ret2
        exact ⟨by rw [HF2.out, HI.out]; rfl, rfl⟩
    · obtain rfl : k = n := by omega
      have hE : eqI l nm = l.length := findIdx_none (by rw [HL.out]; exact HF.out)
      have HE := Lib.hid hE
      clear hE hlt HF hk
      go_wp2_with fail
      go_loop [7] (fun i => ∃ j : Nat, j ≤ k ∧ i = .int .i64 j ∧ Hid (∀ i y, i < j → l[i]? = some y → (!Op.bytesLess y.nm.toList nm.toList) = false)) (fun i => k - (intOf i).toNat)
      case atStart => exact ⟨0, Nat.zero_le _, rfl, Lib.hid fun j y hj => absurd hj (by omega)⟩
      case round =>
        obtain ⟨j, hj, rfl, HF⟩ := hrel
        by_cases hlt : j < k
        · obtain ⟨ad, x, rfl, _, _, hx, hc0, _, _⟩ := bk_at HR.out hlt
          have hk0 : (0 : Int) ≤ j := by omega
          have hk1 : (j : Int) < k := by omega
          have HX := Lib.hid hx
          clear hx
          rcases he : Op.bytesLess x.nm.toList nm.toList with _ | _
          · have hF : fI l nm = j := by
              unfold fI
              rw [if_neg (by rw [HE.out]; omega)]
              exact findIdx_is HX.out (by rw [he]; rfl) HF.out
            have hI : isI l nm = false := by unfold isI; rw [HE.out]; exact decide_eq_false (by omega)
            have HF2 := Lib.hid hF
            have HI := Lib.hid hI
            clear hF hI
            go_wp2_with fail
            go_ret2
            exact ⟨by rw [HF2.out, HI.out]; rfl, rfl⟩
          · go_wp2_with fail
            go_round
            case rel =>
              refine ⟨j + 1, by omega, by go_num, Lib.hid fun i y hi hy => ?_⟩
              by_cases hjk : i < j
              · exact HF.out i y hjk hy
              · obtain rfl : i = j := by omega
                rw [HX.out] at hy
                injection hy with hy
                subst hy
                rw [he]; rfl
            case measure => simp [intOf]; omega
        · obtain rfl : j = k := by omega
          have hF : fI l nm = j := by
            unfold fI
            rw [if_neg (by rw [HE.out]; omega), ← HL.out]
            exact findIdx_none (by rw [HL.out]; exact HF.out)
          have hI : isI l nm = false := by unfold isI; rw [HE.out]; exact decide_eq_false (by omega)
          have HF2 := Lib.hid hF
          have HI := Lib.hid hI
          clear hF hI
          go_wp2_with fail
          go_ret2
          exact ⟨by rw [HF2.out, HI.out]; rfl, rfl⟩
/-- The size of buckets. -/
def sizeB : List Bk → Nat
  | [] => 0
  | b :: l => 9 + b.nm.size + sizeB l
theorem sizeB_snoc (l : List Bk) (b : Bk) : sizeB (l ++ [b]) = sizeB l + (9 + b.nm.size) := by
  induction l with
  | nil => simp [sizeB]
  | cons c l ih => simp only [List.cons_append, sizeB, ih]; omega
theorem sizeB_take_succ {l : List Bk} {k : Nat} {x : Bk} (h : l[k]? = some x) : sizeB (l.take (k + 1)) = sizeB (l.take k) + (9 + x.nm.size) := by
  obtain ⟨hk, rfl⟩ := List.getElem?_eq_some_iff.1 h
  rw [List.take_succ_eq_append_getElem hk, sizeB_snoc]
theorem sizeB_take_le (l : List Bk) : ∀ k, sizeB (l.take k) ≤ sizeB l := by
  intro k
  induction l generalizing k with
  | nil => simp [sizeB]
  | cons c l ih => cases k with
    | zero => simp [sizeB]
    | succ k => simp only [List.take_succ_cons, sizeB]; have := ih k; omega
theorem rone_any (b : Bk) (w : World) (hs : b.nm.size ≤ 9007199254740992) : Calls Try.prog 49 #[.agg #[.string b.nm, .int .u32 b.rt, .int .i64 b.ks]] w fun e w' => e = .returned (.int .i64 (9 + (b.nm.size : Int))) ∧ Below w.heap.size w w' := by
  go_enter Try.func49, Try.ntmps49
  go_wp2
  go_ret
  exact ⟨rfl, (Below.refl _ _).alloc (Nat.le_refl _) _⟩
set_option maxRecDepth 100000 in
set_option maxHeartbeats 3200000 in
theorem rsize_any (A : Option Addr) (n c : Nat) (l : List Bk) (w : World) (hr : Reads w w.heap.size 3 A n (bkc l)) (hn : n ≤ maxLen) (hs : sizeB l ≤ 9007199254740992) :
    Calls Try.prog 24 #[.slice A n c] w fun e w' => e = .returned (.int .i64 (sizeB l)) ∧ Below w.heap.size w w' := by
  have hl := bk_len hr
  have HR := Lib.hid hr
  have HL := Lib.hid hl
  unfold maxLen at hn
  clear hr hl
  go_enter Try.func24, Try.ntmps24
  go_wp2_with fail
  go_loopw [3, 4] (fun s i wr => ∃ k : Nat, k ≤ n ∧ i = .int .i64 k ∧ s = .int .i64 (sizeB (l.take k)) ∧ Hid (Below w.heap.size w wr)) (fun _ i _ => n - (intOf i).toNat)
  case atStart => exact ⟨0, Nat.zero_le _, rfl, by simp [sizeB], Lib.hid (Below.refl _ _)⟩
  case round =>
    obtain ⟨k, hk, rfl, rfl, HB⟩ := hrel
    by_cases hlt : k < n
    · obtain ⟨ad, x, rfl, _, hp, hx, hc⟩ := bk_at HR.out hlt
      obtain ⟨hc0, hc1, hc2⟩ := hc.below HB.out hp
      have hk0 : (0 : Int) ≤ k := by omega
      have hk1 : (k : Int) < n := by omega
      have hsz := sizeB_take_succ hx
      have hle := sizeB_take_le l (k + 1)
      have HX := Lib.hid hsz
      have hxs : x.nm.size ≤ 9007199254740992 := by omega
      have hks : sizeB (l.take k) + (9 + x.nm.size) ≤ 9007199254740992 := by omega
      have HO := fun w => rone_any x w hxs
      clear hx hsz hle
      go_wp2_with fail
      refine (HO _).mono ?_
      rintro e w1 ⟨rfl, hb⟩
      replace HB := Lib.hid (HB.out.trans (hb.mono HB.out.size))
      clear hb hc hc0 hc1 hc2 HO
      have hadd : ((sizeB (l.take k) : Nat) : Int) + (9 + (x.nm.size : Int)) = ((sizeB (l.take (k + 1)) : Nat) : Int) := by rw [HX.out]; omega
      go_wp2
      go_roundw
      case rel =>
        first
          | exact ⟨k + 1, by omega, by go_num, by first | rfl | (rw [← hadd]; go_num), HB⟩
          | ((repeat apply Exists.intro); exact ⟨⟨k + 1, by omega, by go_num, by first | rfl | (rw [← hadd]; go_num), HB⟩, rfl⟩)
      case measure => simp [intOf]; omega
    · obtain rfl : k = n := by omega
      have ht : l.take k = l := List.take_of_length_le (by rw [HL.out]; exact Nat.le_refl _)
      rw [ht]
      clear hlt
      go_wp2
      go_ret
      exact ⟨rfl, HB.out⟩
end Go.Proofs.Ytgljmcameeeaiaa
