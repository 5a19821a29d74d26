/-
  Contract of cmp.Or over errors: the first that is not 0. No statement is proved here.
-/
import Derived.Test.YtinojpcjbjjlbaaJ29
import Derived.Deep.CutRange
import Derived.Deep.DrawnRows
import Derived.WalkMore
namespace Go.Proofs.Ytinojpcjbjjlbaa
open Go.RowKit
open Go.Lib
set_option linter.unusedVariables false
set_option linter.unusedSimpArgs false
attribute [local go_sem ↓] Go.wp_at_zero Go.wp_at_succ

/-- The first number that is not 0. -/
def orL : List Int → Int
  | [] => 0
  | x :: l => if x = 0 then orL l else x
theorem orL_none {l : List Int} (h : ∀ x, x ∈ l → x = 0) : orL l = 0 := by
  induction l with
  | nil => rfl
  | cons x l ih => rw [orL, if_pos (h x List.mem_cons_self)]; exact ih fun y hy => h y (List.mem_cons_of_mem _ hy)
theorem orL_drop {l : List Int} {k : Nat} (h : ∀ j y, j < k → l[j]? = some y → y = 0) : orL l = orL (l.drop k) := by
  induction k generalizing l with
  | zero => rfl
  | succ k ih =>
    cases l with
    | nil => rfl
    | cons x l =>
      rw [orL, if_pos (h 0 x (by omega) rfl), List.drop_succ_cons]
      exact ih fun j y hj hy => h (j + 1) y (by omega) (by simpa using hy)
def ecells (l : List Int) : List Value := l.map fun x => .int .i64 x
set_option maxRecDepth 100000 in
set_option maxHeartbeats 3200000 in
theorem cor_any (A : Option Addr) (n c : Nat) (l : List Int) (w : World) (hr : Reads w w.heap.size 1 A n (ecells l)) (hn : n ≤ 1000000) :
    Calls Try.prog 53 #[.slice A n c] w fun e w' => e = .returned (.int .i64 (orL l)) ∧ w' = w := by
  have hl : l.length = n := by have := hr.1; rw [ecells, List.length_map] at this; omega
  have HL := Lib.hid hl
  have HR := Lib.hid hr
  clear hr hl
  go_enter Try.func53, Try.ntmps53
  go_wp2_with fail
  go_loop [5, 8] (fun _ i => ∃ k : Nat, k ≤ n ∧ i = .int .i64 k ∧ Hid (∀ j y, j < k → l[j]? = some y → y = 0)) (fun _ i => n - (RowKit.intOf i).toNat)
  case atStart => exact ⟨0, Nat.zero_le _, rfl, Lib.hid fun j y hj => absurd hj (by omega)⟩
  case round =>
    obtain ⟨k, hk, rfl, HF⟩ := hrel
    by_cases hlt : k < n
    · obtain ⟨ad, hA, hb, hcell⟩ := HR.out.2 (by omega)
      subst hA
      have hkl : k < l.length := by rw [HL.out]; exact hlt
      obtain ⟨x, hx⟩ : ∃ x, l[k]? = some x := ⟨l[k], List.getElem?_eq_getElem hkl⟩
      have hc := hcell k (.int .i64 x) (by rw [ecells, List.getElem?_map, hx]; rfl)
      have hc1 : w.cell? (ad.add (k * 1)) = some (.int .i64 x) := by rw [Nat.mul_one]; exact hc
      have hk0 : (0 : Int) ≤ k := by omega
      have hk1 : (k : Int) < n := by omega
      have HX := Lib.hid hx
      clear hx hcell hb hkl
      by_cases h0 : x = 0
      · have h0' : (x == 0) = true := by simp [h0]
        have HF2 := Lib.hid (fun j y (hj : j < k + 1) (hy : l[j]? = some y) => show y = 0 from by
          by_cases hjk : j < k
          · exact HF.out j y hjk hy
          · have e : j = k := by omega
            rw [e, HX.out] at hy
            injection hy with hy
            rw [← hy]; exact h0)
        go_wp2_with fail
        go_round
        case rel =>
          first
            | exact ⟨k + 1, by omega, by go_num, HF2⟩
            | ((repeat apply Exists.intro); exact ⟨⟨k + 1, by omega, by go_num, HF2⟩, rfl⟩)
        case measure => simp [RowKit.intOf]; omega
      · have h0' : (x == 0) = false := by simp [h0]
        have HE := Lib.hid (show orL l = x by
          rw [orL_drop HF.out]
          have hkl : k < l.length := (List.getElem?_eq_some_iff.1 HX.out).1
          have e : l[k] = x := (List.getElem?_eq_some_iff.1 HX.out).2
          rw [List.drop_eq_getElem_cons hkl, orL, e, if_neg h0])
        go_wp2_with fail
        go_ret
        exact ⟨by rw [HE.out]; rfl, rfl⟩
    · obtain rfl : k = n := by omega
      have HE := Lib.hid (show orL l = 0 by
        rw [orL_drop HF.out, List.drop_of_length_le (by rw [HL.out]; exact Nat.le_refl _)]; rfl)
      clear hlt
      go_wp2_with fail
      go_ret
      exact ⟨by rw [HE.out]; rfl, rfl⟩
end Go.Proofs.Ytinojpcjbjjlbaa
