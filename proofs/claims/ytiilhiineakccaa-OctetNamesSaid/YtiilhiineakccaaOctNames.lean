/-
  The walk of the statement on chapter 1's examples: from every start it returns true and changes no block that was there before.
-/
import Derived.Test.YtiilhiineakccaaOctLaw
import Derived.Lib.SlBytesConst
namespace Go.Proofs.Ytiilhiineakccaa
open Go.RowKit Go.Lib

set_option maxRecDepth 100000 in
set_option maxHeartbeats 1600000 in
theorem names_walk (w : World) :
    Calls Try.prog 3 #[] w fun e w' => e = .returned (.bool true) ∧ Below w.heap.size w w' := by
  have hs : ∀ (W : World) (B : Nat) (v : Value), W.ownsRow B 5 1 v 1 (bcells [120]) → ∀ A c, v = .slice A 1 c → (convert 34 9 (.slice A 1 c)).run Try.prog W = .ok (.string ⟨#[120]⟩) W := by
    intro W B v h A c hv
    subst hv
    exact run_string_reads W 34 9 5 c Try.underlying34 Try.underlying5 Try.underlying9 (Reads.of_own h)
  have kc := fun (w : World) (C : Array Value) (n c : Nat) => Lib.run_convert_bytes_const (P := Try.prog) w 34 5 C n c Try.underlying34 Try.underlying5
  go_enter Try.func3, Try.ntmps3
  go_wp2_with fail
  refine (lives_any w).mono ?_
  rintro e w1 ⟨rfl, hb1⟩
  go_wp2_with fail
  refine (new_any' ⟨#[2, 1, 97, 98, 99]⟩ w1).mono ?_
  rintro e w2 ⟨rfl, r2, hb2, hl2⟩
  go_wp2_with fail
  refine (number_ok' r2 2 (by decide) (by decide) (by decide)).mono ?_
  rintro e w3 ⟨rfl, r3, g3⟩
  rw [show leNat ((⟨#[2, 1, 97, 98, 99]⟩ : ByteArray).data.toList.take 2) = 258 by decide]
  have r3' : IsRd w3 w1.heap.size ⟨#[97, 98, 99]⟩ := r3
  have hb3 : Below w.heap.size w w3 := (hb1.trans (hb2.mono hb1.size)).trans (below_of_grown g3 hb1.size (Nat.le_trans hb1.size (Nat.le_of_lt hl2)))
  have hwl : w.heap.size ≤ w1.heap.size := hb1.size
  clear r3 g3 r2 hb2 hl2 hb1
  go_wp2_with fail
  refine (number_arg r3' 0 (by decide)).mono ?_
  rintro e w' ⟨rfl, rfl⟩
  go_wp2_with fail
  refine (number_arg r3' 9 (by decide)).mono ?_
  rintro e w' ⟨rfl, rfl⟩
  go_wp2_with fail
  refine (number_more r3' 4 (by decide) (by decide) (by decide)).mono ?_
  rintro e w' ⟨rfl, rfl⟩
  go_wp2_with fail
  refine (bytes_arg r3' (-1) (by decide)).mono ?_
  rintro e w' ⟨rfl, rfl⟩
  go_wp2_with fail
  refine (bytes_more r3' 4 (by decide)).mono ?_
  rintro e w' ⟨rfl, rfl⟩
  go_wp2_with fail
  refine (bytes_ok' r3' 1 (by decide)).mono ?_
  rintro e w4 ⟨rfl, r4, g4⟩
  rw [show (⟨#[97, 98, 99]⟩ : ByteArray).extract 0 1 = ⟨#[97]⟩ by decide]
  have r4' : IsRd w4 w1.heap.size ⟨#[98, 99]⟩ := r4
  have hb4 : Below w.heap.size w w4 := hb3.trans (below_of_grown g4 hwl hb3.size)
  clear r4 g4 r3' hb3
  go_wp2_with fail
  refine (number_nil _).mono ?_
  rintro e w' ⟨rfl, rfl⟩
  go_wp2_with fail
  refine (bytes_nil _).mono ?_
  rintro e w' ⟨rfl, rfl⟩
  go_wp2_with fail
  refine (left_any r4').mono ?_
  rintro e w' ⟨rfl, rfl⟩
  go_wp2_with fail
  refine (rest_any r4').mono ?_
  rintro e w' ⟨rfl, rfl⟩
  go_wp2_with fail
  refine (left_nil).mono ?_
  rintro e w' ⟨rfl, rfl⟩
  go_wp2_with fail
  refine (rest_nil).mono ?_
  rintro e w' ⟨rfl, rfl⟩
  go_wp2_with fail
  refine (zero_any ⟨#[]⟩ _ (by decide)).mono ?_
  rintro e w' ⟨rfl, rfl⟩
  go_wp2_with fail
  refine (zero_any ⟨#[0, 1]⟩ _ (by decide)).mono ?_
  rintro e w' ⟨rfl, rfl⟩
  go_wp2_with fail
  refine (put_no (some ⟨w4.heap.size, 0, none⟩) 1 1 1 0 [120] (w4.alloc (.cells #[.int .u8 120] 5 (1, 2))) (by have := reads_new w4 #[.int .u8 120] 5 (1, 2); simpa [bcells] using this) (by omega) (by omega)).mono ?_
  rintro e w5 ⟨v, rfl, hown, hb5⟩
  obtain ⟨A, c, rfl, _, _, _⟩ := own_form hown
  have hcv := hs w5 _ _ hown A c rfl
  have hb5' : Below w.heap.size w w5 := (hb4.alloc hb4.size _).trans (hb5.mono (by have := hb4.size; simp; omega))
  clear hown hb5 hb4
  go_wp2_with fail
  refine (put_no (some ⟨w5.heap.size, 0, none⟩) 1 1 1 9 [120] (w5.alloc (.cells #[.int .u8 120] 5 (1, 2))) (by have := reads_new w5 #[.int .u8 120] 5 (1, 2); simpa [bcells] using this) (by omega) (by omega)).mono ?_
  rintro e w6 ⟨v, rfl, hown, hb6⟩
  obtain ⟨A6, c6, rfl, _, _, _⟩ := own_form hown
  have hcv6 := hs w6 _ _ hown A6 c6 rfl
  have hb6' : Below w.heap.size w w6 := (hb5'.alloc hb5'.size _).trans (hb6.mono (by have := hb5'.size; simp; omega))
  clear hown hb6 hb5' hcv
  go_wp2_with fail
  go_ret
  exact ⟨rfl, hb6'⟩
end Go.Proofs.Ytiilhiineakccaa
