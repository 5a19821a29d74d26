/-
  Calls of an allocation, one after the other (the statements' call): its contract, with its conditions in its own statement.
-/
import Derived.Test.YtofbglgdmabafaaJ35
namespace Go.Proofs.Ytofbglgdmabafaa
open Go.RowKit
open Go.Lib hiding intOf
set_option linter.unusedVariables false
set_option linter.unusedSimpArgs false
attribute [local go_sem ↓] Go.wp_at_zero Go.wp_at_succ

def AlS.does (S : AlS) (z : Int) : AlS := if z < 0 then S.takes.2.2 else (S.gives (z % 60).toNat).2
def AlS.runs (S : AlS) (l : List Int) : AlS := l.foldl AlS.does S
theorem AlS.runs_snoc (S : AlS) (l : List Int) (z : Int) : S.runs (l ++ [z]) = (S.runs l).does z := by unfold AlS.runs; rw [List.foldl_append]; rfl
theorem AlS.runs_take (S : AlS) {l : List Int} {k : Nat} (h : k < l.length) : S.runs (l.take (k + 1)) = (S.runs (l.take k)).does l[k] := by
  rw [List.take_succ_eq_append_getElem h, AlS.runs_snoc]
theorem AlS.does_most (S : AlS) (z : Int) : (S.does z).most = S.most := by
  unfold AlS.does
  split
  · exact S.take_most
  · exact S.give_most _
theorem AlS.runs_most (S : AlS) (l : List Int) : (S.runs l).most = S.most := by
  unfold AlS.runs
  induction l generalizing S with
  | nil => rfl
  | cons z l ih => rw [List.foldl_cons, ih, AlS.does_most]
set_option maxRecDepth 100000 in
set_option maxHeartbeats 1600000 in
theorem hcall {w0 w : World} {g : Nat} {S : AlS} {R : World → (Nat → Prop) → Prop} (hR : Stable R) (h : Held w0 w g S R) {A : Option Addr} {n : Nat} (c : Nat) {zs : List Int} (hr : Reads w0 w0.heap.size 1 A n (zs.map (Value.int .i64))) (hn : n ≤ 1000) :
    Calls Try.prog 28 #[.pointer (some ⟨g, 0, none⟩), .slice A n c] w fun e w' => e = .returned (.tuple #[]) ∧ Held w0 w' g (S.runs zs) R := by
  have hl : zs.length = n := by have := hr.1; simpa using this
  have HR := Lib.hid hr
  have H0 := Lib.hid h
  have HL := Lib.hid hl
  clear hr h hl
  go_enter Try.func28, Try.ntmps28
  go_wp2_with fail
  go_loopw [4] (fun s4 wr => ∃ k : Nat, k ≤ n ∧ s4 = .int .i64 k ∧ Hid (Held w0 wr g (S.runs (zs.take k)) R)) (fun s4 _ => n - (intOf s4).toNat)
  case atStart => exact ⟨0, Nat.zero_le _, rfl, H0⟩
  case round =>
    obtain ⟨k, hk, rfl, H⟩ := hrel
    by_cases hlt : k < n
    · obtain ⟨ad, v, hA, hab, hx, hc⟩ := (HR.out.below H.out.bel).at_ hlt
      subst hA
      have hkl : k < zs.length := by rw [HL.out]; exact hlt
      obtain ⟨z, hz⟩ : ∃ z, z = zs[k] := ⟨_, rfl⟩
      have hv : v = .int .i64 z := by
        rw [List.getElem?_map, List.getElem?_eq_getElem hkl] at hx
        simpa [hz] using hx.symm
      subst hv
      have E := Lib.hid (AlS.runs_take S hkl)
      rw [← hz] at E
      clear hx hz
      by_cases hneg : z < 0
      · have et : ∃ T m q, (S.runs (zs.take k)).takes = (m, q, T) ∧ T = (S.runs (zs.take k)).does z := ⟨(S.runs (zs.take k)).takes.2.2, (S.runs (zs.take k)).takes.1, (S.runs (zs.take k)).takes.2.1, rfl, by unfold AlS.does; rw [if_pos hneg]⟩
        obtain ⟨T, m, q, e1, e2⟩ := et
        have E1 := Lib.hid e1
        have E2 := Lib.hid e2
        clear e1 e2
        go_wp2_with (go_at_call 12; refine (htake hR H.out E1.out).mono ?_; rintro e w2 ⟨rfl, h2⟩; have H2 := Lib.hid h2; clear h2)
        go_roundw
        case rel => exact ⟨k + 1, by omega, by go_num, Lib.hid (by rw [E.out, ← E2.out]; exact H2.out)⟩
        case measure => simp [intOf]; omega
      · have hq0 : (0 : Int) ≤ z % 60 := Int.emod_nonneg _ (by decide)
        have hq1 : z % 60 < 60 := Int.emod_lt_of_pos _ (by decide)
        obtain ⟨q, hq⟩ : ∃ q : Nat, z % 60 = (q : Int) := ⟨(z % 60).toNat, by omega⟩
        have et : ∃ T m, (S.runs (zs.take k)).gives q = (m, T) ∧ T = (S.runs (zs.take k)).does z := ⟨((S.runs (zs.take k)).gives q).2, ((S.runs (zs.take k)).gives q).1, rfl, by unfold AlS.does; rw [if_neg hneg, hq, Int.toNat_natCast]⟩
        obtain ⟨T, m, e1, e2⟩ := et
        have E1 := Lib.hid e1
        have E2 := Lib.hid e2
        have ht : Int.tmod z 60 = (q : Int) := by rw [Int.tmod_eq_emod_of_nonneg (by omega)]; exact hq
        have hwq : IntKind.u32.wrap (q : Int) = (q : Int) := by rw [IntKind.wrap_u32]; omega
        clear e1 e2 hq0 hq1
        go_wp2_with (go_at_call 13; refine (hgive hR H.out E1.out).mono ?_; rintro e w2 ⟨rfl, h2⟩; have H2 := Lib.hid h2; clear h2)
        go_roundw
        case rel => exact ⟨k + 1, by omega, by go_num, Lib.hid (by rw [E.out, ← E2.out]; exact H2.out)⟩
        case measure => simp [intOf]; omega
    · obtain rfl : k = n := by omega
      have E := Lib.hid (show zs.take k = zs from List.take_of_length_le (by rw [HL.out]; exact Nat.le_refl _))
      go_wp2_with fail
      go_end0
      exact ⟨rfl, by have := H.out; rw [E.out] at this; exact this⟩
end Go.Proofs.Ytofbglgdmabafaa

