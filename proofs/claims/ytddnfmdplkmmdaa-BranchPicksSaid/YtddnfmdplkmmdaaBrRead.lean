/-
  Contracts of package branch's reader: a number, a text, a fork; or the panic.
-/
import Derived.Test.YtddnfmdplkmmdaaBrValid
import Derived.Test.YtddnfmdplkmmdaaFkBack
import Derived.Test.YtddnfmdplkmmdaaRdTot
import Derived.Test.YtddnfmdplkmmdaaStrClone
import Derived.Test.YtddnfmdplkmmdaaOrder
import Derived.Deep.RegionHeld3
import Derived.Deep.DeepCutAuto
import Derived.Deep.CutRange
namespace Go.Proofs.Ytddnfmdplkmmdaa
open Go.RowKit
open Go.Lib hiding intOf
set_option linter.unusedVariables false
set_option linter.unusedSimpArgs false
attribute [local go_sem ↓] Go.wp_at_zero Go.wp_at_succ

theorem grown_below' {w w' : World} {r : Option Nat} (h : Below w.heap.size w w') : w.grownBy w' r := ⟨h.os, h.tape, h.output, h.size, fun k hk _ => h.block k hk⟩
set_option maxHeartbeats 1600000 in
theorem bnumr_tot {w : World} {g : Nat} {t : ByteArray} (h : IsRd w g t) (k : Nat) (h1 : 1 ≤ k) (h2 : k ≤ 8) :
    Calls Try.prog 51 #[.agg #[.pointer (some ⟨g, 0, none⟩)], .int .i64 k] w fun e w' => w.grownBy w' (some g) ∧ ((∃ (v : Nat) (t' : ByteArray), e = .returned (.int .u64 v) ∧ IsRd w' g t' ∧ v < 2 ^ (8 * k) ∧ tookN k t v 0 t') ∨ (DiesB e ∧ t.size < k)) := by
  obtain ⟨w0, hw0⟩ : ∃ x, x = w.alloc (.cells #[.pointer (some ⟨g, 0, none⟩)] 60) := ⟨_, rfl⟩
  have Bx := Lib.hid (show Blk w0 w.heap.size 60 #[.pointer (some ⟨g, 0, none⟩)] by rw [hw0]; exact Blk.new _ _ _)
  have HF := Lib.hid (show IsRd w0 g t by rw [hw0]; exact Blk.alloc h _)
  have HG := Lib.hid (show w.grownBy w0 (some g) by rw [hw0]; exact World.grownBy_alloc _ _ _)
  clear h
  go_enter Try.func51, Try.ntmps51
  go_upto_region 1 with fail
  rw [← hw0]
  clear hw0
  have b0 := Bx.out.cell 0
  simp at b0
  by_cases hk : k ≤ t.size
  · go_wp2_with fail
    refine (number_ok' HF.out k h1 h2 hk).mono ?_
    rintro e w1 ⟨rfl, hr, hg⟩
    have HR := Lib.hid hr
    have HG1 := Lib.hid (grown_trans HG.out hg)
    have HV := Lib.hid (show leNat (t.data.toList.take k) < 2 ^ (8 * k) by
      have h3 := leNat_lt (t.data.toList.take k)
      have h4 : (t.data.toList.take k).length ≤ k := by rw [List.length_take]; omega
      exact Nat.lt_of_lt_of_le h3 (Nat.pow_le_pow_right (by omega) (by omega)))
    obtain ⟨v, hv⟩ : ∃ v, v = leNat (t.data.toList.take k) := ⟨_, rfl⟩
    rw [← hv] at HV ⊢
    have HVe := Lib.hid hv
    clear hv hr hg
    go_wp2_with (go_at_call 30; refine (bneed_yes _).mono ?_; rintro e w' ⟨rfl, rfl⟩)
    go_ret
    exact ⟨HG1.out, .inl ⟨_, _, rfl, HR.out, HV.out, .inl ⟨hk, rfl, HVe.out, rfl⟩⟩⟩
  · go_wp2_with fail
    refine (number_more HF.out k (by omega) (by omega) (by omega)).mono ?_
    rintro e w1 ⟨rfl, rfl⟩
    go_wp2_with fail
    refine (bneed_no _).mono ?_
    rintro e w' ⟨rfl, rfl⟩
    exact ⟨rfl, HG.out, .inr ⟨rfl, by omega⟩⟩
set_option maxHeartbeats 1600000 in
theorem btext_tot {w : World} {g : Nat} {t : ByteArray} (h : IsRd w g t) (k : Nat) (hs : t.size ≤ 100000) :
    Calls Try.prog 50 #[.agg #[.pointer (some ⟨g, 0, none⟩)], .int .i64 k] w fun e w' => w.grownBy w' (some g) ∧ ((∃ v t' : ByteArray, e = .returned (.string v) ∧ IsRd w' g t' ∧ tookB k t v 0 t') ∨ (DiesB e ∧ t.size < k)) := by
  obtain ⟨w0, hw0⟩ : ∃ x, x = w.alloc (.cells #[.pointer (some ⟨g, 0, none⟩)] 60) := ⟨_, rfl⟩
  have Bx := Lib.hid (show Blk w0 w.heap.size 60 #[.pointer (some ⟨g, 0, none⟩)] by rw [hw0]; exact Blk.new _ _ _)
  have HF := Lib.hid (show IsRd w0 g t by rw [hw0]; exact Blk.alloc h _)
  have HG := Lib.hid (show w.grownBy w0 (some g) by rw [hw0]; exact World.grownBy_alloc _ _ _)
  clear h
  go_enter Try.func50, Try.ntmps50
  go_upto_region 1 with fail
  rw [← hw0]
  clear hw0
  have b0 := Bx.out.cell 0
  simp at b0
  by_cases hk : k ≤ t.size
  · go_wp2_with fail
    refine (bytes_ok' HF.out k hk).mono ?_
    rintro e w1 ⟨rfl, hr, hg⟩
    have HR := Lib.hid hr
    have HG1 := Lib.hid (grown_trans HG.out hg)
    obtain ⟨v, hv⟩ : ∃ v, v = t.extract 0 k := ⟨_, rfl⟩
    have hvs : v.size ≤ 281474976710656 := by rw [hv, ByteArray.size_extract]; omega
    rw [← hv]
    have HVe := Lib.hid hv
    clear hv hr hg
    go_wp2_with (go_at_call 30; refine (bneed_yes _).mono ?_; rintro e w' ⟨rfl, rfl⟩)
    refine (sclone_any v _ hvs).mono ?_
    rintro e w2 ⟨rfl, hb⟩
    replace HR := Lib.hid (HR.out.below hb HR.out.lt)
    replace HG1 := Lib.hid (grown_trans HG1.out (grown_below' hb))
    clear hb
    go_wp2_with fail
    go_ret
    exact ⟨HG1.out, .inl ⟨_, _, rfl, HR.out, .inl ⟨hk, rfl, HVe.out, rfl⟩⟩⟩
  · go_wp2_with fail
    refine (bytes_more HF.out k (by omega)).mono ?_
    rintro e w1 ⟨rfl, rfl⟩
    go_wp2_with fail
    refine (bneed_no _).mono ?_
    rintro e w' ⟨rfl, rfl⟩
    exact ⟨rfl, HG.out, .inr ⟨rfl, by omega⟩⟩
end Go.Proofs.Ytddnfmdplkmmdaa
